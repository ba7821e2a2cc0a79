/- Proved: a block is read at a time: its newest version that is not later, in memory of its own; of no block nothing. -/
import Derived.Test.YtjpoiijifnfjhaaSml
namespace Go.Proofs.Ytjpoiijifnfjhaa
open Go.RowKit

/-- The call hands back so many bytes, in memory of its own, and a number. -/
def Reads (L : List Nat) (t : Int) (w : World) (e : Ending) (w' : World) : Prop :=
  ∃ g c, e = .returned (.tuple #[.slice (some ⟨g, 0, none⟩) 40 c, .int .i64 t]) ∧ w.heap.size ≤ g ∧ BV w' (some ⟨g, 0, none⟩) L ∧ At w w'
theorem At.step {w0 w w' : World} (h : At w0 w) (h' : At w w') : At w0 w' := h.next h'

set_option maxHeartbeats 1000000 in
set_option maxRecDepth 100000 in
theorem get_any {w : World} {b : Nat} {S : St} {F : Nat → Prop} {mb : Nat} {D : DataW Value} {hd : Nat → Value} (h : Mq w b S F mb D hd) (k : Nat) (hk : k < S.n) (t : Int) :
    Calls Try.prog 13 #[.pointer (some ⟨b, 0, none⟩), .int .i64 (k : Int), .int .i64 t] w (Reads (rdv (S.V k) t).2 (rdv (S.V k) t).1 w) := by
  have hn := h.ok.n2
  have HH : Hid (Calls Try.prog 27 #[.pointer (some ⟨b, 0, none⟩), .agg #[.int .i64 (k : Int), .int .i64 1]] w (Gives (.bool true) w)) := Lib.hid (by
    have := has_gen (w := w) (some ⟨b, 0, none⟩) S.n (fun W hW => blocks_mp (h.on hW)) (k : Int) 1
    rwa [haB_yes ⟨by simp, by simp; omega, by simp, by simp, by simp; omega⟩ (by omega)] at this)
  have HL : Hid (∀ W, At w W → (Instr.lookup 60 (.map (some mb)) (.int .i64 (k : Int)) false).run Try.prog W = .ok (hd k) W ∧ W.cell? ⟨b, 1, none⟩ = some (.map (some mb))) := Lib.hid fun W hW => ⟨(h.on hW).look (by omega), (h.on hW).cells.2.1⟩
  obtain ⟨A, c, hhd, hc1, hc2, hvv⟩ := h.vv k
  have hlen := h.ok.b k
  have hc := h.ok.c1
  have HR : Hid (∀ W, At w W → Calls Try.prog 28 #[hd k, .int .i64 t] W (Gives (.agg (vc (rdv (S.V k) t)).toArray) W)) := Lib.hid fun W hW => by rw [hhd]; exact read_any (hvv.on hW) (h.allV k) (by omega) c t
  have hvl := h.ok.rd_len k t
  obtain ⟨v, hv⟩ : ∃ v, v = rdv (S.V k) t := ⟨_, rfl⟩
  rw [← hv] at HR hvl ⊢
  obtain ⟨q, hq⟩ : ∃ q, q = hd k := ⟨_, rfl⟩
  have hqf : ∃ A n c, q = .slice A n c := ⟨_, _, _, hq.trans hhd⟩
  rw [← hq] at HR HL
  obtain ⟨A', n', c', rfl⟩ := hqf
  have HVL := Lib.hid hvl
  clear hn hhd hc1 hc2 hvv hlen hc hv hq hvl
  go_enter Try.func13, Try.ntmps13
  go_wp2_with fail
  refine HH.out.mono ?_
  rintro e w1 ⟨rfl, hA⟩
  have HA1 : Hid (At w w1) := Lib.hid hA
  obtain ⟨hlk, hcb⟩ := HL.out w1 hA
  clear hA
  go_wp2_with (first | (at_lookup; refine look_law rfl _ _ rfl _ _ _ rfl rfl hlk ?_) | (go_at_call 28; fail))
  refine (HR.out _ HA1.out).mono ?_
  rintro e w2 ⟨rfl, hA2⟩
  have HA2 : Hid (At w w2) := Lib.hid (HA1.out.step hA2)
  clear hA2 hlk hcb HL HR HH HA1
  have HX : Hid (∀ W, At (w2.alloc (.cells (vc v).toArray 65)) W → W.cell? ⟨w2.heap.size, 0, none⟩ = some (.int .i64 v.1)) := Lib.hid fun W hW => (cell_at (hW.keep (heap_alloc_new w2 _)) 0).trans rfl
  have HB : Hid (BV ((w2.alloc (.cells (vc v).toArray 65)).drew) (some ⟨w2.heap.size, 1, none⟩) v.2) := Lib.hid (Or.inr ⟨w2.heap.size, 1, rfl, by simp, fun j hj => by
    refine (cell_at (w := (w2.alloc (.cells (vc v).toArray 65)).drew) (heap_alloc_new w2 _) (1 + j)).trans ?_
    rw [List.getElem?_toArray, Nat.add_comm]
    show (v.2.map bt)[j]? = _
    rw [List.getElem?_map, List.getElem?_eq_getElem hj, List.getD_eq_getElem?_getD, List.getElem?_eq_getElem hj]; rfl⟩)
  have c0 := HX.out _ (At.start _)
  go_wp2_with (refine store_ver rfl (.tmp 8) (.tmp 21) rfl v HVL.out w2 _ rfl rfl rfl rfl ?_)
  go_outline
  go_region_held3 (fun w' => w'.cell? ⟨w2.heap.size, 0, none⟩ = some (.int .i64 v.1)) (go_keep)
    (first | (go_at_call 29; refine (clone_bytes HVL.out HB.out).mono ?_; rintro e w3 ⟨g, cap, rfl, hg, hb, hA⟩; have d0 := HX.out w3 (((At.start _).drewN 1).next hA); have HA3 : Hid (At w w3) := Lib.hid (((HA2.out.alloc _).drewN 1).next hA); clear hA; have HG := Lib.hid hg; clear hg; have HBV := Lib.hid hb; clear hb))
  go_wp2
  go_ret2
  refine ⟨g, cap, rfl, ?_, HBV.out, HA3.out⟩
  have := HG.out
  have := HA2.out.size
  simp at *
  omega

set_option maxHeartbeats 1000000 in
set_option maxRecDepth 100000 in
theorem get_none {w : World} (p : Option Addr) (N : Nat) (hb : ∀ W, At w W → Calls Try.prog 21 #[.pointer p] W fun e w' => e = .returned (.int .i64 (N : Int)) ∧ W = w') (k : Int) (hk : ¬ (0 ≤ k ∧ k < (N : Int))) (t : Int) :
    Calls Try.prog 13 #[.pointer p, .int .i64 k, .int .i64 t] w (Gives (.tuple #[.slice none 0 0, .int .i64 0]) w) := by
  have HH : Hid (Calls Try.prog 27 #[.pointer p, .agg #[.int .i64 k, .int .i64 1]] w (Gives (.bool false) w)) := Lib.hid (by
    have := has_gen p N hb k 1
    rwa [haB_no fun h => hk ⟨h.1.1, by have := h.2; omega⟩] at this)
  clear hb hk
  go_enter Try.func13, Try.ntmps13
  go_wp2_with fail
  refine HH.out.mono ?_
  rintro e w1 ⟨rfl, hA⟩
  have HA := Lib.hid hA
  clear hA
  go_wp2
  go_ret2
  exact ⟨rfl, HA.out⟩

end Go.Proofs.Ytjpoiijifnfjhaa
