/- Proved: the document's own Set: a new set of the blocks that its buffer has. -/
import Derived.Test.YthaiddhbifakhaaRa
import Derived.Test.YthaiddhbifakhaaRw
namespace Go.Proofs.Ythaiddhbifakhaa
open Go.RowKit
open Iv (In Nm Is Vm Ow)

theorem sl_ls (S : St) : sl (us S) = (ls S).map fun p => (p.1, (1 : Int)) := by
  unfold sl ls
  rw [List.map_map]
  rfl
theorem Rq.sl {w : World} {d : Nat} {S : St} {v : Value} {l : List Lt} (h : Rq w d S v l) : sl (us S) = l.map fun x => (x.1.1, (1 : Int)) := by
  rw [sl_ls, ← h.is, List.map_map]
  rfl
theorem sl_step {L : List (Int × Int)} {l : List Lt} (hL : L = l.map fun x => (x.1.1, (1 : Int))) {k : Nat} (hk : k < l.length) : L.take (k + 1) = L.take k ++ [((l.getD k lq).1.1, 1)] := by
  have hk' : k < L.length := by rw [hL, List.length_map]; exact hk
  rw [List.take_succ_eq_append_getElem hk']
  subst hL
  rw [List.getElem_map, List.getD_eq_getElem?_getD, List.getElem?_eq_getElem hk]
  rfl
/-- What has been put in lies before the next block. -/
theorem sl_before {M L : List (Int × Int)} {l : List Lt} (hL : L = l.map fun x => (x.1.1, (1 : Int))) (hup : l.Pairwise (fun x y => x.1.1 < y.1.1)) {k : Nat} (hk : k < l.length) (hI : Is (L.take k) M) : ∀ e ∈ M, e.1 + e.2 ≤ (l.getD k lq).1.1 := by
  intro e he
  have hv := hI.1.1 e he
  unfold Vm at hv
  obtain ⟨r, hr, h1, h2⟩ := (hI.2 (e.1 + e.2 - 1)).1 ⟨e, he, by omega, by omega⟩
  subst hL
  rw [← List.map_take] at hr
  obtain ⟨y, hy, rfl⟩ := List.mem_map.1 hr
  obtain ⟨j, hj, rfl⟩ := List.mem_iff_getElem.1 hy
  rw [List.length_take] at hj
  rw [List.getElem_take] at h1 h2
  have hlt := List.pairwise_iff_getElem.1 hup j k (by omega) hk (by omega)
  have e : l.getD k lq = l[k] := by rw [List.getD_eq_getElem?_getD, List.getElem?_eq_getElem hk]; rfl
  rw [e]
  simp only at h1 h2
  omega

/-- The call hands back a new set of the blocks L, of the document's own. -/
def Rsets (L : List (Int × Int)) (w : World) (e : Ending) (w' : World) : Prop := ∃ b v M, e = .returned (.pointer (some ⟨b, 0, none⟩)) ∧ Sb w' b v ∧ Ow w' v M ∧ Is L M ∧ M.length ≤ L.length ∧ At w w'

set_option maxHeartbeats 2000000 in
set_option maxRecDepth 100000 in
theorem rset_rb {w : World} {d : Nat} {S : St} (h : Rb w d S) (hcount : (us S).length ≤ 400000) : Calls Try.prog 23 #[.pointer (some ⟨d, 0, none⟩)] w (Rsets (sl (us S)) w) := by
  obtain ⟨v, l, h⟩ := h
  obtain ⟨-, -, c2⟩ := h.cells
  obtain ⟨A, c, rfl, hx⟩ := h.od.form
  have hSL := h.sl
  have hup := h.up
  have hn2 := h.ok.n2
  rw [← h.len] at hcount
  have H := Lib.hid h
  obtain ⟨L, hLL⟩ : ∃ L, L = sl (us S) := ⟨_, rfl⟩
  rw [← hLL] at hSL ⊢
  obtain ⟨n, hn⟩ : ∃ n, n = l.length := ⟨_, rfl⟩
  rw [← hn] at c2 hx hcount
  have HX := Lib.hid hx
  have HN := Lib.hid hn
  have HSL := Lib.hid hSL
  have HUP := Lib.hid hup
  have HC2 := Lib.hid c2
  have HA0 : Hid (At w (w.alloc (.cells #[.int .i64 1048576, .slice none 0 0] 50))) := Lib.hid ((At.start w).alloc _)
  have HSB0 : Hid (Sb (w.alloc (.cells #[.int .i64 1048576, .slice none 0 0] 50)) w.heap.size (.slice none 0 0)) := Lib.hid (heap_alloc_new w _)
  clear h hx hn hSL hup hLL c2
  go_enter Try.func23, Try.ntmps23
  go_wp2
  obtain ⟨b, hb⟩ : ∃ b, b = w.heap.size := ⟨_, rfl⟩
  rw [← hb] at HSB0 ⊢
  generalize w.alloc (.cells #[.int .i64 1048576, .slice none 0 0] 50) = w0 at HA0 HSB0 ⊢
  have HBE := Lib.hid hb
  clear hb
  go_loopw [4] (fun c4 wr => ∃ (k : Nat) (v : Value) (M : List (Int × Int)), k ≤ n ∧ c4 = .int .i64 (k : Int) ∧ Hid (At w wr) ∧ Hid (Sb wr b v) ∧ Hid (Ow wr v M) ∧ Hid (Is (L.take k) M) ∧ Hid (M.length ≤ k)) (fun c4 _ => n - (RowKit.intOf c4).toNat)
  case atStart => exact ⟨0, _, [], Nat.zero_le _, rfl, Lib.hid HA0.out, Lib.hid HSB0.out, Lib.hid (Ow.nil _), Lib.hid (by rw [List.take_zero]; exact Is.nil), Lib.hid (Nat.le_refl _)⟩
  case round =>
    obtain ⟨k, v, M, hk, rfl, HA, HSB, HOW, HI, HML⟩ := hrel
    have c2 : wr.cell? ⟨d, 2, none⟩ = some (.slice A n c) := by rw [HN.out]; exact (H.out.on HA.out).cells.2.2
    by_cases hlt : k < n
    · have hkl : k < l.length := by rw [← HN.out]; exact hlt
      obtain ⟨g, rfl, hc⟩ := HX.out (by omega)
      have hck := (hc k hlt).1
      have hg := World.block_lt_of_cell? w _ hck
      have k1 : wr.cell? ⟨g, k * 2, none⟩ = some (.int .i64 (l.getD k lq).1.1) := (Below.cell HA.out (p := ⟨g, k * 2, none⟩) hg).trans hck
      obtain ⟨j, hj1, hj2, hj3⟩ := H.out.at_ hkl
      have hbef := sl_before HSL.out HUP.out hkl HI.out
      have hstep := sl_step HSL.out hkl
      obtain ⟨x, hx⟩ : ∃ x, x = (l.getD k lq).1.1 := ⟨_, rfl⟩
      rw [← hx] at k1 hbef hstep
      have hxv : Vm (x, 1) := by
        rw [hj1] at hx
        unfold Vm
        simp only at hx ⊢
        omega
      have HBEF := Lib.hid hbef
      have HSTEP := Lib.hid hstep
      have HXV := Lib.hid hxv
      obtain ⟨wb, hwb⟩ : ∃ wb, wr.alloc (.cells #[.int .i64 x, .int .i64 1] 75) = wb := ⟨_, rfl⟩
      obtain ⟨q, hq⟩ : ∃ q, wr.heap.size = q := ⟨_, rfl⟩
      have hAb : At wr wb := by rw [← hwb]; exact (At.start wr).alloc _
      have HQ : Hid (wb.heap[q]? = some (.cells #[.int .i64 x, .int .i64 1] 75 (0, 0))) := Lib.hid (by rw [← hwb, ← hq]; exact heap_alloc_new wr _)
      have HSBb : Hid (Sb wb b v) := Lib.hid (hAb.keep HSB.out)
      have HOWb := Lib.hid (HOW.out.on hAb)
      have HAb := Lib.hid (HA.out.next hAb)
      have g1 : (0 : Int) ≤ (k : Int) := by omega
      have g2 : (k : Int) < (n : Int) := by omega
      clear hc hck hg hj1 hj2 hj3 hbef hstep hxv hx hAb hkl
      go_wp2_with (go_at_call 38; refine (radd_any HSBb.out HOWb.out HI.out.1 HBEF.out HXV.out (by have := HML.out; omega) HQ.out).mono ?_; rintro e w9 ⟨v', M', rfl, hi', hl', hsb', how', hmv', hge'⟩; have HNN := Lib.hid (And.intro hi' (And.intro hl' (And.intro hsb' (And.intro how' (And.intro hmv' hge'))))); clear hi' hl' hsb' how' hmv' hge')
      go_roundw
      case rel => exact ⟨k + 1, v', M', by omega, by go_num, Lib.hid (HNN.out.2.2.2.2.1.at_ HAb.out (fun g hg => by rw [hg, HBE.out]; exact Nat.le_refl _)), Lib.hid HNN.out.2.2.1, Lib.hid HNN.out.2.2.2.1, Lib.hid (by rw [HSTEP.out]; exact Iv.is_app HI.out HNN.out.1), Lib.hid (Nat.le_trans HNN.out.2.1 (by have := HML.out; omega))⟩
      case measure => simp [RowKit.intOf]; omega
    · obtain rfl : k = n := by omega
      have hLn : L.length = k := by rw [HSL.out, List.length_map, HN.out]
      have HE : Hid (Rsets L w (.returned (.pointer (some ⟨b, 0, none⟩))) wr) := Lib.hid ⟨b, v, M, rfl, HSB.out, HOW.out, by have h := HI.out; rwa [← hLn, List.take_length] at h, by rw [hLn]; exact HML.out, HA.out⟩
      clear hLn
      go_wp2
      go_ret
      exact HE.out

end Go.Proofs.Ythaiddhbifakhaa
