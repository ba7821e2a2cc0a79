/- Proved: what Add does with a set: what may not be is refused, what has no room is refused, else the blocks are put in.
Extents, Count and Crosses of a set.
scarpalike.Extents tells whether two lists are one; awake answers true and writes only what is new. -/
import Derived.Test.YtcffoebpgjonmaaIMg
import Derived.Test.YtcffoebpgjonmaaIRt
import Derived.StillTailTactics
import Derived.Deep.Cut
namespace Go.Proofs.Ytcffoebpgjonmaa.Iv
open Go.RowKit

/-- What a call on a set has done: only the set's own blocks are written, and it lies in its own blocks and in new ones. -/
structure Did (w : World) (b : Nat) (v v' : Value) (w' : World) : Prop where
  mv : Mv (Ft b v) w w'
  ft : ∀ g, Ft b v' g → Ft b v g ∨ w.heap.size ≤ g
theorem Did.of_at {w w' : World} (b : Nat) (v : Value) (h : At w w') : Did w b v v w' := ⟨Mv.of_below _ h, fun _ => Or.inl⟩

/-- What Add answers of the extents l, at a set that holds L and may have so many. -/
def Adds (b : Nat) (v : Value) (most : Int) (L l : List (Int × Int)) (w : World) (e : Ending) (w' : World) : Prop :=
  ∃ (c : Int) (v' : Value) (L' : List (Int × Int)), e = .returned (.int .i64 c) ∧ Sv w' b v' most L' ∧ Did w b v v' w' ∧
    ((c = 1 ∧ L' = L ∧ allB l = false) ∨ (c = 0 ∧ allB l = true ∧ Is (L ++ l) L' ∧ (l = [] ∨ (L'.length : Int) ≤ most)) ∨ (c = 7 ∧ L' = L ∧ allB l = true ∧ ∃ M, Is (L ++ l) M ∧ most < (M.length : Int)))

set_option maxHeartbeats 1000000 in
set_option maxRecDepth 100000 in
theorem add_nil (A : Option Addr) (n c : Nat) (l : List (Int × Int)) (w : World) (hn : n ≤ 1000000) (hl : l.length = n) (hx : EV w A l) :
    Calls Try.prog 27 #[.pointer none, .slice A n c] w (Gives (.int .i64 (if allB l then (if n = 0 then 0 else 7) else 1)) w) := by
  have H := Lib.hid (all_valid A n c l w hn hl hx)
  clear hl hx
  cases hv : allB l with
  | false =>
    have HV := Lib.hid hv
    clear hv
    go_enter Try.func27, Try.ntmps27
    go_wp2_with fail
    refine H.out.mono ?_
    rintro e w1 ⟨rfl, hA⟩
    rw [HV.out]
    have HA := Lib.hid hA
    clear hA
    go_wp2
    go_ret
    exact ⟨rfl, HA.out⟩
  | true =>
    have HV := Lib.hid hv
    clear hv
    by_cases h0 : n = 0
    · subst h0
      go_enter Try.func27, Try.ntmps27
      go_wp2_with fail
      refine H.out.mono ?_
      rintro e w1 ⟨rfl, hA⟩
      rw [HV.out]
      have HA := Lib.hid hA
      clear hA
      go_wp2
      go_ret
      exact ⟨rfl, HA.out⟩
    · have q : ((n : Int) == 0) = false := by simp; omega
      rw [if_pos rfl, if_neg h0]
      go_enter Try.func27, Try.ntmps27
      go_wp2_with fail
      refine H.out.mono ?_
      rintro e w1 ⟨rfl, hA⟩
      rw [HV.out]
      have HA := Lib.hid hA
      clear hA
      go_wp2
      go_ret
      exact ⟨rfl, HA.out⟩

theorem nm_long : ∀ {L : List (Int × Int)} {a : Int}, Nm L → (∀ e ∈ L, a ≤ e.1) → a ≤ 1048578 → 2 * (L.length : Int) ≤ 1048578 - a
  | [], a, _, _, h => by simp only [List.length_nil]; omega
  | e :: L, a, h, ha, _ => by
    have v := h.1 e List.mem_cons_self
    have h1 := ha e List.mem_cons_self
    unfold Vm at v
    have := nm_long (a := e.1 + e.2 + 1) h.tail (fun y hy => by have := (List.pairwise_cons.1 h.2).1 y hy; omega) (by omega)
    rw [List.length_cons]; omega
/-- A row that rises and does not touch is not longer than so. -/
theorem nm_len {L : List (Int × Int)} (h : Nm L) : L.length ≤ 524289 := by
  have := nm_long (a := 0) h (fun e he => (h.1 e he).1) (by omega); omega
/-- The cells of a row of the program's own. -/
theorem ow_cells {w : World} {g m c : Nat} {M : List (Int × Int)} (h : Ow w (.slice (some ⟨g, 0, none⟩) m c) M) {j : Nat} (hj : j < M.length) :
    w.cell? ⟨g, j * 2, none⟩ = some (.int .i64 (M.getD j (0, 0)).1) ∧ w.cell? ⟨g, j * 2 + 1, none⟩ = some (.int .i64 (M.getD j (0, 0)).2) := by
  obtain ⟨A', c', e, _, _, hev⟩ := h.ev
  injection e with e1 _ _
  obtain ⟨g', o', e2, _, hc⟩ := hev.pos (by omega)
  rw [← e1] at e2
  injection e2 with e2
  injection e2 with e3 e4
  subst e3 e4
  have := hc j hj
  rwa [Nat.zero_add] at this

/-- What an append of extents to a row that is not empty leaves. -/
theorem more_grown {w1 w5 w6 : World} {v' : Value} {g5 m c5 r : Nat} {M U : List (Int × Int)} (hm : m = M.length) (hr : U.length = r) (h0 : 0 < m) (h : w6.ownsRow 0 49 2 v' (m + r) (fl M ++ fl U))
    (hg : w5.grownBy w6 (Value.slice (some ⟨g5, 0, none⟩) m c5).ownBlock) (ha : At w1 w5) (hge : w1.heap.size ≤ g5) :
    ∃ g6 c6, v' = .slice (some ⟨g6, 0, none⟩) (m + r) c6 ∧ Ow w6 v' (M ++ U) ∧ At w1 w6 := by
  obtain ⟨g6, c6, hv, _, _⟩ := h.form (by omega)
  refine ⟨g6, c6, hv, ?_, (grown_mv hg).at_ ha (fun g hg => by have hg : some g5 = some g := hg; injection hg with hg; omega)⟩
  unfold Ow
  rw [List.length_append, ← hm, hr, fl_app]; exact h
/-- merge of a row of the program's own. -/
theorem merge_ow {W : World} {A : Option Addr} {n c : Nat} {X : List (Int × Int)} (h : Ow W (.slice A n c) X) (hl : X.length = n) (hn : n ≤ 1000000) (hv : ∀ e ∈ X, Vm e) :
    Calls Try.prog 41 #[.slice A n c] W (Merges X W) := by
  obtain ⟨A', c', e, _, _, hev⟩ := h.ev
  injection e with e1 e2 e3
  subst e1 e3
  refine merge_any A n c X W hn (fun e => ?_) hl hev hv
  rcases h.form with ⟨h1, _⟩ | ⟨g, c', T, h1, _⟩
  · injection h1 with _ h2 h3; exact ⟨h2, h3⟩
  · injection h1 with h2 _ _; rw [h2] at e; cases e
/-- A row that a call makes, and that is not empty. -/
theorem makes_ne {w w' : World} {e : Ending} {B : List (Int × Int)} (h : Makes B w e w') (h0 : B ≠ []) : ∃ g c, e = .returned (.slice (some ⟨g, 0, none⟩) B.length c) ∧ Ow w' (.slice (some ⟨g, 0, none⟩) B.length c) B ∧ At w w' ∧ w.heap.size ≤ g ∧ g < w'.heap.size := by
  obtain ⟨v, rfl, ho, ha, hg⟩ := h
  rcases ho.form with ⟨_, e⟩ | ⟨g, c, T, rfl, _, _, _, h4⟩
  · exact absurd e h0
  · exact ⟨g, c, rfl, ho, ha, hg g rfl, lt_heap h4⟩

set_option maxHeartbeats 2000000 in
set_option maxRecDepth 100000 in
theorem add_any (A : Option Addr) (n c : Nat) (l : List (Int × Int)) {w : World} {b : Nat} {v : Value} {most : Int} {L : List (Int × Int)} (h : Sv w b v most L) (hn : n ≤ 400000) (hz : A = none → n = 0 ∧ c = 0) (hl : l.length = n) (hx : EV w A l) :
    Calls Try.prog 27 #[.pointer (some ⟨b, 0, none⟩), .slice A n c] w (Adds b v most L l w) := by
  have HAV := Lib.hid (all_valid A n c l w (by omega) hl hx)
  have H := Lib.hid h
  cases hv : allB l with
  | false =>
    have HV := Lib.hid hv
    clear hv h hx hl hz
    go_enter Try.func27, Try.ntmps27
    go_wp2_with fail
    refine HAV.out.mono ?_
    rintro e w1 ⟨rfl, hA⟩
    rw [HV.out]
    have HA := Lib.hid hA
    clear hA
    go_wp2
    go_ret
    exact ⟨1, v, L, rfl, H.out.on HA.out, Did.of_at _ _ HA.out, Or.inl ⟨rfl, rfl, HV.out⟩⟩
  | true =>
    have HV := Lib.hid hv
    clear hv
    by_cases h0 : n = 0
    · subst h0
      have hl0 : l = [] := List.eq_nil_of_length_eq_zero hl
      subst hl0
      clear h hx hl hz
      go_enter Try.func27, Try.ntmps27
      go_wp2_with fail
      refine HAV.out.mono ?_
      rintro e w1 ⟨rfl, hA⟩
      rw [HV.out]
      have HA := Lib.hid hA
      clear hA
      go_wp2
      go_ret
      exact ⟨0, v, L, rfl, H.out.on HA.out, Did.of_at _ _ HA.out, Or.inr (Or.inl ⟨rfl, HV.out, by rw [List.append_nil]; exact Is.self H.out.nm, Or.inl rfl⟩)⟩
    · have q0 : ((n : Int) == 0) = false := by simp; omega
      have hvm : ∀ e ∈ l, Vm e := fun e he => ((allB_iff l).1 HV.out e he).vm
      have HMG : Hid (∀ W, At w W → Calls Try.prog 41 #[.slice A n c] W (Merges l W)) := Lib.hid (fun W hW => merge_any A n c l W (by omega) hz hl (hx.on hW) hvm)
      have HVM := Lib.hid hvm
      have HLN := Lib.hid hl
      have h0n := h0
      obtain ⟨AL, cL, hveq, hNc, hcm, hev⟩ := h.row.ev
      obtain ⟨N, hN⟩ : ∃ N, N = L.length := ⟨_, rfl⟩
      rw [← hN] at hveq hNc
      subst hveq
      have hNL : N ≤ 524289 := by rw [hN]; exact nm_len h.nm
      have HN := Lib.hid hN
      have HEV := Lib.hid hev
      clear hev hN hvm hl hx hz h
      go_enter Try.func27, Try.ntmps27
      go_wp2_with fail
      refine HAV.out.mono ?_
      rintro e w1 ⟨rfl, hA⟩
      rw [HV.out]
      have HA1 : Hid (At w w1) := Lib.hid hA
      clear hA HAV
      go_wp2_with fail
      refine (HMG.out w1 HA1.out).mono ?_
      rintro e w2 ⟨M, hM, v2, rfl, hO, hA2, hge⟩
      have hM0 : M ≠ [] := is_ne HVM.out hM (fun e => by rw [e] at HLN; exact h0 HLN.out.symm)
      obtain ⟨g5, c5, rfl, hmc, hc5, hb5⟩ : ∃ g5 c5, v2 = .slice (some ⟨g5, 0, none⟩) M.length c5 ∧ M.length ≤ c5 ∧ c5 ≤ maxLen ∧ g5 < w2.heap.size := by
        rcases hO.form with ⟨_, e⟩ | ⟨g5, c5, T5, h1, h2, h3, _, h4⟩
        · exact absurd e hM0
        · exact ⟨g5, c5, h1, h2, h3, lt_heap h4⟩
      have hmn : M.length ≤ n := by have := is_len HVM.out hM; rw [HLN.out] at this; exact this
      have hmp : 0 < M.length := List.length_pos_iff.2 hM0
      obtain ⟨m, hm⟩ : ∃ m, m = M.length := ⟨_, rfl⟩
      rw [← hm] at hO hmc hmn hmp hge
      rw [← hm]
      obtain ⟨j, hj⟩ : ∃ j, m = j + 1 := ⟨m - 1, by omega⟩
      have hS2 : Sv w2 b (.slice AL N cL) most L := H.out.on (HA1.out.next hA2)
      have hcf := ow_cells hO (j := 0) (by omega)
      have hcl := ow_cells hO (j := j) (by omega)
      obtain ⟨lo, hlo⟩ : ∃ lo, lo = (M.getD 0 (0, 0)).1 := ⟨_, rfl⟩
      obtain ⟨p, hp⟩ : ∃ p, p = M.getD j (0, 0) := ⟨_, rfl⟩
      obtain ⟨l1, l2⟩ := p
      rw [← hlo] at hcf
      rw [← hp] at hcl
      have hvj := nm_at hM.1 (show j < M.length by omega)
      rw [← hp] at hvj
      obtain ⟨v1, v2, v3⟩ := hvj
      simp only at v1 v2 v3 hcl
      have HC : Hid (∀ W, At w2 W → W.cell? ⟨b, 0, none⟩ = some (.slice AL N cL) ∧ W.cell? ⟨b, 1, none⟩ = some (.int .i64 most) ∧ W.cell? ⟨g5, 0, none⟩ = some (.int .i64 lo) ∧ W.cell? ⟨g5, j * 2, none⟩ = some (.int .i64 l1) ∧ W.cell? ⟨g5, j * 2 + 1, none⟩ = some (.int .i64 l2)) := Lib.hid (fun W hW => by
        have hlt : g5 < w2.heap.size := hb5
        have hS := hS2.on hW
        refine ⟨hS.cells.1, hS.cells.2.1, (Below.cell hW (p := ⟨g5, 0, none⟩) hlt).trans ?_, (Below.cell hW (p := ⟨g5, j * 2, none⟩) hlt).trans hcl.1, (Below.cell hW (p := ⟨g5, j * 2 + 1, none⟩) hlt).trans hcl.2⟩
        have := hcf.1
        rwa [Nat.zero_mul] at this)
      have HEN : Hid (∀ W, At w2 W → Calls Try.prog 42 #[.slice AL N cL, .int .i64 lo] W (Found (pe L lo) N W)) := Lib.hid (fun W hW => ends_any AL N cL L lo W (by omega) HN.out.symm (HEV.out.on ((HA1.out.next hA2).next hW)) H.out.nm.1)
      have HST : Hid (∀ W, At w2 W → Calls Try.prog 43 #[.slice AL N cL, .int .i64 (l1 + l2)] W (Found (ps L (l1 + l2)) N W)) := Lib.hid (fun W hW => starts_any AL N cL L (l1 + l2) W (by omega) HN.out.symm (HEV.out.on ((HA1.out.next hA2).next hW)))
      have HO := Lib.hid hO
      have HG := Lib.hid hge
      have HM := Lib.hid hM
      have HA2 := Lib.hid hA2
      have HS2 := Lib.hid hS2
      have HMJ := Lib.hid (And.intro hm (And.intro hlo (And.intro hp hj)))
      have HM0 := Lib.hid hM0
      clear hO hge hM hM0 hA2 hS2 hm hcf hcl hb5 HMG HEV hlo hp h0
      have q4 : (m : Int) - 1 = (j : Int) := by omega
      have q5 : (0 : Int) ≤ (j : Int) := by omega
      have q6 : (j : Int) < (m : Int) := by omega
      have q7 : IntKind.i64.wrap (j : Int) = (j : Int) := IntWalk.i64_in _ (by omega)
      have k1 : (0 : Int) < (m : Int) := by omega
      clear hj
      have d := HC.out _ (At.drewN (At.start w2) 1)
      obtain ⟨d0, d1, d2, d3, d4⟩ := d
      obtain ⟨e0, e1, e2, e3, e4⟩ := HC.out _ (At.start w2)
      go_wp2_with fail
      go_still_tail 8, (by kernel_rfl)
      change wpList _ _ _ _ _ w2.drew
      have hA3 : At w2 w2.drew := At.drewN (At.start w2) 1
      clear d0 d1 d2 d3 d4 e0 e1 e2 e3 e4
      generalize w2.drew = w3 at hA3 ⊢
      have HA3 := Lib.hid hA3
      clear hA3
      go_wp2_with fail
      refine (HEN.out w3 HA3.out).mono ?_
      rintro e w4 ⟨f, hf, rfl, hA4⟩
      have HA4 : Hid (At w2 w4) := Lib.hid (HA3.out.next hA4)
      have HF := Lib.hid hf
      have hfN := hf.le
      clear hf hA4 HA3 HEN
      obtain ⟨d0, d1, d2, d3, d4⟩ := HC.out w4 HA4.out
      have HK : Hid (At w2 (w4.alloc (.cells #[.int .i64 l1, .int .i64 l2] 49)).drew) := Lib.hid ((HA4.out.alloc _).drewN 1)
      go_wp2_with fail
      go_region_held3 (fun w' => w'.cell? ⟨b, 0, none⟩ = some (.slice AL N cL) ∧ w'.cell? ⟨g5, j * 2, none⟩ = some (.int .i64 l1) ∧ w'.cell? ⟨g5, j * 2 + 1, none⟩ = some (.int .i64 l2)) (go_keep)
        (first
          | (go_at_call 44; refine (after_any _ _ _ (by omega) (by omega) (by omega) (by omega)).mono ?_; rintro e w' ⟨rfl, rfl⟩)
          | (go_at_call 43; refine (HST.out _ HK.out).mono ?_; rintro e w5 ⟨t, ht, rfl, hA5⟩; obtain ⟨s0, s1, s2, s3, s4⟩ := HC.out w5 (HK.out.next hA5); have HT := Lib.hid (And.intro ht (HK.out.next hA5)); clear ht hA5))
      clear s0 s1 s2 s3 s4 d0 d1 d2 d3 d4 HC HST HK
      have htN := HT.out.1.le
      have hU0 : ∀ B, Is (M ++ (L.drop f).take (t - f)) B → f ≤ t ∧ Is (L ++ l) (L.take f ++ B ++ L.drop t) := fun B hB => add_is H.out.nm HM.out HM0.out (by
          rw [← HMJ.out.2.1, ← HN.out]; exact HF.out) (by
          rw [show M.length - 1 = j by have h1 := HMJ.out.1; have h2 := HMJ.out.2.2.2; omega, ← HMJ.out.2.2.1, ← HN.out]; exact HT.out.1) hB
      have hUv : ∀ e ∈ M ++ (L.drop f).take (t - f), Vm e := fun e he => by
        rcases List.mem_append.1 he with he | he
        · exact HM.out.1.1 e he
        · exact H.out.nm.1 e (List.mem_of_mem_drop (List.mem_of_mem_take he))
      have hft : f ≤ t := (hU0 _ (nf_is hUv)).1
      obtain ⟨U, hU⟩ : ∃ U, U = (L.drop f).take (t - f) := ⟨_, rfl⟩
      have hUl : U.length = t - f := by rw [hU, List.length_take, List.length_drop]; have := HN.out; omega
      rw [← hU] at hU0 hUv
      have HADD : Hid (∀ B, Is (M ++ U) B → Is (L ++ l) (L.take f ++ B ++ L.drop t)) := Lib.hid (fun B hB => (hU0 B hB).2)
      have HUV := Lib.hid hUv
      have HUL := Lib.hid hUl
      have HUE := Lib.hid hU
      have hA15 : At w1 w5 := HA2.out.next HT.out.2
      have hg5 : w1.heap.size ≤ g5 := HG.out g5 rfl
      have HA15 := Lib.hid hA15
      have HG5 := Lib.hid hg5
      have HS5 : Hid (Sv w5 b (.slice AL N cL) most L) := Lib.hid (H.out.on (HA1.out.next hA15))
      have HOW : Hid (w5.ownsRow 0 49 2 (.slice (some ⟨g5, 0, none⟩) m c5) m (fl M)) := Lib.hid (by have := HO.out.on HT.out.2; unfold Ow at this; rw [← HMJ.out.1] at this; exact this)
      have HMM := Lib.hid HMJ.out.1
      clear hU0 hUv hU hUl hA15 hg5 HF HT HO HG HMJ v1 v2 v3 q4 q5 q6 q7
      obtain ⟨i0, hi, hz0, hz1, hz2⟩ := info_parts info_ext
      have HZ := Lib.hid (And.intro hi (And.intro hz0 (And.intro hz1 hz2)))
      clear hi hz0 hz1 hz2
      obtain ⟨s0, s1, -⟩ := HS5.out.cells
      go_upto_region 10 with fail
      go_cut [5] from 42 (fun s5 wx => ∃ (B : List (Int × Int)) (g7 c7 q : Nat), s5 = .slice (some ⟨g7, 0, none⟩) q c7 ∧ Hid (q = B.length ∧ Is (M ++ U) B ∧ Ow wx (.slice (some ⟨g7, 0, none⟩) q c7) B ∧ At w wx ∧ w.heap.size ≤ g7 ∧ g7 < wx.heap.size))
      case first =>
        rcases H.out.row.form with ⟨h1, hL0⟩ | ⟨gL, cL', TL, h1, _, _, _, hgL⟩
        · injection h1 with e1 e2 e3
          subst e1 e2 e3
          obtain rfl : f = 0 := by omega
          obtain rfl : t = 0 := by omega
          have hU : U = [] := List.eq_nil_of_length_eq_zero HUL.out
          have HO6 : Hid (Ow w5 (.slice (some ⟨g5, 0, none⟩) m c5) (M ++ U)) := Lib.hid (by
            rw [hU, List.append_nil]; unfold Ow; rw [← HMM.out]; exact HOW.out)
          have HL6 : Hid ((M ++ U).length = m) := Lib.hid (by rw [hU, List.append_nil, ← HMM.out])
          clear hU
          go_wp2_with (at_builtin; refine wpList_append_own_none rfl (.tmp 42) (.tmp 49) 23 rfl 0 49 i0 2 Try.underlying23 HZ.out.1 _ m (fl M) rfl HOW.out rfl ?_)
          have HM6 := Lib.hid (merge_ow HO6.out HL6.out (by omega) HUV.out)
          have HA6 := HA15
          go_wp2_with fail
          refine HM6.out.mono ?_
          rintro e w7 ⟨B, hB, hmk⟩
          obtain ⟨g7, c7, rfl, ho7, ha7, hg7, hl7⟩ := makes_ne hmk (is_ne HUV.out hB (by simp [HM0.out]))
          have HN7 := Lib.hid (And.intro hB (And.intro ho7 (And.intro (HA1.out.next (HA6.out.next ha7)) (And.intro (Nat.le_trans (HA1.out.next HA6.out).size hg7) hl7))))
          clear hB hmk ho7 ha7 hg7 hl7
          go_wp2
          go_meet
          case rel => exact ⟨B, g7, c7, B.length, rfl, Lib.hid ⟨rfl, HN7.out⟩⟩
        · injection h1 with e1 e2 e3
          subst e1 e3
          clear e2
          by_cases hcf : cL = f
          · have hU : U = [] := List.eq_nil_of_length_eq_zero (by have := HUL.out; omega)
            subst hcf
            obtain rfl : t = cL := by omega
            have HLU : Hid (U.length = 0) := Lib.hid (by rw [hU]; rfl)
            have HFU : Hid (fl M ++ [] = fl M ++ fl U) := Lib.hid (by rw [hU]; rfl)
            clear hU
            go_wp2_with (at_builtin; refine wpList_append_own_at _ rfl (.tmp 42) (.tmp 49) 23 rfl 0 49 i0 _ 2 16 Try.underlying23 HZ.out.1 HZ.out.2.1 HZ.out.2.2.1 HZ.out.2.2.2 rfl (by omega) _ m (fl M) rfl HOW.out ⟨gL, 0, none⟩ 0 0 [] rfl rfl (fun j u hj => by simp at hj) (fun u hu => by cases hu) (by unfold maxLen; omega) (by omega) (Nat.zero_le _) ?_; intro v6 w6 hown hgrow hnn hat; rw [HFU.out] at hown; obtain ⟨g6, c6, rfl, ho6, ha6⟩ := more_grown HMM.out HLU.out (by omega) hown hgrow HA15.out HG5.out; clear hown hgrow hnn hat)
            have HM6 := Lib.hid (merge_ow ho6 (by rw [List.length_append, ← HMM.out, HLU.out]) (by omega) HUV.out)
            have HA6 := Lib.hid ha6
            clear ho6 ha6
            go_wp2_with fail
            refine HM6.out.mono ?_
            rintro e w7 ⟨B, hB, hmk⟩
            obtain ⟨g7, c7, rfl, ho7, ha7, hg7, hl7⟩ := makes_ne hmk (is_ne HUV.out hB (by simp [HM0.out]))
            have HN7 := Lib.hid (And.intro hB (And.intro ho7 (And.intro (HA1.out.next (HA6.out.next ha7)) (And.intro (Nat.le_trans (HA1.out.next HA6.out).size hg7) hl7))))
            clear hB hmk ho7 ha7 hg7 hl7
            go_wp2
            go_meet
            case rel => exact ⟨B, g7, c7, B.length, rfl, Lib.hid ⟨rfl, HN7.out⟩⟩
          · have HFL : Hid ((fl U).length = (t - f) * 2) := Lib.hid (by rw [fl_len, HUL.out])
            have HSR : Hid (∀ j u, (fl U)[j]? = some u → w5.cell? ((⟨gL, f * 2, none⟩ : Addr).add j) = some u) := by
              have he := HS5.out.row.ev
              obtain ⟨A', c', e, _, _, he⟩ := he
              injection e with e1 _ _
              rw [← e1] at he
              have := ev_news (he.cut f (t - f))
              rw [Nat.zero_add, ← HUE.out] at this
              exact Lib.hid this
            have b1 : (0 : Int) ≤ (f : Int) := by omega
            have b2 : (f : Int) ≤ (t : Int) := by omega
            have b3 : (t : Int) ≤ (cL : Int) := by omega
            go_wp2_with (at_builtin; refine wpList_append_own_at _ rfl (.tmp 42) (.tmp 49) 23 rfl 0 49 i0 _ 2 16 Try.underlying23 HZ.out.1 HZ.out.2.1 HZ.out.2.2.1 HZ.out.2.2.2 rfl (by omega) _ m (fl M) rfl HOW.out ⟨gL, f * 2, none⟩ (t - f) (cL - f) (fl U) rfl HFL.out HSR.out (fun u hu => fl_cells u U hu) (by unfold maxLen; omega) (by omega) (Nat.zero_le _) ?_; intro v6 w6 hown hgrow hnn hat; obtain ⟨g6, c6, rfl, ho6, ha6⟩ := more_grown HMM.out HUL.out (by omega) hown hgrow HA15.out HG5.out; clear hown hgrow hnn hat)
            have HM6 := Lib.hid (merge_ow ho6 (by rw [List.length_append, ← HMM.out, HUL.out]) (by omega) HUV.out)
            have HA6 := Lib.hid ha6
            clear ho6 ha6
            go_wp2_with fail
            refine HM6.out.mono ?_
            rintro e w7 ⟨B, hB, hmk⟩
            obtain ⟨g7, c7, rfl, ho7, ha7, hg7, hl7⟩ := makes_ne hmk (is_ne HUV.out hB (by simp [HM0.out]))
            have HN7 := Lib.hid (And.intro hB (And.intro ho7 (And.intro (HA1.out.next (HA6.out.next ha7)) (And.intro (Nat.le_trans (HA1.out.next HA6.out).size hg7) hl7))))
            clear hB hmk ho7 ha7 hg7 hl7
            go_wp2
            go_meet
            case rel => exact ⟨B, g7, c7, B.length, rfl, Lib.hid ⟨rfl, HN7.out⟩⟩
      obtain ⟨B, g7, c7, q, rfl, HB⟩ := hcut
      have HSC : Hid (Sv wc b (.slice AL N cL) most L) := Lib.hid (H.out.on HB.out.2.2.2.1)
      have hqB : q ≤ 524289 := by rw [HB.out.1]; exact nm_len HB.out.2.1.1
      have hq0 : 0 < q := by rw [HB.out.1]; exact List.length_pos_iff.2 (is_ne HUV.out HB.out.2.1 (by simp [HM0.out]))
      clear s0 s1 HZ HOW HS5 HA15 HG5 HUV HUL HUE HMM HM0 HM HA2 HS2 HA4
      obtain ⟨s0, s1, s2⟩ := HSC.out.cells
      have HLX : Hid ((L.take f ++ B ++ L.drop t).length = f + q + (N - t)) := Lib.hid (by
        rw [List.length_append, List.length_append, List.length_take, List.length_drop, ← HB.out.1, ← HN.out]; omega)
      have HIX := Lib.hid (HADD.out B HB.out.2.1)
      have y1 : IntKind.i64.wrap ((t : Int) - (f : Int)) = (t : Int) - (f : Int) := IntWalk.i64_in _ (by omega)
      have y2 : IntKind.i64.wrap ((N : Int) - ((t : Int) - (f : Int))) = (N : Int) - ((t : Int) - (f : Int)) := IntWalk.i64_in _ (by omega)
      have y3 : IntKind.i64.wrap ((N : Int) - ((t : Int) - (f : Int)) + (q : Int)) = (N : Int) - ((t : Int) - (f : Int)) + (q : Int) := IntWalk.i64_in _ (by omega)
      by_cases hbig : most < (N : Int) - ((t : Int) - (f : Int)) + (q : Int)
      · have hbg : decide (most < (N : Int) - ((t : Int) - (f : Int)) + (q : Int)) = true := decide_eq_true hbig
        go_wp2_with fail
        go_quiet (fail)
        go_wp2
        go_ret
        exact ⟨7, _, L, rfl, HSC.out.on ((At.start wc).drewN _), Did.of_at _ _ (HB.out.2.2.2.1.drewN _), Or.inr (Or.inr ⟨rfl, rfl, HV.out, _, HIX.out, by rw [HLX.out]; omega⟩)⟩
      · have hbg : decide (most < (N : Int) - ((t : Int) - (f : Int)) + (q : Int)) = false := decide_eq_false hbig
        go_wp2_with fail
        go_quiet (fail)
        go_wp2_with fail
        have hAQ : At wc (wc.drewN nq) := (At.start wc).drewN nq
        generalize wc.drewN nq = wd at hAQ ⊢
        have HAQ := Lib.hid hAQ
        have HSD := Lib.hid (HSC.out.on hAQ)
        have HBD := Lib.hid (HB.out.2.2.1.on hAQ)
        have HAP : Hid (∀ g, (Value.slice AL N cL).ownBlock = some g → (Value.slice (some ⟨g7, 0, none⟩) q c7).ownBlock ≠ some g) := Lib.hid (fun g hg e => by
          have e : some g7 = some g := e
          injection e with e
          have h1 := H.out.row.lt hg
          have h2 := HB.out.2.2.2.2.1
          omega)
        have HRP : Hid (Calls Try.prog 45 #[.slice AL N cL, .int .i64 (f : Int), .int .i64 (t : Int), .slice (some ⟨g7, 0, none⟩) q c7] wd (Puts (.slice AL N cL) (L.take f ++ B ++ L.drop t) wd)) := by
          by_cases heq : f = t
          · rw [← heq]
            exact Lib.hid (replace_none HSD.out.row HBD.out HAP.out HN.out.symm HB.out.1.symm hfN (by omega) hq0 (by omega))
          · exact Lib.hid (replace_any HSD.out.row HBD.out HAP.out HN.out.symm HB.out.1.symm (by omega) htN (by omega) hq0 (by omega))
        clear hAQ s0 s1 s2
        refine HRP.out.mono ?_
        rintro e w8 ⟨v8, rfl, ho8, hm8, hb8⟩
        have hbx : w8.heap[b]? = some (.cells #[.slice AL N cL, .int .i64 most] 88 (0, 0)) := hm8.keep HSD.out.box HSD.out.apart
        have s0 : w8.cell? ⟨b, 0, none⟩ = some (.slice AL N cL) := by rw [cell_at hbx]; rfl
        have s2 := free_at hbx 0
        have HBX := Lib.hid hbx
        have hbw : b < w.heap.size := lt_heap H.out.box
        have hne : v8.ownBlock ≠ some b := fun e => by
          rcases hb8 b e with h1 | h1
          · exact HSD.out.apart h1
          · have := (HB.out.2.2.2.1.next HAQ.out).size; omega
        have HF : Hid (Sv (w8.setCell ⟨b, 0, none⟩ v8) b v8 most (L.take f ++ B ++ L.drop t)) := Lib.hid ⟨heap_set hbx 0 v8, ho8.mv (F := fun g => g = b) (Mv.set (F := fun g => g = b) (p := ⟨b, 0, none⟩) (Mv.refl _ w8) (Or.inl rfl) v8) (fun g hg e => hne (by rw [← e]; exact hg)), HIX.out.1⟩
        have HD : Hid (Did w b (.slice AL N cL) v8 (w8.setCell ⟨b, 0, none⟩ v8)) := Lib.hid ⟨Mv.set (((Mv.of_below (Ft b (.slice AL N cL)) (HB.out.2.2.2.1.next HAQ.out))).trans hm8 (fun g hg => Or.inl (Or.inr hg))) (Or.inl (Or.inl rfl)) v8, fun g hg => by
          rcases hg with rfl | hg
          · exact Or.inl (Or.inl rfl)
          · rcases hb8 g hg with h1 | h1
            · exact Or.inl (Or.inr h1)
            · exact Or.inr (Nat.le_trans (HB.out.2.2.2.1.next HAQ.out).size h1)⟩
        have HVS : Hid (∃ A8 r8 c8, v8 = .slice A8 r8 c8) := Lib.hid (by
          obtain ⟨A8, c8, e8, _⟩ := ho8.ev
          exact ⟨A8, _, c8, e8⟩)
        clear ho8 hm8 hb8 hbx hne HRP HAP HBD HSD HAQ
        obtain ⟨A8, r8, c8, rfl⟩ : ∃ A8 r8 c8, v8 = .slice A8 r8 c8 := HVS.out
        clear HVS
        go_wp2
        go_ret
        exact ⟨0, _, _, rfl, HF.out, HD.out, Or.inr (Or.inl ⟨rfl, HV.out, HIX.out, Or.inr (by rw [HLX.out]; omega)⟩)⟩

/-- What Add answers where the blocks and their row are known. -/
theorem Adds.known {b : Nat} {v : Value} {most : Int} {L l M : List (Int × Int)} {w w' : World} {e : Ending} (h : Adds b v most L l w e w') (hv : allB l = true) (hM : Is (L ++ l) M) (h0 : l ≠ []) :
    ∃ v' : Value, Did w b v v' w' ∧ (((M.length : Int) ≤ most ∧ e = .returned (.int .i64 0) ∧ Sv w' b v' most M) ∨ (most < (M.length : Int) ∧ e = .returned (.int .i64 7) ∧ Sv w' b v' most L)) := by
  obtain ⟨c, v', L', rfl, hs, hd, h | h | h⟩ := h
  · rw [hv] at h; cases h.2.2
  · obtain ⟨rfl, _, h1, h2⟩ := h
    obtain rfl := is_one h1 hM
    exact ⟨v', hd, Or.inl ⟨h2.resolve_left h0, rfl, hs⟩⟩
  · obtain ⟨rfl, rfl, _, M', h1, h2⟩ := h
    obtain rfl := is_one h1 hM
    exact ⟨v', hd, Or.inr ⟨h2, rfl, hs⟩⟩

end Go.Proofs.Ytcffoebpgjonmaa.Iv

namespace Go.Proofs.Ytcffoebpgjonmaa.Iv
open Go.RowKit

theorem extents_any {w : World} {b : Nat} {v : Value} {most : Int} {L : List (Int × Int)} (h : Sv w b v most L) (hl : L.length ≤ 1000000) :
    Calls Try.prog 32 #[.pointer (some ⟨b, 0, none⟩)] w (Makes L w) := by
  have HL := Lib.hid (list_any h)
  obtain ⟨A, c, rfl, hnc, hcm, hev⟩ := h.row.ev
  have hz : A = none → L.length = 0 ∧ c = 0 := fun e => by
    subst e
    rcases h.row.form with ⟨h1, h2⟩ | ⟨g, c', T, h1, _⟩
    · injection h1 with _ e2 e3; exact ⟨e2, e3⟩
    · injection h1 with e1 _ _; cases e1
  have HC := Lib.hid (clone_any A L.length c L w hl hz rfl hev)
  generalize L.length = n at *
  clear h hev hz
  go_enter Try.func32, Try.ntmps32
  go_wp2_with fail
  refine HL.out.mono ?_
  rintro e w' ⟨rfl, rfl⟩
  go_wp2_with fail
  refine HC.out.mono ?_
  rintro e w' ⟨v, rfl, hm⟩
  have HM := Lib.hid hm
  clear hm
  go_wp2
  go_ret
  exact ⟨v, rfl, HM.out⟩
theorem extents_nil (w : World) : Calls Try.prog 32 #[.pointer none] w (Makes [] w) := by
  have HC := Lib.hid (clone_any none 0 0 [] w (by omega) (fun _ => ⟨rfl, rfl⟩) rfl (EV.nil _ _))
  go_enter Try.func32, Try.ntmps32
  go_wp2_with fail
  refine (list_nil _).mono ?_
  rintro e w' ⟨rfl, rfl⟩
  go_wp2_with fail
  refine HC.out.mono ?_
  rintro e w' ⟨v, rfl, hm⟩
  have HM := Lib.hid hm
  clear hm
  go_wp2
  go_ret
  exact ⟨v, rfl, HM.out⟩

theorem count_nil (w : World) : Calls Try.prog 31 #[.pointer none] w (Gives (.int .i64 0) w) := by
  go_enter Try.func31, Try.ntmps31
  go_wp2_with fail
  refine (list_nil _).mono ?_
  rintro e w' ⟨rfl, rfl⟩
  go_wp2
  refine wp_loop_rounds 1 ?_
  rw [rounds_succ]
  go_wp2
  go_ret
  exact ⟨rfl, At.start _⟩

set_option maxHeartbeats 1000000 in
set_option maxRecDepth 100000 in
theorem count_any {w : World} {b : Nat} {v : Value} {most : Int} {L : List (Int × Int)} (h : Sv w b v most L) (hl : L.length ≤ 1000000) :
    Calls Try.prog 31 #[.pointer (some ⟨b, 0, none⟩)] w (Gives (.int .i64 (sm L)) w) := by
  have HL := Lib.hid (list_any h)
  obtain ⟨A, c, rfl, hnc, hcm, hev⟩ := h.row.ev
  obtain ⟨n, hn⟩ : ∃ n, n = L.length := ⟨_, rfl⟩
  rw [← hn] at HL hl hnc
  have HN := Lib.hid hn
  have HNM := Lib.hid h.nm
  have HEV := Lib.hid hev
  have HSM : Hid (∀ k, 0 ≤ sm (L.take k) ∧ sm (L.take k) ≤ 1048577) := Lib.hid (fun k => sm_le (nm_take h.nm k))
  clear h hev hn
  go_enter Try.func31, Try.ntmps31
  go_wp2_with fail
  refine HL.out.mono ?_
  rintro e w' ⟨rfl, rfl⟩
  go_wp2
  go_loopw [3, 9] (fun s i wr => ∃ (k : Nat) (z : Int), k ≤ n ∧ i = .int .i64 (k : Int) ∧ s = .int .i64 z ∧ Hid (z = sm (L.take k)) ∧ Hid (At w wr)) (fun _ i _ => n - (RowKit.intOf i).toNat)
  case atStart => exact ⟨0, 0, by omega, rfl, rfl, Lib.hid rfl, Lib.hid (At.start w)⟩
  case round =>
    obtain ⟨k, z, hk, rfl, rfl, HZ, HA⟩ := hrel
    by_cases hlt : k < n
    · obtain ⟨g, o, rfl, hg, hc⟩ := HEV.out.pos (by rw [← HN.out]; omega)
      have hck := hc k (by rw [← HN.out]; exact hlt)
      have c1 : wr.cell? ⟨g, o + k * 2, none⟩ = some (.int .i64 (L.getD k (0, 0)).1) := (Below.cell HA.out (p := ⟨g, o + k * 2, none⟩) hg).trans hck.1
      have c2 : wr.cell? ⟨g, o + k * 2 + 1, none⟩ = some (.int .i64 (L.getD k (0, 0)).2) := (Below.cell HA.out (p := ⟨g, o + k * 2 + 1, none⟩) hg).trans hck.2
      have hst := sm_take L k (by rw [← HN.out]; exact hlt)
      have hb1 := HSM.out k
      have hb2 := HSM.out (k + 1)
      obtain ⟨p, hp⟩ : ∃ p, L.getD k (0, 0) = p := ⟨_, rfl⟩
      rw [hp] at c1 c2 hst
      obtain ⟨x, y⟩ := p
      simp only at c1 c2 hst
      rw [hst, ← HZ.out] at hb2
      rw [← HZ.out] at hb1 hst
      have q1 : (0 : Int) ≤ (k : Int) := by omega
      have q2 : (k : Int) < (n : Int) := by omega
      have q3 : IntKind.i64.wrap (z + y) = z + y := IntWalk.i64_in _ (by omega)
      have HST := Lib.hid hst
      clear hst hc hck hp
      go_wp2
      go_roundw
      case rel => exact ⟨k + 1, z + y, by omega, by go_num, rfl, Lib.hid HST.out.symm, Lib.hid (HA.out.alloc _)⟩
      case measure => simp [RowKit.intOf]; omega
    · obtain rfl : k = n := by omega
      go_wp2
      go_ret
      have : L.take k = L := List.take_of_length_le (by rw [← HN.out]; exact Nat.le_refl _)
      rw [this] at HZ
      exact ⟨by rw [HZ.out]; rfl, HA.out⟩

/-- Whether one of L's extents has a block of K. -/
def crB (K L : List (Int × Int)) : Bool := L.any fun e => shB K e.1 e.2
theorem cr_iff {K L : List (Int × Int)} (hK : ∀ e ∈ K, Vm e) (hL : ∀ e ∈ L, Vm e) : crB K L = true ↔ ∃ x, In L x ∧ In K x := by
  unfold crB
  rw [List.any_eq_true]
  constructor
  · rintro ⟨e, he, h⟩
    have v := hL e he
    obtain ⟨x, h1, h2⟩ := (sh_iff hK v.2.1).1 h
    exact ⟨x, ⟨e, he, (in_one _ _).1 h1⟩, h2⟩
  · rintro ⟨x, ⟨e, he, h1⟩, h2⟩
    exact ⟨e, he, (sh_iff hK (hL e he).2.1).2 ⟨x, (in_one _ _).2 h1, h2⟩⟩

/-- The place that IndexFunc tells. -/
def Idx (K L : List (Int × Int)) (w : World) (e : Ending) (w' : World) : Prop := ∃ z : Int, e = .returned (.int .i64 z) ∧ -1 ≤ z ∧ z ≤ 1000000 ∧ (0 ≤ z ↔ crB K L = true) ∧ At w w'
end Go.Proofs.Ytcffoebpgjonmaa.Iv

namespace Go.Proofs.Ytcffoebpgjonmaa.Iv
open Go.RowKit

/-- Whether two lists are one. -/
def esB (L M : List (Int × Int)) : Bool := decide (L = M)
theorem awk_is : Is ([] ++ [(1, 2), (3, 1)]) [(1, 3)] := by
  refine ⟨Nm.one (by unfold Vm; simp), fun x => ?_⟩
  rw [List.nil_append, in_one, in_cons, in_one]; simp only; omega
theorem awk_ok : allB [(1, 2), (3, 1)] = true := by decide
theorem awk_cells (w : World) : EV (w.alloc (.cells #[.int .i64 1, .int .i64 2, .int .i64 3, .int .i64 1] 49)) (some ⟨w.heap.size, 0, none⟩) [(1, 2), (3, 1)] := by
  refine Or.inr ⟨_, _, rfl, by simp, fun j hj => ?_⟩
  have hj : j < 2 := hj
  have h := heap_alloc_new w (.cells #[.int .i64 1, .int .i64 2, .int .i64 3, .int .i64 1] 49)
  match j, hj with
  | 0, _ => exact ⟨by rw [cell_at h]; rfl, by rw [cell_at h]; rfl⟩
  | 1, _ => exact ⟨by rw [cell_at h]; rfl, by rw [cell_at h]; rfl⟩

end Go.Proofs.Ytcffoebpgjonmaa.Iv
