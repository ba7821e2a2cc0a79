/- Proved: what the landed Dot and Spread give: the sum of the products, and the mean of the squares of the distances from the mean. -/
import Derived.Test.YtphhonpibmbjmaaRsum
import Derived.Test.YtphhonpibmbjmaaLandS
namespace Go.Proofs.Ytphhonpibmbjmaa
open Go.RowKit Fl

theorem st_congr (p : Nat × Nat) (x y : Nat) (h1 : p.1 < 18446744073709551616) (hx : x < 18446744073709551616) (hy : y < 18446744073709551616) (h : cb x = cb y) : stW p x = stW p y := by
  have a := fo_congr f_add h1 hx h1 hy rfl h
  have b : lostW p.1 x (fo .add p.1 x) = lostW p.1 y (fo .add p.1 y) := lost_cb _ _ _ _ _ _ h1 hx (fo_lt f_add _ _) h1 hy (fo_lt f_add _ _) rfl h (by rw [a])
  unfold stW
  rw [a] at b ⊢
  rw [b]
theorem fold_congr : ∀ (A B : List Nat) (p : Nat × Nat), p.1 < 18446744073709551616 → A.map cb = B.map cb → (∀ x ∈ A, x < 18446744073709551616) → (∀ x ∈ B, x < 18446744073709551616) → A.foldl stW p = B.foldl stW p
  | [], [], _, _, _, _, _ => rfl
  | [], _ :: _, _, _, h, _, _ => by simp at h
  | _ :: _, [], _, _, h, _, _ => by simp at h
  | x :: A, y :: B, p, hp, h, hA, hB => by
    simp only [List.map_cons, List.cons.injEq] at h
    rw [List.foldl_cons, List.foldl_cons, st_congr p x y hp (hA x (by simp)) (hB y (by simp)) h.1]
    exact fold_congr A B _ (st_can p y).2.2.1 h.2 (fun z hz => hA z (by simp [hz])) (fun z hz => hB z (by simp [hz]))
theorem negz_cb (x : Nat) : cb x = 9223372036854775808 ↔ x = 9223372036854775808 := by
  constructor
  · intro h
    cases hn : isN x
    · rw [cb_num x hn] at h; exact h
    · rw [cb_nan x hn] at h; omega
  · intro h; subst h; decide
theorem all_cb (A : List Nat) : (∀ x ∈ A, x = 9223372036854775808) ↔ ∀ x ∈ A.map cb, x = 9223372036854775808 := by
  constructor
  · intro h x hx
    obtain ⟨y, hy, rfl⟩ := List.mem_map.1 hx
    exact (negz_cb y).2 (h y hy)
  · intro h x hx
    exact (negz_cb x).1 (h _ (List.mem_map.2 ⟨x, hx, rfl⟩))
theorem sum_congr {A B : List Nat} (h : A.map cb = B.map cb) (hA : ∀ x ∈ A, x < 18446744073709551616) (hB : ∀ x ∈ B, x < 18446744073709551616) : sumW A = sumW B := by
  have hr : runW A = runW B := fold_congr A B (0, 0) (by decide) h hA hB
  have hn : A ≠ [] ↔ B ≠ [] := by
    have := congrArg List.length h
    simp only [List.length_map] at this
    rw [← List.length_pos_iff, ← List.length_pos_iff, this]
  have ha : (∀ x ∈ A, x = 9223372036854775808) ↔ ∀ x ∈ B, x = 9223372036854775808 := by rw [all_cb A, all_cb B, h]
  unfold sumW
  rw [hr]
  by_cases hc : B ≠ [] ∧ ∀ x ∈ B, x = 9223372036854775808
  · rw [if_pos hc, if_pos ⟨hn.2 hc.1, ha.2 hc.2⟩]
  · rw [if_neg hc, if_neg (fun h => hc ⟨hn.1 h.1, ha.1 h.2⟩)]

/-- The first k of a row's n words read as the list's. -/
def Fil (n k : Nat) (T Q : List Nat) : Prop := Q.length = n ∧ (∀ x ∈ Q, x < 18446744073709551616) ∧ ∀ j, j < k → cb (Q.getD j 0) = T.getD j 0
theorem fil_start (n : Nat) (T : List Nat) : Fil n 0 T (List.replicate n 0) := ⟨by simp, fun x hx => by have := List.eq_of_mem_replicate hx; omega, fun _ h => by omega⟩
theorem fil_step {n k c : Nat} {T Q : List Nat} (h : Fil n k T Q) (hk : k < n) (hc : cb c = T.getD k 0) (hl : c < 18446744073709551616) : Fil n (k + 1) T (Q.set k c) := by
  refine ⟨by rw [List.length_set]; exact h.1, fun x hx => ?_, fun j hj => ?_⟩
  · rcases List.mem_or_eq_of_mem_set hx with h' | h'
    · exact h.2.1 x h'
    · rw [h']; exact hl
  · by_cases e : j = k
    · subst e
      rw [List.getD_eq_getElem?_getD, List.getElem?_set_self (by rw [h.1]; exact hk)]
      exact hc
    · have := h.2.2 j (by omega)
      rw [List.getD_eq_getElem?_getD, List.getElem?_set_ne (fun e' => e e'.symm), ← List.getD_eq_getElem?_getD]
      exact this
theorem fil_more {k c : Nat} {T Q : List Nat} (h : Fil k k T Q) (hc : cb c = T.getD k 0) (hl : c < 18446744073709551616) : Fil (k + 1) (k + 1) T (Q ++ [c]) := by
  refine ⟨by simp [h.1], fun x hx => ?_, fun j hj => ?_⟩
  · simp only [List.mem_append, List.mem_singleton] at hx
    rcases hx with h' | h'
    · exact h.2.1 x h'
    · rw [h']; exact hl
  · by_cases e : j = k
    · subst e
      rw [List.getD_eq_getElem?_getD, List.getElem?_append_right (by rw [h.1]; exact Nat.le_refl _), h.1, Nat.sub_self]
      exact hc
    · have := h.2.2 j (by omega)
      rw [List.getD_eq_getElem?_getD, List.getElem?_append_left (by rw [h.1]; omega), ← List.getD_eq_getElem?_getD]
      exact this
theorem fil_end {n : Nat} {T Q : List Nat} (h : Fil n n T Q) (hT : T.length = n) (hc : ∀ x ∈ T, cb x = x ∧ x < 18446744073709551616) : sumW Q = sumW T := by
  refine sum_congr ?_ h.2.1 (fun x hx => (hc x hx).2)
  apply List.ext_getElem
  · simp [h.1, hT]
  · intro j h1 h2
    simp only [List.length_map] at h1 h2
    have := h.2.2 j (by rw [← h.1]; exact h1)
    rw [List.getD_eq_getElem?_getD, List.getElem?_eq_getElem h1, List.getD_eq_getElem?_getD, List.getElem?_eq_getElem h2] at this
    simp only [List.getElem_map]
    rw [(hc _ (List.getElem_mem h2)).1]
    exact this

def prodL (A B : List Nat) : List Nat := List.zipWith (fo .mul) A B
def dotW (A B : List Nat) : Nat := sumW (prodL A B)
def sq (m x : Nat) : Nat := fo .mul (fo .sub x m) (fo .sub x m)
def sqL (m : Nat) (L : List Nat) : List Nat := L.map (sq m)
def spreadW (L : List Nat) : Nat := fo .quo (sumW (sqL (meanW L) L)) (floatOfInt .f64 (L.length : Int))

theorem prod_len {A B : List Nat} (h : A.length = B.length) : (prodL A B).length = A.length := by unfold prodL; rw [List.length_zipWith, h, Nat.min_self]
theorem prod_at {A B : List Nat} (j : Nat) (h1 : j < A.length) (h2 : j < B.length) : (prodL A B).getD j 0 = fo .mul (A.getD j 0) (B.getD j 0) := by
  unfold prodL
  simp [List.getD_eq_getElem?_getD, List.getElem?_zipWith, List.getElem?_eq_getElem h1, List.getElem?_eq_getElem h2]
theorem prod_can (A B : List Nat) : ∀ x ∈ prodL A B, cb x = x ∧ x < 18446744073709551616 := by
  intro x hx
  unfold prodL at hx
  obtain ⟨j, hj, rfl⟩ := List.mem_iff_getElem.1 hx
  rw [List.getElem_zipWith]
  exact ⟨fo_can f_mul _ _, fo_lt f_mul _ _⟩
theorem sq_can (m x : Nat) : cb (sq m x) = sq m x ∧ sq m x < 18446744073709551616 := ⟨fo_can f_mul _ _, fo_lt f_mul _ _⟩
theorem sqL_can (m : Nat) (L : List Nat) : ∀ x ∈ sqL m L, cb x = x ∧ x < 18446744073709551616 := by
  intro x hx
  obtain ⟨y, _, rfl⟩ := List.mem_map.1 hx
  exact sq_can m y
theorem sqL_at {L : List Nat} (m j : Nat) (h : j < L.length) : (sqL m L).getD j 0 = sq m (L.getD j 0) := by
  simp [sqL, List.getD_eq_getElem?_getD, List.getElem?_eq_getElem h]
theorem made_zero (n : Nat) : (madeCells #[Value.float FloatKind.f64 0] n).toList = (List.replicate n 0).map (Value.float .f64) := (toList_madeCells_one _ _).trans (by simp)

attribute [local go_sem] store_float
set_option maxHeartbeats 2000000 in
set_option maxRecDepth 100000 in
theorem dot_some (b1 o1 cap1 b2 o2 cap2 n : Nat) (A B : List Nat) (w : World) (hA : A.length = n) (hB : B.length = n) (h0 : 0 < n) (hn : n ≤ 1000000) (hw1 : b1 < w.heap.size) (hw2 : b2 < w.heap.size)
    (hx : ∀ j, j < n → w.cell? ⟨b1, o1 + j, none⟩ = some (.float .f64 (A.getD j 0))) (hy : ∀ j, j < n → w.cell? ⟨b2, o2 + j, none⟩ = some (.float .f64 (B.getD j 0))) :
    Calls Try.prog 18 #[.slice (some ⟨b1, o1, none⟩) n cap1, .slice (some ⟨b2, o2, none⟩) n cap2] w fun e w' => (∃ r, e = .returned (.tuple #[.float .f64 r, .int .i64 0]) ∧ r = dotW A B) ∧ Below w.heap.size w w' := by
  obtain ⟨i0, hi, hz0, hz1, hz2⟩ := info_parts info_f64
  have HT : Hid (∀ j, j < n → (prodL A B).getD j 0 = fo .mul (A.getD j 0) (B.getD j 0)) := Lib.hid (fun j hj => prod_at j (by omega) (by omega))
  have HTL : Hid ((prodL A B).length = n) := Lib.hid (by rw [prod_len (by omega), hA])
  have HQ : Hid (∀ (r : Nat), r = sumW (prodL A B) → r = dotW A B) := Lib.hid (fun r h => h)
  have HPC := Lib.hid (prod_can A B)
  generalize prodL A B = T at HT HTL HQ HPC
  obtain ⟨BB, hBB⟩ : ∃ BB, BB = w.heap.size := ⟨_, rfl⟩
  rw [← hBB]
  have HB := Lib.hid hBB
  have HBW : BB ≤ w.heap.size := by omega
  have HB1 : Hid (b1 < BB) := Lib.hid (by omega)
  have HB2 : Hid (b2 < BB) := Lib.hid (by omega)
  have HX := Lib.hid hx
  have HY := Lib.hid hy
  clear hBB hx hy hw1 hw2 hA hB
  go_enter Try.func18, Try.ntmps18
  go_wp2_with (refine wpList_make_full _ rfl _ _ 22 rfl BB 25 i0 (.float .f64 0) 1 Try.underlying22 hi hz0 hz1 .i64 .i64 _ _ n rfl rfl rfl rfl (by rw [hz2]; omega) (by unfold maxLen; omega) (by omega) ?_)
  intro w1 hown hg
  have hown1 : Hid (w1.ownsRow BB 25 1 (.slice (some ⟨w.heap.size, 0, none⟩) n n) n ((List.replicate n 0).map (Value.float .f64))) := Lib.hid (by
    rw [← made_zero]; exact hown)
  have HNX : Hid (Below BB w w1) := Lib.hid ((Below.refl _ _).grown hg HBW (by simp))
  clear hown hg
  go_wp2
  have HBG : BB ≤ w.heap.size := HBW
  generalize w.heap.size = gs at hown1 HBG ⊢
  go_loopw [19] (fun i wr => ∃ (k : Nat) (Q : List Nat), k ≤ n ∧ i = .int .i64 k ∧ Hid (Fil n k T Q) ∧ Hid (wr.ownsRow BB 25 1 (.slice (some ⟨gs, 0, none⟩) n n) n (Q.map (Value.float .f64))) ∧ Hid (Below BB w wr)) (fun i _ => n - (intOf i).toNat)
  case atStart => exact ⟨0, _, Nat.zero_le _, rfl, Lib.hid (fil_start n T), hown1, HNX⟩
  case round =>
    clear hown1 HNX
    obtain ⟨k, Q, hk, rfl, HF, HO, HN⟩ := hrel
    by_cases hlt : k < n
    · have c1 := (HN.out.cell (p := ⟨b1, o1 + k, none⟩) HB1.out).trans (HX.out k hlt)
      have c2 := (HN.out.cell (p := ⟨b2, o2 + k, none⟩) HB2.out).trans (HY.out k hlt)
      have bb1 : (0 : Int) ≤ (k : Int) := by omega
      have bb2 : (k : Int) < (n : Int) := by omega
      have f1 := HO.out.frozenAt k
      obtain ⟨c3, _⟩ := own_cell HO.out k hlt
      have HTK := Lib.hid (HT.out k hlt)
      obtain ⟨x, hx⟩ : ∃ x, x = A.getD k 0 := ⟨_, rfl⟩
      obtain ⟨y, hy⟩ : ∃ y, y = B.getD k 0 := ⟨_, rfl⟩
      obtain ⟨z, hz⟩ : ∃ z, z = Q.getD k 0 := ⟨_, rfl⟩
      rw [← hx] at c1 HTK
      rw [← hy] at c2 HTK
      rw [← hz] at c3
      clear hx hy hz
      obtain ⟨c, n1, hc, hl, r1⟩ := run_foH0 (P := Try.prog) wr .mul f_mul 25 x y
      have HST : Hid (((wr.drewN n1).setCell ⟨gs, k, none⟩ (.float .f64 c)).ownsRow BB 25 1 (.slice (some ⟨gs, 0, none⟩) n n) n ((Q.set k c).map (Value.float .f64)) ∧ Below BB w ((wr.drewN n1).setCell ⟨gs, k, none⟩ (.float .f64 c))) := Lib.hid (by
        have ho : (wr.drewN n1).ownsRow BB 25 1 (.slice (some ⟨gs, 0, none⟩) n n) n (Q.map (Value.float .f64)) := HO.out
        refine ⟨?_, (below_drewN HN.out n1).setCell HBG _⟩
        rw [List.map_set]
        exact (ho.stored k (.float .f64 c)).1)
      have HF2 := Lib.hid (fil_step HF.out hlt (hc.out.trans HTK.out.symm) hl)
      go_wp2
      go_roundw
      case rel => exact ⟨k + 1, _, by omega, by go_num, HF2, Lib.hid HST.out.1, Lib.hid HST.out.2⟩
      case measure => simp [intOf]; omega
    · obtain rfl : k = n := by omega
      clear hlt
      have hge : ¬ ((k : Int) < (k : Int)) := by omega
      have HV := Lib.hid (own_view HO.out h0)
      have hs := sum_any (.slice (some ⟨gs, 0, none⟩) k k) Q wr HV.out (by rw [HF.out.1]; exact hn) HF.out.2.1
      have HE := Lib.hid (HQ.out _ (fil_end HF.out HTL.out HPC.out))
      go_wp2_with (go_at_call 21; refine hs.mono ?_; rintro e w' ⟨rfl, m, rfl⟩)
      go_ret2
      exact ⟨⟨sumW Q, rfl, HE.out⟩, below_drewN HN.out m⟩

set_option maxHeartbeats 2000000 in
set_option maxRecDepth 100000 in
theorem dot_none (a b : Option Addr) (cap1 cap2 : Nat) (w : World) :
    Calls Try.prog 18 #[.slice a 0 cap1, .slice b 0 cap2] w fun e w' => (∃ r, e = .returned (.tuple #[.float .f64 r, .int .i64 0]) ∧ r = dotW [] []) ∧ Below w.heap.size w w' := by
  obtain ⟨i0, hi, hz0, hz1, hz2⟩ := info_parts info_f64
  have HB0 : w.heap.size ≤ w.heap.size := Nat.le_refl _
  go_enter Try.func18, Try.ntmps18
  go_wp2_with (refine wpList_make_full _ rfl _ _ 22 rfl w.heap.size 25 i0 (.float .f64 0) 1 Try.underlying22 hi hz0 hz1 .i64 .i64 _ _ 0 rfl rfl rfl rfl (by rw [hz2]; omega) (by unfold maxLen; omega) HB0 ?_)
  intro w1 hown hg
  have HN : Hid (Below w.heap.size w w1) := Lib.hid ((Below.refl _ _).grown hg HB0 (by simp))
  clear hown hg
  go_wp2
  refine wp_loop_rounds 1 ?_
  rw [rounds_succ]
  have hs := fun a => sum_none a 0 w1
  go_wp2_with (go_at_call 21; refine (hs _).mono ?_; rintro e w' ⟨rfl, m, rfl⟩)
  go_ret2
  exact ⟨⟨sumW [], rfl, rfl⟩, below_drewN HN.out m⟩

set_option maxHeartbeats 2000000 in
theorem dot_off (v u : Value) (A B : List Nat) (w : World) (hv : View w v A) (hu : View w u B) (h : A.length ≠ B.length) :
    Calls Try.prog 18 #[v, u] w fun e w' => e = .returned (.tuple #[.float .f64 0, .int .i64 1]) ∧ w' = w := by
  obtain ⟨a, cap, rfl⟩ := view_len hv
  obtain ⟨b, cap2, rfl⟩ := view_len hu
  clear hv hu
  generalize A.length = n at h ⊢
  generalize B.length = m at h ⊢
  have h' : ¬ ((n : Int) = (m : Int)) := by omega
  go_enter Try.func18, Try.ntmps18
  go_wp2
  go_ret2
  exact ⟨rfl, rfl⟩

theorem dot_any (v u : Value) (A B : List Nat) (w : World) (hv : View w v A) (hu : View w u B) (h : A.length = B.length) (hn : A.length ≤ 1000000) :
    Calls Try.prog 18 #[v, u] w fun e w' => (∃ r, e = .returned (.tuple #[.float .f64 r, .int .i64 0]) ∧ r = dotW A B) ∧ Below w.heap.size w w' := by
  by_cases h0 : 0 < A.length
  · obtain ⟨b1, o1, c1, rfl, hw1, hx⟩ := view_pos hv h0
    obtain ⟨b2, o2, c2, rfl, hw2, hy⟩ := view_pos hu (by omega)
    rw [← h] at hy ⊢
    exact dot_some b1 o1 c1 b2 o2 c2 A.length A B w rfl h.symm h0 hn hw1 hw2 hx hy
  · obtain rfl : A = [] := List.eq_nil_of_length_eq_zero (by omega)
    obtain rfl : B = [] := List.eq_nil_of_length_eq_zero (by simpa using h.symm)
    obtain ⟨a, cap, rfl⟩ := view_len hv
    obtain ⟨b, cap2, rfl⟩ := view_len hu
    exact dot_none a b cap cap2 w

set_option maxHeartbeats 2000000 in
set_option maxRecDepth 100000 in
theorem spread_some (b1 o1 cap1 n : Nat) (A : List Nat) (w : World) (hA : A.length = n) (h0 : 0 < n) (hn : n ≤ 1000000) (hw1 : b1 < w.heap.size)
    (hx : ∀ j, j < n → w.cell? ⟨b1, o1 + j, none⟩ = some (.float .f64 (A.getD j 0))) (hf : ∀ x ∈ A, x < 18446744073709551616) :
    Calls Try.prog 16 #[.slice (some ⟨b1, o1, none⟩) n cap1] w fun e w' => (∃ r, e = .returned (.tuple #[.float .f64 r, .int .i64 0]) ∧ r = spreadW A) ∧ Below w.heap.size w w' := by
  obtain ⟨i0, hi, hz0, hz1, hz2⟩ := info_parts info_f64
  have hm := mean_any (.slice (some ⟨b1, o1, none⟩) A.length cap1) A w (.inr (.inr ⟨b1, o1, cap1, rfl, by omega, hw1, by rw [hA]; exact hx⟩)) (by omega) (by omega) hf
  rw [hA] at hm
  have HT : Hid (∀ j, j < n → (sqL (meanW A) A).getD j 0 = sq (meanW A) (A.getD j 0)) := Lib.hid (fun j hj => sqL_at _ j (by omega))
  have HTL : Hid ((sqL (meanW A) A).length = n) := Lib.hid (by simp [sqL, hA])
  have HQ : Hid (fo .quo (sumW (sqL (meanW A) A)) (floatOfInt .f64 (n : Int)) = spreadW A) := Lib.hid (by rw [← hA]; rfl)
  have HPC := Lib.hid (sqL_can (meanW A) A)
  have hml : meanW A < 18446744073709551616 := fo_lt f_quo _ _
  generalize sqL (meanW A) A = T at HT HTL HQ HPC
  generalize meanW A = mu at HT hm hml
  obtain ⟨BB, hBB⟩ : ∃ BB, BB = w.heap.size := ⟨_, rfl⟩
  rw [← hBB]
  have HB := Lib.hid hBB
  have HBW : BB ≤ w.heap.size := by omega
  have HB1 : Hid (b1 < BB) := Lib.hid (by omega)
  have HX := Lib.hid hx
  have HFA := Lib.hid hf
  have HA := Lib.hid hA
  have h0' : ¬ ((n : Int) = 0) := by omega
  clear hBB hx hw1 hA hf
  go_enter Try.func16, Try.ntmps16
  go_wp2_with (first | (go_at_call 14; refine hm.mono ?_; rintro e w' ⟨rfl, m0, rfl⟩) | (refine wpList_make_full _ rfl _ _ 22 rfl BB 25 i0 (.float .f64 0) 1 Try.underlying22 hi hz0 hz1 .i64 .i64 _ _ n rfl rfl rfl rfl (by rw [hz2]; omega) (by unfold maxLen; omega) (by first | omega | (show BB ≤ w.heap.size; omega)) ?_))
  intro w1 hown hg
  have hown1 : Hid (w1.ownsRow BB 25 1 (.slice (some ⟨w.heap.size, 0, none⟩) n n) n ((List.replicate n 0).map (Value.float .f64))) := Lib.hid (by
    rw [← made_zero]; exact hown)
  have HNX : Hid (Below BB w w1) := Lib.hid ((below_drewN (Below.refl _ _) m0).grown hg HBW (by simp))
  clear hown hg hm
  go_wp2
  have HBG : BB ≤ w.heap.size := HBW
  generalize w.heap.size = gs at hown1 HBG ⊢
  go_loopw [22] (fun i wr => ∃ (k : Nat) (Q : List Nat), k ≤ n ∧ i = .int .i64 k ∧ Hid (Fil n k T Q) ∧ Hid (wr.ownsRow BB 25 1 (.slice (some ⟨gs, 0, none⟩) n n) n (Q.map (Value.float .f64))) ∧ Hid (Below BB w wr)) (fun i _ => n - (intOf i).toNat)
  case atStart => exact ⟨0, _, Nat.zero_le _, rfl, Lib.hid (fil_start n T), hown1, HNX⟩
  case round =>
    clear hown1 HNX
    obtain ⟨k, Q, hk, rfl, HF, HO, HN⟩ := hrel
    by_cases hlt : k < n
    · have c1 := (HN.out.cell (p := ⟨b1, o1 + k, none⟩) HB1.out).trans (HX.out k hlt)
      have bb1 : (0 : Int) ≤ (k : Int) := by omega
      have bb2 : (k : Int) < (n : Int) := by omega
      have f1 := HO.out.frozenAt k
      obtain ⟨c3, _⟩ := own_cell HO.out k hlt
      have HTK := Lib.hid (HT.out k hlt)
      obtain ⟨x, hx⟩ : ∃ x, x = A.getD k 0 := ⟨_, rfl⟩
      obtain ⟨z, hz⟩ : ∃ z, z = Q.getD k 0 := ⟨_, rfl⟩
      rw [← hx] at c1 HTK
      rw [← hz] at c3
      clear hx hz
      obtain ⟨d1, n1, hd1, hl1, r1⟩ := run_foH0 (P := Try.prog) wr .sub f_sub 25 x mu
      obtain ⟨d2, n2, hd2, hl2, r2⟩ := run_foH (P := Try.prog) wr n1 .sub f_sub 25 x mu
      obtain ⟨c, n3, hc, hl, r3⟩ := run_foH (P := Try.prog) wr n2 .mul f_mul 25 d1 d2
      have HST : Hid (((wr.drewN n3).setCell ⟨gs, k, none⟩ (.float .f64 c)).ownsRow BB 25 1 (.slice (some ⟨gs, 0, none⟩) n n) n ((Q.set k c).map (Value.float .f64)) ∧ Below BB w ((wr.drewN n3).setCell ⟨gs, k, none⟩ (.float .f64 c))) := Lib.hid (by
        have ho : (wr.drewN n3).ownsRow BB 25 1 (.slice (some ⟨gs, 0, none⟩) n n) n (Q.map (Value.float .f64)) := HO.out
        refine ⟨?_, (below_drewN HN.out n3).setCell HBG _⟩
        rw [List.map_set]
        exact (ho.stored k (.float .f64 c)).1)
      have HCC : Hid (cb c = sq mu x) := Lib.hid (by
        rw [hc.out]
        exact fo_congr f_mul hl1 hl2 (fo_lt f_sub _ _) (fo_lt f_sub _ _) (by rw [hd1.out, fo_can f_sub]) (by rw [hd2.out, fo_can f_sub]))
      have HF2 := Lib.hid (fil_step HF.out hlt (HCC.out.trans HTK.out.symm) hl)
      go_wp2
      go_roundw
      case rel => exact ⟨k + 1, _, by omega, by go_num, HF2, Lib.hid HST.out.1, Lib.hid HST.out.2⟩
      case measure => simp [intOf]; omega
    · obtain rfl : k = n := by omega
      clear hlt
      have hge : ¬ ((k : Int) < (k : Int)) := by omega
      have HV := Lib.hid (own_view HO.out h0)
      have hs := mean_some (some ⟨gs, 0, none⟩) k k (sumW Q) wr h0 (sum_any (.slice (some ⟨gs, 0, none⟩) k k) Q wr HV.out (by rw [HF.out.1]; exact hn) HF.out.2.1)
      have HE : Hid (∀ r, r = fo .quo (sumW Q) (floatOfInt .f64 (k : Int)) → r = spreadW A) := Lib.hid (fun r h => by rw [h, fil_end HF.out HTL.out HPC.out, HQ.out])
      go_wp2_with (go_at_call 14; refine hs.mono ?_; rintro e w' ⟨⟨r, rfl, hr⟩, m, rfl⟩; have HR := Lib.hid hr; clear hr)
      go_ret2
      exact ⟨⟨r, rfl, HE.out r HR.out⟩, below_drewN HN.out m⟩

set_option maxHeartbeats 2000000 in
theorem spread_none (v : Value) (w : World) (hv : View w v []) :
    Calls Try.prog 16 #[v] w fun e w' => e = .returned (.tuple #[.float .f64 0, .int .i64 14]) ∧ w' = w := by
  have hm := mean_none v w hv
  obtain ⟨a, cap, rfl⟩ := view_len hv
  clear hv
  go_enter Try.func16, Try.ntmps16
  go_wp2_with (go_at_call 14; refine hm.mono ?_; rintro e w' ⟨rfl, rfl⟩)
  go_ret2
  exact ⟨rfl, rfl⟩

theorem spread_any (v : Value) (A : List Nat) (w : World) (hv : View w v A) (h0 : 0 < A.length) (hn : A.length ≤ 1000000) (hf : ∀ x ∈ A, x < 18446744073709551616) :
    Calls Try.prog 16 #[v] w fun e w' => (∃ r, e = .returned (.tuple #[.float .f64 r, .int .i64 0]) ∧ r = spreadW A) ∧ Below w.heap.size w w' := by
  obtain ⟨b1, o1, c1, rfl, hw1, hx⟩ := view_pos hv h0
  exact spread_some b1 o1 c1 A.length A w rfl h0 hn hw1 hx hf

end Go.Proofs.Ytphhonpibmbjmaa
