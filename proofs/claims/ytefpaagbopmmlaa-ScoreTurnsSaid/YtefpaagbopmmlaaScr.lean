/- Proved: what the landed Score gives of a zone, and the document's own: the same plain function of its numbers. -/
import Derived.Test.YtefpaagbopmmlaaSco
namespace Go.Proofs.Ytefpaagbopmmlaa
open Go.RowKit Fl

/-- May a zone be judged at this time? -/
def Jdg (l s t now : Int) : Prop := Vld l s t ∧ t ≤ now ∧ now ≤ 1099511627776
instance (l s t now : Int) : Decidable (Jdg l s t now) := by unfold Jdg; infer_instance
/-- A zone's score. -/
def scV (l s t now : Int) : Nat := if s = 0 then 9221120237041090560 else if l = 0 then 9218868437227405312 else scoreW (useW l s) (now - t)
theorem sr_at {x : Nat} (h : x ≤ 9218868437227405312) : sr x = (x : Int) := sr_pos x (by omega)
theorem ord_nums {x y : Nat} (hx : x ≤ 9218868437227405312) (hy : y ≤ 9218868437227405312) : FloatKind.f64.format.order x y = some (if x < y then .lt else if x = y then .eq else .gt) := by
  rcases Nat.lt_trichotomy x y with h | h | h
  · rw [if_pos h]; exact ord_lt _ _ (by omega) (by omega) (small_num hx) (small_num hy) (by rw [sr_at hx, sr_at hy]; omega)
  · rw [if_neg (by omega), if_pos h]; exact ord_eq _ _ (by omega) (by omega) (small_num hx) (small_num hy) (by rw [sr_at hx, sr_at hy]; omega)
  · rw [if_neg (by omega), if_neg (by omega)]; exact ord_gt _ _ (by omega) (by omega) (small_num hx) (small_num hy) (by rw [sr_at hx, sr_at hy]; omega)
theorem ord_above {x : Nat} (h0 : 0 < x) (h : x ≤ 9218868437227405312) : FloatKind.f64.format.order x 0 = some .gt := by
  rw [ord_nums h (by decide), if_neg (by omega), if_neg (by omega)]
theorem one_by_nought : fo .quo 4607182418800017408 0 = 9218868437227405312 := by decide +kernel
/-- The numbers of the formula, each a number. -/
theorem formula {u : Nat} {age : Int} (h : u ≤ 4607182418800017408) (h0 : 0 ≤ age) (h1 : age ≤ 1099511627776) :
    isN (fo .sub 4607182418800017408 u) = false ∧ isN (fo .mul (fo .sub 4607182418800017408 u) (iw age)) = false ∧ isN (fo .add 4607182418800017408 u) = false ∧ isN (scoreW u age) = false := by
  obtain ⟨a1, a2, a3, a4, a5⟩ := one_parts u h
  obtain ⟨b1, b2, b3⟩ := score_parts u age h h0 (by omega)
  have c := (score_facts u age h h0 (by omega)).1
  refine ⟨by rw [a1]; exact small_num (by omega), by rw [b1]; exact small_num (by omega), by rw [a3]; exact small_num (by omega), small_num (by omega)⟩

theorem scV_lt {l s t now : Int} (h : Jdg l s t now) : scV l s t now < 18446744073709551616 := by
  unfold scV
  split
  · omega
  · split
    · omega
    · obtain ⟨⟨h1, h2, h3, h4, h5⟩, h6, h7⟩ := h
      have := (score_facts (useW l s) (now - t) (use_facts l s h1 h2 (by omega) h3).1 (by omega) (by omega)).1
      omega


set_option maxHeartbeats 2000000 in
theorem score_no (l s t now : Int) (w : World) (h : ¬ Jdg l s t now) : Calls Try.prog 11 #[zv l s t, .int .i64 now] w (Gives (.tuple #[.float .f64 0, .int .i64 1]) w) := by
  by_cases hv : Vld l s t
  · have hu := fun w => use_yes l s t w hv
    unfold zv at *
    have HU := Lib.hid hu
    clear hu
    generalize useV l s = u at HU
    by_cases h1 : now < t
    · clear h hv
      go_enter Try.func11, Try.ntmps11
      go_wp2_with (go_at_call 9; refine (HU.out _).mono ?_; rintro e w2 ⟨rfl, hb⟩; obtain ⟨k0, k1, k2, hb2⟩ := box_at hb; have HB := Lib.hid hb2; clear hb hb2)
      go_ret2
      exact ⟨rfl, HB.out⟩
    · have h2 : 1099511627776 < now := by
        rcases Int.lt_or_le 1099511627776 now with k | k
        · exact k
        · exact absurd ⟨hv, by omega, k⟩ h
      have h1' : decide (now < t) = false := decide_eq_false h1
      clear h hv
      go_enter Try.func11, Try.ntmps11
      go_wp2_with (go_at_call 9; refine (HU.out _).mono ?_; rintro e w2 ⟨rfl, hb⟩; obtain ⟨k0, k1, k2, hb2⟩ := box_at hb; have HB := Lib.hid hb2; clear hb hb2)
      go_ret2
      exact ⟨rfl, HB.out⟩
  · have hu := fun w => use_no l s t w hv
    unfold zv at *
    have HU := Lib.hid hu
    clear hu h hv
    go_enter Try.func11, Try.ntmps11
    go_wp2_with (go_at_call 9; refine (HU.out _).mono ?_; rintro e w2 ⟨rfl, hb⟩; obtain ⟨k0, k1, k2, hb2⟩ := box_at hb; have HB := Lib.hid hb2; clear hb hb2)
    go_ret2
    exact ⟨rfl, HB.out⟩

set_option maxHeartbeats 2000000 in
theorem score_yes (l s t now : Int) (w : World) (h : Jdg l s t now) : Calls Try.prog 11 #[zv l s t, .int .i64 now] w (Gives (.tuple #[.float .f64 (scV l s t now), .int .i64 0]) w) := by
  obtain ⟨hv, ht, hn⟩ := h
  have hu := fun w => use_yes l s t w hv
  have ht' : ¬ (now < t) := by omega
  have ht2 : decide (now < t) = false := decide_eq_false ht'
  have hn' : ¬ (1099511627776 < now) := by omega
  have hn2 : decide (1099511627776 < now) = false := decide_eq_false hn'
  by_cases hs : s = 0
  · have e1 : useV l s = 9221120237041090560 := if_pos hs
    have e2 : scV l s t now = 9221120237041090560 := if_pos hs
    rw [e1] at hu
    rw [e2]
    have o1 : FloatKind.f64.format.order 9221120237041090560 9221120237041090560 = none := ord_nan_l _ _ (by decide) (by decide)
    unfold zv at *
    have HU := Lib.hid hu
    clear hu e1 e2 hs hv
    go_enter Try.func11, Try.ntmps11
    go_wp2_with (go_at_call 9; refine (HU.out _).mono ?_; rintro e w2 ⟨rfl, hb⟩; obtain ⟨k0, k1, k2, hb2⟩ := box_at hb; have HB := Lib.hid hb2; clear hb hb2)
    go_ret2
    exact ⟨rfl, HB.out⟩
  · have hs1 : 1 ≤ s := by have := hv.1; have := hv.2.1; omega
    obtain ⟨f1, f2, f3, f4, f5⟩ := use_facts l s hv.1 hv.2.1 hs1 hv.2.2.1
    have e1 : useV l s = useW l s := if_neg hs
    rw [e1] at hu
    by_cases hl : l = 0
    · have e2 : scV l s t now = 9218868437227405312 := by unfold scV; rw [if_neg hs, if_pos hl]
      rw [e2]
      rw [f4.2 hl] at hu
      have o1 : FloatKind.f64.format.order 0 0 = some .eq := ord_self _ (by decide) (by decide)
      have r1 := fun w => run_num (P := Try.prog) (op := .quo) (a := 4607182418800017408) (b := 0) 24 (by rw [one_by_nought]; decide) w
      rw [one_by_nought] at r1
      unfold zv at *
      have HU := Lib.hid hu
      clear hu e1 e2 hs hv hl f1 f2 f3 f4 f5 hs1
      go_enter Try.func11, Try.ntmps11
      go_wp2_with (go_at_call 9; refine (HU.out _).mono ?_; rintro e w2 ⟨rfl, hb⟩; obtain ⟨k0, k1, k2, hb2⟩ := box_at hb; have HB := Lib.hid hb2; clear hb hb2)
      go_ret2
      exact ⟨rfl, HB.out⟩
    · have e2 : scV l s t now = scoreW (useW l s) (now - t) := by unfold scV; rw [if_neg hs, if_neg hl]
      have hu0 : 0 < useW l s := Nat.pos_of_ne_zero (fun k => hl (f4.1 k))
      have tt := hv.2.2.2.1
      rw [e2]
      generalize useW l s = u at hu f1 hu0 ⊢
      have o1 : FloatKind.f64.format.order u u = some .eq := ord_self _ (by omega) (small_num (by omega))
      have o2 : FloatKind.f64.format.order u 0 = some .gt := ord_above hu0 (by omega)
      obtain ⟨n1, n2, n3, n4⟩ := formula f1 (show 0 ≤ now - t by omega) (by omega)
      have r1 := fun w => run_num (P := Try.prog) 24 n1 w
      have r2 := fun w => run_num (P := Try.prog) 24 n2 w
      have r3 := fun w => run_num (P := Try.prog) 24 n3 w
      have r4 := fun w => run_num (P := Try.prog) 24 n4 w
      have HR : Hid (fo .quo (fo .mul (fo .sub 4607182418800017408 u) (iw (now - t))) (fo .add 4607182418800017408 u) = scoreW u (now - t)) := Lib.hid rfl
      unfold iw at r2 r4 HR
      generalize fo .mul (fo .sub 4607182418800017408 u) (floatOfInt .f64 (now - t)) = p at r2 r4 HR
      generalize fo .sub 4607182418800017408 u = d at r1 r2
      generalize fo .add 4607182418800017408 u = q at r3 r4 HR
      generalize scoreW u (now - t) = r at r4 HR
      have r4' : ∀ w, (binOp .quo 24 (.float .f64 p) (.float .f64 q)).run Try.prog w = .ok (.float .f64 r) w := fun w => by
        have := r4 w
        rwa [HR.out] at this
      unfold zv at *
      have HU := Lib.hid hu
      clear hu e1 e2 hs hv hl f1 f2 f3 f4 f5 hs1 hu0 n1 n2 n3 n4 r4 HR
      go_enter Try.func11, Try.ntmps11
      go_wp2_with (go_at_call 9; refine (HU.out _).mono ?_; rintro e w2 ⟨rfl, hb⟩; obtain ⟨k0, k1, k2, hb2⟩ := box_at hb; have HB := Lib.hid hb2; clear hb hb2)
      go_ret2
      exact ⟨rfl, HB.out⟩

set_option maxHeartbeats 2000000 in
theorem rscore_no (l s t now : Int) (w : World) (h : ¬ Jdg l s t now) : Calls Try.prog 12 #[zv l s t, .int .i64 now] w (Gives (.tuple #[.float .f64 0, .int .i64 1]) w) := by
  by_cases hv : Vld l s t
  · have hu := fun w => ruse_yes l s t w hv
    unfold zv at *
    have HU := Lib.hid hu
    clear hu
    generalize useV l s = u at HU
    by_cases h1 : now < t
    · clear h hv
      go_enter Try.func12, Try.ntmps12
      go_wp2_with (go_at_call 10; refine (HU.out _).mono ?_; rintro e w2 ⟨rfl, hb⟩; obtain ⟨k0, k1, k2, hb2⟩ := box_at hb; have HB := Lib.hid hb2; clear hb hb2)
      go_ret2
      exact ⟨rfl, HB.out⟩
    · have h2 : 1099511627776 < now := by
        rcases Int.lt_or_le 1099511627776 now with k | k
        · exact k
        · exact absurd ⟨hv, by omega, k⟩ h
      have h1' : decide (now < t) = false := decide_eq_false h1
      clear h hv
      go_enter Try.func12, Try.ntmps12
      go_wp2_with (go_at_call 10; refine (HU.out _).mono ?_; rintro e w2 ⟨rfl, hb⟩; obtain ⟨k0, k1, k2, hb2⟩ := box_at hb; have HB := Lib.hid hb2; clear hb hb2)
      go_ret2
      exact ⟨rfl, HB.out⟩
  · have hu := fun w => ruse_no l s t w hv
    unfold zv at *
    have HU := Lib.hid hu
    clear hu h hv
    go_enter Try.func12, Try.ntmps12
    go_wp2_with (go_at_call 10; refine (HU.out _).mono ?_; rintro e w2 ⟨rfl, hb⟩; obtain ⟨k0, k1, k2, hb2⟩ := box_at hb; have HB := Lib.hid hb2; clear hb hb2)
    go_ret2
    exact ⟨rfl, HB.out⟩

set_option maxHeartbeats 2000000 in
theorem rscore_yes (l s t now : Int) (w : World) (h : Jdg l s t now) : Calls Try.prog 12 #[zv l s t, .int .i64 now] w (Gives (.tuple #[.float .f64 (scV l s t now), .int .i64 0]) w) := by
  obtain ⟨hv, ht, hn⟩ := h
  have hu := fun w => ruse_yes l s t w hv
  have ht' : ¬ (now < t) := by omega
  have ht2 : decide (now < t) = false := decide_eq_false ht'
  have hn' : ¬ (1099511627776 < now) := by omega
  have hn2 : decide (1099511627776 < now) = false := decide_eq_false hn'
  by_cases hs : s = 0
  · have e1 : useV l s = 9221120237041090560 := if_pos hs
    have e2 : scV l s t now = 9221120237041090560 := if_pos hs
    rw [e1] at hu
    rw [e2]
    have hf := rfrom_as 9221120237041090560 9221120237041090560 (by omega) (by omega) (Lib.hid (by decide))
    have s1 : (s == 0) = true := by rw [beq_iff_eq]; exact hs
    unfold zv at *
    have HU := Lib.hid hu
    clear hu e1 e2 hs hv
    go_enter Try.func12, Try.ntmps12
    go_wp2_with (first | (go_at_call 10; refine (HU.out _).mono ?_; rintro e w2 ⟨rfl, hb⟩; obtain ⟨k0, k1, k2, hb2⟩ := box_at hb; have HB := Lib.hid hb2; clear hb hb2) | (go_at_call 25; refine (hf _).mono ?_; rintro e w' ⟨rfl, rfl⟩))
    go_ret2
    exact ⟨rfl, HB.out⟩
  · have hs1 : 1 ≤ s := by have := hv.1; have := hv.2.1; omega
    obtain ⟨f1, f2, f3, f4, f5⟩ := use_facts l s hv.1 hv.2.1 hs1 hv.2.2.1
    have e1 : useV l s = useW l s := if_neg hs
    have s1 : (s == 0) = false := by rw [beq_eq_false_iff_ne]; exact hs
    rw [e1] at hu
    by_cases hl : l = 0
    · have e2 : scV l s t now = 9218868437227405312 := by unfold scV; rw [if_neg hs, if_pos hl]
      rw [e2]
      have hf := rfrom_as 9218868437227405312 9218868437227405312 (by omega) (by omega) (Lib.hid (by decide))
      have l1 : (l == 0) = true := by rw [beq_iff_eq]; exact hl
      unfold zv at *
      have HU := Lib.hid hu
      clear hu e1 e2 hs hv hl f1 f2 f3 f4 f5 hs1
      generalize useW l s = u at HU
      go_enter Try.func12, Try.ntmps12
      go_wp2_with (first | (go_at_call 10; refine (HU.out _).mono ?_; rintro e w2 ⟨rfl, hb⟩; obtain ⟨k0, k1, k2, hb2⟩ := box_at hb; have HB := Lib.hid hb2; clear hb hb2) | (go_at_call 25; refine (hf _).mono ?_; rintro e w' ⟨rfl, rfl⟩))
      go_ret2
      exact ⟨rfl, HB.out⟩
    · have e2 : scV l s t now = scoreW (useW l s) (now - t) := by unfold scV; rw [if_neg hs, if_neg hl]
      have tt := hv.2.2.2.1
      have l1 : (l == 0) = false := by rw [beq_eq_false_iff_ne]; exact hl
      rw [e2]
      generalize useW l s = u at hu f1 ⊢
      obtain ⟨n1, n2, n3, n4⟩ := formula f1 (show 0 ≤ now - t by omega) (by omega)
      have r1 := fun w => run_num (P := Try.prog) 24 n1 w
      have r2 := fun w => run_num (P := Try.prog) 24 n2 w
      have r3 := fun w => run_num (P := Try.prog) 24 n3 w
      have r4 := fun w => run_num (P := Try.prog) 24 n4 w
      have HR : Hid (fo .quo (fo .mul (fo .sub 4607182418800017408 u) (iw (now - t))) (fo .add 4607182418800017408 u) = scoreW u (now - t)) := Lib.hid rfl
      unfold iw at r2 r4 HR
      generalize fo .mul (fo .sub 4607182418800017408 u) (floatOfInt .f64 (now - t)) = p at r2 r4 HR
      generalize fo .sub 4607182418800017408 u = d at r1 r2
      generalize fo .add 4607182418800017408 u = q at r3 r4 HR
      generalize scoreW u (now - t) = r at r4 HR
      have r4' : ∀ w, (binOp .quo 24 (.float .f64 p) (.float .f64 q)).run Try.prog w = .ok (.float .f64 r) w := fun w => by
        have := r4 w
        rwa [HR.out] at this
      unfold zv at *
      have HU := Lib.hid hu
      clear hu e1 e2 hs hv hl f1 f2 f3 f4 f5 hs1 n1 n2 n3 n4 r4 HR
      go_enter Try.func12, Try.ntmps12
      go_wp2_with (go_at_call 10; refine (HU.out _).mono ?_; rintro e w2 ⟨rfl, hb⟩; obtain ⟨k0, k1, k2, hb2⟩ := box_at hb; have HB := Lib.hid hb2; clear hb hb2)
      go_ret2
      exact ⟨rfl, HB.out⟩

end Go.Proofs.Ytefpaagbopmmlaa
