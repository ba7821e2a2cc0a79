/- Proved: what the landed Use and Score give of a zone, and the document's own: the same plain functions of its numbers. -/
import Derived.Test.YtefpaagbopmmlaaUse
namespace Go.Proofs.Ytefpaagbopmmlaa
open Go.RowKit Fl

/-- The box of a zone behind a call that makes memory alone. -/
theorem box_at {w w2 : World} {l s t : Int} (hb : Below (w.alloc (.cells #[.int .i64 l, .int .i64 s, .int .i64 t] 23)).heap.size (w.alloc (.cells #[.int .i64 l, .int .i64 s, .int .i64 t] 23)) w2) :
    w2.cell? ⟨w.heap.size, 0, none⟩ = some (.int .i64 l) ∧ w2.cell? ⟨w.heap.size, 1, none⟩ = some (.int .i64 s) ∧ w2.cell? ⟨w.heap.size, 2, none⟩ = some (.int .i64 t) ∧ Below w.heap.size w w2 :=
  ⟨(hb.cell (p := ⟨w.heap.size, 0, none⟩) (by simp)).trans (by simp [go_sem]), (hb.cell (p := ⟨w.heap.size, 1, none⟩) (by simp)).trans (by simp [go_sem]), (hb.cell (p := ⟨w.heap.size, 2, none⟩) (by simp)).trans (by simp [go_sem]),
    (below_alloc w _).trans (hb.mono (by simp))⟩
theorem fo_some {op : BinOp} {a b : Nat} (h : isN (fo op a b) = false) : floatBits op .f64 a b = some (fo op a b) := by
  unfold fo at *
  cases hh : floatBits op .f64 a b with
  | none => rw [hh] at h; exact absurd h (by decide)
  | some c => rfl
theorem small_num {x : Nat} (h : x ≤ 9218868437227405312) : isN x = false := by unfold isN; exact decide_eq_false (by omega)
theorem run_num {P : Program} {op : BinOp} {a b : Nat} (t : TypeId) (h : isN (fo op a b) = false) (w : World) : (binOp op t (.float .f64 a) (.float .f64 b)).run P w = .ok (.float .f64 (fo op a b)) w :=
  run_float_arith (P := P) w op t .f64 a b _ (fo_some h)

set_option maxHeartbeats 400000 in
theorem clean_num (b : Nat) (hb : b < 18446744073709551616) (hn : isN b = false) (w : World) :
    Calls Try.prog 24 #[.float .f64 b] w fun e w' => e = .returned (.float .f64 b) ∧ w = w' := by
  have h1 : (FloatKind.f64.format.order b b != some .eq) = false := cmp_self b hb hn
  go_enter Try.func24, Try.ntmps24
  go_wp2
  go_ret
  exact ⟨rfl, rfl⟩
set_option maxHeartbeats 400000 in
theorem clean_nan (b : Nat) (hb : b < 18446744073709551616) (hn : isN b = true) (w : World) :
    Calls Try.prog 24 #[.float .f64 b] w fun e w' => e = .returned (.float .f64 9221120237041090560) ∧ w = w' := by
  have h1 : (FloatKind.f64.format.order b b != some .eq) = true := cmp_nan b hb hn
  have hf := rfrom_as 9221120237041090560 9221120237041090560 (by omega) (by omega) (Lib.hid (by decide))
  go_enter Try.func24, Try.ntmps24
  go_wp2_with (go_at_call 25; refine (hf _).mono ?_; rintro e w' ⟨rfl, rfl⟩)
  go_ret
  exact ⟨rfl, rfl⟩

/-- A use, and its error. -/
def useV (l s : Int) : Nat := if s = 0 then 9221120237041090560 else useW l s
theorem use_num {l s t : Int} (h : Vld l s t) (hs : 1 ≤ s) : useW l s ≤ 4607182418800017408 ∧ isN (useW l s) = false := by
  obtain ⟨h1, h2, h3, _, _⟩ := h
  have := (use_facts l s h1 h2 hs h3).1
  exact ⟨this, small_num (by omega)⟩
theorem useV_lt {l s t : Int} (h : Vld l s t) : useV l s < 18446744073709551616 := by
  unfold useV
  split
  · omega
  · have := (use_num h (by have := h.1; have := h.2.1; omega)).1; omega
theorem iw_wf (z : Int) : iw z < 18446744073709551616 := iw_lt z
theorem nought_quo : fo .quo (iw 0) (iw 0) = 9221120237041090560 := by decide +kernel

set_option maxHeartbeats 1000000 in
theorem use_yes (l s t : Int) (w : World) (h : Vld l s t) : Calls Try.prog 9 #[zv l s t] w (Gives (.tuple #[.float .f64 (useV l s), .int .i64 0]) w) := by
  have hv := fun w => valid_yes l s t w h
  have hq : ∀ w1 : World, ∃ c n, Hid (cb c = useV l s) ∧ c < 18446744073709551616 ∧ (binOp .quo 24 (.float .f64 (floatOfInt .f64 l)) (.float .f64 (floatOfInt .f64 s))).run Try.prog w1 = .ok (.float .f64 c) (w1.drewN n) := fun w1 => by
    obtain ⟨c, n, h1, h2, h3⟩ := run_fo0 (P := Try.prog) w1 .quo f_quo 24 (iw l) (iw s)
    refine ⟨c, n, Lib.hid ?_, h2, h3⟩
    rw [h1]
    unfold useV
    split
    · rename_i hs
      subst hs
      obtain rfl : l = 0 := by have := h.1; have := h.2.1; omega
      exact nought_quo
    · rfl
  unfold zv at *
  have HV := Lib.hid hv
  have HQ := Lib.hid hq
  clear hv hq h
  go_enter Try.func9, Try.ntmps9
  go_wp2_with (first
    | (go_at_call 21; refine (HV.out _).mono ?_; rintro e w2 ⟨rfl, hb⟩; obtain ⟨k0, k1, k2, hb2⟩ := box_at hb; have HB := Lib.hid hb2; clear hb hb2; obtain ⟨c, n, hcc, hc64, hrun⟩ := HQ.out w2)
    | (go_at_call 22; refine (fcanon_any _ (by assumption) _).mono ?_; rintro e w' ⟨rfl, rfl⟩))
  go_ret2
  exact ⟨by rw [← hcc.out]; rfl, below_drewN HB.out n⟩
set_option maxHeartbeats 1000000 in
theorem use_no (l s t : Int) (w : World) (h : ¬ Vld l s t) : Calls Try.prog 9 #[zv l s t] w (Gives (.tuple #[.float .f64 0, .int .i64 1]) w) := by
  have hv := fun w => valid_no l s t w h
  unfold zv at *
  have HV := Lib.hid hv
  clear hv h
  go_enter Try.func9, Try.ntmps9
  go_wp2_with (go_at_call 21; refine (HV.out _).mono ?_; rintro e w2 ⟨rfl, hb⟩; obtain ⟨k0, k1, k2, hb2⟩ := box_at hb; have HB := Lib.hid hb2; clear hb hb2)
  go_ret2
  exact ⟨rfl, HB.out⟩
set_option maxHeartbeats 1000000 in
theorem ruse_yes (l s t : Int) (w : World) (h : Vld l s t) : Calls Try.prog 10 #[zv l s t] w (Gives (.tuple #[.float .f64 (useV l s), .int .i64 0]) w) := by
  have hv := fun w => may_yes l s t w h
  have hq : ∀ w1 : World, ∃ c n, Hid (∀ w, Calls Try.prog 24 #[.float .f64 c] w fun e w' => e = .returned (.float .f64 (useV l s)) ∧ w = w') ∧ (binOp .quo 24 (.float .f64 (floatOfInt .f64 l)) (.float .f64 (floatOfInt .f64 s))).run Try.prog w1 = .ok (.float .f64 c) (w1.drewN n) := fun w1 => by
    obtain ⟨c, n, h1, h2, h3⟩ := run_fo0 (P := Try.prog) w1 .quo f_quo 24 (iw l) (iw s)
    refine ⟨c, n, Lib.hid ?_, h3⟩
    unfold useV
    split
    · rename_i hs
      subst hs
      obtain rfl : l = 0 := by have := h.1; have := h.2.1; omega
      rw [nought_quo] at h1
      exact fun w => clean_nan c h2 ((cb_nan_iff c).2 h1) w
    · rename_i hs
      have hnn := (use_num h (by have := h.1; have := h.2.1; omega)).2
      have e : c = useW l s := by
        have h4 : isN c = false := by
          rw [← isN_cb, h1]; exact hnn
        rw [cb_num c h4] at h1; exact h1
      rw [e] at h2 ⊢
      exact fun w => clean_num _ h2 hnn w
  unfold zv at *
  have HV := Lib.hid hv
  have HQ := Lib.hid hq
  clear hv hq h
  go_enter Try.func10, Try.ntmps10
  go_wp2_with (first
    | (go_at_call 23; refine (HV.out _).mono ?_; rintro e w2 ⟨rfl, hb⟩; obtain ⟨k0, k1, k2, hb2⟩ := box_at hb; have HB := Lib.hid hb2; clear hb hb2; obtain ⟨c, n, hcl, hrun⟩ := HQ.out w2)
    | (go_at_call 24; refine (hcl.out _).mono ?_; rintro e w' ⟨rfl, rfl⟩))
  go_ret2
  exact ⟨rfl, below_drewN HB.out n⟩
set_option maxHeartbeats 1000000 in
theorem ruse_no (l s t : Int) (w : World) (h : ¬ Vld l s t) : Calls Try.prog 10 #[zv l s t] w (Gives (.tuple #[.float .f64 0, .int .i64 1]) w) := by
  have hv := fun w => may_no l s t w h
  unfold zv at *
  have HV := Lib.hid hv
  clear hv h
  go_enter Try.func10, Try.ntmps10
  go_wp2_with (go_at_call 23; refine (HV.out _).mono ?_; rintro e w2 ⟨rfl, hb⟩; obtain ⟨k0, k1, k2, hb2⟩ := box_at hb; have HB := Lib.hid hb2; clear hb hb2)
  go_ret2
  exact ⟨rfl, HB.out⟩

end Go.Proofs.Ytefpaagbopmmlaa
