/- Proved: the law FbitsClass answers true at every word, and leaves what there was as it was: a class is what comparisons say. No condition. -/
import Derived.Test.YtmdnahbopjkjhaaSign
namespace Go.Proofs.Ytmdnahbopjkjhaa
open Go.RowKit Fl

theorem nan_arith (s r : Nat) (hs : s < 2) (hr : r < 4503599627370495) :
    9218868437227405312 < (s * 9223372036854775808 + 9218868437227405312 + 1 + r) % 9223372036854775808 ∧ s * 9223372036854775808 + 9218868437227405312 + 1 + r < 18446744073709551616 := by
  have h2 : s = 0 ∨ s = 1 := by omega
  rcases h2 with rfl | rfl <;> omega
theorem nan_pattern (x y t : Nat) : isN (Question.cut (.nanBits .f64 x y) t) = true ∧ Question.cut (.nanBits .f64 x y) t < 18446744073709551616 := by
  have h := nan_arith (t % 2) (t / 2 % 4503599627370495) (Nat.mod_lt _ (by decide)) (Nat.mod_lt _ (by decide))
  exact ⟨decide_eq_true h.1, h.2⟩

/-- An operation on floats that has no answer hands back a NaN, and draws once. -/
theorem run_float_nan {P : Program} (w : World) (op : BinOp) (hop : op = .add ∨ op = .sub ∨ op = .mul ∨ op = .quo) (t : TypeId) (x y : Nat) (h : floatBits op .f64 x y = none) :
    ∃ b, isN b = true ∧ b < 18446744073709551616 ∧ (binOp op t (.float .f64 x) (.float .f64 y)).run P w = .ok (.float .f64 b) w.drew := by
  refine ⟨Question.cut (.nanBits .f64 x y) (w.tape w.drawn (.nanBits .f64 x y)), (nan_pattern _ _ _).1, (nan_pattern _ _ _).2, ?_⟩
  unfold floatBits at h
  rcases hop with rfl | rfl | rfl | rfl <;> simp only at h <;> simp [binOp, Op.floatArith, h, choose] <;> rfl

theorem sub_self_inf (c : Nat) (h : c % 9223372036854775808 = 9218868437227405312) (hc : c < 18446744073709551616) : floatBits .sub .f64 c c = none := by
  show Ieee.double.sub c c = none
  unfold Ieee.Format.sub
  rw [read_eq c hc, if_neg (by omega), if_pos h]
  simp [Ieee.Datum.opposite, Ieee.Datum.sum]
theorem sub_self_fin (c : Nat) (h : c % 9223372036854775808 < 9218868437227405312) (hc : c < 18446744073709551616) : floatBits .sub .f64 c c = some 0 := by
  show Ieee.double.sub c c = some 0
  unfold Ieee.Format.sub
  rw [read_eq c hc, if_pos h]
  simp only [Ieee.Datum.opposite, Ieee.Datum.sum]
  have e : ∀ (s : Bool) (m u : Nat), Ieee.signed s m u + Ieee.signed (!s) m u = 0 := by
    intro s m u; cases s <;> simp [Ieee.signed] <;> omega
  rw [Int.min_self, e]
  simp [Ieee.Format.write, Ieee.Format.nearest, Ieee.Format.word]
theorem quo_zero : floatBits .quo .f64 4607182418800017408 9223372036854775808 = some 18442240474082181120 := by decide +kernel

theorem q_zero (b : Nat) (hb : b < 18446744073709551616) (hn : isN b = false) : (b % 9223372036854775808 = 0 ∧ FloatKind.f64.format.order b 0 = some .eq) ∨ (0 < b ∧ b < 9223372036854775808 ∧ FloatKind.f64.format.order b 0 = some .gt) ∨ (9223372036854775808 < b ∧ FloatKind.f64.format.order b 0 = some .lt) := by
  by_cases h : b % 9223372036854775808 = 0
  · left; exact ⟨h, ord_eq b 0 hb (by omega) hn (by decide) (by unfold sr; split <;> omega)⟩
  · by_cases h2 : b < 9223372036854775808
    · right; left; exact ⟨by omega, h2, ord_gt b 0 hb (by omega) hn (by decide) (by unfold sr; split <;> omega)⟩
    · right; right; exact ⟨by omega, ord_lt b 0 hb (by omega) hn (by decide) (by unfold sr; split <;> omega)⟩

set_option maxHeartbeats 1000000 in
theorem lawclass_any (n : Int) (wn : (Lit.int .u64 n).wf = true) (w : World) :
    Calls Try.prog 8 #[.int .u64 n] w fun e w' => e = .returned (.bool true) ∧ Below w.heap.size w w' := by
  obtain ⟨h0, h1⟩ := wf_u64 n wn
  clear wn
  obtain ⟨c, hc⟩ : ∃ c : Nat, cb n.toNat = c := ⟨_, rfl⟩
  have hlt : c < 18446744073709551616 := by rw [← hc]; exact cb_lt _ (by omega)
  have HC := Lib.hid hc
  clear hc
  have HL : Hid (cb (4503599627370496 : Int).toNat = 4503599627370496) := Lib.hid (by decide)
  have u1 := unary_neg_float 4503599627370496 9227875636482146304 (by decide)
  rcases cls_cases c hlt with ⟨hn, hcl⟩ | ⟨hn, hcb, h⟩
  · have o1 := ord_nan_l c c hlt hn
    go_enter Try.func8, Try.ntmps8
    go_wp2_with (first | (go_at_call 26; first | (refine (from_as _ c h0 h1 HC _).mono ?_; rintro e w' ⟨rfl, rfl⟩) | (refine (from_as _ 4503599627370496 (by decide) (by decide) HL _).mono ?_; rintro e w' ⟨rfl, rfl⟩)) | (go_at_call 11; refine (class_any _ (by assumption) _).mono ?_; rintro e w' ⟨rfl, rfl⟩) | (go_at_call 23; refine (awake_any _).mono ?_; rintro e w' ⟨rfl, rfl⟩))
    go_ret
    exact ⟨rfl, Below.refl _ _⟩
  · have o1 := ord_self c hlt hn
    have z1 : FloatKind.f64.format.order 0 0 = some .eq := ord_self 0 (by decide) (by decide)
    have z2 := quo_zero
    have z3 : FloatKind.f64.format.order 18442240474082181120 0 = some .lt := ord_lt _ _ (by decide) (by decide) (by decide) (by decide) (by decide)
    rcases h with ⟨k, hcl⟩ | ⟨k, k', hcl⟩ | ⟨k, k', hcl⟩ | ⟨k, hcl⟩ | ⟨k, hcl⟩ | ⟨k, k', hcl⟩ | ⟨k, k', hcl⟩ | ⟨k, hcl⟩
    · subst k
      have o2 : FloatKind.f64.format.order 18442240474082181120 0 = some .lt := z3
      have o3 : FloatKind.f64.format.order 18442240474082181120 4503599627370496 = some .lt := ord_lt _ _ (by decide) (by decide) (by decide) (by decide) (by decide)
      have o4 : FloatKind.f64.format.order 18442240474082181120 9227875636482146304 = some .lt := ord_lt _ _ (by decide) (by decide) (by decide) (by decide) (by decide)
      obtain ⟨b, hbn, hbl, hrun⟩ := run_float_nan (P := Try.prog) w .sub (by simp) 22 18442240474082181120 18442240474082181120 (sub_self_inf _ (by decide) (by decide))
      have o5 := ord_nan_l b 0 hbl hbn
      go_enter Try.func8, Try.ntmps8
      go_wp2_with (first | (go_at_call 26; first | (refine (from_as _ _ h0 h1 HC _).mono ?_; rintro e w' ⟨rfl, rfl⟩) | (refine (from_as _ 4503599627370496 (by decide) (by decide) HL _).mono ?_; rintro e w' ⟨rfl, rfl⟩)) | (go_at_call 11; refine (class_any _ (by assumption) _).mono ?_; rintro e w' ⟨rfl, rfl⟩) | (go_at_call 22; refine (same_any _ _ (by assumption) (by decide) _).mono ?_; rintro e w' ⟨rfl, rfl⟩) | (go_at_call 23; refine (awake_any _).mono ?_; rintro e w' ⟨rfl, rfl⟩))
      go_ret
      exact ⟨rfl, (Below.refl _ _).drew⟩
    · rcases Nat.eq_or_lt_of_le k with k2 | k2
      · have o2 : FloatKind.f64.format.order c 0 = some .lt := ord_lt _ _ hlt (by decide) hn (by decide) (by unfold sr; split <;> split <;> omega)
        have o4 : FloatKind.f64.format.order c 9227875636482146304 = some .eq := ord_eq _ _ hlt (by decide) hn (by decide) (by unfold sr; split <;> split <;> omega)
        have o3 : FloatKind.f64.format.order c 4503599627370496 = some .lt := ord_lt _ _ hlt (by decide) hn (by decide) (by unfold sr; split <;> split <;> omega)
        have hrun := fun w : World => run_float_arith (P := Try.prog) w .sub 22 .f64 c c 0 (sub_self_fin c (by omega) hlt)
        have K := Lib.hid k
        clear k k2 hcb
        go_enter Try.func8, Try.ntmps8
        go_wp2_with (first | (go_at_call 26; first | (refine (from_as _ _ h0 h1 HC _).mono ?_; rintro e w' ⟨rfl, rfl⟩) | (refine (from_as _ 4503599627370496 (by decide) (by decide) HL _).mono ?_; rintro e w' ⟨rfl, rfl⟩)) | (go_at_call 11; refine (class_any _ (by assumption) _).mono ?_; rintro e w' ⟨rfl, rfl⟩) | (go_at_call 22; refine (same_any _ _ (by assumption) (by decide) _).mono ?_; rintro e w' ⟨rfl, rfl⟩) | (go_at_call 23; refine (awake_any _).mono ?_; rintro e w' ⟨rfl, rfl⟩))
        go_ret
        exact ⟨rfl, Below.refl _ _⟩
      · have o2 : FloatKind.f64.format.order c 0 = some .lt := ord_lt _ _ hlt (by decide) hn (by decide) (by unfold sr; split <;> split <;> omega)
        have o4 : FloatKind.f64.format.order c 9227875636482146304 = some .lt := ord_lt _ _ hlt (by decide) hn (by decide) (by unfold sr; split <;> split <;> omega)
        have o3 : FloatKind.f64.format.order c 4503599627370496 = some .lt := ord_lt _ _ hlt (by decide) hn (by decide) (by unfold sr; split <;> split <;> omega)
        have hrun := fun w : World => run_float_arith (P := Try.prog) w .sub 22 .f64 c c 0 (sub_self_fin c (by omega) hlt)
        have K := Lib.hid k
        clear k k2 hcb
        go_enter Try.func8, Try.ntmps8
        go_wp2_with (first | (go_at_call 26; first | (refine (from_as _ _ h0 h1 HC _).mono ?_; rintro e w' ⟨rfl, rfl⟩) | (refine (from_as _ 4503599627370496 (by decide) (by decide) HL _).mono ?_; rintro e w' ⟨rfl, rfl⟩)) | (go_at_call 11; refine (class_any _ (by assumption) _).mono ?_; rintro e w' ⟨rfl, rfl⟩) | (go_at_call 22; refine (same_any _ _ (by assumption) (by decide) _).mono ?_; rintro e w' ⟨rfl, rfl⟩) | (go_at_call 23; refine (awake_any _).mono ?_; rintro e w' ⟨rfl, rfl⟩))
        go_ret
        exact ⟨rfl, Below.refl _ _⟩
    · have o2 : FloatKind.f64.format.order c 0 = some .lt := ord_lt _ _ hlt (by decide) hn (by decide) (by unfold sr; split <;> split <;> omega)
      have o4 : FloatKind.f64.format.order c 9227875636482146304 = some .gt := ord_gt _ _ hlt (by decide) hn (by decide) (by unfold sr; split <;> split <;> omega)
      have o3 : FloatKind.f64.format.order c 4503599627370496 = some .lt := ord_lt _ _ hlt (by decide) hn (by decide) (by unfold sr; split <;> split <;> omega)
      have K := Lib.hid k
      clear k hcb
      go_enter Try.func8, Try.ntmps8
      go_wp2_with (first | (go_at_call 26; first | (refine (from_as _ _ h0 h1 HC _).mono ?_; rintro e w' ⟨rfl, rfl⟩) | (refine (from_as _ 4503599627370496 (by decide) (by decide) HL _).mono ?_; rintro e w' ⟨rfl, rfl⟩)) | (go_at_call 11; refine (class_any _ (by assumption) _).mono ?_; rintro e w' ⟨rfl, rfl⟩) | (go_at_call 22; refine (same_any _ _ (by assumption) (by decide) _).mono ?_; rintro e w' ⟨rfl, rfl⟩) | (go_at_call 23; refine (awake_any _).mono ?_; rintro e w' ⟨rfl, rfl⟩))
      go_ret
      exact ⟨rfl, Below.refl _ _⟩
    · subst k
      have o2 : FloatKind.f64.format.order 9223372036854775808 0 = some .eq := ord_eq _ _ (by decide) (by decide) (by decide) (by decide) (by decide)
      have s1 : smB 9223372036854775808 0 = false := by decide
      have hrun := fun w : World => run_float_arith (P := Try.prog) w .quo 22 .f64 4607182418800017408 9223372036854775808 _ quo_zero
      go_enter Try.func8, Try.ntmps8
      go_wp2_with (first | (go_at_call 26; first | (refine (from_as _ _ h0 h1 HC _).mono ?_; rintro e w' ⟨rfl, rfl⟩) | (refine (from_as _ 4503599627370496 (by decide) (by decide) HL _).mono ?_; rintro e w' ⟨rfl, rfl⟩)) | (go_at_call 11; refine (class_any _ (by assumption) _).mono ?_; rintro e w' ⟨rfl, rfl⟩) | (go_at_call 22; refine (same_any _ _ (by assumption) (by decide) _).mono ?_; rintro e w' ⟨rfl, rfl⟩) | (go_at_call 23; refine (awake_any _).mono ?_; rintro e w' ⟨rfl, rfl⟩))
      go_ret
      exact ⟨rfl, Below.refl _ _⟩
    · subst k
      have s1 : smB 0 0 = true := by decide
      go_enter Try.func8, Try.ntmps8
      go_wp2_with (first | (go_at_call 26; first | (refine (from_as _ _ h0 h1 HC _).mono ?_; rintro e w' ⟨rfl, rfl⟩) | (refine (from_as _ 4503599627370496 (by decide) (by decide) HL _).mono ?_; rintro e w' ⟨rfl, rfl⟩)) | (go_at_call 11; refine (class_any _ (by assumption) _).mono ?_; rintro e w' ⟨rfl, rfl⟩) | (go_at_call 22; refine (same_any _ _ (by assumption) (by decide) _).mono ?_; rintro e w' ⟨rfl, rfl⟩) | (go_at_call 23; refine (awake_any _).mono ?_; rintro e w' ⟨rfl, rfl⟩))
      go_ret
      exact ⟨rfl, Below.refl _ _⟩
    · have o2 : FloatKind.f64.format.order c 0 = some .gt := ord_gt _ _ hlt (by decide) hn (by decide) (by unfold sr; split <;> split <;> omega)
      have o3 : FloatKind.f64.format.order c 4503599627370496 = some .lt := ord_lt _ _ hlt (by decide) hn (by decide) (by unfold sr; split <;> split <;> omega)
      have K := Lib.hid k
      clear k hcb
      go_enter Try.func8, Try.ntmps8
      go_wp2_with (first | (go_at_call 26; first | (refine (from_as _ _ h0 h1 HC _).mono ?_; rintro e w' ⟨rfl, rfl⟩) | (refine (from_as _ 4503599627370496 (by decide) (by decide) HL _).mono ?_; rintro e w' ⟨rfl, rfl⟩)) | (go_at_call 11; refine (class_any _ (by assumption) _).mono ?_; rintro e w' ⟨rfl, rfl⟩) | (go_at_call 22; refine (same_any _ _ (by assumption) (by decide) _).mono ?_; rintro e w' ⟨rfl, rfl⟩) | (go_at_call 23; refine (awake_any _).mono ?_; rintro e w' ⟨rfl, rfl⟩))
      go_ret
      exact ⟨rfl, Below.refl _ _⟩
    · rcases Nat.eq_or_lt_of_le k with k2 | k2
      · have o2 : FloatKind.f64.format.order c 0 = some .gt := ord_gt _ _ hlt (by decide) hn (by decide) (by unfold sr; split <;> split <;> omega)
        have o3 : FloatKind.f64.format.order c 4503599627370496 = some .eq := ord_eq _ _ hlt (by decide) hn (by decide) (by unfold sr; split <;> split <;> omega)
        have hrun := fun w : World => run_float_arith (P := Try.prog) w .sub 22 .f64 c c 0 (sub_self_fin c (by omega) hlt)
        have K := Lib.hid k
        clear k k2 hcb
        go_enter Try.func8, Try.ntmps8
        go_wp2_with (first | (go_at_call 26; first | (refine (from_as _ _ h0 h1 HC _).mono ?_; rintro e w' ⟨rfl, rfl⟩) | (refine (from_as _ 4503599627370496 (by decide) (by decide) HL _).mono ?_; rintro e w' ⟨rfl, rfl⟩)) | (go_at_call 11; refine (class_any _ (by assumption) _).mono ?_; rintro e w' ⟨rfl, rfl⟩) | (go_at_call 22; refine (same_any _ _ (by assumption) (by decide) _).mono ?_; rintro e w' ⟨rfl, rfl⟩) | (go_at_call 23; refine (awake_any _).mono ?_; rintro e w' ⟨rfl, rfl⟩))
        go_ret
        exact ⟨rfl, Below.refl _ _⟩
      · have o2 : FloatKind.f64.format.order c 0 = some .gt := ord_gt _ _ hlt (by decide) hn (by decide) (by unfold sr; split <;> split <;> omega)
        have o3 : FloatKind.f64.format.order c 4503599627370496 = some .gt := ord_gt _ _ hlt (by decide) hn (by decide) (by unfold sr; split <;> split <;> omega)
        have hrun := fun w : World => run_float_arith (P := Try.prog) w .sub 22 .f64 c c 0 (sub_self_fin c (by omega) hlt)
        have K := Lib.hid k
        clear k k2 hcb
        go_enter Try.func8, Try.ntmps8
        go_wp2_with (first | (go_at_call 26; first | (refine (from_as _ _ h0 h1 HC _).mono ?_; rintro e w' ⟨rfl, rfl⟩) | (refine (from_as _ 4503599627370496 (by decide) (by decide) HL _).mono ?_; rintro e w' ⟨rfl, rfl⟩)) | (go_at_call 11; refine (class_any _ (by assumption) _).mono ?_; rintro e w' ⟨rfl, rfl⟩) | (go_at_call 22; refine (same_any _ _ (by assumption) (by decide) _).mono ?_; rintro e w' ⟨rfl, rfl⟩) | (go_at_call 23; refine (awake_any _).mono ?_; rintro e w' ⟨rfl, rfl⟩))
        go_ret
        exact ⟨rfl, Below.refl _ _⟩
    · subst k
      have o2 : FloatKind.f64.format.order 9218868437227405312 0 = some .gt := ord_gt _ _ (by decide) (by decide) (by decide) (by decide) (by decide)
      have o3 : FloatKind.f64.format.order 9218868437227405312 4503599627370496 = some .gt := ord_gt _ _ (by decide) (by decide) (by decide) (by decide) (by decide)
      obtain ⟨b, hbn, hbl, hrun⟩ := run_float_nan (P := Try.prog) w .sub (by simp) 22 9218868437227405312 9218868437227405312 (sub_self_inf _ (by decide) (by decide))
      have o5 := ord_nan_l b 0 hbl hbn
      go_enter Try.func8, Try.ntmps8
      go_wp2_with (first | (go_at_call 26; first | (refine (from_as _ _ h0 h1 HC _).mono ?_; rintro e w' ⟨rfl, rfl⟩) | (refine (from_as _ 4503599627370496 (by decide) (by decide) HL _).mono ?_; rintro e w' ⟨rfl, rfl⟩)) | (go_at_call 11; refine (class_any _ (by assumption) _).mono ?_; rintro e w' ⟨rfl, rfl⟩) | (go_at_call 22; refine (same_any _ _ (by assumption) (by decide) _).mono ?_; rintro e w' ⟨rfl, rfl⟩) | (go_at_call 23; refine (awake_any _).mono ?_; rintro e w' ⟨rfl, rfl⟩))
      go_ret
      exact ⟨rfl, (Below.refl _ _).drew⟩

end Go.Proofs.Ytmdnahbopjkjhaa
