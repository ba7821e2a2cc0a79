/- Proved: the law FbitsNear answers true at every word, and leaves all as it was: between a number and its neighbour there is none. No condition. -/
import Derived.Test.YtmdnahbopjkjhaaMid
import Derived.Test.YtmdnahbopjkjhaaSteps
namespace Go.Proofs.Ytmdnahbopjkjhaa
open Go.RowKit Fl

set_option maxHeartbeats 2000000 in
set_option maxRecDepth 100000 in
theorem near_nan (n : Int) (c : Nat) (h0 : 0 ≤ n) (h1 : n < 18446744073709551616) (HC : Hid (cb n.toNat = c)) (hlt : c < 18446744073709551616) (w : World)
    (hcl : cls c = 1) (o1 : FloatKind.f64.format.order (nx c) (nx c) = none) (o2 : FloatKind.f64.format.order (pv c) (pv c) = none) :
    Calls Try.prog 7 #[.int .u64 n] w fun e w' => e = .returned (.bool true) ∧ w = w' := by
  go_enter Try.func7, Try.ntmps7
  go_wp2_with (first | (go_at_call 26; refine (from_as _ _ h0 h1 HC _).mono ?_; rintro e w' ⟨rfl, rfl⟩) | (go_at_call 18; refine (next_any _ (by assumption) _).mono ?_; rintro e w' ⟨rfl, rfl⟩) | (go_at_call 20; refine (prev_any _ (by assumption) _).mono ?_; rintro e w' ⟨rfl, rfl⟩) | (go_at_call 11; refine (class_any _ (by assumption) _).mono ?_; rintro e w' ⟨rfl, rfl⟩) | (go_at_call 13; refine (bits_any _ (by assumption) _).mono ?_; rintro e w' ⟨rfl, rfl⟩) | (go_at_call 23; refine (awake_any _).mono ?_; rintro e w' ⟨rfl, rfl⟩))
  go_ret
  exact ⟨rfl, rfl⟩

set_option maxHeartbeats 2000000 in
set_option maxRecDepth 100000 in
theorem near_zero (n : Int) (c : Nat) (h0 : 0 ≤ n) (h1 : n < 18446744073709551616) (HC : Hid (cb n.toNat = c)) (hlt : c < 18446744073709551616) (hnl : nx c < 18446744073709551616) (hpl : pv c < 18446744073709551616) (w : World)
    (k : Int) (hk : k = 5 ∨ k = 6) (hcl : cls c = k) (q1 : ((cb (nx c) : Int) == 1) = true) (q2 : ((cb (pv c) : Int) == 9223372036854775809) = true) :
    Calls Try.prog 7 #[.int .u64 n] w fun e w' => e = .returned (.bool true) ∧ w = w' := by
  rcases hk with rfl | rfl
  all_goals
    go_enter Try.func7, Try.ntmps7
    go_wp2_with (first | (go_at_call 26; refine (from_as _ _ h0 h1 HC _).mono ?_; rintro e w' ⟨rfl, rfl⟩) | (go_at_call 18; refine (next_any _ (by assumption) _).mono ?_; rintro e w' ⟨rfl, rfl⟩) | (go_at_call 20; refine (prev_any _ (by assumption) _).mono ?_; rintro e w' ⟨rfl, rfl⟩) | (go_at_call 11; refine (class_any _ (by assumption) _).mono ?_; rintro e w' ⟨rfl, rfl⟩) | (go_at_call 13; refine (bits_any _ (by assumption) _).mono ?_; rintro e w' ⟨rfl, rfl⟩) | (go_at_call 23; refine (awake_any _).mono ?_; rintro e w' ⟨rfl, rfl⟩))
    go_ret
    exact ⟨rfl, rfl⟩

set_option maxHeartbeats 2000000 in
set_option maxRecDepth 100000 in
theorem near_inf (n : Int) (c : Nat) (h0 : 0 ≤ n) (h1 : n < 18446744073709551616) (HC : Hid (cb n.toNat = c)) (hlt : c < 18446744073709551616) (hpl : pv c < 18446744073709551616) (w : World)
    (hcl : cls c = 9) (o1 : FloatKind.f64.format.order (nx c) c = some .eq) (o2 : FloatKind.f64.format.order (pv c) c = some .lt) (q1 : cls (pv c) = 8) :
    Calls Try.prog 7 #[.int .u64 n] w fun e w' => e = .returned (.bool true) ∧ w = w' := by
  go_enter Try.func7, Try.ntmps7
  go_wp2_with (first | (go_at_call 26; refine (from_as _ _ h0 h1 HC _).mono ?_; rintro e w' ⟨rfl, rfl⟩) | (go_at_call 18; refine (next_any _ (by assumption) _).mono ?_; rintro e w' ⟨rfl, rfl⟩) | (go_at_call 20; refine (prev_any _ (by assumption) _).mono ?_; rintro e w' ⟨rfl, rfl⟩) | (go_at_call 11; refine (class_any _ (by assumption) _).mono ?_; rintro e w' ⟨rfl, rfl⟩) | (go_at_call 13; refine (bits_any _ (by assumption) _).mono ?_; rintro e w' ⟨rfl, rfl⟩) | (go_at_call 23; refine (awake_any _).mono ?_; rintro e w' ⟨rfl, rfl⟩))
  go_ret
  exact ⟨rfl, rfl⟩

set_option maxHeartbeats 2000000 in
set_option maxRecDepth 100000 in
theorem near_ninf (n : Int) (c : Nat) (h0 : 0 ≤ n) (h1 : n < 18446744073709551616) (HC : Hid (cb n.toNat = c)) (hlt : c < 18446744073709551616) (hnl : nx c < 18446744073709551616) (w : World)
    (hcl : cls c = 2) (o1 : FloatKind.f64.format.order (pv c) c = some .eq) (o2 : FloatKind.f64.format.order (nx c) c = some .gt) (q1 : cls (nx c) = 3) :
    Calls Try.prog 7 #[.int .u64 n] w fun e w' => e = .returned (.bool true) ∧ w = w' := by
  go_enter Try.func7, Try.ntmps7
  go_wp2_with (first | (go_at_call 26; refine (from_as _ _ h0 h1 HC _).mono ?_; rintro e w' ⟨rfl, rfl⟩) | (go_at_call 18; refine (next_any _ (by assumption) _).mono ?_; rintro e w' ⟨rfl, rfl⟩) | (go_at_call 20; refine (prev_any _ (by assumption) _).mono ?_; rintro e w' ⟨rfl, rfl⟩) | (go_at_call 11; refine (class_any _ (by assumption) _).mono ?_; rintro e w' ⟨rfl, rfl⟩) | (go_at_call 13; refine (bits_any _ (by assumption) _).mono ?_; rintro e w' ⟨rfl, rfl⟩) | (go_at_call 23; refine (awake_any _).mono ?_; rintro e w' ⟨rfl, rfl⟩))
  go_ret
  exact ⟨rfl, rfl⟩

set_option maxHeartbeats 2000000 in
set_option maxRecDepth 100000 in
theorem near_main (n : Int) (c : Nat) (h0 : 0 ≤ n) (h1 : n < 18446744073709551616) (HC : Hid (cb n.toNat = c)) (hlt : c < 18446744073709551616) (hnl : nx c < 18446744073709551616) (hpl : pv c < 18446744073709551616) (w : World)
    (k : Int) (hk : k = 3 ∨ k = 4 ∨ k = 7 ∨ k = 8) (hcl : cls c = k) (o1 : FloatKind.f64.format.order c c = some .eq) (o2 : FloatKind.f64.format.order (pv c) c = some .lt) (o3 : FloatKind.f64.format.order c (nx c) = some .lt) (o4 : FloatKind.f64.format.order (nx c) c = some .gt) (o5 : FloatKind.f64.format.order (nx c) (nx c) = some .eq)
    (d h m : Nat) (r1 : ∀ w : World, (binOp .sub 22 (.float .f64 (nx c)) (.float .f64 c)).run Try.prog w = .ok (.float .f64 d) w) (r2 : ∀ w : World, (binOp .quo 22 (.float .f64 d) (.float .f64 4611686018427387904)).run Try.prog w = .ok (.float .f64 h) w)
    (r3 : ∀ w : World, (binOp .add 22 (.float .f64 c) (.float .f64 h)).run Try.prog w = .ok (.float .f64 m) w) (hm : m = c ∨ m = nx c) (p1 : pv (nx c) = c) (p2 : nx (pv c) = c) :
    Calls Try.prog 7 #[.int .u64 n] w fun e w' => e = .returned (.bool true) ∧ w = w' := by
  rcases hk with rfl | rfl | rfl | rfl <;> rcases hm with rfl | rfl
  all_goals
    go_enter Try.func7, Try.ntmps7
    go_wp2_with (first | (go_at_call 26; refine (from_as _ _ h0 h1 HC _).mono ?_; rintro e w' ⟨rfl, rfl⟩) | (go_at_call 18; refine (next_any _ (by assumption) _).mono ?_; rintro e w' ⟨rfl, rfl⟩) | (go_at_call 20; refine (prev_any _ (by assumption) _).mono ?_; rintro e w' ⟨rfl, rfl⟩) | (go_at_call 11; refine (class_any _ (by assumption) _).mono ?_; rintro e w' ⟨rfl, rfl⟩) | (go_at_call 13; refine (bits_any _ (by assumption) _).mono ?_; rintro e w' ⟨rfl, rfl⟩) | (go_at_call 23; refine (awake_any _).mono ?_; rintro e w' ⟨rfl, rfl⟩))
    go_ret
    exact ⟨rfl, rfl⟩

theorem pv_nx (c : Nat) (hc : c < 18446744073709551616) (hn : isN c = false) (hz : c % 9223372036854775808 ≠ 0) (hf : c % 9223372036854775808 < 9218868437227405312) : pv (nx c) = c := by
  have e := nx_of c hn
  rw [if_neg (by omega), if_neg hz] at e
  rw [e]
  by_cases hs : 9223372036854775808 ≤ c
  · rw [if_pos hs, pv_of _ (isN_of _ (by omega)), if_neg (by omega)]
    by_cases hz2 : (c - 1) % 9223372036854775808 = 0
    · rw [if_pos hz2]; omega
    · rw [if_neg hz2, if_pos (by omega)]; omega
  · rw [if_neg hs, pv_of _ (isN_of _ (by omega)), if_neg (by omega), if_neg (by omega), if_neg (by omega)]; omega
theorem nx_pv (c : Nat) (hc : c < 18446744073709551616) (hn : isN c = false) (hz : c % 9223372036854775808 ≠ 0) (hf : c % 9223372036854775808 < 9218868437227405312) : nx (pv c) = c := by
  have e := pv_of c hn
  rw [if_neg (by omega), if_neg hz] at e
  rw [e]
  by_cases hs : 9223372036854775808 ≤ c
  · rw [if_pos hs, nx_of _ (isN_of _ (by omega)), if_neg (by omega), if_neg (by omega), if_pos (by omega)]; omega
  · rw [if_neg hs, nx_of _ (isN_of _ (by omega)), if_neg (by omega)]
    by_cases hz2 : (c - 1) % 9223372036854775808 = 0
    · rw [if_pos hz2]; omega
    · rw [if_neg hz2, if_neg (by omega)]; omega
theorem sr_nx (c : Nat) (hc : c < 18446744073709551616) (hn : isN c = false) (hz : c % 9223372036854775808 ≠ 0) (hf : c % 9223372036854775808 < 9218868437227405312) : isN (nx c) = false ∧ isN (pv c) = false ∧ sr c < sr (nx c) ∧ sr (pv c) < sr c := by
  have e := nx_of c hn
  have e2 := pv_of c hn
  rw [if_neg (by omega), if_neg hz] at e e2
  rw [e, e2]
  by_cases hs : 9223372036854775808 ≤ c
  · rw [if_pos hs, if_pos hs]
    refine ⟨isN_of _ (by omega), isN_of _ (by omega), ?_, ?_⟩ <;> unfold sr <;> split <;> split <;> omega
  · rw [if_neg hs, if_neg hs]
    refine ⟨isN_of _ (by omega), isN_of _ (by omega), ?_, ?_⟩ <;> unfold sr <;> split <;> split <;> omega

theorem near_any (n : Int) (wn : (Lit.int .u64 n).wf = true) (w : World) :
    Calls Try.prog 7 #[.int .u64 n] w fun e w' => e = .returned (.bool true) ∧ w = w' := by
  obtain ⟨h0, h1⟩ := wf_u64 n wn
  obtain ⟨c, hc⟩ : ∃ c : Nat, cb n.toNat = c := ⟨_, rfl⟩
  have hlt : c < 18446744073709551616 := by rw [← hc]; exact cb_lt _ (by omega)
  have HC := Lib.hid hc
  have hnl := nx_lt c hlt
  have hpl := pv_lt c hlt
  rcases cls_cases c hlt with ⟨hn, hcl⟩ | ⟨hn, _, h⟩
  · refine near_nan n c h0 h1 HC hlt w hcl ?_ ?_
    · rw [nx_nan c hn]; exact ord_nan_l _ _ (by decide) (by decide)
    · rw [pv_nan c hn]; exact ord_nan_l _ _ (by decide) (by decide)
  have main : c % 9223372036854775808 ≠ 0 → c % 9223372036854775808 < 9218868437227405312 → ∀ k : Int, (k = 3 ∨ k = 4 ∨ k = 7 ∨ k = 8) → cls c = k →
      Calls Try.prog 7 #[.int .u64 n] w fun e w' => e = .returned (.bool true) ∧ w = w' := by
    intro hz hf k hk hcl
    obtain ⟨n1, n2, s1, s2⟩ := sr_nx c hlt hn hz hf
    obtain ⟨d, h, m, r1, r2, r3, hm⟩ := near_mid c hlt hn hz hf
    exact near_main n c h0 h1 HC hlt hnl hpl w k hk hcl (ord_self c hlt hn) (ord_lt _ _ hpl hlt n2 hn s2) (ord_lt _ _ hlt hnl hn n1 s1) (ord_gt _ _ hnl hlt n1 hn s1) (ord_self _ hnl n1) d h m
      (fun w => run_float_arith w .sub _ .f64 _ _ d r1) (fun w => run_float_arith w .quo _ .f64 _ _ h r2) (fun w => run_float_arith w .add _ .f64 _ _ m r3) hm (pv_nx c hlt hn hz hf) (nx_pv c hlt hn hz hf)
  rcases h with ⟨k, hcl⟩ | ⟨k, k', hcl⟩ | ⟨k, k', hcl⟩ | ⟨k, hcl⟩ | ⟨k, hcl⟩ | ⟨k, k', hcl⟩ | ⟨k, k', hcl⟩ | ⟨k, hcl⟩
  · subst k
    exact near_ninf n _ h0 h1 HC hlt hnl w hcl (ord_self 18442240474082181120 (by decide) (by decide)) (ord_gt _ _ (by decide) (by decide) (by decide) (by decide) (by decide)) (by decide)
  · exact main (by omega) (by omega) 3 (by decide) hcl
  · exact main (by omega) (by omega) 4 (by decide) hcl
  · subst k
    exact near_zero n _ h0 h1 HC hlt hnl hpl w 5 (by decide) hcl (by decide) (by decide)
  · subst k
    exact near_zero n _ h0 h1 HC hlt hnl hpl w 6 (by decide) hcl (by decide) (by decide)
  · exact main (by omega) (by omega) 7 (by decide) hcl
  · exact main (by omega) (by omega) 8 (by decide) hcl
  · subst k
    exact near_inf n _ h0 h1 HC hlt hpl w hcl (ord_self 9218868437227405312 (by decide) (by decide)) (ord_lt _ _ (by decide) (by decide) (by decide) (by decide) (by decide)) (by decide)

end Go.Proofs.Ytmdnahbopjkjhaa
