/- Proved: the law FbitsSteps answers true at every word and every int, and leaves what there was as it was: key by key numbers stand beside each other. No condition. -/
import Derived.Test.YtmdnahbopjkjhaaClass
namespace Go.Proofs.Ytmdnahbopjkjhaa
open Go.RowKit Fl

def itn : Nat → Nat → Nat
  | 0, c => c
  | k + 1, c => nx (itn k c)
def itp : Nat → Nat → Nat
  | 0, c => c
  | k + 1, c => pv (itp k c)
theorem itn_lt (c : Nat) (hc : c < 18446744073709551616) : ∀ k, itn k c < 18446744073709551616
  | 0 => hc
  | k + 1 => nx_lt _ (itn_lt c hc k)
theorem itp_lt (c : Nat) (hc : c < 18446744073709551616) : ∀ k, itp k c < 18446744073709551616
  | 0 => hc
  | k + 1 => pv_lt _ (itp_lt c hc k)
theorem isN_of (b : Nat) (h : b % 9223372036854775808 ≤ 9218868437227405312) : isN b = false := by
  unfold isN; exact decide_eq_false (by omega)

/-- Upwards from a positive number: so many rungs, and infinity is the end. -/
theorem up_pos (c : Nat) (h0 : 0 < c) (h1 : c ≤ 9218868437227405312) : ∀ k, itn k c = min (c + k) 9218868437227405312
  | 0 => by show c = _; omega
  | k + 1 => by
    show nx (itn k c) = _
    rw [up_pos c h0 h1 k]
    by_cases h : c + k < 9218868437227405312
    · rw [Nat.min_eq_left (by omega), nx_of _ (isN_of _ (by omega)), if_neg (by omega), if_neg (by omega), if_neg (by omega)]; omega
    · rw [Nat.min_eq_right (by omega), nx_of _ (isN_of _ (by decide)), if_pos rfl]; omega
theorem up_neg (c : Nat) (h0 : 9223372036854775808 ≤ c) (h1 : c ≤ 18442240474082181120) : ∀ k, c - 9223372036854775808 < k ∨ itn k c = c - k
  | 0 => Or.inr rfl
  | k + 1 => by
    rcases up_neg c h0 h1 k with h | h
    · left; omega
    · by_cases hk : c - 9223372036854775808 ≤ k
      · left; omega
      · right
        show nx (itn k c) = _
        rw [h, nx_of _ (isN_of _ (by omega)), if_neg (by omega), if_neg (by omega), if_pos (by omega)]; omega
theorem past_pos (b : Nat) (h1 : b ≤ 9218868437227405312) : nx b ≤ 9218868437227405312 := by
  rw [nx_of b (isN_of b (by omega))]
  repeat' split
  all_goals omega
theorem up_past (c : Nat) (h0 : 9223372036854775808 ≤ c) (h1 : c ≤ 18442240474082181120) : ∀ k, c - 9223372036854775808 < k → itn k c ≤ 9218868437227405312
  | 0, h => by omega
  | k + 1, h => by
    show nx (itn k c) ≤ _
    by_cases h3 : c - 9223372036854775808 < k
    · exact past_pos _ (up_past c h0 h1 k h3)
    · have h2 := (up_neg c h0 h1 k).resolve_left h3
      rw [h2]
      have : c - k = 9223372036854775808 := by omega
      rw [this]; decide
theorem down_neg (c : Nat) (h0 : 9223372036854775808 < c) : ∀ j, c + j ≤ 18442240474082181120 → itp j c = c + j
  | 0, _ => rfl
  | j + 1, h => by
    show pv (itp j c) = _
    rw [down_neg c h0 j (by omega), pv_of _ (isN_of _ (by omega)), if_neg (by omega), if_neg (by omega), if_pos (by omega)]; omega
theorem down_pos (c : Nat) (h1 : c ≤ 9218868437227405312) : ∀ j, j < c → itp j c = c - j
  | 0, _ => rfl
  | j + 1, h => by
    show pv (itp j c) = _
    rw [down_pos c h1 j (by omega), pv_of _ (isN_of _ (by omega)), if_neg (by omega), if_neg (by omega), if_neg (by omega)]; omega

/-- Where the number is no nought, no NaN, and so many steps up are finite and of its sign: the keys stand beside each other, and as many steps down come back. -/
theorem there_back (c k : Nat) (hc : c < 18446744073709551616) (hn : isN c = false) (hz : c % 9223372036854775808 ≠ 0) (hf : itn k c % 9223372036854775808 < 9218868437227405312)
    (hs : (9223372036854775808 < c ∧ 9223372036854775808 < itn k c) ∨ (c < 9223372036854775808)) :
    kb (itn k c) = kb c + k ∧ itp k (itn k c) = c := by
  have hN := isN_lit c hn
  by_cases h : c < 9223372036854775808
  · have e := up_pos c (by omega) (by omega) k
    have e2 : itn k c = c + k := by omega
    rw [e2]
    refine ⟨?_, ?_⟩
    · have a := cb_of c hN
      have b := cb_of (c + k) (by rw [e2] at hf; omega)
      unfold kb; rw [a, b, if_pos (by rw [e2] at hf; omega), if_pos h]; omega
    · rw [down_pos (c + k) (by omega) k (by omega)]; omega
  · have hs' : 9223372036854775808 < itn k c := by omega
    rcases up_neg c (by omega) (by omega) k with e | e
    · have := up_past c (by omega) (by omega) k e; omega
    · rw [e] at hs' hf ⊢
      refine ⟨?_, ?_⟩
      · have a := cb_of c hN
        have b := cb_of (c - k) (by omega)
        unfold kb; rw [a, b, if_neg (by omega), if_neg (by omega)]; omega
      · rw [down_neg (c - k) (by omega) k (by omega)]; omega

theorem itn_num (c k : Nat) (hn : isN c = false) (hc : c < 18446744073709551616) : isN (itn k c) = false := by
  induction k with
  | zero => exact hn
  | succ k ih =>
    show isN (nx (itn k c)) = false
    have := itn_lt c hc k
    have h := isN_lit _ ih
    apply isN_of
    rw [nx_of _ ih]
    repeat' split
    all_goals omega

set_option maxHeartbeats 1000000 in
theorem steps_out (n m : Int) (c : Nat) (h0 : 0 ≤ n) (h1 : n < 18446744073709551616) (HC : Hid (cb n.toNat = c)) (w : World)
    (hout : FloatKind.f64.format.order c c = none ∨ (FloatKind.f64.format.order c c = some .eq ∧ (decide (m < 0) = true ∨ (decide (m < 0) = false ∧ decide ((50 : Int) < m) = true)))) :
    Calls Try.prog 10 #[.int .u64 n, .int .i64 m] w fun e w' => e = .returned (.bool true) ∧ Below w.heap.size w w' := by
  rcases hout with o1 | ⟨o1, q | ⟨q, q'⟩⟩
  all_goals
    go_enter Try.func10, Try.ntmps10
    go_wp2_with (first | (go_at_call 26; refine (from_as _ _ h0 h1 HC _).mono ?_; rintro e w' ⟨rfl, rfl⟩) | (go_at_call 18; refine (next_any _ (by assumption) _).mono ?_; rintro e w' ⟨rfl, rfl⟩) | (go_at_call 20; refine (prev_any _ (by assumption) _).mono ?_; rintro e w' ⟨rfl, rfl⟩) | (go_at_call 15; refine (key_any _ (by assumption) _).mono ?_; rintro e w' ⟨rfl, rfl⟩) | (go_at_call 22; refine (same_any _ _ (by assumption) (by assumption) _).mono ?_; rintro e w' ⟨rfl, rfl⟩) | (go_at_call 23; refine (awake_any _).mono ?_; rintro e w' ⟨rfl, rfl⟩))
    go_ret
    exact ⟨rfl, Below.refl _ _⟩

set_option maxHeartbeats 2000000 in
theorem steps_inf (n : Int) (N c : Nat) (h0 : 0 ≤ n) (h1 : n < 18446744073709551616) (HC : Hid (cb n.toNat = c)) (hlt : c < 18446744073709551616) (hN : N ≤ 50) (w : World)
    (o1 : FloatKind.f64.format.order c c = some .eq) (b : Nat) (hrun : (binOp .sub 22 (.float .f64 (itn N c)) (.float .f64 (itn N c))).run Try.prog w = .ok (.float .f64 b) w.drew) (o5 : FloatKind.f64.format.order b 0 = none) :
    Calls Try.prog 10 #[.int .u64 n, .int .i64 (N : Int)] w fun e w' => e = .returned (.bool true) ∧ Below w.heap.size w w' := by
  have hN1 : decide ((50 : Int) < (N : Int)) = false := decide_eq_false (by omega)
  have hN2 : decide ((N : Int) < 0) = false := decide_eq_false (by omega)
  go_enter Try.func10, Try.ntmps10
  go_wp2_with (first | (go_at_call 26; refine (from_as _ _ h0 h1 HC _).mono ?_; rintro e w' ⟨rfl, rfl⟩) | (go_at_call 18; refine (next_any _ (by assumption) _).mono ?_; rintro e w' ⟨rfl, rfl⟩) | (go_at_call 20; refine (prev_any _ (by assumption) _).mono ?_; rintro e w' ⟨rfl, rfl⟩) | (go_at_call 15; refine (key_any _ (by assumption) _).mono ?_; rintro e w' ⟨rfl, rfl⟩) | (go_at_call 22; refine (same_any _ _ (by assumption) (by assumption) _).mono ?_; rintro e w' ⟨rfl, rfl⟩) | (go_at_call 23; refine (awake_any _).mono ?_; rintro e w' ⟨rfl, rfl⟩))
  go_loop [6, 7] (fun y i => ∃ k : Nat, k ≤ N ∧ i = .int .i64 k ∧ y = .float .f64 (itn k c)) (fun _ i => N - (intOf i).toNat)
  case atStart => exact ⟨0, Nat.zero_le _, rfl, rfl⟩
  case round =>
    obtain ⟨k, hk, rfl, rfl⟩ := hrel
    have hil := itn_lt c hlt k
    by_cases hlk : k < N
    · go_wp2_with (first | (go_at_call 26; refine (from_as _ _ h0 h1 HC _).mono ?_; rintro e w' ⟨rfl, rfl⟩) | (go_at_call 18; refine (next_any _ (by assumption) _).mono ?_; rintro e w' ⟨rfl, rfl⟩) | (go_at_call 20; refine (prev_any _ (by assumption) _).mono ?_; rintro e w' ⟨rfl, rfl⟩) | (go_at_call 15; refine (key_any _ (by assumption) _).mono ?_; rintro e w' ⟨rfl, rfl⟩) | (go_at_call 22; refine (same_any _ _ (by assumption) (by assumption) _).mono ?_; rintro e w' ⟨rfl, rfl⟩) | (go_at_call 23; refine (awake_any _).mono ?_; rintro e w' ⟨rfl, rfl⟩))
      go_round
      case rel => exact ⟨k + 1, by omega, by go_num, rfl⟩
      case measure => simp [intOf]; omega
    · have hkN : k = N := by omega
      subst hkN
      go_wp2_with (first | (go_at_call 26; refine (from_as _ _ h0 h1 HC _).mono ?_; rintro e w' ⟨rfl, rfl⟩) | (go_at_call 18; refine (next_any _ (by assumption) _).mono ?_; rintro e w' ⟨rfl, rfl⟩) | (go_at_call 20; refine (prev_any _ (by assumption) _).mono ?_; rintro e w' ⟨rfl, rfl⟩) | (go_at_call 15; refine (key_any _ (by assumption) _).mono ?_; rintro e w' ⟨rfl, rfl⟩) | (go_at_call 22; refine (same_any _ _ (by assumption) (by assumption) _).mono ?_; rintro e w' ⟨rfl, rfl⟩) | (go_at_call 23; refine (awake_any _).mono ?_; rintro e w' ⟨rfl, rfl⟩))
      go_ret
      exact ⟨rfl, (Below.refl _ _).drew⟩

set_option maxHeartbeats 2000000 in
theorem steps_sign (n : Int) (N c : Nat) (h0 : 0 ≤ n) (h1 : n < 18446744073709551616) (HC : Hid (cb n.toNat = c)) (hlt : c < 18446744073709551616) (hN : N ≤ 50) (w : World)
    (o1 : FloatKind.f64.format.order c c = some .eq) (hrun : ∀ w : World, (binOp .sub 22 (.float .f64 (itn N c)) (.float .f64 (itn N c))).run Try.prog w = .ok (.float .f64 0) w)
    (z1 : FloatKind.f64.format.order 0 0 = some .eq) (o2 : (FloatKind.f64.format.order c 0 == some .lt) = !(FloatKind.f64.format.order (itn N c) 0 == some .lt)) :
    Calls Try.prog 10 #[.int .u64 n, .int .i64 (N : Int)] w fun e w' => e = .returned (.bool true) ∧ Below w.heap.size w w' := by
  have hN1 : decide ((50 : Int) < (N : Int)) = false := decide_eq_false (by omega)
  have hN2 : decide ((N : Int) < 0) = false := decide_eq_false (by omega)
  go_enter Try.func10, Try.ntmps10
  go_wp2_with (first | (go_at_call 26; refine (from_as _ _ h0 h1 HC _).mono ?_; rintro e w' ⟨rfl, rfl⟩) | (go_at_call 18; refine (next_any _ (by assumption) _).mono ?_; rintro e w' ⟨rfl, rfl⟩) | (go_at_call 20; refine (prev_any _ (by assumption) _).mono ?_; rintro e w' ⟨rfl, rfl⟩) | (go_at_call 15; refine (key_any _ (by assumption) _).mono ?_; rintro e w' ⟨rfl, rfl⟩) | (go_at_call 22; refine (same_any _ _ (by assumption) (by assumption) _).mono ?_; rintro e w' ⟨rfl, rfl⟩) | (go_at_call 23; refine (awake_any _).mono ?_; rintro e w' ⟨rfl, rfl⟩))
  go_loop [6, 7] (fun y i => ∃ k : Nat, k ≤ N ∧ i = .int .i64 k ∧ y = .float .f64 (itn k c)) (fun _ i => N - (intOf i).toNat)
  case atStart => exact ⟨0, Nat.zero_le _, rfl, rfl⟩
  case round =>
    obtain ⟨k, hk, rfl, rfl⟩ := hrel
    have hil := itn_lt c hlt k
    by_cases hlk : k < N
    · go_wp2_with (first | (go_at_call 26; refine (from_as _ _ h0 h1 HC _).mono ?_; rintro e w' ⟨rfl, rfl⟩) | (go_at_call 18; refine (next_any _ (by assumption) _).mono ?_; rintro e w' ⟨rfl, rfl⟩) | (go_at_call 20; refine (prev_any _ (by assumption) _).mono ?_; rintro e w' ⟨rfl, rfl⟩) | (go_at_call 15; refine (key_any _ (by assumption) _).mono ?_; rintro e w' ⟨rfl, rfl⟩) | (go_at_call 22; refine (same_any _ _ (by assumption) (by assumption) _).mono ?_; rintro e w' ⟨rfl, rfl⟩) | (go_at_call 23; refine (awake_any _).mono ?_; rintro e w' ⟨rfl, rfl⟩))
      go_round
      case rel => exact ⟨k + 1, by omega, by go_num, rfl⟩
      case measure => simp [intOf]; omega
    · have hkN : k = N := by omega
      subst hkN
      by_cases q : (FloatKind.f64.format.order (itn k c) 0 == some .lt) = true
      · rw [q] at o2
        go_wp2_with (first | (go_at_call 26; refine (from_as _ _ h0 h1 HC _).mono ?_; rintro e w' ⟨rfl, rfl⟩) | (go_at_call 18; refine (next_any _ (by assumption) _).mono ?_; rintro e w' ⟨rfl, rfl⟩) | (go_at_call 20; refine (prev_any _ (by assumption) _).mono ?_; rintro e w' ⟨rfl, rfl⟩) | (go_at_call 15; refine (key_any _ (by assumption) _).mono ?_; rintro e w' ⟨rfl, rfl⟩) | (go_at_call 22; refine (same_any _ _ (by assumption) (by assumption) _).mono ?_; rintro e w' ⟨rfl, rfl⟩) | (go_at_call 23; refine (awake_any _).mono ?_; rintro e w' ⟨rfl, rfl⟩))
        go_ret
        exact ⟨rfl, Below.refl _ _⟩
      · have q : (FloatKind.f64.format.order (itn k c) 0 == some .lt) = false := by simpa using q
        rw [q] at o2
        go_wp2_with (first | (go_at_call 26; refine (from_as _ _ h0 h1 HC _).mono ?_; rintro e w' ⟨rfl, rfl⟩) | (go_at_call 18; refine (next_any _ (by assumption) _).mono ?_; rintro e w' ⟨rfl, rfl⟩) | (go_at_call 20; refine (prev_any _ (by assumption) _).mono ?_; rintro e w' ⟨rfl, rfl⟩) | (go_at_call 15; refine (key_any _ (by assumption) _).mono ?_; rintro e w' ⟨rfl, rfl⟩) | (go_at_call 22; refine (same_any _ _ (by assumption) (by assumption) _).mono ?_; rintro e w' ⟨rfl, rfl⟩) | (go_at_call 23; refine (awake_any _).mono ?_; rintro e w' ⟨rfl, rfl⟩))
        go_ret
        exact ⟨rfl, Below.refl _ _⟩

set_option maxHeartbeats 2000000 in
theorem steps_zero (n : Int) (N c : Nat) (h0 : 0 ≤ n) (h1 : n < 18446744073709551616) (HC : Hid (cb n.toNat = c)) (hlt : c < 18446744073709551616) (hN : N ≤ 50) (w : World)
    (o1 : FloatKind.f64.format.order c c = some .eq) (hrun : ∀ w : World, (binOp .sub 22 (.float .f64 (itn N c)) (.float .f64 (itn N c))).run Try.prog w = .ok (.float .f64 0) w)
    (z1 : FloatKind.f64.format.order 0 0 = some .eq) (o2 : FloatKind.f64.format.order c 0 = some .eq) (o3 : (FloatKind.f64.format.order (itn N c) 0 == some .lt) = false) :
    Calls Try.prog 10 #[.int .u64 n, .int .i64 (N : Int)] w fun e w' => e = .returned (.bool true) ∧ Below w.heap.size w w' := by
  have hN1 : decide ((50 : Int) < (N : Int)) = false := decide_eq_false (by omega)
  have hN2 : decide ((N : Int) < 0) = false := decide_eq_false (by omega)
  go_enter Try.func10, Try.ntmps10
  go_wp2_with (first | (go_at_call 26; refine (from_as _ _ h0 h1 HC _).mono ?_; rintro e w' ⟨rfl, rfl⟩) | (go_at_call 18; refine (next_any _ (by assumption) _).mono ?_; rintro e w' ⟨rfl, rfl⟩) | (go_at_call 20; refine (prev_any _ (by assumption) _).mono ?_; rintro e w' ⟨rfl, rfl⟩) | (go_at_call 15; refine (key_any _ (by assumption) _).mono ?_; rintro e w' ⟨rfl, rfl⟩) | (go_at_call 22; refine (same_any _ _ (by assumption) (by assumption) _).mono ?_; rintro e w' ⟨rfl, rfl⟩) | (go_at_call 23; refine (awake_any _).mono ?_; rintro e w' ⟨rfl, rfl⟩))
  go_loop [6, 7] (fun y i => ∃ k : Nat, k ≤ N ∧ i = .int .i64 k ∧ y = .float .f64 (itn k c)) (fun _ i => N - (intOf i).toNat)
  case atStart => exact ⟨0, Nat.zero_le _, rfl, rfl⟩
  case round =>
    obtain ⟨k, hk, rfl, rfl⟩ := hrel
    have hil := itn_lt c hlt k
    by_cases hlk : k < N
    · go_wp2_with (first | (go_at_call 26; refine (from_as _ _ h0 h1 HC _).mono ?_; rintro e w' ⟨rfl, rfl⟩) | (go_at_call 18; refine (next_any _ (by assumption) _).mono ?_; rintro e w' ⟨rfl, rfl⟩) | (go_at_call 20; refine (prev_any _ (by assumption) _).mono ?_; rintro e w' ⟨rfl, rfl⟩) | (go_at_call 15; refine (key_any _ (by assumption) _).mono ?_; rintro e w' ⟨rfl, rfl⟩) | (go_at_call 22; refine (same_any _ _ (by assumption) (by assumption) _).mono ?_; rintro e w' ⟨rfl, rfl⟩) | (go_at_call 23; refine (awake_any _).mono ?_; rintro e w' ⟨rfl, rfl⟩))
      go_round
      case rel => exact ⟨k + 1, by omega, by go_num, rfl⟩
      case measure => simp [intOf]; omega
    · have hkN : k = N := by omega
      subst hkN
      go_wp2_with (first | (go_at_call 26; refine (from_as _ _ h0 h1 HC _).mono ?_; rintro e w' ⟨rfl, rfl⟩) | (go_at_call 18; refine (next_any _ (by assumption) _).mono ?_; rintro e w' ⟨rfl, rfl⟩) | (go_at_call 20; refine (prev_any _ (by assumption) _).mono ?_; rintro e w' ⟨rfl, rfl⟩) | (go_at_call 15; refine (key_any _ (by assumption) _).mono ?_; rintro e w' ⟨rfl, rfl⟩) | (go_at_call 22; refine (same_any _ _ (by assumption) (by assumption) _).mono ?_; rintro e w' ⟨rfl, rfl⟩) | (go_at_call 23; refine (awake_any _).mono ?_; rintro e w' ⟨rfl, rfl⟩))
      go_ret
      exact ⟨rfl, Below.refl _ _⟩

set_option maxHeartbeats 2000000 in
theorem steps_main (n : Int) (N c : Nat) (h0 : 0 ≤ n) (h1 : n < 18446744073709551616) (HC : Hid (cb n.toNat = c)) (hlt : c < 18446744073709551616) (hN : N ≤ 50) (w : World)
    (o1 : FloatKind.f64.format.order c c = some .eq) (hrun : ∀ w : World, (binOp .sub 22 (.float .f64 (itn N c)) (.float .f64 (itn N c))).run Try.prog w = .ok (.float .f64 0) w)
    (z1 : FloatKind.f64.format.order 0 0 = some .eq) (o : Ordering) (ho : o = .lt ∨ o = .gt) (o2 : FloatKind.f64.format.order c 0 = some o) (o3 : FloatKind.f64.format.order (itn N c) 0 = some o)
    (HB : Hid (itp N (itn N c) = c)) (hs : IntKind.u64.wrap ((kb c : Int) + (N : Int)) = (kb (itn N c) : Int)) :
    Calls Try.prog 10 #[.int .u64 n, .int .i64 (N : Int)] w fun e w' => e = .returned (.bool true) ∧ Below w.heap.size w w' := by
  have hN1 : decide ((50 : Int) < (N : Int)) = false := decide_eq_false (by omega)
  have hN2 : decide ((N : Int) < 0) = false := decide_eq_false (by omega)
  go_enter Try.func10, Try.ntmps10
  go_wp2_with (first | (go_at_call 26; refine (from_as _ _ h0 h1 HC _).mono ?_; rintro e w' ⟨rfl, rfl⟩) | (go_at_call 18; refine (next_any _ (by assumption) _).mono ?_; rintro e w' ⟨rfl, rfl⟩) | (go_at_call 20; refine (prev_any _ (by assumption) _).mono ?_; rintro e w' ⟨rfl, rfl⟩) | (go_at_call 15; refine (key_any _ (by assumption) _).mono ?_; rintro e w' ⟨rfl, rfl⟩) | (go_at_call 22; refine (same_any _ _ (by assumption) (by assumption) _).mono ?_; rintro e w' ⟨rfl, rfl⟩) | (go_at_call 23; refine (awake_any _).mono ?_; rintro e w' ⟨rfl, rfl⟩))
  go_loop [6, 7] (fun y i => ∃ k : Nat, k ≤ N ∧ i = .int .i64 k ∧ y = .float .f64 (itn k c)) (fun _ i => N - (intOf i).toNat)
  case atStart => exact ⟨0, Nat.zero_le _, rfl, rfl⟩
  case round =>
    obtain ⟨k, hk, rfl, rfl⟩ := hrel
    have hil := itn_lt c hlt k
    by_cases hlk : k < N
    · go_wp2_with (first | (go_at_call 26; refine (from_as _ _ h0 h1 HC _).mono ?_; rintro e w' ⟨rfl, rfl⟩) | (go_at_call 18; refine (next_any _ (by assumption) _).mono ?_; rintro e w' ⟨rfl, rfl⟩) | (go_at_call 20; refine (prev_any _ (by assumption) _).mono ?_; rintro e w' ⟨rfl, rfl⟩) | (go_at_call 15; refine (key_any _ (by assumption) _).mono ?_; rintro e w' ⟨rfl, rfl⟩) | (go_at_call 22; refine (same_any _ _ (by assumption) (by assumption) _).mono ?_; rintro e w' ⟨rfl, rfl⟩) | (go_at_call 23; refine (awake_any _).mono ?_; rintro e w' ⟨rfl, rfl⟩))
      go_round
      case rel => exact ⟨k + 1, by omega, by go_num, rfl⟩
      case measure => simp [intOf]; omega
    · have hkN : k = N := by omega
      subst hkN
      have s1 : smB c c = true := decide_eq_true rfl
      rcases ho with rfl | rfl
      all_goals
        go_wp2_with (first | (go_at_call 26; refine (from_as _ _ h0 h1 HC _).mono ?_; rintro e w' ⟨rfl, rfl⟩) | (go_at_call 18; refine (next_any _ (by assumption) _).mono ?_; rintro e w' ⟨rfl, rfl⟩) | (go_at_call 20; refine (prev_any _ (by assumption) _).mono ?_; rintro e w' ⟨rfl, rfl⟩) | (go_at_call 15; refine (key_any _ (by assumption) _).mono ?_; rintro e w' ⟨rfl, rfl⟩) | (go_at_call 22; refine (same_any _ _ (by assumption) (by assumption) _).mono ?_; rintro e w' ⟨rfl, rfl⟩) | (go_at_call 23; refine (awake_any _).mono ?_; rintro e w' ⟨rfl, rfl⟩))
        go_loop [6, 8] (fun y i => ∃ j : Nat, j ≤ k ∧ i = .int .i64 j ∧ y = .float .f64 (itp j (itn k c))) (fun _ i => k - (intOf i).toNat)
        case atStart => exact ⟨0, Nat.zero_le _, rfl, rfl⟩
        case round =>
          obtain ⟨j, hj, rfl, rfl⟩ := hrel
          have hjl := itp_lt (itn k c) hil j
          by_cases hlj : j < k
          · go_wp2_with (first | (go_at_call 26; refine (from_as _ _ h0 h1 HC _).mono ?_; rintro e w' ⟨rfl, rfl⟩) | (go_at_call 18; refine (next_any _ (by assumption) _).mono ?_; rintro e w' ⟨rfl, rfl⟩) | (go_at_call 20; refine (prev_any _ (by assumption) _).mono ?_; rintro e w' ⟨rfl, rfl⟩) | (go_at_call 15; refine (key_any _ (by assumption) _).mono ?_; rintro e w' ⟨rfl, rfl⟩) | (go_at_call 22; refine (same_any _ _ (by assumption) (by assumption) _).mono ?_; rintro e w' ⟨rfl, rfl⟩) | (go_at_call 23; refine (awake_any _).mono ?_; rintro e w' ⟨rfl, rfl⟩))
            go_round
            case rel => exact ⟨j + 1, by omega, by go_num, rfl⟩
            case measure => simp [intOf]; omega
          · have hjk : j = k := by omega
            subst hjk
            rw [HB.out]
            go_wp2_with (first | (go_at_call 26; refine (from_as _ _ h0 h1 HC _).mono ?_; rintro e w' ⟨rfl, rfl⟩) | (go_at_call 18; refine (next_any _ (by assumption) _).mono ?_; rintro e w' ⟨rfl, rfl⟩) | (go_at_call 20; refine (prev_any _ (by assumption) _).mono ?_; rintro e w' ⟨rfl, rfl⟩) | (go_at_call 15; refine (key_any _ (by assumption) _).mono ?_; rintro e w' ⟨rfl, rfl⟩) | (go_at_call 22; refine (same_any _ _ (by assumption) (by assumption) _).mono ?_; rintro e w' ⟨rfl, rfl⟩) | (go_at_call 23; refine (awake_any _).mono ?_; rintro e w' ⟨rfl, rfl⟩))
            go_ret
            exact ⟨rfl, Below.refl _ _⟩

theorem steps_any (n : Int) (wn : (Lit.int .u64 n).wf = true) (m : Int) (w : World) :
    Calls Try.prog 10 #[.int .u64 n, .int .i64 m] w fun e w' => e = .returned (.bool true) ∧ Below w.heap.size w w' := by
  obtain ⟨h0, h1⟩ := wf_u64 n wn
  obtain ⟨c, hc⟩ : ∃ c : Nat, cb n.toNat = c := ⟨_, rfl⟩
  have hlt : c < 18446744073709551616 := by rw [← hc]; exact cb_lt _ (by omega)
  have HC := Lib.hid hc
  by_cases hn : isN c = true
  · exact steps_out n m c h0 h1 HC w (Or.inl (ord_nan_l c c hlt hn))
  have hn : isN c = false := by simpa using hn
  have o1 := ord_self c hlt hn
  by_cases hm : m < 0
  · exact steps_out n m c h0 h1 HC w (Or.inr ⟨o1, Or.inl (decide_eq_true hm)⟩)
  by_cases hm2 : 50 < m
  · exact steps_out n m c h0 h1 HC w (Or.inr ⟨o1, Or.inr ⟨decide_eq_false hm, decide_eq_true hm2⟩⟩)
  obtain ⟨N, rfl⟩ : ∃ N : Nat, m = (N : Int) := ⟨m.toNat, by omega⟩
  have hN : N ≤ 50 := by omega
  have hyl := itn_lt c hlt N
  have hyn := itn_num c N hn hlt
  have z1 : FloatKind.f64.format.order 0 0 = some .eq := ord_self 0 (by decide) (by decide)
  have hyN := isN_lit _ hyn
  by_cases hf : itn N c % 9223372036854775808 = 9218868437227405312
  · obtain ⟨b, hbn, hbl, hrun⟩ := run_float_nan (P := Try.prog) w .sub (by simp) 22 (itn N c) (itn N c) (sub_self_inf _ hf hyl)
    exact steps_inf n N c h0 h1 HC hlt hN w o1 b hrun (ord_nan_l b 0 hbl hbn)
  have hrun := fun w : World => run_float_arith (P := Try.prog) w .sub 22 .f64 (itn N c) (itn N c) 0 (sub_self_fin (itn N c) (by omega) hyl)
  have hcN := isN_lit _ hn
  rcases q_zero c hlt hn with ⟨a, o2⟩ | ⟨a, a', o2⟩ | ⟨a, o2⟩ <;> rcases q_zero (itn N c) hyl hyn with ⟨d, o3⟩ | ⟨d, d', o3⟩ | ⟨d, o3⟩
  · exact steps_zero n N c h0 h1 HC hlt hN w o1 hrun z1 o2 (by rw [o3]; rfl)
  · exact steps_zero n N c h0 h1 HC hlt hN w o1 hrun z1 o2 (by rw [o3]; rfl)
  · exact steps_sign n N c h0 h1 HC hlt hN w o1 hrun z1 (by rw [o2, o3]; rfl)
  · obtain ⟨e1, e2⟩ := there_back c N hlt hn (by omega) (by omega) (Or.inr a')
    exfalso
    have := up_pos c (by omega) (by omega) N
    omega
  · obtain ⟨e1, e2⟩ := there_back c N hlt hn (by omega) (by omega) (Or.inr a')
    exact steps_main n N c h0 h1 HC hlt hN w o1 hrun z1 .gt (Or.inr rfl) o2 o3 (Lib.hid e2) (by rw [IntKind.wrap_u64, e1]; have := kb_lt _ hyl; omega)
  · exact steps_sign n N c h0 h1 HC hlt hN w o1 hrun z1 (by rw [o2, o3]; rfl)
  · exact steps_sign n N c h0 h1 HC hlt hN w o1 hrun z1 (by rw [o2, o3]; rfl)
  · exact steps_sign n N c h0 h1 HC hlt hN w o1 hrun z1 (by rw [o2, o3]; rfl)
  · obtain ⟨e1, e2⟩ := there_back c N hlt hn (by omega) (by omega) (Or.inl ⟨a, d⟩)
    exact steps_main n N c h0 h1 HC hlt hN w o1 hrun z1 .lt (Or.inl rfl) o2 o3 (Lib.hid e2) (by rw [IntKind.wrap_u64, e1]; have := kb_lt _ hyl; omega)

end Go.Proofs.Ytmdnahbopjkjhaa
