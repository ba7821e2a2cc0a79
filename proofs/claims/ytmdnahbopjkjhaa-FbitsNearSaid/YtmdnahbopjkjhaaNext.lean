/- Proved: the number above and the number below, in fbits and in its twin, as plain functions of a number's bits; and that awake answers true. -/
import Derived.Test.YtmdnahbopjkjhaaWalks
namespace Go.Proofs.Ytmdnahbopjkjhaa
open Go.RowKit Fl

theorem isN_lit (b : Nat) (hn : isN b = false) : ¬ 9218868437227405312 < b % 9223372036854775808 := by simpa [isN] using hn
theorem nx_nan (b : Nat) (hn : isN b = true) : nx b = 9221120237041090560 := by unfold nx; rw [if_pos hn]
theorem pv_nan (b : Nat) (hn : isN b = true) : pv b = 9221120237041090560 := by unfold pv; rw [if_pos hn]
theorem nx_of (b : Nat) (hn : isN b = false) : nx b = if b = 9218868437227405312 then b else if b % 9223372036854775808 = 0 then 1 else if 9223372036854775808 ≤ b then b - 1 else b + 1 := by
  unfold nx; rw [if_neg (by simp [hn])]
theorem pv_of (b : Nat) (hn : isN b = false) : pv b = if b = 18442240474082181120 then b else if b % 9223372036854775808 = 0 then 9223372036854775809 else if 9223372036854775808 ≤ b then b + 1 else b - 1 := by
  unfold pv; rw [if_neg (by simp [hn])]
theorem cb_nx (b : Nat) (hb : b < 18446744073709551616) : cb (nx b) = nx b := by
  by_cases hn : isN b = true
  · rw [nx_nan b hn]; decide
  · have hn' : isN b = false := by simpa using hn
    have h1 := nx_of b hn'
    have h2 := isN_lit b hn'
    apply cb_of
    rw [h1]
    repeat' split
    all_goals omega
theorem cb_pv (b : Nat) (hb : b < 18446744073709551616) : cb (pv b) = pv b := by
  by_cases hn : isN b = true
  · rw [pv_nan b hn]; decide
  · have hn' : isN b = false := by simpa using hn
    have h1 := pv_of b hn'
    have h2 := isN_lit b hn'
    apply cb_of
    rw [h1]
    repeat' split
    all_goals omega
theorem nx_lt (b : Nat) (hb : b < 18446744073709551616) : nx b < 18446744073709551616 := by
  have := isN_lit b; unfold nx
  repeat' split
  all_goals (try have := this (by simpa using ‹¬ isN b = true›)); omega
theorem pv_lt (b : Nat) (hb : b < 18446744073709551616) : pv b < 18446744073709551616 := by
  have := isN_lit b; unfold pv
  repeat' split
  all_goals (try have := this (by simpa using ‹¬ isN b = true›)); omega
theorem q_nan (b : Nat) : ((b : Int) == 9221120237041090560) = decide (b = 9221120237041090560) := by
  rw [Bool.eq_iff_iff]; simp only [beq_iff_eq, decide_eq_true_eq]; omega
theorem q_inf (b : Nat) : ((b : Int) == 9218868437227405312) = decide (b = 9218868437227405312) := by
  rw [Bool.eq_iff_iff]; simp only [beq_iff_eq, decide_eq_true_eq]; omega
theorem q_ninf (b : Nat) : ((b : Int) == 18442240474082181120) = decide (b = 18442240474082181120) := by
  rw [Bool.eq_iff_iff]; simp only [beq_iff_eq, decide_eq_true_eq]; omega
theorem ret_float {a b : Nat} (h : a = b) : Ending.returned (.float .f64 a) = Ending.returned (.float .f64 b) := by rw [h]

set_option maxHeartbeats 1000000 in
theorem next_any (b : Nat) (hb : b < 18446744073709551616) (w : World) :
    Calls Try.prog 18 #[.float .f64 b] w fun e w' => e = .returned (.float .f64 (nx b)) ∧ w = w' := by
  have hlt := cb_lt b hb
  have HN := Lib.hid (cb_nx b hb)
  have hnl := nx_lt b hb
  have e1 := f_neg (cb b) hlt
  have e2 := g_zero (cb b) hlt
  have e3 := q_nan (cb b)
  have e4 := q_inf (cb b)
  rcases cls_cases b hb with ⟨hn, _⟩ | ⟨hn, k0, h⟩
  · have k0 := cb_nan b hn
    have hv := nx_nan b hn
    replace e3 := e3.trans (decide_eq_true (by omega))
    have F : Hid (cb ((cb b : Int).toNat) = nx b) := Lib.hid (by rw [Int.toNat_natCast, cb_cb, k0, hv])
    clear k0 hv e1 e2 e4
    go_enter Try.func18, Try.ntmps18
    go_wp2_with (first | (go_at_call 13; refine (bits_any _ hb _).mono ?_; rintro e w' ⟨rfl, rfl⟩) | (go_at_call 26; refine (from_any _ (by omega) (by omega) _).mono ?_; rintro e w' ⟨rfl, rfl⟩))
    go_ret
    exact ⟨ret_float F.out, rfl⟩
  · have hv := nx_of b hn
    have K0 := Lib.hid k0
    have HV := Lib.hid hv
    replace e3 := e3.trans (decide_eq_false (by omega))
    rcases h with ⟨k, _⟩ | ⟨k, k', _⟩ | ⟨k, k', _⟩ | ⟨k, _⟩ | ⟨k, _⟩ | ⟨k, k', _⟩ | ⟨k, k', _⟩ | ⟨k, _⟩
    all_goals
      first | (replace e1 := e1.trans (decide_eq_true (by omega))) | (replace e1 := e1.trans (decide_eq_false (by omega)))
      first | (replace e2 := e2.trans (decide_eq_true (by omega))) | (replace e2 := e2.trans (decide_eq_false (by omega)))
      first | (replace e4 := e4.trans (decide_eq_true (by omega))) | (replace e4 := e4.trans (decide_eq_false (by omega)))
      try (have w1 : IntKind.u64.wrap ((cb b : Int) - 1) = (nx b : Int) := by (rw [IntKind.wrap_u64, hv, k0]; clear HN HV e1 e2 e3 e4 hv K0; (repeat' split) <;> omega))
      try (have w2 : IntKind.u64.wrap ((cb b : Int) + 1) = (nx b : Int) := by (rw [IntKind.wrap_u64, hv, k0]; clear HN HV e1 e2 e3 e4 hv K0; (repeat' split) <;> omega))
      have K := Lib.hid k
      clear k k0 hv
      go_enter Try.func18, Try.ntmps18
      go_wp2_with (first | (go_at_call 13; refine (bits_any _ hb _).mono ?_; rintro e w' ⟨rfl, rfl⟩) | (go_at_call 26; refine (from_any _ (by omega) (by omega) _).mono ?_; rintro e w' ⟨rfl, rfl⟩))
      go_ret
      refine ⟨ret_float ?_, rfl⟩
      have k := K.out
      have k0 := K0.out
      have hv := HV.out
      first
        | exact HN.out
        | (show cb ((cb b : Int).toNat) = nx b; rw [Int.toNat_natCast, cb_cb, k0, hv]; clear HN HV e1 e2 e3 e4 hv K0; (repeat' split) <;> omega)
        | (show cb ((1 : Int).toNat) = nx b; rw [hv, show cb ((1 : Int).toNat) = 1 from by decide]; clear HN HV e1 e2 e3 e4 hv K0; (repeat' split) <;> omega)

set_option maxHeartbeats 1000000 in
theorem prev_any (b : Nat) (hb : b < 18446744073709551616) (w : World) :
    Calls Try.prog 20 #[.float .f64 b] w fun e w' => e = .returned (.float .f64 (pv b)) ∧ w = w' := by
  have hlt := cb_lt b hb
  have HN := Lib.hid (cb_pv b hb)
  have hnl := pv_lt b hb
  have e1 := f_neg (cb b) hlt
  have e2 := g_zero (cb b) hlt
  have e3 := q_nan (cb b)
  have e4 := q_ninf (cb b)
  rcases cls_cases b hb with ⟨hn, _⟩ | ⟨hn, k0, h⟩
  · have k0 := cb_nan b hn
    have hv := pv_nan b hn
    replace e3 := e3.trans (decide_eq_true (by omega))
    have F : Hid (cb ((cb b : Int).toNat) = pv b) := Lib.hid (by rw [Int.toNat_natCast, cb_cb, k0, hv])
    clear k0 hv e1 e2 e4
    go_enter Try.func20, Try.ntmps20
    go_wp2_with (first | (go_at_call 13; refine (bits_any _ hb _).mono ?_; rintro e w' ⟨rfl, rfl⟩) | (go_at_call 26; refine (from_any _ (by omega) (by omega) _).mono ?_; rintro e w' ⟨rfl, rfl⟩))
    go_ret
    exact ⟨ret_float F.out, rfl⟩
  · have hv := pv_of b hn
    have K0 := Lib.hid k0
    have HV := Lib.hid hv
    replace e3 := e3.trans (decide_eq_false (by omega))
    rcases h with ⟨k, _⟩ | ⟨k, k', _⟩ | ⟨k, k', _⟩ | ⟨k, _⟩ | ⟨k, _⟩ | ⟨k, k', _⟩ | ⟨k, k', _⟩ | ⟨k, _⟩
    all_goals
      first | (replace e1 := e1.trans (decide_eq_true (by omega))) | (replace e1 := e1.trans (decide_eq_false (by omega)))
      first | (replace e2 := e2.trans (decide_eq_true (by omega))) | (replace e2 := e2.trans (decide_eq_false (by omega)))
      first | (replace e4 := e4.trans (decide_eq_true (by omega))) | (replace e4 := e4.trans (decide_eq_false (by omega)))
      try (have w1 : IntKind.u64.wrap ((cb b : Int) - 1) = (pv b : Int) := by (rw [IntKind.wrap_u64, hv, k0]; clear HN HV e1 e2 e3 e4 hv K0; (repeat' split) <;> omega))
      try (have w2 : IntKind.u64.wrap ((cb b : Int) + 1) = (pv b : Int) := by (rw [IntKind.wrap_u64, hv, k0]; clear HN HV e1 e2 e3 e4 hv K0; (repeat' split) <;> omega))
      have K := Lib.hid k
      clear k k0 hv
      go_enter Try.func20, Try.ntmps20
      go_wp2_with (first | (go_at_call 13; refine (bits_any _ hb _).mono ?_; rintro e w' ⟨rfl, rfl⟩) | (go_at_call 26; refine (from_any _ (by omega) (by omega) _).mono ?_; rintro e w' ⟨rfl, rfl⟩))
      go_ret
      refine ⟨ret_float ?_, rfl⟩
      have k := K.out
      have k0 := K0.out
      have hv := HV.out
      first
        | exact HN.out
        | (show cb ((cb b : Int).toNat) = pv b; rw [Int.toNat_natCast, cb_cb, k0, hv]; clear HN HV e1 e2 e3 e4 hv K0; (repeat' split) <;> omega)
        | (show cb ((9223372036854775809 : Int).toNat) = pv b; rw [hv, show cb ((9223372036854775809 : Int).toNat) = 9223372036854775809 from by decide]; clear HN HV e1 e2 e3 e4 hv K0; (repeat' split) <;> omega)

theorem kb_lt (b : Nat) (hb : b < 18446744073709551616) : kb b < 18446744073709551616 := by
  have := cb_lt b hb; unfold kb; split <;> omega
theorem unk_kb (b : Nat) (hb : b < 18446744073709551616) : cb (unk (kb b)) = cb b := by
  have h := cb_lt b hb
  have : unk (kb b) = cb b := by unfold unk kb; repeat' split
                                 all_goals omega
  rw [this, cb_cb]
theorem unk_lt (m : Nat) (hm : m < 18446744073709551616) : unk m < 18446744073709551616 := by unfold unk; split <;> omega

set_option maxHeartbeats 1000000 in
theorem rnext_any (b : Nat) (hb : b < 18446744073709551616) (w : World) :
    Calls Try.prog 19 #[.float .f64 b] w fun e w' => e = .returned (.float .f64 (nx b)) ∧ w = w' := by
  have hkl := kb_lt b hb
  obtain ⟨m, hm⟩ : ∃ m : Nat, m = (kb b + 1) % 18446744073709551616 := ⟨_, rfl⟩
  have w2 : IntKind.u64.wrap ((kb b : Int) + 1) = (m : Int) := by rw [IntKind.wrap_u64]; omega
  have hml : m < 18446744073709551616 := by omega
  rcases cls_cases b hb with ⟨hn, hc⟩ | ⟨hn, k0, h⟩
  · have F : Hid (cb (unk (kb b : Int).toNat) = nx b) := Lib.hid (by rw [Int.toNat_natCast, unk_kb b hb, cb_nan b hn, nx_nan b hn])
    clear hm
    go_enter Try.func19, Try.ntmps19
    go_wp2_with (first | (go_at_call 12; refine (rclass_any _ hb _).mono ?_; rintro e w' ⟨rfl, rfl⟩) | (go_at_call 16; refine (rkey_any _ hb _).mono ?_; rintro e w' ⟨rfl, rfl⟩) | (go_at_call 33; refine (unkey_any _ (by omega) (by omega) _).mono ?_; rintro e w' ⟨rfl, rfl⟩) | (go_at_call 27; refine (rfrom_any _ (by omega) (by omega) _).mono ?_; rintro e w' ⟨rfl, rfl⟩))
    go_ret
    exact ⟨ret_float F.out, rfl⟩
  · have HV := Lib.hid (nx_of b hn)
    have HM := Lib.hid hm
    have K0 := Lib.hid k0
    clear k0 hm
    rcases h with ⟨k, hc⟩ | ⟨k, k', hc⟩ | ⟨k, k', hc⟩ | ⟨k, hc⟩ | ⟨k, hc⟩ | ⟨k, k', hc⟩ | ⟨k, k', hc⟩ | ⟨k, hc⟩
    all_goals
      have K := Lib.hid k
      clear k
      go_enter Try.func19, Try.ntmps19
      go_wp2_with (first | (go_at_call 12; refine (rclass_any _ hb _).mono ?_; rintro e w' ⟨rfl, rfl⟩) | (go_at_call 16; refine (rkey_any _ hb _).mono ?_; rintro e w' ⟨rfl, rfl⟩) | (go_at_call 33; refine (unkey_any _ (by omega) (by omega) _).mono ?_; rintro e w' ⟨rfl, rfl⟩) | (go_at_call 27; refine (rfrom_any _ (by omega) (by omega) _).mono ?_; rintro e w' ⟨rfl, rfl⟩))
      go_ret
      refine ⟨ret_float ?_, rfl⟩
      have k := K.out
      have k0 := K0.out
      have hv := HV.out
      have hm := HM.out
      first
        | (show cb (unk (kb b : Int).toNat) = nx b; rw [Int.toNat_natCast, unk_kb b hb, k0, hv]; clear hm w2; (repeat' split) <;> omega)
        | (show cb ((1 : Int).toNat) = nx b; rw [hv, show cb ((1 : Int).toNat) = 1 from by decide]; clear hm w2; (repeat' split) <;> omega)
        | (show cb (unk (m : Int).toNat) = nx b; rw [Int.toNat_natCast, ← cb_nx b hb]; refine congrArg cb ?_; rw [hv, hm]; unfold unk kb; rw [k0]; (repeat' split) <;> omega)

set_option maxHeartbeats 1000000 in
theorem rprev_any (b : Nat) (hb : b < 18446744073709551616) (w : World) :
    Calls Try.prog 21 #[.float .f64 b] w fun e w' => e = .returned (.float .f64 (pv b)) ∧ w = w' := by
  have hkl := kb_lt b hb
  obtain ⟨m, hm⟩ : ∃ m : Nat, m = (kb b + 18446744073709551615) % 18446744073709551616 := ⟨_, rfl⟩
  have w2 : IntKind.u64.wrap ((kb b : Int) - 1) = (m : Int) := by rw [IntKind.wrap_u64]; omega
  have hml : m < 18446744073709551616 := by omega
  rcases cls_cases b hb with ⟨hn, hc⟩ | ⟨hn, k0, h⟩
  · have F : Hid (cb (unk (kb b : Int).toNat) = pv b) := Lib.hid (by rw [Int.toNat_natCast, unk_kb b hb, cb_nan b hn, pv_nan b hn])
    clear hm
    go_enter Try.func21, Try.ntmps21
    go_wp2_with (first | (go_at_call 12; refine (rclass_any _ hb _).mono ?_; rintro e w' ⟨rfl, rfl⟩) | (go_at_call 16; refine (rkey_any _ hb _).mono ?_; rintro e w' ⟨rfl, rfl⟩) | (go_at_call 33; refine (unkey_any _ (by omega) (by omega) _).mono ?_; rintro e w' ⟨rfl, rfl⟩) | (go_at_call 27; refine (rfrom_any _ (by omega) (by omega) _).mono ?_; rintro e w' ⟨rfl, rfl⟩))
    go_ret
    exact ⟨ret_float F.out, rfl⟩
  · have HV := Lib.hid (pv_of b hn)
    have HM := Lib.hid hm
    have K0 := Lib.hid k0
    clear k0 hm
    rcases h with ⟨k, hc⟩ | ⟨k, k', hc⟩ | ⟨k, k', hc⟩ | ⟨k, hc⟩ | ⟨k, hc⟩ | ⟨k, k', hc⟩ | ⟨k, k', hc⟩ | ⟨k, hc⟩
    all_goals
      have K := Lib.hid k
      clear k
      go_enter Try.func21, Try.ntmps21
      go_wp2_with (first | (go_at_call 12; refine (rclass_any _ hb _).mono ?_; rintro e w' ⟨rfl, rfl⟩) | (go_at_call 16; refine (rkey_any _ hb _).mono ?_; rintro e w' ⟨rfl, rfl⟩) | (go_at_call 33; refine (unkey_any _ (by omega) (by omega) _).mono ?_; rintro e w' ⟨rfl, rfl⟩) | (go_at_call 27; refine (rfrom_any _ (by omega) (by omega) _).mono ?_; rintro e w' ⟨rfl, rfl⟩))
      go_ret
      refine ⟨ret_float ?_, rfl⟩
      have k := K.out
      have k0 := K0.out
      have hv := HV.out
      have hm := HM.out
      first
        | (show cb (unk (kb b : Int).toNat) = pv b; rw [Int.toNat_natCast, unk_kb b hb, k0, hv]; clear hm w2; (repeat' split) <;> omega)
        | (show cb ((9223372036854775809 : Int).toNat) = pv b; rw [hv, show cb ((9223372036854775809 : Int).toNat) = 9223372036854775809 from by decide]; clear hm w2; (repeat' split) <;> omega)
        | (show cb (unk (m : Int).toNat) = pv b; rw [Int.toNat_natCast, ← cb_pv b hb]; refine congrArg cb ?_; rw [hv, hm]; unfold unk kb; rw [k0]; (repeat' split) <;> omega)


set_option maxHeartbeats 1000000 in
theorem awake_any (w : World) :
    Calls Try.prog 23 #[] w fun e w' => e = .returned (.bool true) ∧ w = w' := by
  have c1 : (cb 4607182418800017408 : Int) = 4607182418800017408 := by decide
  have c2 : (kb 0 : Int) = 9223372036854775808 := by decide
  have c3 : cls (cb (9223372036854775808 : Int).toNat) = 5 := by decide
  have c4 : cb (9223372036854775808 : Int).toNat < 18446744073709551616 := by decide
  go_enter Try.func23, Try.ntmps23
  go_wp2_with (first | (go_at_call 13; refine (bits_any _ (by decide) _).mono ?_; rintro e w' ⟨rfl, rfl⟩) | (go_at_call 15; refine (key_any _ (by decide) _).mono ?_; rintro e w' ⟨rfl, rfl⟩) | (go_at_call 26; refine (from_any _ (by decide) (by decide) _).mono ?_; rintro e w' ⟨rfl, rfl⟩) | (go_at_call 11; refine (class_any _ c4 _).mono ?_; rintro e w' ⟨rfl, rfl⟩))
  go_ret
  exact ⟨rfl, rfl⟩

end Go.Proofs.Ytmdnahbopjkjhaa
