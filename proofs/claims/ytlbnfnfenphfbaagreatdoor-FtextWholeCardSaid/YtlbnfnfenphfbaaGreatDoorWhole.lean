/- Proved: a rounded number is whole, is not farther than a half, and rounded again is the same; an int is told as it is. -/
import Derived.Test.YtlbnfnfenphfbaaGreatDoorWhl
namespace Go.Proofs.YtlbnfnfenphfbaaGreatDoor
open Go.RowKit Fl Tx

set_option maxHeartbeats 400000 in
theorem round_num (b : Nat) (hb : b < 18446744073709551616) (hn : isN b = false) (w : World) :
    Calls Tryz.prog 14 #[.float .f64 b] w fun e w' => e = .returned (.float .f64 (rndW b)) ∧ w = w' := by
  obtain ⟨e1, h2, h3⟩ := rnd_num b hb hn
  have h := fun w => rte_num b hb hn w
  rw [← e1] at h
  have HC : Hid (cb (rndW b) = rndW b) := Lib.hid (rnd_can b hb).1
  clear e1 h2 hn
  go_enter Tryz.func14, Tryz.ntmps14
  go_wp2_with (go_at_call 27; refine (canon_any _ h3 _).mono ?_; rintro e w' ⟨rfl, rfl⟩)
  go_ret
  exact ⟨by simp [HC.out], rfl⟩

theorem int_val (b : Nat) (v c : Int) (hb : b < 18446744073709551616) (h : intR b = .tuple #[.int .i64 v, .int .i64 c]) (w : World) :
    Calls Tryz.prog 12 #[.float .f64 b] w fun e w' => e = .returned (.tuple #[.int .i64 v, .int .i64 c]) ∧ w = w' := by
  have := int_any b hb w
  rw [h] at this
  exact this

set_option maxHeartbeats 1000000 in
theorem whole_out (n : Int) (h : n < -9007199254740992 ∨ 9007199254740992 < n) (b : Nat) (w : World) (hE : Env w) :
    Calls Tryz.prog 5 #[.int .i64 n, .float .f64 b] w fun e w' => e = .returned (.bool true) ∧ Below w.heap.size w w' := by
  rcases h with h | h
  all_goals
    go_enter Tryz.func5, Tryz.ntmps5
    go_wp2_with (go_at_call 6; refine (awake_any _ hE).mono ?_; rintro e w' ⟨rfl, hb⟩)
    go_ret
    exact ⟨rfl, hb⟩

set_option maxHeartbeats 1000000 in
theorem whole_nan (n : Int) (h0 : -9007199254740992 ≤ n) (h1 : n ≤ 9007199254740992) (b : Nat) (hb : b < 18446744073709551616) (hn : isN b = true) (w : World) (hE : Env w) :
    Calls Tryz.prog 5 #[.int .i64 n, .float .f64 b] w fun e w' => e = .returned (.bool true) ∧ Below w.heap.size w w' := by
  obtain ⟨f1, _, _, f4⟩ := of_int n h0 h1
  have hI := fun w => int_val (floatOfInt .f64 n) n 0 f1 (intR_some _ _ f4) w
  have hr : rndW b = 9221120237041090560 := by unfold rndW; rw [if_pos hn]
  have hR := fun w => round_any b hb w
  have hR2 := fun w => round_any 9221120237041090560 (by decide) w
  rw [hr] at hR
  rw [show rndW 9221120237041090560 = 9221120237041090560 by unfold rndW; rw [if_pos (by decide)]] at hR2
  have hS := fun w => rsame_val 9221120237041090560 9221120237041090560 true (by decide) (by decide) (by decide) w
  have hS2 := fun w => rsame_val 9221120237041090560 b true (by decide) hb (by unfold smB; rw [cb_nan b hn]; decide) w
  have o := ord_nan_l b b hb hn
  have hA0 : At w w := ⟨hE, Below.refl _ _⟩
  clear hr hn f1 f4
  go_enter Tryz.func5, Tryz.ntmps5
  go_wp2_with (first
    | (go_at_call 12; refine (hI _).mono ?_; rintro e w' ⟨rfl, rfl⟩)
    | (go_at_call 14; first
        | ((with_reducible refine (hR _).mono ?_); rintro e w' ⟨rfl, hb⟩; have hA := At.next (w0 := w) (by assumption) hb)
        | ((with_reducible refine (hR2 _).mono ?_); rintro e w' ⟨rfl, hb⟩; have hA := At.next (w0 := w) (by assumption) hb))
    | (go_at_call 11; first | ((with_reducible refine (hS _).mono ?_); rintro e w' ⟨rfl, rfl⟩) | ((with_reducible refine (hS2 _).mono ?_); rintro e w' ⟨rfl, rfl⟩))
    | (go_at_call 6; refine (awake_any _ (by assumption : At w _).env).mono ?_; rintro e w' ⟨rfl, hb⟩; have hA := At.next (w0 := w) (by assumption) hb))
  go_ret
  exact ⟨rfl, (by assumption : At w _).below⟩

set_option maxHeartbeats 1000000 in
theorem whole_inf (n : Int) (h0 : -9007199254740992 ≤ n) (h1 : n ≤ 9007199254740992) (b : Nat) (hb : b < 18446744073709551616) (hf : b % 9223372036854775808 = 9218868437227405312) (w : World) (hE : Env w) :
    Calls Tryz.prog 5 #[.int .i64 n, .float .f64 b] w fun e w' => e = .returned (.bool true) ∧ Below w.heap.size w w' := by
  obtain ⟨f1, _, _, f4⟩ := of_int n h0 h1
  have hn : isN b = false := isN_of b (by omega)
  have hI := fun w => int_val (floatOfInt .f64 n) n 0 f1 (intR_some _ _ f4) w
  have hr : rndW b = b := (rnd_num b hb hn).1.trans (enc_inf b hb hf .even)
  have hR := fun w => round_num b hb hn w
  rw [hr] at hR
  have hc : Can b := ⟨not_nan_cb _ hn, hb⟩
  have hS := fun w => rsame_val b b true hb hb (by rw [smB_can b b hc hc]; simp) w
  have o := ord_self b hb hn
  obtain ⟨c, hcn, hcl, hrun⟩ := run_float_nan (P := Tryz.prog) w .sub (by simp) 22 b b (sub_self_inf b hf hb)
  have o2 := ord_nan_l c 0 hcl hcn
  clear hr hn f1 f4 hf hc hcn
  go_enter Tryz.func5, Tryz.ntmps5
  go_wp2_with (first
    | (go_at_call 12; refine (hI _).mono ?_; rintro e w' ⟨rfl, rfl⟩)
    | (go_at_call 14; refine (hR _).mono ?_; rintro e w' ⟨rfl, rfl⟩)
    | (go_at_call 11; refine (hS _).mono ?_; rintro e w' ⟨rfl, rfl⟩)
    | (go_at_call 6; refine (awake_any _ (hE.below (Below.refl _ _).drew)).mono ?_; rintro e w' ⟨rfl, hb⟩))
  go_ret
  exact ⟨rfl, (Below.refl _ _).drew.trans hb⟩

set_option maxHeartbeats 2000000 in
set_option maxRecDepth 100000 in
theorem whole_fin (n : Int) (h0 : -9007199254740992 ≤ n) (h1 : n ≤ 9007199254740992) (b : Nat) (hb : b < 18446744073709551616) (hf : b % 9223372036854775808 < 9218868437227405312) (w : World) (hE : Env w) :
    Calls Tryz.prog 5 #[.int .i64 n, .float .f64 b] w fun e w' => e = .returned (.bool true) ∧ Below w.heap.size w w' := by
  obtain ⟨f1, _, _, f4⟩ := of_int n h0 h1
  have hn : isN b = false := isN_of b (by omega)
  have hI := fun w => int_val (floatOfInt .f64 n) n 0 f1 (intR_some _ _ f4) w
  obtain ⟨hre, hrn, hrl⟩ := rnd_num b hb hn
  clear hre
  have hR := fun w => round_num b hb hn w
  have hR2 := fun w => round_num (rndW b) hrl hrn w
  rw [rnd_rnd b hb] at hR2
  have hc := rnd_can b hb
  have hS := fun w => rsame_val (rndW b) (rndW b) true hrl hrl (by rw [smB_can _ _ hc hc]; simp) w
  have o := ord_self b hb hn
  have o2 := ord_self 0 (by decide) (by decide)
  have hx := fun w => run_float_arith (P := Tryz.prog) w .sub 22 .f64 b b 0 (sub_self_fin b hf hb)
  obtain ⟨d, hd, hd1, hd2⟩ := rnd_less b hb hf
  have hdr := fun w => run_float_arith (P := Tryz.prog) w .sub 22 .f64 (rndW b) b d hd
  have hz := nought_sign b hb hf
  have hint := rnd_int b hb hf
  have hz0 : (rndW b % 9223372036854775808 = 0 ∧ FloatKind.f64.format.order (rndW b) 0 = some .eq) ∨ (rndW b % 9223372036854775808 ≠ 0 ∧ (FloatKind.f64.format.order (rndW b) 0 != some .eq) = true) := by
    rcases q_zero (rndW b) hrl hrn with ⟨k, q⟩ | ⟨k, k', q⟩ | ⟨k, q⟩
    · exact .inl ⟨k, q⟩
    · exact .inr ⟨by omega, by rw [q]; rfl⟩
    · exact .inr ⟨by omega, by rw [q]; rfl⟩
  clear hn f1 f4 hf hc hd
  generalize rndW b = r at *
  rcases hint with ⟨m, hi, e1, e2, e3⟩ | ⟨hi, e1, hr0⟩ | ⟨hi, e1, e2, hr0⟩
  · have hI2 := fun w => int_val r m 0 hrl (intR_some _ _ hi) w
    clear hi hrn
    rcases hz0 with ⟨k, z⟩ | ⟨k, z⟩
    · obtain ⟨p, q, hp, hq, hpq⟩ := hz k
      have hq1 := fun w => run_float_arith (P := Tryz.prog) w .quo 22 .f64 4607182418800017408 r p hp
      have hq2 := fun w => run_float_arith (P := Tryz.prog) w .quo 22 .f64 4607182418800017408 b q hq
      clear hp hq hz k
      rcases hpq with ⟨z1, z2⟩ | ⟨z1, z2⟩
      all_goals
        go_enter Tryz.func5, Tryz.ntmps5
        go_wp2_with (first
          | (go_at_call 12; first | ((with_reducible refine (hI _).mono ?_); rintro e w' ⟨rfl, rfl⟩) | ((with_reducible refine (hI2 _).mono ?_); rintro e w' ⟨rfl, rfl⟩))
          | (go_at_call 14; first | ((with_reducible refine (hR _).mono ?_); rintro e w' ⟨rfl, rfl⟩) | ((with_reducible refine (hR2 _).mono ?_); rintro e w' ⟨rfl, rfl⟩))
          | (go_at_call 11; refine (hS _).mono ?_; rintro e w' ⟨rfl, rfl⟩)
          | (go_at_call 6; refine (awake_any _ hE).mono ?_; rintro e w' ⟨rfl, hb⟩))
        go_ret
        exact ⟨rfl, hb⟩
    · clear hz k
      go_enter Tryz.func5, Tryz.ntmps5
      go_wp2_with (first
        | (go_at_call 12; first | ((with_reducible refine (hI _).mono ?_); rintro e w' ⟨rfl, rfl⟩) | ((with_reducible refine (hI2 _).mono ?_); rintro e w' ⟨rfl, rfl⟩))
        | (go_at_call 14; first | ((with_reducible refine (hR _).mono ?_); rintro e w' ⟨rfl, rfl⟩) | ((with_reducible refine (hR2 _).mono ?_); rintro e w' ⟨rfl, rfl⟩))
        | (go_at_call 11; refine (hS _).mono ?_; rintro e w' ⟨rfl, rfl⟩)
        | (go_at_call 6; refine (awake_any _ hE).mono ?_; rintro e w' ⟨rfl, hb⟩))
      go_ret
      exact ⟨rfl, hb⟩
  all_goals
    have hI2 := fun w => int_val r 0 13 hrl (intR_none _ hi) w
    have z : (FloatKind.f64.format.order r 0 != some .eq) = true := by
      rcases hz0 with ⟨k, _⟩ | ⟨_, z⟩
      · exact absurd k hr0
      · exact z
    clear hi hrn hz0 hz hr0
    go_enter Tryz.func5, Tryz.ntmps5
    go_wp2_with (first
      | (go_at_call 12; first | ((with_reducible refine (hI _).mono ?_); rintro e w' ⟨rfl, rfl⟩) | ((with_reducible refine (hI2 _).mono ?_); rintro e w' ⟨rfl, rfl⟩))
      | (go_at_call 14; first | ((with_reducible refine (hR _).mono ?_); rintro e w' ⟨rfl, rfl⟩) | ((with_reducible refine (hR2 _).mono ?_); rintro e w' ⟨rfl, rfl⟩))
      | (go_at_call 11; refine (hS _).mono ?_; rintro e w' ⟨rfl, rfl⟩)
      | (go_at_call 6; refine (awake_any _ hE).mono ?_; rintro e w' ⟨rfl, hb⟩))
    go_ret
    exact ⟨rfl, hb⟩

theorem lawwhole_any (n : Int) (b : Nat) (hb : b < 18446744073709551616) (w : World) (hE : Env w) :
    Calls Tryz.prog 5 #[.int .i64 n, .float .f64 b] w fun e w' => e = .returned (.bool true) ∧ Below w.heap.size w w' := by
  by_cases h : n < -9007199254740992 ∨ 9007199254740992 < n
  · exact whole_out n h b w hE
  · by_cases hn : isN b = true
    · exact whole_nan n (by omega) (by omega) b hb hn w hE
    · have hm : ¬ 9218868437227405312 < b % 9223372036854775808 := by simpa [isN] using hn
      by_cases hf : b % 9223372036854775808 = 9218868437227405312
      · exact whole_inf n (by omega) (by omega) b hb hf w hE
      · exact whole_fin n (by omega) (by omega) b hb (by omega) w hE

end Go.Proofs.YtlbnfnfenphfbaaGreatDoor
