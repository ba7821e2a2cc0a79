/- Proved: the law FbitsSign answers true at every word, and leaves all as it was: turned in its sign a number differs in its sign's bit alone. No condition. -/
import Derived.Test.YtmdnahbopjkjhaaLine
namespace Go.Proofs.Ytmdnahbopjkjhaa
open Go.RowKit Fl

theorem wf_u64 (n : Int) (h : (Lit.int .u64 n).wf = true) : 0 ≤ n ∧ n < 18446744073709551616 := by
  simp only [Lit.wf, IntKind.min, IntKind.max, IntKind.signed, IntKind.bits, Bool.and_eq_true] at h
  have h1 := h.1
  have h2 := h.2
  simp at h1 h2
  omega

theorem from_as (n : Int) (c : Nat) (h0 : 0 ≤ n) (h1 : n < 18446744073709551616) (hc : Hid (cb n.toNat = c)) (w : World) :
    Calls Try.prog 26 #[.int .u64 n] w fun e w' => e = .returned (.float .f64 c) ∧ w = w' := by
  have := from_any n h0 h1 w
  rw [hc.out] at this
  exact this

theorem unary_neg_float (c d : Nat) (h : c ^^^ 9223372036854775808 = d) : Op.unary .neg (.float .f64 c) = pure (.float .f64 d) := by
  rw [← h]; rfl

theorem neg_bits (c : Nat) (hc : c < 18446744073709551616) : ∃ d : Nat, c ^^^ 9223372036854775808 = d ∧ d < 18446744073709551616 ∧ ((c < 9223372036854775808 ∧ d = c + 9223372036854775808) ∨ (9223372036854775808 ≤ c ∧ c = d + 9223372036854775808)) := by
  by_cases h : c < 9223372036854775808
  · exact ⟨_, rfl, by rw [xor_or_lo c h]; omega, Or.inl ⟨h, by rw [xor_or_lo c h]; omega⟩⟩
  · exact ⟨_, rfl, by rw [xor_or_hi c (by omega) hc]; omega, Or.inr ⟨by omega, by rw [xor_or_hi c (by omega) hc]; omega⟩⟩

theorem cls_flip (c d : Nat) (hcl : c < 18446744073709551616) (hn : isN c = false) (hdn : isN d = false) (h : (c < 9223372036854775808 ∧ d = c + 9223372036854775808) ∨ (9223372036854775808 ≤ c ∧ c = d + 9223372036854775808)) :
    (cls d = 3 ∧ cls c = 8) ∨ (cls d = 8 ∧ cls c = 3) ∨ (cls d = 2 ∧ cls c = 9) ∨ (cls d = 9 ∧ cls c = 2) ∨ (cls d = 4 ∧ cls c = 7) ∨ (cls d = 7 ∧ cls c = 4) ∨ (cls d = 5 ∧ cls c = 6) ∨ (cls d = 6 ∧ cls c = 5) := by
  have e : d % 9223372036854775808 = c % 9223372036854775808 := by rw [isN] at hn hdn; simp only [decide_eq_false_iff_not] at hn hdn; omega
  have l : (d < 9223372036854775808 ∧ ¬ c < 9223372036854775808) ∨ (¬ d < 9223372036854775808 ∧ c < 9223372036854775808) := by
    rw [isN] at hn hdn; simp only [decide_eq_false_iff_not] at hn hdn; omega
  unfold cls side
  rw [hn, hdn, e]
  clear e h hn hdn hcl
  rcases l with ⟨a, b⟩ | ⟨a, b⟩ <;> simp only [a, b, if_true, if_false, Bool.false_eq_true] <;> (repeat' split) <;> simp

theorem not_nan_cb (v : Nat) (h : isN v = false) : cb v = v := by unfold cb; simp [h]

set_option maxHeartbeats 1000000 in
set_option maxRecDepth 20000 in
theorem sign_any (n : Int) (wn : (Lit.int .u64 n).wf = true) (w : World) :
    Calls Try.prog 9 #[.int .u64 n] w fun e w' => e = .returned (.bool true) ∧ w = w' := by
  obtain ⟨h0, h1⟩ := wf_u64 n wn
  clear wn
  obtain ⟨c, hc⟩ : ∃ c : Nat, cb n.toNat = c := ⟨_, rfl⟩
  have hlt : c < 18446744073709551616 := by rw [← hc]; exact cb_lt _ (by omega)
  obtain ⟨d, hd, hdl, hdc⟩ := neg_bits c hlt
  have u1 := unary_neg_float c d hd
  clear hd
  have HC := Lib.hid hc
  by_cases hn : isN c = true
  · have o1 := ord_nan_l c c hlt hn
    have hdn : isN d = true := by
      unfold isN at hn ⊢
      simp only [decide_eq_true_eq] at hn ⊢
      omega
    have q1 : cls d = 1 := by
      rcases cls_cases d hdl with ⟨_, h⟩ | ⟨h, _⟩
      · exact h
      · rw [hdn] at h; cases h
    clear hdc hc hn hdn
    go_enter Try.func9, Try.ntmps9
    go_wp2_with (first | (go_at_call 26; refine (from_as _ c h0 h1 HC _).mono ?_; rintro e w' ⟨rfl, rfl⟩) | (go_at_call 11; refine (class_any _ (by assumption) _).mono ?_; rintro e w' ⟨rfl, rfl⟩) | (go_at_call 23; refine (awake_any _).mono ?_; rintro e w' ⟨rfl, rfl⟩))
    go_ret
    exact ⟨rfl, rfl⟩
  · have hn : isN c = false := by simpa using hn
    have o1 := ord_self c hlt hn
    have hdn : isN d = false := by
      unfold isN at hn ⊢
      simp only [decide_eq_false_iff_not] at hn ⊢
      omega
    have c1 : cb c = c := not_nan_cb c hn
    have d1 : cb d = d := not_nan_cb d hdn
    have x1 : bits .xor .u64 (cb c : Int) 9223372036854775808 = (cb d : Int) := by
      rw [c1, d1]
      rcases hdc with ⟨a, b⟩ | ⟨a, b⟩
      · rw [xor_sign_lo c a, b]
      · rw [xor_sign_hi c a hlt]; omega
    have x2 : bits .xor .u64 IntKind.u64.max (kb c : Int) = (kb d : Int) := by
      rw [u64_max, not64 (kb c) (kb_lt c hlt)]
      unfold kb; rw [c1, d1]
      repeat' split
      all_goals omega
    have q1 : (cls d = 3 ∧ cls c = 8) ∨ (cls d = 8 ∧ cls c = 3) ∨ (cls d = 2 ∧ cls c = 9) ∨ (cls d = 9 ∧ cls c = 2) ∨ (cls d = 4 ∧ cls c = 7) ∨ (cls d = 7 ∧ cls c = 4) ∨ (cls d = 5 ∧ cls c = 6) ∨ (cls d = 6 ∧ cls c = 5) := cls_flip c d hlt hn hdn hdc
    have u2 : Op.unary .xor (.int .u64 (kb c : Int)) = pure (.int .u64 (kb d : Int)) := by
      rw [← x2]; rfl
    clear hdc hc hn hdn c1 d1 x2
    rcases q1 with ⟨q, q'⟩ | ⟨q, q'⟩ | ⟨q, q'⟩ | ⟨q, q'⟩ | ⟨q, q'⟩ | ⟨q, q'⟩ | ⟨q, q'⟩ | ⟨q, q'⟩
    all_goals
      go_enter Try.func9, Try.ntmps9
      go_wp2_with (first | (go_at_call 26; refine (from_as _ c h0 h1 HC _).mono ?_; rintro e w' ⟨rfl, rfl⟩) | (go_at_call 11; refine (class_any _ (by assumption) _).mono ?_; rintro e w' ⟨rfl, rfl⟩) | (go_at_call 13; refine (bits_any _ (by assumption) _).mono ?_; rintro e w' ⟨rfl, rfl⟩) | (go_at_call 15; refine (key_any _ (by assumption) _).mono ?_; rintro e w' ⟨rfl, rfl⟩) | (go_at_call 23; refine (awake_any _).mono ?_; rintro e w' ⟨rfl, rfl⟩))
      go_ret
      exact ⟨rfl, rfl⟩

end Go.Proofs.Ytmdnahbopjkjhaa
