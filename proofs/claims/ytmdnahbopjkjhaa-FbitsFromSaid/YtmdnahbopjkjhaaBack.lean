/- Proved: the law FbitsBack answers true at every word, and leaves what there was as it was: a number that is laid is read as it was. No condition. -/
import Derived.Test.YtmdnahbopjkjhaaEnc
import Derived.Test.YtmdnahbopjkjhaaAsks
import Derived.ProofKit
namespace Go.Proofs.Ytmdnahbopjkjhaa
open Go.RowKit Fl

def canon (c : Nat) : Prop := cb c = c ∧ c < 18446744073709551616

theorem decR_canon (c : Nat) (h : canon c) : decR c = #[.float .f64 c, .int .i64 0] := by
  obtain ⟨h, _⟩ := h
  unfold decR
  rw [if_neg ?_, h]
  rintro ⟨a, b⟩
  exact b (h.symm.trans (cb_nan c a))
theorem canon_cb (b : Nat) (hb : b < 18446744073709551616) : canon (cb b) := ⟨cb_cb b, cb_lt b hb⟩

def encN (c : Nat) : Array Value := #[.int .u8 ((c / 72057594037927936 : Nat) : Int), .int .u8 ((c / 281474976710656 % 256 : Nat) : Int), .int .u8 ((c / 1099511627776 % 256 : Nat) : Int), .int .u8 ((c / 4294967296 % 256 : Nat) : Int),
  .int .u8 ((c / 16777216 % 256 : Nat) : Int), .int .u8 ((c / 65536 % 256 : Nat) : Int), .int .u8 ((c / 256 % 256 : Nat) : Int), .int .u8 ((c % 256 : Nat) : Int)]
theorem encV_eq (c : Nat) : encV c = encN c := by simp [encV, encN]

theorem encode_c (c : Nat) (hc : canon c) (w : World) :
    Calls Try.prog 29 #[.float .f64 c] w fun e w' => e = .returned (.slice (some ⟨w.heap.size, 0, none⟩) 8 8) ∧ w' = w.alloc (.cells (encN c) 5) := by
  have := encode_any c hc.2 w
  rw [hc.1, encV_eq] at this
  exact this

theorem enc_sum (c : Nat) (hc : c < 18446744073709551616) : c = (((((((c / 72057594037927936 * 256 + c / 281474976710656 % 256) * 256 + c / 1099511627776 % 256) * 256 + c / 4294967296 % 256) * 256 + c / 16777216 % 256) * 256 + c / 65536 % 256) * 256 + c / 256 % 256) * 256 + c % 256) := by
  omega

theorem decode_c (c : Nat) (hc : canon c) (w : World) :
    Calls Try.prog 24 #[.slice (some ⟨w.heap.size, 0, none⟩) 8 8] (w.alloc (.cells (encN c) 5)) fun e w' => e = .returned (.tuple #[.float .f64 c, .int .i64 0]) ∧ w.alloc (.cells (encN c) 5) = w' := by
  have hl := hc.2
  rw [← decR_canon c hc]
  refine decode8 w.heap.size 0 8 (c / 72057594037927936) (c / 281474976710656 % 256) (c / 1099511627776 % 256) (c / 4294967296 % 256) (c / 16777216 % 256) (c / 65536 % 256) (c / 256 % 256) (c % 256) c _ ?_ ?_ ?_ ?_ ?_ ?_ ?_ ?_ ?_ ?_ ?_ ?_ ?_ ?_ ?_ ?_ (enc_sum c hl)
  case refine_1 => simp [encN, go_sem]
  case refine_2 => simp [encN, go_sem]
  all_goals first | (simp [encN, go_sem]; done) | omega

set_option maxHeartbeats 1000000 in
theorem back_any (n : Int) (wn : (Lit.int .u64 n).wf = true) (w : World) :
    Calls Try.prog 5 #[.int .u64 n] w fun e w' => e = .returned (.bool true) ∧ Below w.heap.size w w' := by
  obtain ⟨h0, h1⟩ := wf_u64 n wn
  clear wn
  have e2 := isN_andNot n h0 h1
  by_cases hn : isN n.toNat = true
  · rw [hn] at e2
    have HC := Lib.hid (cb_nan n.toNat hn)
    have HK : Hid (canon 9221120237041090560) := Lib.hid (by unfold canon; decide)
    have hlt : 9221120237041090560 < 18446744073709551616 := by decide
    have s1 : smB 9221120237041090560 9221120237041090560 = true := by decide
    have s2 : cls 9221120237041090560 = 1 := by decide
    have s3 : (cb 9221120237041090560 : Int) = 9221120237041090560 := by decide
    have o1 := ord_nan_l 9221120237041090560 9221120237041090560 hlt (by decide)
    clear hn
    go_enter Try.func5, Try.ntmps5
    go_wp2_with (first | (go_at_call 26; refine (from_as _ _ h0 h1 HC _).mono ?_; rintro e w' ⟨rfl, rfl⟩) | (go_at_call 29; refine (encode_c _ HK.out _).mono ?_; rintro e w' ⟨rfl, rfl⟩) | (go_at_call 24; refine (decode_c _ HK.out _).mono ?_; rintro e w' ⟨rfl, rfl⟩) | (go_at_call 22; refine (same_any _ _ hlt hlt _).mono ?_; rintro e w' ⟨rfl, rfl⟩) | (go_at_call 13; refine (bits_any _ hlt _).mono ?_; rintro e w' ⟨rfl, rfl⟩) | (go_at_call 11; refine (class_any _ hlt _).mono ?_; rintro e w' ⟨rfl, rfl⟩) | (go_at_call 23; refine (awake_any _).mono ?_; rintro e w' ⟨rfl, rfl⟩))
    go_ret
    exact ⟨rfl, (Below.refl _ _).alloc (Nat.le_refl _) _⟩
  · have hn : isN n.toNat = false := by simpa using hn
    rw [hn] at e2
    obtain ⟨c, hc⟩ : ∃ c : Nat, n.toNat = c := ⟨_, rfl⟩
    rw [hc] at hn
    have hcc := not_nan_cb c hn
    have HC : Hid (cb n.toNat = c) := Lib.hid (by rw [hc, hcc])
    have hlt : c < 18446744073709551616 := by omega
    have HK : Hid (canon c) := Lib.hid ⟨hcc, hlt⟩
    have s1 : smB c c = true := smB_self c
    have o1 := ord_self c hlt hn
    have q : ((cb c : Int) == n) = true := by rw [hcc]; simp; omega
    clear hn hc hcc
    go_enter Try.func5, Try.ntmps5
    go_wp2_with (first | (go_at_call 26; refine (from_as _ _ h0 h1 HC _).mono ?_; rintro e w' ⟨rfl, rfl⟩) | (go_at_call 29; refine (encode_c _ HK.out _).mono ?_; rintro e w' ⟨rfl, rfl⟩) | (go_at_call 24; refine (decode_c _ HK.out _).mono ?_; rintro e w' ⟨rfl, rfl⟩) | (go_at_call 22; refine (same_any _ _ hlt hlt _).mono ?_; rintro e w' ⟨rfl, rfl⟩) | (go_at_call 13; refine (bits_any _ hlt _).mono ?_; rintro e w' ⟨rfl, rfl⟩) | (go_at_call 11; refine (class_any _ hlt _).mono ?_; rintro e w' ⟨rfl, rfl⟩) | (go_at_call 23; refine (awake_any _).mono ?_; rintro e w' ⟨rfl, rfl⟩))
    go_ret
    exact ⟨rfl, (Below.refl _ _).alloc (Nat.le_refl _) _⟩

end Go.Proofs.Ytmdnahbopjkjhaa
