/- Proved: the landed special and Parse; a text is read as the number whose text it is, and any other is refused. -/
import Derived.Test.YtlbnfnfenphfbaaGreatDoorParse
namespace Go.Proofs.YtlbnfnfenphfbaaGreatDoor
open Go.RowKit Fl Tx

set_option maxHeartbeats 400000 in
theorem canon_any (b : Nat) (hb : b < 18446744073709551616) (w : World) :
    Calls Tryz.prog 27 #[.float .f64 b] w fun e w' => e = .returned (.float .f64 (cb b)) ∧ w = w' := by
  have hc := cb_lt b hb
  have hcc := Lib.hid (cb_cb b)
  go_enter Tryz.func27, Tryz.ntmps27
  go_wp2_with (first | (go_at_call 22; refine (bits_any _ hb _).mono ?_; rintro e w' ⟨rfl, rfl⟩) | (go_at_call 36; refine (from_any _ (by omega) (by omega) _).mono ?_; rintro e w' ⟨rfl, rfl⟩))
  go_ret
  exact ⟨by simp [hcc.out], rfl⟩

theorem nan_any (w : World) : Calls Tryz.prog 29 #[] w fun e w' => e = .returned (.float .f64 9221120237041090561) ∧ w = w' := by
  have hl := fl_from 9221120237041090561
  go_enter Tryz.func29, Tryz.ntmps29
  go_wp2
  go_ret
  exact ⟨rfl, rfl⟩
theorem inf_pos (w : World) : Calls Tryz.prog 30 #[.int .i64 1] w fun e w' => e = .returned (.float .f64 9218868437227405312) ∧ w = w' := by
  have hl := fl_from 9218868437227405312
  go_enter Tryz.func30, Tryz.ntmps30
  go_wp2
  go_ret
  exact ⟨rfl, rfl⟩
theorem inf_neg (w : World) : Calls Tryz.prog 30 #[.int .i64 (-1)] w fun e w' => e = .returned (.float .f64 18442240474082181120) ∧ w = w' := by
  have hl := fl_from 18442240474082181120
  go_enter Tryz.func30, Tryz.ntmps30
  go_wp2
  go_ret
  exact ⟨rfl, rfl⟩
theorem copysign_any (w : World) : Calls Tryz.prog 31 #[.float .f64 0, .float .f64 13830554455654793216] w fun e w' => e = .returned (.float .f64 9223372036854775808) ∧ w = w' := by
  have hl := fl_from 9223372036854775808
  have h1 := fl_bits 0
  have h2 := fl_bits 13830554455654793216
  have e1 : bits .andNot .u64 0 9223372036854775808 = 0 := by decide +kernel
  have e2 : bits .and .u64 13830554455654793216 9223372036854775808 = 9223372036854775808 := by decide +kernel
  have e3 : bits .or .u64 0 9223372036854775808 = 9223372036854775808 := by decide +kernel
  go_enter Tryz.func31, Tryz.ntmps31
  go_wp2
  go_ret
  exact ⟨rfl, rfl⟩

/-- The texts of numbers that are no finite ones above or below nought. -/
def isSp (l : List UInt8) : Bool := (l == [110, 97, 110]) || (l == [105, 110, 102]) || (l == [45, 105, 110, 102]) || (l == [48]) || (l == [45, 48])

set_option maxHeartbeats 400000 in
theorem special_no (s : ByteArray) (h : isSp s.data.toList = false) (w : World) :
    Calls Tryz.prog 16 #[.string s] w fun e w' => e = .returned (.tuple #[.float .f64 0, .bool false]) ∧ w = w' := by
  unfold isSp at h
  rw [← ByteArray.toList_eq] at h
  simp only [Bool.or_eq_false_iff] at h
  obtain ⟨⟨⟨⟨h1, h2⟩, h3⟩, h4⟩, h5⟩ := h
  go_enter Tryz.func16, Tryz.ntmps16
  go_wp2
  go_ret2
  exact ⟨rfl, rfl⟩

set_option maxHeartbeats 400000 in
theorem special_nan (w : World) : Calls Tryz.prog 16 #[.string ⟨#[110, 97, 110]⟩] w fun e w' => e = .returned (.tuple #[.float .f64 9221120237041090560, .bool true]) ∧ w = w' := by
  have hc : Hid (cb 9221120237041090561 = 9221120237041090560) := Lib.hid (by decide)
  go_enter Tryz.func16, Tryz.ntmps16
  go_wp2_with (first | (go_at_call 29; refine (nan_any _).mono ?_; rintro e w' ⟨rfl, rfl⟩) | (go_at_call 27; refine (canon_any _ (by decide) _).mono ?_; rintro e w' ⟨rfl, rfl⟩))
  go_ret2
  exact ⟨by have := hc.out; simp [this], rfl⟩
set_option maxHeartbeats 400000 in
theorem special_inf (w : World) : Calls Tryz.prog 16 #[.string ⟨#[105, 110, 102]⟩] w fun e w' => e = .returned (.tuple #[.float .f64 9218868437227405312, .bool true]) ∧ w = w' := by
  go_enter Tryz.func16, Tryz.ntmps16
  go_wp2_with (go_at_call 30; refine (inf_pos _).mono ?_; rintro e w' ⟨rfl, rfl⟩)
  go_ret2
  exact ⟨rfl, rfl⟩
set_option maxHeartbeats 400000 in
theorem special_ninf (w : World) : Calls Tryz.prog 16 #[.string ⟨#[45, 105, 110, 102]⟩] w fun e w' => e = .returned (.tuple #[.float .f64 18442240474082181120, .bool true]) ∧ w = w' := by
  go_enter Tryz.func16, Tryz.ntmps16
  go_wp2_with (go_at_call 30; refine (inf_neg _).mono ?_; rintro e w' ⟨rfl, rfl⟩)
  go_ret2
  exact ⟨rfl, rfl⟩
set_option maxHeartbeats 400000 in
theorem special_zero (w : World) : Calls Tryz.prog 16 #[.string ⟨#[48]⟩] w fun e w' => e = .returned (.tuple #[.float .f64 0, .bool true]) ∧ w = w' := by
  go_enter Tryz.func16, Tryz.ntmps16
  go_wp2
  go_ret2
  exact ⟨rfl, rfl⟩
set_option maxHeartbeats 400000 in
theorem special_nzero (w : World) : Calls Tryz.prog 16 #[.string ⟨#[45, 48]⟩] w fun e w' => e = .returned (.tuple #[.float .f64 9223372036854775808, .bool true]) ∧ w = w' := by
  go_enter Tryz.func16, Tryz.ntmps16
  go_wp2_with (go_at_call 31; refine (copysign_any _).mono ?_; rintro e w' ⟨rfl, rfl⟩)
  go_ret2
  exact ⟨rfl, rfl⟩

theorem mk_list (s : ByteArray) (l : List UInt8) (h : s.data.toList = l) : s = ⟨l.toArray⟩ := by
  apply ByteArray.ext
  have := congrArg List.toArray h
  simpa using this

/-- A canonical pattern. -/
def Can (b : Nat) : Prop := cb b = b ∧ b < 18446744073709551616

/-- What special hands back of a text that is one of its own: the number with that text. -/
theorem special_yes (s : ByteArray) (h : isSp s.data.toList = true) : ∃ b, Can b ∧ s.data.toList = text b ∧ ∀ w, Calls Tryz.prog 16 #[.string s] w fun e w' => e = .returned (.tuple #[.float .f64 b, .bool true]) ∧ w = w' := by
  unfold isSp at h
  simp only [Bool.or_eq_true, beq_iff_eq] at h
  rcases h with (((h | h) | h) | h) | h
  · exact ⟨9221120237041090560, ⟨by decide, by decide⟩, by rw [h]; rfl, fun w => by rw [mk_list s _ h]; exact special_nan w⟩
  · exact ⟨9218868437227405312, ⟨by decide, by decide⟩, by rw [h]; rfl, fun w => by rw [mk_list s _ h]; exact special_inf w⟩
  · exact ⟨18442240474082181120, ⟨by decide, by decide⟩, by rw [h]; rfl, fun w => by rw [mk_list s _ h]; exact special_ninf w⟩
  · exact ⟨0, ⟨by decide, by decide⟩, by rw [h]; rfl, fun w => by rw [mk_list s _ h]; exact special_zero w⟩
  · exact ⟨9223372036854775808, ⟨by decide, by decide⟩, by rw [h]; rfl, fun w => by rw [mk_list s _ h]; exact special_nzero w⟩

/-- What Parse hands back: the number whose text it is, or ErrBad. -/
def ParseOf (l : List UInt8) (w : World) (e : Ending) (w' : World) : Prop :=
  ((∃ b, Can b ∧ l = text b ∧ e = .returned (.tuple #[.float .f64 b, .int .i64 0])) ∨ ((∀ b, Can b → l ≠ text b) ∧ e = .returned (.tuple #[.float .f64 0, .int .i64 13]))) ∧ Below w.heap.size w w'

theorem isSp_text (b : Nat) (h : Can b) (hs : isSp (text b) = false) : finL (text b) = some b := by
  rcases text_cases b h.2 with ⟨hn, _, ht⟩ | ⟨hn, hcb, ⟨k, _, ht⟩ | ⟨k, k', _, ht⟩ | ⟨k, _, ht⟩ | ⟨k, _, ht⟩ | ⟨k, k', _, ht⟩ | ⟨k, _, ht⟩⟩
  · rw [ht] at hs; exact absurd hs (by decide)
  · rw [ht] at hs; exact absurd hs (by decide)
  · exact finL_text b h.2 (by omega) (by omega)
  · rw [ht] at hs; exact absurd hs (by decide)
  · rw [ht] at hs; exact absurd hs (by decide)
  · exact finL_text b h.2 (by omega) (by omega)
  · rw [ht] at hs; exact absurd hs (by decide)

theorem finL_lt (l : List UInt8) (b : Nat) (h : finL l = some b) : b < 18446744073709551616 := by
  unfold finL at h
  simp only at h
  split at h
  · rename_i u e hu he
    split at h
    · injection h with h
      have := rfL_lt _ _ hu
      rw [← h]
      split <;> split <;> omega
    · cases h
  · cases h

set_option maxHeartbeats 1000000 in
theorem parse_any (s : ByteArray) (hs : s.size ≤ 100000) (w : World) (hE : Env w) :
    Calls Tryz.prog 7 #[.string s] w (ParseOf s.data.toList w) := by
  by_cases hsp : isSp s.data.toList = true
  · obtain ⟨b, hc, ht, hsy⟩ := special_yes s hsp
    have htx := fun w hE => text_any b hc.2 w hE
    have HT : Hid (s.data.toList = text b) := Lib.hid ht
    have HC : Hid (Can b) := Lib.hid hc
    clear ht hsp hc
    go_enter Tryz.func7, Tryz.ntmps7
    go_wp2_with (first | (go_at_call 16; refine (hsy _).mono ?_; rintro e w' ⟨rfl, rfl⟩) | (go_at_call 9; refine (htx _ hE).mono ?_; rintro e w' ⟨S, rfl, hS, hSs, hb⟩; have hq : (S.toList == s.toList) = true := by (rw [ByteArray.toList_eq, ByteArray.toList_eq, hS.out, HT.out]; simp)))
    go_ret2
    exact ⟨.inl ⟨b, HC.out, HT.out, rfl⟩, hb⟩
  · have hno := special_no s (by simpa using hsp)
    have hfin := fun w hE => fin_any s hs w hE
    have uniq : ∀ c, Can c → s.data.toList = text c → finL s.data.toList = some c := fun c hc h => by
      rw [h]; exact isSp_text c hc (by rw [← h]; simpa using hsp)
    cases hf : finL s.data.toList with
    | none =>
      rw [hf] at hfin
      have hfin : ∀ w, Env w → Calls Tryz.prog 17 #[.string s] w fun e w' => e = .returned (.tuple #[.float .f64 0, .bool false]) ∧ Below w.heap.size w w' := hfin
      have HN : Hid (∀ c, Can c → s.data.toList ≠ text c) := Lib.hid (fun c hc h => by have := uniq c hc h; rw [hf] at this; cases this)
      clear hf uniq hsp
      go_enter Tryz.func7, Tryz.ntmps7
      go_wp2_with (first | (go_at_call 16; refine (hno _).mono ?_; rintro e w' ⟨rfl, rfl⟩) | (go_at_call 17; refine (hfin _ hE).mono ?_; rintro e w' ⟨rfl, hb⟩))
      go_ret2
      exact ⟨.inr ⟨HN.out, rfl⟩, hb⟩
    | some b =>
      rw [hf] at hfin
      have hfin : ∀ w, Env w → Calls Tryz.prog 17 #[.string s] w fun e w' => e = .returned (.tuple #[.float .f64 (cb b), .bool true]) ∧ Below w.heap.size w w' := hfin
      have hbl := finL_lt _ _ hf
      have hcl := cb_lt b hbl
      have hcan : Can (cb b) := ⟨cb_cb b, hcl⟩
      have htx := fun w hE => text_any (cb b) hcl w hE
      by_cases ht : s.data.toList = text (cb b)
      · have HT := Lib.hid ht
        have HC := Lib.hid hcan
        clear hf uniq hsp ht hcan
        go_enter Tryz.func7, Tryz.ntmps7
        go_wp2_with (first | (go_at_call 16; refine (hno _).mono ?_; rintro e w' ⟨rfl, rfl⟩) | (go_at_call 17; refine (hfin _ hE).mono ?_; rintro e w' ⟨rfl, hb⟩) | (go_at_call 9; refine (htx _ (hE.below hb)).mono ?_; rintro e w' ⟨S, rfl, hS, hSs, hb2⟩; have hq : (S.toList == s.toList) = true := by (rw [ByteArray.toList_eq, ByteArray.toList_eq, hS.out, HT.out]; simp)))
        go_ret2
        exact ⟨.inl ⟨_, HC.out, HT.out, rfl⟩, hb.trans (hb2.mono hb.size)⟩
      · have HN : Hid (∀ c, Can c → s.data.toList ≠ text c) := Lib.hid (fun c hc h => by
          have := uniq c hc h
          rw [hf] at this
          injection this with this
          subst this
          rw [hc.1] at ht
          exact ht h)
        have HT := Lib.hid ht
        clear hf uniq hsp ht hcan
        go_enter Tryz.func7, Tryz.ntmps7
        go_wp2_with (first | (go_at_call 16; refine (hno _).mono ?_; rintro e w' ⟨rfl, rfl⟩) | (go_at_call 17; refine (hfin _ hE).mono ?_; rintro e w' ⟨rfl, hb⟩) | (go_at_call 9; refine (htx _ (hE.below hb)).mono ?_; rintro e w' ⟨S, rfl, hS, hSs, hb2⟩; have hq : (S.toList == s.toList) = false := by (rw [ByteArray.toList_eq, ByteArray.toList_eq, hS.out]; simpa using fun h => HT.out h.symm)))
        go_ret2
        exact ⟨.inr ⟨HN.out, rfl⟩, hb.trans (hb2.mono hb.size)⟩

end Go.Proofs.YtlbnfnfenphfbaaGreatDoor
