/- Proved: plain facts on a double's bits: its key, its class, its neighbours, how two of them compare, and what an operation without an answer hands back. Nothing of any program. -/
import Derived.Test.YtefpaagbopmmlaaFl
import Derived.Test.YtefpaagbopmmlaaBit
import Derived.WalkKit
import Derived.WalkLawsBesides
import Derived.Lib.Hide
namespace Go.Proofs.Ytefpaagbopmmlaa
open Go.RowKit Fl

theorem u64_max : IntKind.u64.max = 18446744073709551615 := by decide
def cb (b : Nat) : Nat := if isN b = true then 9221120237041090560 else b
theorem cb_lt (b : Nat) (hb : b < 18446744073709551616) : cb b < 18446744073709551616 := by unfold cb; split <;> omega
def kb (b : Nat) : Nat := if cb b < 9223372036854775808 then cb b + 9223372036854775808 else 18446744073709551615 - cb b
def smB (a b : Nat) : Bool := decide (cb a = cb b)
def side (b : Nat) (lo hi : Int) : Int := if b < 9223372036854775808 then hi else lo
def cls (b : Nat) : Int :=
  if isN b = true then 1
  else if b % 9223372036854775808 = 9218868437227405312 then side b 2 9
  else if b % 9223372036854775808 = 0 then side b 5 6
  else if b % 9223372036854775808 < 4503599627370496 then side b 4 7
  else side b 3 8
theorem isN_andNot (n : Int) (h0 : 0 ≤ n) (h1 : n < 18446744073709551616) : decide (9218868437227405312 < bits .andNot .u64 n 9223372036854775808) = isN n.toNat := by
  obtain ⟨c, rfl⟩ := Int.eq_ofNat_of_zero_le h0
  rw [andNot_sign c (by omega)]
  unfold isN
  simp only [Int.toNat_natCast]
  rw [Bool.eq_iff_iff, decide_eq_true_eq, decide_eq_true_eq]; omega
theorem smB_int (a b : Nat) : ((cb a : Int) == (cb b : Int)) = smB a b := by
  unfold smB; rw [Bool.eq_iff_iff]; simp; omega
theorem f_neg (b : Nat) (h : b < 18446744073709551616) : (bits .and .u64 (b : Int) 9223372036854775808 != 0) = decide (9223372036854775808 ≤ b) := by
  rw [and_sign b h, Bool.eq_iff_iff]; simp only [bne_iff_ne, decide_eq_true_eq]; omega
theorem f_exp1 (b : Nat) (h : b < 18446744073709551616) : (bits .and .u64 (b : Int) 9218868437227405312 == 9218868437227405312) = decide (9218868437227405312 ≤ b % 9223372036854775808) := by
  rw [and_exp b h, Bool.eq_iff_iff]; simp only [beq_iff_eq, decide_eq_true_eq]; omega
theorem f_exp0 (b : Nat) (h : b < 18446744073709551616) : (bits .and .u64 (b : Int) 9218868437227405312 != 0) = decide (4503599627370496 ≤ b % 9223372036854775808) := by
  rw [and_exp b h, Bool.eq_iff_iff]; simp only [bne_iff_ne, decide_eq_true_eq]; omega
theorem f_frac (b : Nat) (h : b < 18446744073709551616) : (bits .and .u64 (b : Int) 4503599627370495 != 0) = decide (0 < b % 4503599627370496) := by
  rw [and_frac b h, Bool.eq_iff_iff]; simp only [bne_iff_ne, decide_eq_true_eq]; omega
theorem g_gt (b : Nat) (h : b < 18446744073709551616) : decide (9218868437227405312 < bits .andNot .u64 (b : Int) 9223372036854775808) = decide (9218868437227405312 < b % 9223372036854775808) := by
  rw [andNot_sign b h, Bool.eq_iff_iff]; simp only [decide_eq_true_eq]; omega
theorem g_inf (b : Nat) (h : b < 18446744073709551616) : (bits .andNot .u64 (b : Int) 9223372036854775808 == 9218868437227405312) = decide (b % 9223372036854775808 = 9218868437227405312) := by
  rw [andNot_sign b h, Bool.eq_iff_iff]; simp only [beq_iff_eq, decide_eq_true_eq]; omega
theorem g_zero (b : Nat) (h : b < 18446744073709551616) : (bits .andNot .u64 (b : Int) 9223372036854775808 == 0) = decide (b % 9223372036854775808 = 0) := by
  rw [andNot_sign b h, Bool.eq_iff_iff]; simp only [beq_iff_eq, decide_eq_true_eq]; omega
theorem g_sub (b : Nat) (h : b < 18446744073709551616) : decide (bits .andNot .u64 (b : Int) 9223372036854775808 < 4503599627370496) = decide (b % 9223372036854775808 < 4503599627370496) := by
  rw [andNot_sign b h, Bool.eq_iff_iff]; simp only [decide_eq_true_eq]; omega
theorem cls_cases (b : Nat) (hb : b < 18446744073709551616) :
    (isN b = true ∧ cls b = 1) ∨ (isN b = false ∧ cb b = b ∧
      ((b = 18442240474082181120 ∧ cls b = 2) ∨ (9227875636482146304 ≤ b ∧ b < 18442240474082181120 ∧ cls b = 3) ∨ (9223372036854775808 < b ∧ b < 9227875636482146304 ∧ cls b = 4) ∨ (b = 9223372036854775808 ∧ cls b = 5)
        ∨ (b = 0 ∧ cls b = 6) ∨ (0 < b ∧ b < 4503599627370496 ∧ cls b = 7) ∨ (4503599627370496 ≤ b ∧ b < 9218868437227405312 ∧ cls b = 8) ∨ (b = 9218868437227405312 ∧ cls b = 9))) := by
  unfold cls side
  by_cases hn : isN b = true
  · left; simp [hn]
  · right
    have hn' : isN b = false := by simpa using hn
    have hm : ¬ 9218868437227405312 < b % 9223372036854775808 := by simpa [isN] using hn
    refine ⟨hn', by simp [cb, hn'], ?_⟩
    rw [if_neg hn]
    repeat' split
    all_goals omega
theorem cmp_self (b : Nat) (hb : b < 18446744073709551616) (hn : isN b = false) : (FloatKind.f64.format.order b b != some .eq) = false := by
  show (Ieee.double.order b b != some .eq) = false
  rw [order_eq b b hb hb hn hn]; simp [compare, compareOfLessAndEq]
theorem cmp_nan (b : Nat) (hb : b < 18446744073709551616) (hn : isN b = true) : (FloatKind.f64.format.order b b != some .eq) = true := by
  show (Ieee.double.order b b != some .eq) = true
  rw [order_nan_left b b hb hn]; rfl
theorem cb_nan (b : Nat) (hn : isN b = true) : cb b = 9221120237041090560 := by unfold cb; rw [if_pos hn]
theorem cb_of (b : Nat) (h : ¬ 9218868437227405312 < b % 9223372036854775808) : cb b = b := by
  unfold cb isN; rw [if_neg (by simpa using h)]
theorem cb_cb (b : Nat) : cb (cb b) = cb b := by
  by_cases hn : isN b = true
  · rw [cb_nan b hn]; decide
  · have : cb b = b := by unfold cb; rw [if_neg hn]
    rw [this, this]
/-- The number whose key it is. -/
def unk (n : Nat) : Nat := if n < 9223372036854775808 then 18446744073709551615 - n else n - 9223372036854775808
/-- The bits of the number above, and of the one below. -/
def nx (b : Nat) : Nat :=
  if isN b = true then 9221120237041090560 else if b = 9218868437227405312 then b else if b % 9223372036854775808 = 0 then 1 else if 9223372036854775808 ≤ b then b - 1 else b + 1
def pv (b : Nat) : Nat :=
  if isN b = true then 9221120237041090560 else if b = 18442240474082181120 then b else if b % 9223372036854775808 = 0 then 9223372036854775809 else if 9223372036854775808 ≤ b then b + 1 else b - 1
theorem isN_lit (b : Nat) (hn : isN b = false) : ¬ 9218868437227405312 < b % 9223372036854775808 := by simpa [isN] using hn
theorem nx_nan (b : Nat) (hn : isN b = true) : nx b = 9221120237041090560 := by unfold nx; rw [if_pos hn]
theorem pv_nan (b : Nat) (hn : isN b = true) : pv b = 9221120237041090560 := by unfold pv; rw [if_pos hn]
theorem nx_of (b : Nat) (hn : isN b = false) : nx b = if b = 9218868437227405312 then b else if b % 9223372036854775808 = 0 then 1 else if 9223372036854775808 ≤ b then b - 1 else b + 1 := by
  unfold nx; rw [if_neg (by simp [hn])]
theorem pv_of (b : Nat) (hn : isN b = false) : pv b = if b = 18442240474082181120 then b else if b % 9223372036854775808 = 0 then 9223372036854775809 else if 9223372036854775808 ≤ b then b + 1 else b - 1 := by
  unfold pv; rw [if_neg (by simp [hn])]
theorem cb_nx (b : Nat) (hb : b < 18446744073709551616) : cb (nx b) = nx b := by
  by_cases hn : isN b = true
  · rw [nx_nan b hn]; decide
  · have hn' : isN b = false := by simpa using hn
    have h1 := nx_of b hn'
    have h2 := isN_lit b hn'
    apply cb_of
    rw [h1]
    repeat' split
    all_goals omega
theorem cb_pv (b : Nat) (hb : b < 18446744073709551616) : cb (pv b) = pv b := by
  by_cases hn : isN b = true
  · rw [pv_nan b hn]; decide
  · have hn' : isN b = false := by simpa using hn
    have h1 := pv_of b hn'
    have h2 := isN_lit b hn'
    apply cb_of
    rw [h1]
    repeat' split
    all_goals omega
theorem nx_lt (b : Nat) (hb : b < 18446744073709551616) : nx b < 18446744073709551616 := by
  have := isN_lit b; unfold nx
  repeat' split
  all_goals (try have := this (by simpa using ‹¬ isN b = true›)); omega
theorem pv_lt (b : Nat) (hb : b < 18446744073709551616) : pv b < 18446744073709551616 := by
  have := isN_lit b; unfold pv
  repeat' split
  all_goals (try have := this (by simpa using ‹¬ isN b = true›)); omega
theorem q_nan (b : Nat) : ((b : Int) == 9221120237041090560) = decide (b = 9221120237041090560) := by
  rw [Bool.eq_iff_iff]; simp only [beq_iff_eq, decide_eq_true_eq]; omega
theorem q_inf (b : Nat) : ((b : Int) == 9218868437227405312) = decide (b = 9218868437227405312) := by
  rw [Bool.eq_iff_iff]; simp only [beq_iff_eq, decide_eq_true_eq]; omega
theorem q_ninf (b : Nat) : ((b : Int) == 18442240474082181120) = decide (b = 18442240474082181120) := by
  rw [Bool.eq_iff_iff]; simp only [beq_iff_eq, decide_eq_true_eq]; omega
theorem ret_float {a b : Nat} (h : a = b) : Ending.returned (.float .f64 a) = Ending.returned (.float .f64 b) := by rw [h]
theorem kb_lt (b : Nat) (hb : b < 18446744073709551616) : kb b < 18446744073709551616 := by
  have := cb_lt b hb; unfold kb; split <;> omega
theorem unk_kb (b : Nat) (hb : b < 18446744073709551616) : cb (unk (kb b)) = cb b := by
  have h := cb_lt b hb
  have : unk (kb b) = cb b := by unfold unk kb; repeat' split
                                 all_goals omega
  rw [this, cb_cb]
theorem unk_lt (m : Nat) (hm : m < 18446744073709551616) : unk m < 18446744073709551616 := by unfold unk; split <;> omega
theorem kb_num (b : Nat) (hn : isN b = false) (hb : b < 18446744073709551616) : (kb b : Int) = if b < 9223372036854775808 then 9223372036854775808 + sr b else 9223372036854775807 + sr b := by
  have h := isN_lit b hn
  have hc := cb_of b h
  unfold kb sr; rw [hc]
  repeat' split
  all_goals omega
theorem sr_sign (b : Nat) : (b < 9223372036854775808 ∧ 0 ≤ sr b) ∨ (9223372036854775808 ≤ b ∧ sr b ≤ 0) := by
  unfold sr; split <;> omega
theorem kb_lt_of (x y : Nat) (hx : x < 18446744073709551616) (hy : y < 18446744073709551616) (nx : isN x = false) (ny : isN y = false) (h : sr x < sr y) : kb x < kb y := by
  have h1 := kb_num x nx hx
  have h2 := kb_num y ny hy
  have h3 := sr_sign x
  have h4 := sr_sign y
  repeat' split at h1
  all_goals repeat' split at h2
  all_goals omega
theorem kb_nan (x : Nat) (nx : isN x = true) : kb x = 18444492273895866368 := by
  unfold kb; rw [cb_nan x nx]; decide
theorem kb_lt_nan (x : Nat) (hx : x < 18446744073709551616) (nx : isN x = false) : kb x < 18444492273895866368 := by
  have h1 := isN_lit x nx
  have hc := cb_of x h1
  unfold kb; rw [hc]; split <;> omega
theorem kb_inj (x y : Nat) (hx : x < 18446744073709551616) (hy : y < 18446744073709551616) (h : kb x = kb y) : cb x = cb y := by
  have h1 := cb_lt x hx
  have h2 := cb_lt y hy
  unfold kb at h
  repeat' split at h
  all_goals omega
theorem ord_nan_l (a b : Nat) (ha : a < 18446744073709551616) (na : isN a = true) : FloatKind.f64.format.order a b = none := order_nan_left a b ha na
theorem ord_nan_r (a b : Nat) (hb : b < 18446744073709551616) (nb : isN b = true) : FloatKind.f64.format.order a b = none := order_nan_right a b hb nb
theorem ord_self (a : Nat) (ha : a < 18446744073709551616) (na : isN a = false) : FloatKind.f64.format.order a a = some .eq := by
  show Ieee.double.order a a = _
  rw [order_eq a a ha ha na na]; simp [compare, compareOfLessAndEq]
theorem ord_lt (a b : Nat) (ha : a < 18446744073709551616) (hb : b < 18446744073709551616) (na : isN a = false) (nb : isN b = false) (h : sr a < sr b) : FloatKind.f64.format.order a b = some .lt := by
  show Ieee.double.order a b = _
  rw [order_eq a b ha hb na nb]; simp [compare, compareOfLessAndEq, h]
theorem ord_eq (a b : Nat) (ha : a < 18446744073709551616) (hb : b < 18446744073709551616) (na : isN a = false) (nb : isN b = false) (h : sr a = sr b) : FloatKind.f64.format.order a b = some .eq := by
  show Ieee.double.order a b = _
  rw [order_eq a b ha hb na nb]; simp [compare, compareOfLessAndEq, h]
theorem ord_gt (a b : Nat) (ha : a < 18446744073709551616) (hb : b < 18446744073709551616) (na : isN a = false) (nb : isN b = false) (h : sr b < sr a) : FloatKind.f64.format.order a b = some .gt := by
  show Ieee.double.order a b = _
  rw [order_eq a b ha hb na nb]; simp only [compare, compareOfLessAndEq]; rw [if_neg (by omega), if_neg (by omega)]
theorem wf_u64 (n : Int) (h : (Lit.int .u64 n).wf = true) : 0 ≤ n ∧ n < 18446744073709551616 := by
  simp only [Lit.wf, IntKind.min, IntKind.max, IntKind.signed, IntKind.bits, Bool.and_eq_true] at h
  have h1 := h.1
  have h2 := h.2
  simp at h1 h2
  omega
theorem unary_neg_float (c d : Nat) (h : c ^^^ 9223372036854775808 = d) : Op.unary .neg (.float .f64 c) = pure (.float .f64 d) := by
  rw [← h]; rfl
theorem neg_bits (c : Nat) (hc : c < 18446744073709551616) : ∃ d : Nat, c ^^^ 9223372036854775808 = d ∧ d < 18446744073709551616 ∧ ((c < 9223372036854775808 ∧ d = c + 9223372036854775808) ∨ (9223372036854775808 ≤ c ∧ c = d + 9223372036854775808)) := by
  by_cases h : c < 9223372036854775808
  · exact ⟨_, rfl, by rw [xor_or_lo c h]; omega, Or.inl ⟨h, by rw [xor_or_lo c h]; omega⟩⟩
  · exact ⟨_, rfl, by rw [xor_or_hi c (by omega) hc]; omega, Or.inr ⟨by omega, by rw [xor_or_hi c (by omega) hc]; omega⟩⟩
theorem cls_flip (c d : Nat) (hcl : c < 18446744073709551616) (hn : isN c = false) (hdn : isN d = false) (h : (c < 9223372036854775808 ∧ d = c + 9223372036854775808) ∨ (9223372036854775808 ≤ c ∧ c = d + 9223372036854775808)) :
    (cls d = 3 ∧ cls c = 8) ∨ (cls d = 8 ∧ cls c = 3) ∨ (cls d = 2 ∧ cls c = 9) ∨ (cls d = 9 ∧ cls c = 2) ∨ (cls d = 4 ∧ cls c = 7) ∨ (cls d = 7 ∧ cls c = 4) ∨ (cls d = 5 ∧ cls c = 6) ∨ (cls d = 6 ∧ cls c = 5) := by
  have e : d % 9223372036854775808 = c % 9223372036854775808 := by rw [isN] at hn hdn; simp only [decide_eq_false_iff_not] at hn hdn; omega
  have l : (d < 9223372036854775808 ∧ ¬ c < 9223372036854775808) ∨ (¬ d < 9223372036854775808 ∧ c < 9223372036854775808) := by
    rw [isN] at hn hdn; simp only [decide_eq_false_iff_not] at hn hdn; omega
  unfold cls side
  rw [hn, hdn, e]
  clear e h hn hdn hcl
  rcases l with ⟨a, b⟩ | ⟨a, b⟩ <;> simp only [a, b, if_true, if_false, Bool.false_eq_true] <;> (repeat' split) <;> simp
theorem not_nan_cb (v : Nat) (h : isN v = false) : cb v = v := by unfold cb; simp [h]
theorem smB_self (a : Nat) : smB a a = true := decide_eq_true rfl
theorem nan_arith (s r : Nat) (hs : s < 2) (hr : r < 4503599627370495) :
    9218868437227405312 < (s * 9223372036854775808 + 9218868437227405312 + 1 + r) % 9223372036854775808 ∧ s * 9223372036854775808 + 9218868437227405312 + 1 + r < 18446744073709551616 := by
  have h2 : s = 0 ∨ s = 1 := by omega
  rcases h2 with rfl | rfl <;> omega
theorem nan_pattern (x y t : Nat) : isN (Question.cut (.nanBits .f64 x y) t) = true ∧ Question.cut (.nanBits .f64 x y) t < 18446744073709551616 := by
  have h := nan_arith (t % 2) (t / 2 % 4503599627370495) (Nat.mod_lt _ (by decide)) (Nat.mod_lt _ (by decide))
  exact ⟨decide_eq_true h.1, h.2⟩
/-- An operation on floats that has no answer hands back a NaN, and draws once. -/
theorem run_float_nan {P : Program} (w : World) (op : BinOp) (hop : op = .add ∨ op = .sub ∨ op = .mul ∨ op = .quo) (t : TypeId) (x y : Nat) (h : floatBits op .f64 x y = none) :
    ∃ b, isN b = true ∧ b < 18446744073709551616 ∧ (binOp op t (.float .f64 x) (.float .f64 y)).run P w = .ok (.float .f64 b) w.drew := by
  refine ⟨Question.cut (.nanBits .f64 x y) (w.tape w.drawn (.nanBits .f64 x y)), (nan_pattern _ _ _).1, (nan_pattern _ _ _).2, ?_⟩
  unfold floatBits at h
  rcases hop with rfl | rfl | rfl | rfl <;> simp only at h <;> simp [binOp, Op.floatArith, h, choose] <;> rfl
theorem sub_self_inf (c : Nat) (h : c % 9223372036854775808 = 9218868437227405312) (hc : c < 18446744073709551616) : floatBits .sub .f64 c c = none := by
  show Ieee.double.sub c c = none
  unfold Ieee.Format.sub
  rw [read_eq c hc, if_neg (by omega), if_pos h]
  simp [Ieee.Datum.opposite, Ieee.Datum.sum]
theorem sub_self_fin (c : Nat) (h : c % 9223372036854775808 < 9218868437227405312) (hc : c < 18446744073709551616) : floatBits .sub .f64 c c = some 0 := by
  show Ieee.double.sub c c = some 0
  unfold Ieee.Format.sub
  rw [read_eq c hc, if_pos h]
  simp only [Ieee.Datum.opposite, Ieee.Datum.sum]
  have e : ∀ (s : Bool) (m u : Nat), Ieee.signed s m u + Ieee.signed (!s) m u = 0 := by
    intro s m u; cases s <;> simp [Ieee.signed] <;> omega
  rw [Int.min_self, e]
  simp [Ieee.Format.write, Ieee.Format.nearest, Ieee.Format.word]
theorem quo_zero : floatBits .quo .f64 4607182418800017408 9223372036854775808 = some 18442240474082181120 := by decide +kernel
theorem q_zero (b : Nat) (hb : b < 18446744073709551616) (hn : isN b = false) : (b % 9223372036854775808 = 0 ∧ FloatKind.f64.format.order b 0 = some .eq) ∨ (0 < b ∧ b < 9223372036854775808 ∧ FloatKind.f64.format.order b 0 = some .gt) ∨ (9223372036854775808 < b ∧ FloatKind.f64.format.order b 0 = some .lt) := by
  by_cases h : b % 9223372036854775808 = 0
  · left; exact ⟨h, ord_eq b 0 hb (by omega) hn (by decide) (by unfold sr; split <;> omega)⟩
  · by_cases h2 : b < 9223372036854775808
    · right; left; exact ⟨by omega, h2, ord_gt b 0 hb (by omega) hn (by decide) (by unfold sr; split <;> omega)⟩
    · right; right; exact ⟨by omega, ord_lt b 0 hb (by omega) hn (by decide) (by unfold sr; split <;> omega)⟩
def encV (c : Nat) : Array Value := #[.int .u8 ((c : Int) / 72057594037927936), .int .u8 ((c : Int) / 281474976710656 % 256), .int .u8 ((c : Int) / 1099511627776 % 256), .int .u8 ((c : Int) / 4294967296 % 256), .int .u8 ((c : Int) / 16777216 % 256), .int .u8 ((c : Int) / 65536 % 256), .int .u8 ((c : Int) / 256 % 256), .int .u8 ((c : Int) % 256)]
def decR (v : Nat) : Array Value := if isN v = true ∧ v ≠ 9221120237041090560 then #[.float .f64 0, .int .i64 13] else #[.float .f64 (cb v), .int .i64 0]
theorem or_step0 (y : Nat) (h : y < 256) : bits .or .u64 0 (y : Int) = (y : Int) := by
  rw [u64_or _ _ (by omega) (by omega) (by omega) (by omega)]; simp
theorem or_step (v y : Nat) (hv : v < 72057594037927936) (h : y < 256) : bits .or .u64 (IntKind.u64.wrap ((v : Int) * 256)) (y : Int) = ((v * 256 + y : Nat) : Int) := by
  rw [IntKind.wrap_u64, u64_or _ _ (by omega) (by omega) (by omega) (by omega)]
  have e1 : ((v : Int) * 256 % 18446744073709551616).toNat = 2 ^ 8 * v := by omega
  rw [e1, Int.toNat_natCast, ← Nat.two_pow_add_eq_or_of_lt (by omega : y < 2 ^ 8) v]
  omega
theorem q_nanne (b : Nat) : ((b : Int) != 9221120237041090560) = decide (b ≠ 9221120237041090560) := by
  rw [Bool.eq_iff_iff]; simp only [bne_iff_ne, decide_eq_true_eq]; omega
def canon (c : Nat) : Prop := cb c = c ∧ c < 18446744073709551616
theorem decR_canon (c : Nat) (h : canon c) : decR c = #[.float .f64 c, .int .i64 0] := by
  obtain ⟨h, _⟩ := h
  unfold decR
  rw [if_neg ?_, h]
  rintro ⟨a, b⟩
  exact b (h.symm.trans (cb_nan c a))
theorem canon_cb (b : Nat) (hb : b < 18446744073709551616) : canon (cb b) := ⟨cb_cb b, cb_lt b hb⟩
def encN (c : Nat) : Array Value := #[.int .u8 ((c / 72057594037927936 : Nat) : Int), .int .u8 ((c / 281474976710656 % 256 : Nat) : Int), .int .u8 ((c / 1099511627776 % 256 : Nat) : Int), .int .u8 ((c / 4294967296 % 256 : Nat) : Int),
  .int .u8 ((c / 16777216 % 256 : Nat) : Int), .int .u8 ((c / 65536 % 256 : Nat) : Int), .int .u8 ((c / 256 % 256 : Nat) : Int), .int .u8 ((c % 256 : Nat) : Int)]
theorem encV_eq (c : Nat) : encV c = encN c := by simp [encV, encN]
theorem enc_sum (c : Nat) (hc : c < 18446744073709551616) : c = (((((((c / 72057594037927936 * 256 + c / 281474976710656 % 256) * 256 + c / 1099511627776 % 256) * 256 + c / 4294967296 % 256) * 256 + c / 16777216 % 256) * 256 + c / 65536 % 256) * 256 + c / 256 % 256) * 256 + c % 256) := by
  omega
def itn : Nat → Nat → Nat
  | 0, c => c
  | k + 1, c => nx (itn k c)
def itp : Nat → Nat → Nat
  | 0, c => c
  | k + 1, c => pv (itp k c)
theorem itn_lt (c : Nat) (hc : c < 18446744073709551616) : ∀ k, itn k c < 18446744073709551616
  | 0 => hc
  | k + 1 => nx_lt _ (itn_lt c hc k)
theorem itp_lt (c : Nat) (hc : c < 18446744073709551616) : ∀ k, itp k c < 18446744073709551616
  | 0 => hc
  | k + 1 => pv_lt _ (itp_lt c hc k)
theorem isN_of (b : Nat) (h : b % 9223372036854775808 ≤ 9218868437227405312) : isN b = false := by
  unfold isN; exact decide_eq_false (by omega)
/-- Upwards from a positive number: so many rungs, and infinity is the end. -/
theorem up_pos (c : Nat) (h0 : 0 < c) (h1 : c ≤ 9218868437227405312) : ∀ k, itn k c = min (c + k) 9218868437227405312
  | 0 => by show c = _; omega
  | k + 1 => by
    show nx (itn k c) = _
    rw [up_pos c h0 h1 k]
    by_cases h : c + k < 9218868437227405312
    · rw [Nat.min_eq_left (by omega), nx_of _ (isN_of _ (by omega)), if_neg (by omega), if_neg (by omega), if_neg (by omega)]; omega
    · rw [Nat.min_eq_right (by omega), nx_of _ (isN_of _ (by decide)), if_pos rfl]; omega
theorem up_neg (c : Nat) (h0 : 9223372036854775808 ≤ c) (h1 : c ≤ 18442240474082181120) : ∀ k, c - 9223372036854775808 < k ∨ itn k c = c - k
  | 0 => Or.inr rfl
  | k + 1 => by
    rcases up_neg c h0 h1 k with h | h
    · left; omega
    · by_cases hk : c - 9223372036854775808 ≤ k
      · left; omega
      · right
        show nx (itn k c) = _
        rw [h, nx_of _ (isN_of _ (by omega)), if_neg (by omega), if_neg (by omega), if_pos (by omega)]; omega
theorem past_pos (b : Nat) (h1 : b ≤ 9218868437227405312) : nx b ≤ 9218868437227405312 := by
  rw [nx_of b (isN_of b (by omega))]
  repeat' split
  all_goals omega
theorem up_past (c : Nat) (h0 : 9223372036854775808 ≤ c) (h1 : c ≤ 18442240474082181120) : ∀ k, c - 9223372036854775808 < k → itn k c ≤ 9218868437227405312
  | 0, h => by omega
  | k + 1, h => by
    show nx (itn k c) ≤ _
    by_cases h3 : c - 9223372036854775808 < k
    · exact past_pos _ (up_past c h0 h1 k h3)
    · have h2 := (up_neg c h0 h1 k).resolve_left h3
      rw [h2]
      have : c - k = 9223372036854775808 := by omega
      rw [this]; decide
theorem down_neg (c : Nat) (h0 : 9223372036854775808 < c) : ∀ j, c + j ≤ 18442240474082181120 → itp j c = c + j
  | 0, _ => rfl
  | j + 1, h => by
    show pv (itp j c) = _
    rw [down_neg c h0 j (by omega), pv_of _ (isN_of _ (by omega)), if_neg (by omega), if_neg (by omega), if_pos (by omega)]; omega
theorem down_pos (c : Nat) (h1 : c ≤ 9218868437227405312) : ∀ j, j < c → itp j c = c - j
  | 0, _ => rfl
  | j + 1, h => by
    show pv (itp j c) = _
    rw [down_pos c h1 j (by omega), pv_of _ (isN_of _ (by omega)), if_neg (by omega), if_neg (by omega), if_neg (by omega)]; omega
/-- Where the number is no nought, no NaN, and so many steps up are finite and of its sign: the keys stand beside each other, and as many steps down come back. -/
theorem there_back (c k : Nat) (hc : c < 18446744073709551616) (hn : isN c = false) (hz : c % 9223372036854775808 ≠ 0) (hf : itn k c % 9223372036854775808 < 9218868437227405312)
    (hs : (9223372036854775808 < c ∧ 9223372036854775808 < itn k c) ∨ (c < 9223372036854775808)) :
    kb (itn k c) = kb c + k ∧ itp k (itn k c) = c := by
  have hN := isN_lit c hn
  by_cases h : c < 9223372036854775808
  · have e := up_pos c (by omega) (by omega) k
    have e2 : itn k c = c + k := by omega
    rw [e2]
    refine ⟨?_, ?_⟩
    · have a := cb_of c hN
      have b := cb_of (c + k) (by rw [e2] at hf; omega)
      unfold kb; rw [a, b, if_pos (by rw [e2] at hf; omega), if_pos h]; omega
    · rw [down_pos (c + k) (by omega) k (by omega)]; omega
  · have hs' : 9223372036854775808 < itn k c := by omega
    rcases up_neg c (by omega) (by omega) k with e | e
    · have := up_past c (by omega) (by omega) k e; omega
    · rw [e] at hs' hf ⊢
      refine ⟨?_, ?_⟩
      · have a := cb_of c hN
        have b := cb_of (c - k) (by omega)
        unfold kb; rw [a, b, if_neg (by omega), if_neg (by omega)]; omega
      · rw [down_neg (c - k) (by omega) k (by omega)]; omega
theorem itn_num (c k : Nat) (hn : isN c = false) (hc : c < 18446744073709551616) : isN (itn k c) = false := by
  induction k with
  | zero => exact hn
  | succ k ih =>
    show isN (nx (itn k c)) = false
    have := itn_lt c hc k
    have h := isN_lit _ ih
    apply isN_of
    rw [nx_of _ ih]
    repeat' split
    all_goals omega
theorem pv_nx (c : Nat) (hc : c < 18446744073709551616) (hn : isN c = false) (hz : c % 9223372036854775808 ≠ 0) (hf : c % 9223372036854775808 < 9218868437227405312) : pv (nx c) = c := by
  have e := nx_of c hn
  rw [if_neg (by omega), if_neg hz] at e
  rw [e]
  by_cases hs : 9223372036854775808 ≤ c
  · rw [if_pos hs, pv_of _ (isN_of _ (by omega)), if_neg (by omega)]
    by_cases hz2 : (c - 1) % 9223372036854775808 = 0
    · rw [if_pos hz2]; omega
    · rw [if_neg hz2, if_pos (by omega)]; omega
  · rw [if_neg hs, pv_of _ (isN_of _ (by omega)), if_neg (by omega), if_neg (by omega), if_neg (by omega)]; omega
theorem nx_pv (c : Nat) (hc : c < 18446744073709551616) (hn : isN c = false) (hz : c % 9223372036854775808 ≠ 0) (hf : c % 9223372036854775808 < 9218868437227405312) : nx (pv c) = c := by
  have e := pv_of c hn
  rw [if_neg (by omega), if_neg hz] at e
  rw [e]
  by_cases hs : 9223372036854775808 ≤ c
  · rw [if_pos hs, nx_of _ (isN_of _ (by omega)), if_neg (by omega), if_neg (by omega), if_pos (by omega)]; omega
  · rw [if_neg hs, nx_of _ (isN_of _ (by omega)), if_neg (by omega)]
    by_cases hz2 : (c - 1) % 9223372036854775808 = 0
    · rw [if_pos hz2]; omega
    · rw [if_neg hz2, if_neg (by omega)]; omega
theorem sr_nx (c : Nat) (hc : c < 18446744073709551616) (hn : isN c = false) (hz : c % 9223372036854775808 ≠ 0) (hf : c % 9223372036854775808 < 9218868437227405312) : isN (nx c) = false ∧ isN (pv c) = false ∧ sr c < sr (nx c) ∧ sr (pv c) < sr c := by
  have e := nx_of c hn
  have e2 := pv_of c hn
  rw [if_neg (by omega), if_neg hz] at e e2
  rw [e, e2]
  by_cases hs : 9223372036854775808 ≤ c
  · rw [if_pos hs, if_pos hs]
    refine ⟨isN_of _ (by omega), isN_of _ (by omega), ?_, ?_⟩ <;> unfold sr <;> split <;> split <;> omega
  · rw [if_neg hs, if_neg hs]
    refine ⟨isN_of _ (by omega), isN_of _ (by omega), ?_, ?_⟩ <;> unfold sr <;> split <;> split <;> omega

end Go.Proofs.Ytefpaagbopmmlaa
