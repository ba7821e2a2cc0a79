/- Proved: the landed Round and Int, and the document's own, give one plain function of a number's bits each. -/
import Derived.Test.YtlbnfnfenphfbaaGreatDoorAt
import Derived.Test.YtlbnfnfenphfbaaGreatDoorRnw
namespace Go.Proofs.YtlbnfnfenphfbaaGreatDoor
open Go.RowKit Fl Tx

theorem isN_word (s : Bool) (f : Nat) (h0 : 0 < f) (h1 : f < 4503599627370496) : isN (FloatKind.f64.encode (.nan s f)) = true ∧ FloatKind.f64.encode (.nan s f) < 18446744073709551616 := by
  have e : FloatKind.f64.encode (.nan s f) = Ieee.double.word s (9218868437227405312 + f % 4503599627370496) := by
    show Ieee.double.word s (Ieee.double.infRung + f % Ieee.double.binade) = _
    have e2 : Ieee.double.binade = 4503599627370496 := by decide
    have e3 : Ieee.double.infRung = 9218868437227405312 := by decide
    rw [e2, e3]
  rw [e, word_eq]
  unfold isN
  cases s <;> simp <;> omega

theorem dec_nan (b : Nat) (hb : b < 18446744073709551616) (hn : isN b = true) : FloatKind.f64.decode b = .nan (decide (9223372036854775808 ≤ b)) (b % 9223372036854775808 - 9218868437227405312) := by
  have := read_eq b hb
  have hm : 9218868437227405312 < b % 9223372036854775808 := by simpa [isN] using hn
  rw [if_neg (by omega), if_neg (by omega)] at this
  exact this

theorem quiet_lt (t : Nat) (h : t < 4503599627370496) : 0 < FloatKind.f64.format.quiet t ∧ FloatKind.f64.format.quiet t < 4503599627370496 := by
  have e : FloatKind.f64.format.quiet t = t ||| 2251799813685248 := rfl
  rw [e]
  refine ⟨?_, Nat.or_lt_two_pow (n := 52) (by omega) (by omega)⟩
  have := @Nat.right_le_or t 2251799813685248
  omega

theorem toInt_nan (n : String) (way : Ieee.Toward) (x : Nat) (s : Bool) (t : Nat) (h : FloatKind.f64.decode x = .nan s t) :
    Extern.MathFloor.toIntegral n way #[.float .f64 x] = (if FloatKind.f64.format.quiet t = t then pure (Value.float .f64 x) else do
        let kept ← choose (.extern "math.Floor,Ceil,Trunc,RoundToEven.signallingNaN kept" 2)
        pure (Value.float .f64 (if kept == 1 then x else FloatKind.f64.encode (.nan s (FloatKind.f64.format.quiet t))))) := by
  change ((match FloatKind.f64.decode x with
    | .nan s t => (if FloatKind.f64.format.quiet t = t then pure (Value.float .f64 x) else do
        let kept ← choose (.extern "math.Floor,Ceil,Trunc,RoundToEven.signallingNaN kept" 2)
        pure (Value.float .f64 (if kept == 1 then x else FloatKind.f64.encode (.nan s (FloatKind.f64.format.quiet t)))))
    | d => pure (Value.float .f64 (FloatKind.f64.encode (d.integral way)))) : Sem Value) = _
  rw [h]

theorem rte_nan_at (b : Nat) (s : Bool) (t r : Nat) (hd : FloatKind.f64.decode b = .nan s t) (hr : FloatKind.f64.encode (.nan s (FloatKind.f64.format.quiet t)) = r) (w : World) :
    ∃ c w', (c = b ∨ c = r) ∧ (callFunc 28 #[.float .f64 b]).run Tryz.prog w = .ok (.value (.float .f64 c)) w' ∧ Below w.heap.size w w' := by
  rw [run_callFunc_extern Tryz.func28 (by kernel_rfl) (by kernel_rfl) (by kernel_rfl) (e := Extern.MathFloor.toIntegral "math.RoundToEven" .even) (by kernel_rfl)]
  rw [toInt_nan _ _ _ _ _ hd, hr]
  by_cases hs : FloatKind.f64.format.quiet t = t
  · rw [if_pos hs]
    exact ⟨b, w, .inl rfl, rfl, Below.refl _ _⟩
  · rw [if_neg hs]
    obtain ⟨k, hk⟩ : ∃ k : Nat, k = Question.cut (.extern "math.Floor,Ceil,Trunc,RoundToEven.signallingNaN kept" 2) (w.tape w.drawn (.extern "math.Floor,Ceil,Trunc,RoundToEven.signallingNaN kept" 2)) := ⟨_, rfl⟩
    have hrun : (choose (.extern "math.Floor,Ceil,Trunc,RoundToEven.signallingNaN kept" 2)).run Tryz.prog w = .ok k w.drew := by rw [hk]; rfl
    by_cases h1 : (k == 1) = true
    · refine ⟨b, w.drew, .inl rfl, ?_, (Below.refl _ _).drew⟩
      rw [Sem.run_bind, hrun]
      simp only [Result.andThen_ok, h1, if_true, Sem.run_pure]
    · refine ⟨r, w.drew, .inr rfl, ?_, (Below.refl _ _).drew⟩
      rw [Sem.run_bind, hrun]
      simp only [Result.andThen_ok, h1, Sem.run_pure]
      rfl

/-- RoundToEven of a NaN is some NaN. -/
theorem rte_nan (b : Nat) (hb : b < 18446744073709551616) (hn : isN b = true) (w : World) :
    ∃ c w', isN c = true ∧ c < 18446744073709551616 ∧ (callFunc 28 #[.float .f64 b]).run Tryz.prog w = .ok (.value (.float .f64 c)) w' ∧ Below w.heap.size w w' := by
  have hm : 9218868437227405312 < b % 9223372036854775808 := by simpa [isN] using hn
  obtain ⟨t, ht⟩ : ∃ t, t = b % 9223372036854775808 - 9218868437227405312 := ⟨_, rfl⟩
  obtain ⟨s, hs⟩ : ∃ s, s = decide (9223372036854775808 ≤ b) := ⟨_, rfl⟩
  have hd := dec_nan b hb hn
  rw [← ht, ← hs] at hd
  obtain ⟨q0, q1⟩ := quiet_lt t (by omega)
  have hq := isN_word s _ q0 q1
  obtain ⟨c, w', hc, hrun, hbw⟩ := rte_nan_at b s t _ hd rfl w
  refine ⟨c, w', ?_, ?_, hrun, hbw⟩
  · rcases hc with h | h
    · rw [h]; exact hn
    · rw [h]; exact hq.1
  · rcases hc with h | h
    · rw [h]; exact hb
    · rw [h]; exact hq.2

/-- What a number is rounded to. -/
def rndW (b : Nat) : Nat := if isN b = true then 9221120237041090560 else FloatKind.f64.encode ((FloatKind.f64.decode b).integral .even)

theorem rnd_num (b : Nat) (hb : b < 18446744073709551616) (hn : isN b = false) : rndW b = FloatKind.f64.encode ((FloatKind.f64.decode b).integral .even) ∧ isN (rndW b) = false ∧ rndW b < 18446744073709551616 := by
  have e : rndW b = FloatKind.f64.encode ((FloatKind.f64.decode b).integral .even) := by unfold rndW; rw [if_neg (by simp [hn])]
  refine ⟨e, ?_⟩
  rw [e]
  have hm : ¬ 9218868437227405312 < b % 9223372036854775808 := by simpa [isN] using hn
  by_cases hf : b % 9223372036854775808 = 9218868437227405312
  · rw [enc_inf b hb hf]; exact ⟨hn, hb⟩
  · obtain ⟨t, _, htl, hw⟩ := enc_even b hb (by omega)
    rw [hw, word_eq]
    constructor
    · apply isN_of; split <;> omega
    · split <;> omega
theorem rnd_can (b : Nat) (hb : b < 18446744073709551616) : Can (rndW b) := by
  by_cases hn : isN b = true
  · have : rndW b = 9221120237041090560 := by unfold rndW; rw [if_pos hn]
    rw [this]; exact ⟨by decide, by decide⟩
  · obtain ⟨_, h2, h3⟩ := rnd_num b hb (by simpa using hn)
    exact ⟨not_nan_cb _ h2, h3⟩

set_option maxHeartbeats 400000 in
theorem round_any (b : Nat) (hb : b < 18446744073709551616) (w : World) :
    Calls Tryz.prog 14 #[.float .f64 b] w fun e w' => e = .returned (.float .f64 (rndW b)) ∧ Below w.heap.size w w' := by
  by_cases hn : isN b = true
  · obtain ⟨c, w1, hc, hcl, hrun, hbw⟩ := rte_nan b hb hn w
    have HR : Hid (rndW b = 9221120237041090560) := Lib.hid (by unfold rndW; rw [if_pos hn])
    have HC : Hid (cb c = 9221120237041090560) := Lib.hid (cb_nan c hc)
    clear hn hc
    go_enter Tryz.func14, Tryz.ntmps14
    go_wp2_with (go_at_call 27; refine (canon_any _ hcl _).mono ?_; rintro e w' ⟨rfl, rfl⟩)
    go_ret
    exact ⟨by rw [HR.out]; simp [HC.out], hbw⟩
  · have hn : isN b = false := by simpa using hn
    obtain ⟨e1, h2, h3⟩ := rnd_num b hb hn
    have h := fun w => rte_num b hb hn w
    rw [← e1] at h
    have HC : Hid (cb (rndW b) = rndW b) := Lib.hid (rnd_can b hb).1
    clear e1 h2 hn
    go_enter Tryz.func14, Tryz.ntmps14
    go_wp2_with (go_at_call 27; refine (canon_any _ h3 _).mono ?_; rintro e w' ⟨rfl, rfl⟩)
    go_ret
    exact ⟨by simp [HC.out], Below.refl _ _⟩

set_option maxHeartbeats 400000 in
theorem rround_any (b : Nat) (hb : b < 18446744073709551616) (w : World) :
    Calls Tryz.prog 15 #[.float .f64 b] w fun e w' => e = .returned (.float .f64 (rndW b)) ∧ w = w' := by
  by_cases hn : isN b = true
  · have o := ord_nan_l b b hb hn
    have hfr := fun w => rfrom_as 9221120237041090560 9221120237041090560 (by decide) (by decide) (Lib.hid (by decide)) w
    have HR : Hid (rndW b = 9221120237041090560) := Lib.hid (by unfold rndW; rw [if_pos hn])
    clear hn
    go_enter Tryz.func15, Tryz.ntmps15
    go_wp2_with (go_at_call 18; refine (hfr _).mono ?_; rintro e w' ⟨rfl, rfl⟩)
    go_ret
    exact ⟨by rw [HR.out] <;> rfl, rfl⟩
  · have hn : isN b = false := by simpa using hn
    have o := ord_self b hb hn
    obtain ⟨e1, h2, h3⟩ := rnd_num b hb hn
    have h := fun w => rte_num b hb hn w
    rw [← e1] at h
    clear e1 h2 hn
    go_enter Tryz.func15, Tryz.ntmps15
    go_wp2
    go_ret
    exact ⟨rfl, rfl⟩

theorem at_run (b : Nat) (hb : b < 18446744073709551616) (hn : isN b = false) (w : World) : (callFunc 42 #[.float .f64 b]).run Tryz.prog w = .ok (.value (.float .f64 (FloatKind.f64.encode ((FloatKind.f64.decode b).integral .zero)))) w := by
  rw [run_callFunc_extern Tryz.func42 (by kernel_rfl) (by kernel_rfl) (by kernel_rfl) (e := Extern.MathFloor.toIntegral "math.archTrunc" .zero) (by kernel_rfl)]
  rw [toInt_num _ _ _ (not_nan b hb hn)]
  rfl
theorem af_run (b : Nat) (hb : b < 18446744073709551616) (hn : isN b = false) (w : World) : (callFunc 44 #[.float .f64 b]).run Tryz.prog w = .ok (.value (.float .f64 (FloatKind.f64.encode ((FloatKind.f64.decode b).integral .down)))) w := by
  rw [run_callFunc_extern Tryz.func44 (by kernel_rfl) (by kernel_rfl) (by kernel_rfl) (e := Extern.MathFloor.toIntegral "math.archFloor" .down) (by kernel_rfl)]
  rw [toInt_num _ _ _ (not_nan b hb hn)]
  rfl

theorem trunc_any (b c : Nat) (hb : b < 18446744073709551616) (hn : isN b = false) (hc : FloatKind.f64.encode ((FloatKind.f64.decode b).integral .zero) = c) (w : World) :
    Calls Tryz.prog 25 #[.float .f64 b] w fun e w' => e = .returned (.float .f64 c) ∧ w = w' := by
  have h := fun w => at_run b hb hn w
  rw [hc] at h
  clear hc
  go_enter Tryz.func25, Tryz.ntmps25
  go_wp2
  go_ret
  exact ⟨rfl, rfl⟩
theorem floor_any (b c : Nat) (hb : b < 18446744073709551616) (hn : isN b = false) (hc : FloatKind.f64.encode ((FloatKind.f64.decode b).integral .down) = c) (w : World) :
    Calls Tryz.prog 26 #[.float .f64 b] w fun e w' => e = .returned (.float .f64 c) ∧ w = w' := by
  have h := fun w => af_run b hb hn w
  rw [hc] at h
  clear hc
  go_enter Tryz.func26, Tryz.ntmps26
  go_wp2
  go_ret
  exact ⟨rfl, rfl⟩

/-- What Int hands back. -/
noncomputable def intR (b : Nat) : Value := match intV b with
  | some v => .tuple #[.int .i64 v, .int .i64 0]
  | none => .tuple #[.int .i64 0, .int .i64 13]

theorem intR_some (b : Nat) (v : Int) (h : intV b = some v) : intR b = .tuple #[.int .i64 v, .int .i64 0] := by unfold intR; rw [h]
theorem intR_none (b : Nat) (h : intV b = none) : intR b = .tuple #[.int .i64 0, .int .i64 13] := by unfold intR; rw [h]

/-- The ways of a number through Int. -/
theorem int_cases (b : Nat) (hb : b < 18446744073709551616) :
    (isN b = true ∧ intV b = none) ∨ (isN b = false ∧ sr b < -4845873199050653696 ∧ intV b = none) ∨ (isN b = false ∧ 4845873199050653696 < sr b ∧ intV b = none) ∨
      (isN b = false ∧ -4845873199050653696 ≤ sr b ∧ sr b ≤ 4845873199050653696 ∧ b % 9223372036854775808 ≤ 4845873199050653696 ∧ ∃ c d, c < 18446744073709551616 ∧ isN c = false ∧ d < 18446744073709551616 ∧ isN d = false ∧
        FloatKind.f64.encode ((FloatKind.f64.decode b).integral .zero) = c ∧ FloatKind.f64.encode ((FloatKind.f64.decode b).integral .down) = d ∧
        ((∃ v, intV b = some v ∧ sr c = sr b ∧ sr d = sr b) ∨ (intV b = none ∧ sr c ≠ sr b ∧ sr d ≠ sr b))) := by
  by_cases hn : isN b = true
  · left
    refine ⟨hn, ?_⟩
    have hm : 9218868437227405312 < b % 9223372036854775808 := by simpa [isN] using hn
    unfold intV; rw [if_pos (by omega)]
  · right
    have hn : isN b = false := by simpa using hn
    by_cases hr : b % 9223372036854775808 ≤ 4845873199050653696
    · right; right
      have hs : -4845873199050653696 ≤ sr b ∧ sr b ≤ 4845873199050653696 := by unfold sr; split <;> omega
      refine ⟨hn, hs.1, hs.2, hr, ?_⟩
      obtain ⟨t, htl, hw, ht0, ht1⟩ := trunc_word b hb hr
      obtain ⟨u, hul, hv, hu0, hu1⟩ := floor_word b hb hr
      have hc : Ieee.double.word (decide (9223372036854775808 ≤ b)) t < 18446744073709551616 ∧ isN (Ieee.double.word (decide (9223372036854775808 ≤ b)) t) = false := by
        rw [word_eq]; exact ⟨by split <;> omega, isN_of _ (by split <;> omega)⟩
      have hd : Ieee.double.word (decide (9223372036854775808 ≤ b)) u < 18446744073709551616 ∧ isN (Ieee.double.word (decide (9223372036854775808 ≤ b)) u) = false := by
        rw [word_eq]; exact ⟨by split <;> omega, isN_of _ (by split <;> omega)⟩
      refine ⟨_, _, hc.1, hc.2, hd.1, hd.2, hw, hv, ?_⟩
      have hsr : ∀ x, x < 9218868437227405312 → sr (Ieee.double.word (decide (9223372036854775808 ≤ b)) x) = if 9223372036854775808 ≤ b then -(x : Int) else x := fun x hx => by
        by_cases h : 9223372036854775808 ≤ b
        · have hw : Ieee.double.word (decide (9223372036854775808 ≤ b)) x = 9223372036854775808 + x := by rw [word_eq, decide_eq_true h]; rfl
          rw [hw]; unfold sr
          rw [if_neg (by omega), if_pos h]; omega
        · have hw : Ieee.double.word (decide (9223372036854775808 ≤ b)) x = x := by rw [word_eq, decide_eq_false h]; rfl
          rw [hw]; unfold sr
          rw [if_pos (by omega), if_neg h]
      have hsb : sr b = if 9223372036854775808 ≤ b then -((b % 9223372036854775808 : Nat) : Int) else ((b % 9223372036854775808 : Nat) : Int) := by
        unfold sr
        by_cases h : 9223372036854775808 ≤ b
        · rw [if_neg (by omega), if_pos h]; omega
        · rw [if_pos (by omega), if_neg h]; omega
      rw [hsr t (by omega), hsr u hul, hsb]
      by_cases h0 : mag (b % 9223372036854775808) % U = 0
      · left
        have a := ht0 h0
        have c := hu0 h0
        refine ⟨_, by unfold intV; rw [if_neg (by omega), if_pos h0], ?_, ?_⟩
        · rw [a]
        · rw [c]
      · right
        have a := ht1 h0
        have c := (hu1 h0).1
        refine ⟨by unfold intV; rw [if_neg (by omega), if_neg h0], ?_, ?_⟩
        · split <;> omega
        · split <;> omega
    · have hi : intV b = none := by unfold intV; rw [if_pos (by omega)]
      have hm : ¬ 9218868437227405312 < b % 9223372036854775808 := by simpa [isN] using hn
      by_cases hs : b < 9223372036854775808
      · right; left; exact ⟨hn, by unfold sr; rw [if_pos hs]; omega, hi⟩
      · left; exact ⟨hn, by unfold sr; rw [if_neg hs]; omega, hi⟩

theorem sr_lo : sr 14069245235905429504 = -4845873199050653696 := by decide
theorem sr_hi : sr 4845873199050653696 = 4845873199050653696 := by decide

set_option maxHeartbeats 1000000 in
theorem int_any (b : Nat) (hb : b < 18446744073709551616) (w : World) :
    Calls Tryz.prog 12 #[.float .f64 b] w fun e w' => e = .returned (intR b) ∧ w = w' := by
  rcases int_cases b hb with ⟨hn, hi⟩ | ⟨hn, hs, hi⟩ | ⟨hn, hs, hi⟩ | ⟨hn, hs0, hs1, hr, c, d, hcl, hcn, hdl, hdn, hc, hd, hv⟩
  · have HI := Lib.hid (intR_none b hi)
    have o := ord_nan_l b 14069245235905429504 hb hn
    clear hi hn
    go_enter Tryz.func12, Tryz.ntmps12
    go_wp2
    go_ret2
    exact ⟨by rw [HI.out] <;> rfl, rfl⟩
  · have HI := Lib.hid (intR_none b hi)
    have o := ord_lt b 14069245235905429504 hb (by decide) hn (by decide) (by rw [sr_lo]; exact hs)
    clear hi hn hs
    go_enter Tryz.func12, Tryz.ntmps12
    go_wp2
    go_ret2
    exact ⟨by rw [HI.out] <;> rfl, rfl⟩
  · have HI := Lib.hid (intR_none b hi)
    have o := ord_gt b 14069245235905429504 hb (by decide) hn (by decide) (by rw [sr_lo]; omega)
    have o2 := ord_gt b 4845873199050653696 hb (by decide) hn (by decide) (by rw [sr_hi]; exact hs)
    clear hi hn hs
    go_enter Tryz.func12, Tryz.ntmps12
    go_wp2
    go_ret2
    exact ⟨by rw [HI.out] <;> rfl, rfl⟩
  · have o1 : FloatKind.f64.format.order b 14069245235905429504 = some .gt ∨ FloatKind.f64.format.order b 14069245235905429504 = some .eq := by
      by_cases e : sr b = -4845873199050653696
      · right; exact ord_eq _ _ hb (by decide) hn (by decide) (by rw [sr_lo]; exact e)
      · left; exact ord_gt _ _ hb (by decide) hn (by decide) (by rw [sr_lo]; omega)
    have o2 : FloatKind.f64.format.order b 4845873199050653696 = some .lt ∨ FloatKind.f64.format.order b 4845873199050653696 = some .eq := by
      by_cases e : sr b = 4845873199050653696
      · right; exact ord_eq _ _ hb (by decide) hn (by decide) (by rw [sr_hi]; exact e)
      · left; exact ord_lt _ _ hb (by decide) hn (by decide) (by rw [sr_hi]; omega)
    have htr := fun w => trunc_any b c hb hn hc w
    rcases hv with ⟨v, hi, hsc, hsd⟩ | ⟨hi, hsc, hsd⟩
    · have HI := Lib.hid (intR_some b v hi)
      have o3 := ord_eq b c hb hcl hn hcn hsc.symm
      have hcv := fun w : World => run_convert_float_int (P := Tryz.prog) w 22 3 .f64 .i64 b v (by rw [Tryz.underlying22]; rfl) Tryz.underlying3 (toInt_eq b hb v hi).1
      clear hi hn hs0 hs1 hsc hsd hc hd hr
      rcases o1 with o1 | o1 <;> rcases o2 with o2 | o2
      all_goals
        go_enter Tryz.func12, Tryz.ntmps12
        go_wp2_with (go_at_call 25; refine (htr _).mono ?_; rintro e w' ⟨rfl, rfl⟩)
        go_ret2
        exact ⟨by rw [HI.out] <;> rfl, rfl⟩
    · have HI := Lib.hid (intR_none b hi)
      have o3 : FloatKind.f64.format.order b c = some .lt ∨ FloatKind.f64.format.order b c = some .gt := by
        rcases Int.lt_trichotomy (sr b) (sr c) with h | h | h
        · left; exact ord_lt _ _ hb hcl hn hcn h
        · exact absurd h.symm hsc
        · right; exact ord_gt _ _ hb hcl hn hcn h
      clear hi hn hs0 hs1 hsc hsd hc hd hr
      rcases o1 with o1 | o1 <;> rcases o2 with o2 | o2 <;> rcases o3 with o3 | o3
      all_goals
        go_enter Tryz.func12, Tryz.ntmps12
        go_wp2_with (go_at_call 25; refine (htr _).mono ?_; rintro e w' ⟨rfl, rfl⟩)
        go_ret2
        exact ⟨by rw [HI.out] <;> rfl, rfl⟩

set_option maxHeartbeats 1000000 in
theorem rint_any (b : Nat) (hb : b < 18446744073709551616) (w : World) :
    Calls Tryz.prog 13 #[.float .f64 b] w fun e w' => e = .returned (intR b) ∧ w = w' := by
  rcases int_cases b hb with ⟨hn, hi⟩ | ⟨hn, hs, hi⟩ | ⟨hn, hs, hi⟩ | ⟨hn, hs0, hs1, hr, c, d, hcl, hcn, hdl, hdn, hc, hd, hv⟩
  · have HI := Lib.hid (intR_none b hi)
    have o := ord_nan_l b b hb hn
    clear hi hn
    go_enter Tryz.func13, Tryz.ntmps13
    go_wp2
    go_ret2
    exact ⟨by rw [HI.out] <;> rfl, rfl⟩
  · have HI := Lib.hid (intR_none b hi)
    have o0 := ord_self b hb hn
    have o := ord_lt b 14069245235905429504 hb (by decide) hn (by decide) (by rw [sr_lo]; exact hs)
    clear hi hn hs
    go_enter Tryz.func13, Tryz.ntmps13
    go_wp2
    go_ret2
    exact ⟨by rw [HI.out] <;> rfl, rfl⟩
  · have HI := Lib.hid (intR_none b hi)
    have o0 := ord_self b hb hn
    have o := ord_gt b 14069245235905429504 hb (by decide) hn (by decide) (by rw [sr_lo]; omega)
    have o2 := ord_gt b 4845873199050653696 hb (by decide) hn (by decide) (by rw [sr_hi]; exact hs)
    clear hi hn hs
    go_enter Tryz.func13, Tryz.ntmps13
    go_wp2
    go_ret2
    exact ⟨by rw [HI.out] <;> rfl, rfl⟩
  · have o0 := ord_self b hb hn
    have o1 : FloatKind.f64.format.order b 14069245235905429504 = some .gt ∨ FloatKind.f64.format.order b 14069245235905429504 = some .eq := by
      by_cases e : sr b = -4845873199050653696
      · right; exact ord_eq _ _ hb (by decide) hn (by decide) (by rw [sr_lo]; exact e)
      · left; exact ord_gt _ _ hb (by decide) hn (by decide) (by rw [sr_lo]; omega)
    have o2 : FloatKind.f64.format.order b 4845873199050653696 = some .lt ∨ FloatKind.f64.format.order b 4845873199050653696 = some .eq := by
      by_cases e : sr b = 4845873199050653696
      · right; exact ord_eq _ _ hb (by decide) hn (by decide) (by rw [sr_hi]; exact e)
      · left; exact ord_lt _ _ hb (by decide) hn (by decide) (by rw [sr_hi]; omega)
    have hfl := fun w => floor_any b d hb hn hd w
    rcases hv with ⟨v, hi, hsc, hsd⟩ | ⟨hi, hsc, hsd⟩
    · have HI := Lib.hid (intR_some b v hi)
      have o3 := ord_eq d b hdl hb hdn hn hsd
      have hcv := fun w : World => run_convert_float_int (P := Tryz.prog) w 22 3 .f64 .i64 b v (by rw [Tryz.underlying22]; rfl) Tryz.underlying3 (toInt_eq b hb v hi).1
      clear hi hn hs0 hs1 hsc hsd hc hd hr
      rcases o1 with o1 | o1 <;> rcases o2 with o2 | o2
      all_goals
        go_enter Tryz.func13, Tryz.ntmps13
        go_wp2_with (go_at_call 26; refine (hfl _).mono ?_; rintro e w' ⟨rfl, rfl⟩)
        go_ret2
        exact ⟨by rw [HI.out] <;> rfl, rfl⟩
    · have HI := Lib.hid (intR_none b hi)
      have o3 : FloatKind.f64.format.order d b = some .lt ∨ FloatKind.f64.format.order d b = some .gt := by
        rcases Int.lt_trichotomy (sr d) (sr b) with h | h | h
        · left; exact ord_lt _ _ hdl hb hdn hn h
        · exact absurd h hsd
        · right; exact ord_gt _ _ hdl hb hdn hn h
      clear hi hn hs0 hs1 hsc hsd hc hd hr
      rcases o1 with o1 | o1 <;> rcases o2 with o2 | o2 <;> rcases o3 with o3 | o3
      all_goals
        go_enter Tryz.func13, Tryz.ntmps13
        go_wp2_with (go_at_call 26; refine (hfl _).mono ?_; rintro e w' ⟨rfl, rfl⟩)
        go_ret2
        exact ⟨by rw [HI.out] <;> rfl, rfl⟩

end Go.Proofs.YtlbnfnfenphfbaaGreatDoor
