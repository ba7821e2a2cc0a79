/- Proved: the landed Parse reads a text as the number whose text it is, or refuses it. -/
import Derived.Test.YtlbnfnfenphfbaaGreatDoorFin
namespace Go.Proofs.YtlbnfnfenphfbaaGreatDoor
open Go.RowKit Fl Tx

theorem fracL_no (f : Nat) (hf : f < 4503599627370496) : (112 : UInt8) ∉ fracL f := by
  unfold fracL
  split
  · simp
  · intro h
    rcases List.mem_cons.1 h with e | e
    · exact absurd e (by decide)
    · exact (isHx_ne _ (hexT_isHx 13 f (by omega) _ e)).1 rfl

theorem rfL_nil : rfL [] = some 0 := by decide +kernel

/-- A positive number's text read. -/
theorem read_body (m : Nat) (h1 : m < 9218868437227405312) :
    (match rfL (Lib.cut (Lib.cut (body m) [112]).1 [46]).2.1, Lib.atoiAll (Lib.cut (body m) [112]).2.1 with
      | some b, .ok e => if -1022 ≤ e ∧ e ≤ 1023 then some ((if (Lib.cut (Lib.cut (body m) [112]).1 [46]).1 = [49] then (e + 1023).toNat * 4503599627370496 else 0) + b) else none
      | _, _ => none) = some m := by
  have hf : m % 4503599627370496 < 4503599627370496 := Nat.mod_lt _ (by decide)
  have he := expo_range m h1
  obtain ⟨c, hc⟩ : ∃ c : UInt8, c = if m < 4503599627370496 then 48 else 49 := ⟨_, rfl⟩
  have hcc : c = 48 ∨ c = 49 := by rw [hc]; split <;> simp
  have hb : body m = (c :: fracL (m % 4503599627370496)) ++ 112 :: Lib.itoa (expo m) := by
    unfold body; rw [← hc]; simp
  have hne : (112 : UInt8) ∉ c :: fracL (m % 4503599627370496) := by
    intro h
    rcases List.mem_cons.1 h with e | e
    · rcases hcc with k | k <;> rw [k] at e <;> exact absurd e (by decide)
    · exact fracL_no _ hf e
  rw [hb, cut_one _ _ _ hne]
  simp only
  rw [itoa_etx _ he.1 he.2, atoi_etx _ he.1 he.2]
  have key : rfL (Lib.cut (c :: fracL (m % 4503599627370496)) [46]).2.1 = some (m % 4503599627370496) ∧ (Lib.cut (c :: fracL (m % 4503599627370496)) [46]).1 = [c] := by
    by_cases h0 : m % 4503599627370496 = 0
    · rw [h0]
      have : fracL 0 = [] := rfl
      rw [this, cut_none [c] 46 (by rcases hcc with k | k <;> rw [k] <;> decide)]
      exact ⟨rfL_nil, rfl⟩
    · have hfr : fracL (m % 4503599627370496) = 46 :: hexT 13 (m % 4503599627370496) := by unfold fracL; rw [if_neg h0]
      have hx : c :: fracL (m % 4503599627370496) = [c] ++ 46 :: hexT 13 (m % 4503599627370496) := by rw [hfr]; rfl
      rw [hx, cut_one [c] _ 46 (by rcases hcc with k | k <;> rw [k] <;> decide)]
      refine ⟨?_, rfl⟩
      unfold rfL
      have := hexT_le 13 (m % 4503599627370496)
      simp only
      rw [if_neg (by omega), pad_hexT 13 _ (by omega), pu_hexA 13 _ 0 (by omega)]
      simp
  rw [key.1, key.2]
  simp only [if_pos he]
  refine congrArg some ?_
  by_cases hs : m < 4503599627370496
  · have : c = 48 := by rw [hc, if_pos hs]
    rw [this, if_neg (by decide)]
    omega
  · have : c = 49 := by rw [hc, if_neg hs]
    rw [this, if_pos rfl]
    unfold expo
    rw [if_neg hs]
    omega

theorem body_head (m : Nat) : Lib.hasPrefix (body m) [45] = false := by
  unfold body Lib.hasPrefix
  split <;> rfl

theorem finL_text (b : Nat) (hb : b < 18446744073709551616) (hm : b % 9223372036854775808 < 9218868437227405312) (h0 : b % 9223372036854775808 ≠ 0) : finL (text b) = some b := by
  have hr := read_body (b % 9223372036854775808) hm
  have hn : isN b = false := isN_of b (by omega)
  have ht : text b = (if 9223372036854775808 ≤ b then [45] else []) ++ body (b % 9223372036854775808) := by
    unfold text
    rw [if_neg (by simp [hn]), if_neg (show ¬ b % 9223372036854775808 = 9218868437227405312 by omega), if_neg h0]
  have hbody : body (b % 9223372036854775808) ≠ [] := by unfold body; simp
  obtain ⟨B, hB⟩ : ∃ B, B = body (b % 9223372036854775808) := ⟨_, rfl⟩
  have hhead := body_head (b % 9223372036854775808)
  rw [← hB] at hr ht hhead
  have hp : Lib.trimPrefix (text b) [45] = B := by
    rw [ht]
    unfold Lib.trimPrefix
    by_cases hs : 9223372036854775808 ≤ b
    · rw [if_pos hs]
      rw [if_pos (by simp [Lib.hasPrefix])]
      simp
    · rw [if_neg hs, List.nil_append, if_neg (by simp [hhead])]
  have hq : Lib.hasPrefix (text b) [45] = decide (9223372036854775808 ≤ b) := by
    rw [ht]
    by_cases hs : 9223372036854775808 ≤ b
    · rw [if_pos hs, decide_eq_true hs]
      simp [Lib.hasPrefix]
    · rw [if_neg hs, decide_eq_false hs, List.nil_append, hhead]
  unfold finL
  rw [hp, hq]
  simp only
  cases hx : rfL (Lib.cut (Lib.cut B [112]).1 [46]).2.1 with
  | none => rw [hx] at hr; cases hr
  | some u =>
    cases hy : Lib.atoiAll (Lib.cut B [112]).2.1 with
    | «syntax» => rw [hx, hy] at hr; cases hr
    | range => rw [hx, hy] at hr; cases hr
    | ok e =>
      rw [hx, hy] at hr
      simp only at hr ⊢
      split at hr
      · rename_i he
        rw [if_pos he]
        injection hr with hr
        rw [hr]
        refine congrArg some ?_
        by_cases hs : 9223372036854775808 ≤ b
        · rw [decide_eq_true hs, if_pos rfl]; omega
        · rw [decide_eq_false hs, if_neg (by decide)]; omega
      · cases hr

/-- Unlike numbers have unlike texts. -/
theorem text_inj (a b : Nat) (ha : a < 18446744073709551616) (hb : b < 18446744073709551616) (h : text a = text b) : cb a = cb b := by
  have fin (c : Nat) (hc : c < 18446744073709551616) : (cb c = 9221120237041090560 ∧ text c = [110, 97, 110]) ∨ (cb c = c ∧ c = 18442240474082181120 ∧ text c = [45, 105, 110, 102]) ∨ (cb c = c ∧ c = 9218868437227405312 ∧ text c = [105, 110, 102])
      ∨ (cb c = c ∧ c = 9223372036854775808 ∧ text c = [45, 48]) ∨ (cb c = c ∧ c = 0 ∧ text c = [48]) ∨ (cb c = c ∧ finL (text c) = some c) := by
    rcases text_cases c hc with ⟨hn, _, ht⟩ | ⟨hn, hcb, ⟨k, _, ht⟩ | ⟨k, k', _, ht⟩ | ⟨k, _, ht⟩ | ⟨k, _, ht⟩ | ⟨k, k', _, ht⟩ | ⟨k, _, ht⟩⟩
    · exact .inl ⟨cb_nan c hn, ht⟩
    · exact .inr (.inl ⟨hcb, k, ht⟩)
    · exact .inr (.inr (.inr (.inr (.inr ⟨hcb, finL_text c hc (by omega) (by omega)⟩))))
    · exact .inr (.inr (.inr (.inl ⟨hcb, k, ht⟩)))
    · exact .inr (.inr (.inr (.inr (.inl ⟨hcb, k, ht⟩))))
    · exact .inr (.inr (.inr (.inr (.inr ⟨hcb, finL_text c hc (by omega) (by omega)⟩))))
    · exact .inr (.inr (.inl ⟨hcb, k, ht⟩))
  have n1 : finL [110, 97, 110] = none := by decide +kernel
  have n2 : finL [45, 105, 110, 102] = none := by decide +kernel
  have n3 : finL [105, 110, 102] = none := by decide +kernel
  have n4 : finL [45, 48] = none := by decide +kernel
  have n5 : finL [48] = none := by decide +kernel
  rcases fin a ha with ⟨e1, t1⟩ | ⟨e1, k1, t1⟩ | ⟨e1, k1, t1⟩ | ⟨e1, k1, t1⟩ | ⟨e1, k1, t1⟩ | ⟨e1, t1⟩ <;>
    rcases fin b hb with ⟨e2, t2⟩ | ⟨e2, k2, t2⟩ | ⟨e2, k2, t2⟩ | ⟨e2, k2, t2⟩ | ⟨e2, k2, t2⟩ | ⟨e2, t2⟩ <;>
    first
      | (rw [e1, e2]; done)
      | (rw [e1, e2, k1, k2]; done)
      | (rw [t1, t2] at h; exact absurd h (by decide))
      | (rw [← h, t1] at t2; simp_all; done)
      | (rw [h, t2] at t1; simp_all; done)
      | (rw [h, t2] at t1; injection t1 with t1; rw [e1, e2, t1])

end Go.Proofs.YtlbnfnfenphfbaaGreatDoor
