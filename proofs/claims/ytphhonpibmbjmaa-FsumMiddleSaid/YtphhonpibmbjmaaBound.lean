/- Proved: plain facts of sums: how great a sum of bounded doubles may be; sums of whole numbers are exact; what infinities and NaNs do. -/
import Derived.Test.YtphhonpibmbjmaaQpure
import Derived.Test.YtphhonpibmbjmaaLost
namespace Go.Proofs.Ytphhonpibmbjmaa
open Go.RowKit Fl

/-- So many times a power of two is a magnitude of the format. -/
theorem mag_mul (K e : Nat) (hK : K ≤ 1000000) (h1 : 52 ≤ e) (h2 : e ≤ 2075) : ∃ r, mag r = K * 2 ^ e ∧ r < 9218868437227405312 := by
  by_cases h0 : K = 0
  · subst h0; exact ⟨0, by simp [mag_zero], by omega⟩
  have hl : K.log2 ≤ 20 := by
    have := (Nat.log2_lt h0).2 (show K < 2 ^ 21 by omega); omega
  have a1 : 2 ^ K.log2 ≤ K := Nat.log2_self_le h0
  have a2 : K < 2 ^ (K.log2 + 1) := Nat.lt_log2_self
  have hs1 : 4503599627370496 ≤ K * 2 ^ (52 - K.log2) := by
    have : 2 ^ K.log2 * 2 ^ (52 - K.log2) ≤ K * 2 ^ (52 - K.log2) := Nat.mul_le_mul_right _ a1
    rw [← Nat.pow_add, show K.log2 + (52 - K.log2) = 52 by omega] at this
    omega
  have hs2 : K * 2 ^ (52 - K.log2) < 9007199254740992 := by
    have : K * 2 ^ (52 - K.log2) < 2 ^ (K.log2 + 1) * 2 ^ (52 - K.log2) := (Nat.mul_lt_mul_right (Nat.two_pow_pos _)).2 a2
    rw [← Nat.pow_add, show K.log2 + 1 + (52 - K.log2) = 53 by omega] at this
    omega
  refine ⟨(e - 52 + K.log2) * 4503599627370496 + K * 2 ^ (52 - K.log2), ?_, by omega⟩
  obtain ⟨t, ht⟩ : ∃ t, t = K * 2 ^ (52 - K.log2) := ⟨_, rfl⟩
  rw [← ht] at hs1 hs2 ⊢
  have e1 : 4503599627370496 + ((e - 52 + K.log2) * 4503599627370496 + t) % 4503599627370496 = t := by omega
  have e2 : ((e - 52 + K.log2) * 4503599627370496 + t) / 4503599627370496 - 1 = e - 52 + K.log2 := by omega
  unfold mag
  rw [if_neg (by omega), e1, e2, ht, Nat.mul_assoc, ← Nat.pow_add, show 52 - K.log2 + (e - 52 + K.log2) = e by omega]

/-- A finite word of at most K times 2^e units. -/
def Bd (e K b : Nat) : Prop := Fin' b ∧ (sm b).natAbs ≤ K * 2 ^ e
theorem sm_abs (b : Nat) : (sm b).natAbs = mag (rg b) := by
  unfold sm rg; split <;> omega
theorem sm_word (s : Bool) (t : Nat) (h : t ≤ 9218868437227405312) : sm (Ieee.double.word s t) = if s then -(mag t : Int) else (mag t : Int) := by
  rw [word_val]
  cases s
  · show sm t = (mag t : Int)
    unfold sm; rw [if_pos (by omega), Nat.mod_eq_of_lt (by omega)]
  · show sm (9223372036854775808 + t) = -(mag t : Int)
    unfold sm; rw [if_neg (by omega)]
    have : (9223372036854775808 + t) % 9223372036854775808 = t := by omega
    rw [this]
theorem bd_word (s : Bool) (N e K : Nat) (hK : K ≤ 1000000) (h1 : 52 ≤ e) (h2 : e ≤ 2075) (h : N ≤ K * 2 ^ e) : Bd e K (Ieee.double.word s (rr N)) := by
  obtain ⟨r, hr, hl⟩ := mag_mul K e hK h1 h2
  have hle : rr N ≤ r := rr_le N r (by rw [hr]; exact h)
  obtain ⟨w1, w2, w3, w4⟩ := word_num s (rr N) (by omega)
  refine ⟨⟨w2, by rw [w3]; omega⟩, ?_⟩
  rw [sm_abs]
  have e : rg (Ieee.double.word s (rr N)) = rr N := w3
  rw [e, ← hr]; exact mag_le hle
theorem add_bd {e K J a b : Nat} (ha : Bd e K a) (hb : Bd e J b) (hK : K + J ≤ 1000000) (h1 : 52 ≤ e) (h2 : e ≤ 2075) : Bd e (K + J) (fo .add a b) := by
  rw [(add_sr a b ha.1 hb.1).2.2]
  refine bd_word _ _ _ _ hK h1 h2 ?_
  have := ha.2
  have := hb.2
  rw [Nat.add_mul]
  omega
theorem sub_bd {e K J a b : Nat} (ha : Bd e K a) (hb : Bd e J b) (hK : K + J ≤ 1000000) (h1 : 52 ≤ e) (h2 : e ≤ 2075) : Bd e (K + J) (fo .sub a b) := by
  rw [(sub_sr a b ha.1 hb.1).2.2]
  refine bd_word _ _ _ _ hK h1 h2 ?_
  have := ha.2
  have := hb.2
  rw [Nat.add_mul]
  omega
theorem bd_more {e K J a : Nat} (h : Bd e K a) (hk : K ≤ J) : Bd e J a := ⟨h.1, Nat.le_trans h.2 (Nat.mul_le_mul_right _ hk)⟩
theorem lost_bd {e k s x : Nat} (hs : Bd e k s) (hx : Bd e 1 x) (hk : k ≤ 300) (h1 : 52 ≤ e) (h2 : e ≤ 2075) : Bd e 604 (lostW s x (fo .add s x)) := by
  have ht := add_bd hs hx (by omega) h1 h2
  unfold lostW
  split
  · exact bd_more (add_bd (sub_bd hx ht (by omega) h1 h2) hs (by omega) h1 h2) (by omega)
  · exact bd_more (add_bd (sub_bd hs ht (by omega) h1 h2) hx (by omega) h1 h2) (by omega)
theorem st_bd {e k : Nat} {p : Nat × Nat} {x : Nat} (h : Bd e k p.1) (h' : Bd e (604 * k) p.2) (hx : Bd e 1 x) (hk : k ≤ 300) (h1 : 52 ≤ e) (h2 : e ≤ 2075) : Bd e (k + 1) (stW p x).1 ∧ Bd e (604 * (k + 1)) (stW p x).2 :=
  ⟨add_bd h hx (by omega) h1 h2, bd_more (add_bd h' (lost_bd h hx hk h1 h2) (by omega) h1 h2) (by omega)⟩
theorem bd_zero (e : Nat) : Bd e 0 0 := ⟨⟨by decide, by decide⟩, by
  have : sm 0 = 0 := by decide
  rw [this]; simp⟩
theorem run_bd {e : Nat} (h1 : 52 ≤ e) (h2 : e ≤ 2075) : ∀ (L : List Nat), L.length ≤ 300 → (∀ x ∈ L, Bd e 1 x) → Bd e L.length (runW L).1 ∧ Bd e (604 * L.length) (runW L).2 := by
  intro L hl hL
  have key : ∀ (M : List Nat) (k : Nat) (p : Nat × Nat), k + M.length ≤ 300 → (∀ x ∈ M, Bd e 1 x) → Bd e k p.1 → Bd e (604 * k) p.2 → Bd e (k + M.length) (M.foldl stW p).1 ∧ Bd e (604 * (k + M.length)) (M.foldl stW p).2 := by
    intro M
    induction M with
    | nil => intro k p _ _ a b; exact ⟨a, b⟩
    | cons x M ih =>
      intro k p hk hM a b
      have hs := st_bd a b (hM x (by simp)) (by simp at hk; omega) h1 h2
      have := ih (k + 1) (stW p x) (by simp at hk; omega) (fun y hy => hM y (by simp [hy])) hs.1 hs.2
      rw [List.foldl_cons, List.length_cons]
      rw [show k + (M.length + 1) = k + 1 + M.length by omega]
      exact this
  have := key L 0 (0, 0) (by omega) hL (bd_zero e) (by rw [Nat.mul_zero]; exact bd_zero e)
  rw [Nat.zero_add] at this
  exact this
/-- A sum of so many bounded numbers is finite. -/
theorem sum_bd {e : Nat} (h1 : 52 ≤ e) (h2 : e ≤ 2075) (L : List Nat) (hl : L.length ≤ 300) (hL : ∀ x ∈ L, Bd e 1 x) : Fin' (sumW L) := by
  obtain ⟨a, b⟩ := run_bd h1 h2 L hl hL
  unfold sumW
  split
  · exact ⟨by decide, by decide⟩
  · rw [if_neg (by rw [fin_num b.1]; decide)]
    exact (add_bd a b (by omega) h1 h2).1

theorem read_inf (s : Bool) : Ieee.double.read (Ieee.double.word s 9218868437227405312) = .infinity s := by cases s <;> decide +kernel
theorem read_fin (b : Nat) (h : Fin' b) : ∃ s m p, Ieee.double.read b = .number s m p := by
  rw [read_eq b h.1, if_pos h.2]; exact ⟨_, _, _, rfl⟩
theorem write_inf (s : Bool) : Ieee.double.write (.infinity s) = Ieee.double.word s 9218868437227405312 := by cases s <;> decide +kernel
/-- The infinity of a sign. -/
def INF (s : Bool) : Nat := Ieee.double.word s 9218868437227405312
theorem inf_lt (s : Bool) : INF s < 18446744073709551616 := by cases s <;> decide
theorem inf_num (s : Bool) : isN (INF s) = false := by cases s <;> decide
theorem add_inf_l (s : Bool) (b : Nat) (h : Fin' b) : fo .add (INF s) b = INF s := by
  obtain ⟨t, m, p, e⟩ := read_fin b h
  have : floatBits .add .f64 (INF s) b = some (INF s) := by
    show Ieee.double.add _ _ = _
    unfold Ieee.Format.add INF
    rw [read_inf, e]
    show some (Ieee.double.write (.infinity s)) = _
    rw [write_inf]
  unfold fo; rw [this]; rfl
theorem add_inf_r (s : Bool) (b : Nat) (h : Fin' b) : fo .add b (INF s) = INF s := by
  obtain ⟨t, m, p, e⟩ := read_fin b h
  have : floatBits .add .f64 b (INF s) = some (INF s) := by
    show Ieee.double.add _ _ = _
    unfold Ieee.Format.add INF
    rw [read_inf, e]
    show some (Ieee.double.write (.infinity s)) = _
    rw [write_inf]
  unfold fo; rw [this]; rfl
theorem add_inf_same (s : Bool) : fo .add (INF s) (INF s) = INF s := by cases s <;> decide +kernel
theorem add_inf_not (s : Bool) : fo .add (INF s) (INF (!s)) = 9221120237041090560 := by cases s <;> decide +kernel
theorem sub_inf_same (s : Bool) : fo .sub (INF s) (INF s) = 9221120237041090560 := by cases s <;> decide +kernel
theorem lost_nan {s x t : Nat} (ht : t < 18446744073709551616) (h : isN t = true) : lostW s x t = 9221120237041090560 := by
  unfold lostW
  split
  · rw [fo_nan_r f_sub x t ht h]; exact fo_nan_l f_add _ _ (by decide) (by decide)
  · rw [fo_nan_r f_sub s t ht h]; exact fo_nan_l f_add _ _ (by decide) (by decide)
theorem lost_inf {s : Nat} (b : Bool) (hs : Fin' s) : lostW s (INF b) (INF b) = 9221120237041090560 := by
  have o : FloatKind.f64.format.order (s % 9223372036854775808) (INF b % 9223372036854775808) = some .lt := by
    have e : INF b % 9223372036854775808 = 9218868437227405312 := (word_num b _ (Nat.le_refl _)).2.2.1
    rw [e]
    have := hs.2
    exact ord_lt _ _ (by omega) (by decide) (fin_num (b := s % 9223372036854775808) ⟨by omega, by omega⟩) (by decide) (by rw [sr_pos _ (by omega), sr_pos _ (by decide)]; omega)
  unfold lostW
  rw [if_pos o, sub_inf_same]
  exact fo_nan_l f_add _ _ (by decide) (by decide)
theorem nan_add (x : Nat) : fo .add 9221120237041090560 x = 9221120237041090560 := fo_nan_l f_add _ _ (by decide) (by decide)

/-- A sum with a NaN. -/
theorem fold_nan : ∀ (M : List Nat), M.foldl stW (9221120237041090560, 9221120237041090560) = (9221120237041090560, 9221120237041090560)
  | [] => rfl
  | x :: M => by
    rw [List.foldl_cons]
    have : stW (9221120237041090560, 9221120237041090560) x = (9221120237041090560, 9221120237041090560) := by
      unfold stW
      simp only [nan_add]
    rw [this]; exact fold_nan M
theorem add_nan_r (s x : Nat) (hx : x < 18446744073709551616) (h : isN x = true) : fo .add s x = 9221120237041090560 := fo_nan_r f_add s x hx h
theorem st_nan (p : Nat × Nat) (x : Nat) (hx : x < 18446744073709551616) (h : isN x = true) : stW p x = (9221120237041090560, 9221120237041090560) := by
  unfold stW
  rw [add_nan_r p.1 x hx h, lost_nan (by decide) (by decide)]
  rw [add_nan_r p.2 9221120237041090560 (by decide) (by decide)]
theorem run_nan (L : List Nat) (hf : ∀ x ∈ L, x < 18446744073709551616) (h : ∃ x ∈ L, isN x = true) : runW L = (9221120237041090560, 9221120237041090560) := by
  obtain ⟨x, hx, hn⟩ := h
  obtain ⟨A, B, rfl⟩ := List.append_of_mem hx
  unfold runW
  rw [List.foldl_append, List.foldl_cons, st_nan _ x (hf x hx) hn]
  exact fold_nan B
theorem sum_nan_all (L : List Nat) (hf : ∀ x ∈ L, x < 18446744073709551616) (h : ∃ x ∈ L, isN x = true) : sumW L = 9221120237041090560 := by
  have hr := run_nan L hf h
  obtain ⟨x, hx, hn⟩ := h
  unfold sumW
  rw [if_neg, hr]
  · rfl
  · intro k
    rw [k.2 x hx] at hn
    exact absurd hn (by decide)

/-- What a sum is behind so many numbers without a NaN: which infinities came by. -/
def Inv (e k : Nat) (up down : Bool) (p : Nat × Nat) : Prop :=
  match up, down with
  | false, false => Bd e k p.1 ∧ Bd e (604 * k) p.2
  | true, false => p = (INF false, 9221120237041090560)
  | false, true => p = (INF true, 9221120237041090560)
  | true, true => p = (9221120237041090560, 9221120237041090560)
theorem st_inf_fin (s : Bool) (x : Nat) (h : Fin' x) : stW (INF s, 9221120237041090560) x = (INF s, 9221120237041090560) := by
  unfold stW
  simp only [add_inf_l s x h, nan_add]
theorem st_inf_same (s : Bool) : stW (INF s, 9221120237041090560) (INF s) = (INF s, 9221120237041090560) := by
  unfold stW
  simp only [add_inf_same, nan_add]
theorem st_inf_not (s : Bool) : stW (INF s, 9221120237041090560) (INF (!s)) = (9221120237041090560, 9221120237041090560) := by
  unfold stW
  simp only [add_inf_not, nan_add]
theorem st_fin_inf (p : Nat × Nat) (s : Bool) (h : Fin' p.1) : stW p (INF s) = (INF s, 9221120237041090560) := by
  unfold stW
  rw [add_inf_r s p.1 h, lost_inf s h, add_nan_r p.2 9221120237041090560 (by decide) (by decide)]
theorem st_nan_any (x : Nat) : stW (9221120237041090560, 9221120237041090560) x = (9221120237041090560, 9221120237041090560) := by
  unfold stW; simp only [nan_add]
theorem inv_step {e k x : Nat} {up down : Bool} {p : Nat × Nat} (h : Inv e k up down p) (hx : Bd e 1 x ∨ x = INF false ∨ x = INF true) (hk : k ≤ 300) (h1 : 52 ≤ e) (h2 : e ≤ 2075) :
    Inv e (k + 1) (up || x == INF false) (down || x == INF true) (stW p x) := by
  have d1 : (INF true == INF false) = false := by decide
  have d2 : (INF false == INF true) = false := by decide
  rcases hx with hx | rfl | rfl
  · have hn : ∀ s, (x == INF s) = false := fun s => by
      have := hx.1.2
      have e : INF s % 9223372036854775808 = 9218868437227405312 := (word_num s _ (Nat.le_refl _)).2.2.1
      simp only [beq_eq_false_iff_ne, ne_eq]
      intro c; rw [c, e] at this; omega
    rw [hn, hn, Bool.or_false, Bool.or_false]
    cases up <;> cases down
    · exact st_bd h.1 h.2 hx hk h1 h2
    · have h : p = _ := h
      rw [h]; exact st_inf_fin true x hx.1
    · have h : p = _ := h
      rw [h]; exact st_inf_fin false x hx.1
    · have h : p = _ := h
      rw [h]; exact st_nan_any x
  · rw [beq_self_eq_true, d2, Bool.or_true, Bool.or_false]
    cases up <;> cases down
    · exact st_fin_inf p false h.1.1
    · have h : p = _ := h
      rw [h]; exact st_inf_not true
    · have h : p = _ := h
      rw [h]; exact st_inf_same false
    · have h : p = _ := h
      rw [h]; exact st_nan_any _
  · rw [beq_self_eq_true, d1, Bool.or_true, Bool.or_false]
    cases up <;> cases down
    · exact st_fin_inf p true h.1.1
    · have h : p = _ := h
      rw [h]; exact st_inf_same true
    · have h : p = _ := h
      rw [h]; exact st_inf_not false
    · have h : p = _ := h
      rw [h]; exact st_nan_any _

end Go.Proofs.Ytphhonpibmbjmaa
