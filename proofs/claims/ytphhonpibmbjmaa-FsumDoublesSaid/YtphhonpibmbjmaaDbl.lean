/- Proved: twice each number is twice the sum, to the last bit, where nothing runs over or is subnormal. -/
import Derived.Test.YtphhonpibmbjmaaErr
namespace Go.Proofs.Ytphhonpibmbjmaa
open Go.RowKit Fl

def D (r : Nat) : Nat := if r = 0 then 0 else r + 4503599627370496
/-- Twice a number, as a word. -/
def dw (b : Nat) : Nat := Ieee.double.word (neg' b) (D (rg b))
/-- A bounded word that is a multiple of 2^e units. -/
def Gd (e E K b : Nat) : Prop := Bd E K b ∧ 2 ^ e ∣ mag (rg b)
theorem mag_up (r : Nat) (h : 4503599627370496 ≤ r) : mag (r + 4503599627370496) = 2 * mag r := by
  unfold mag
  rw [if_neg (by omega), if_neg (by omega)]
  have e1 : (r + 4503599627370496) % 4503599627370496 = r % 4503599627370496 := by omega
  have e2 : (r + 4503599627370496) / 4503599627370496 - 1 = r / 4503599627370496 - 1 + 1 := by omega
  rw [e1, e2, Nat.pow_succ, ← Nat.mul_assoc, Nat.mul_comm]
theorem pow52 (e : Nat) (h : 52 ≤ e) : 4503599627370496 ≤ 2 ^ e := by
  have := Nat.pow_le_pow_right (n := 2) (by decide) h
  have e2 : (2 : Nat) ^ 52 = 4503599627370496 := by decide
  omega
theorem great_of {e N : Nat} (h : 52 ≤ e) (hd : 2 ^ e ∣ N) (h0 : N ≠ 0) : 4503599627370496 ≤ N :=
  Nat.le_trans (pow52 e h) (Nat.le_of_dvd (by omega) hd)
theorem gd_rung {e E K b : Nat} (h : Gd e E K b) (he : 52 ≤ e) : rg b = 0 ∨ 4503599627370496 ≤ rg b := by
  by_cases h0 : rg b = 0
  · exact .inl h0
  · right
    rcases Nat.lt_or_ge (rg b) 4503599627370496 with k | k
    · have hm : mag (rg b) = rg b := mag_small _ (by omega)
      have := great_of he h.2 (by rw [hm]; exact h0)
      omega
    · exact k
theorem D_mag (r : Nat) (h : r = 0 ∨ 4503599627370496 ≤ r) : mag (D r) = 2 * mag r := by
  unfold D
  by_cases h0 : r = 0
  · rw [if_pos h0, h0, mag_zero]
  · rw [if_neg h0]; exact mag_up r (by omega)
/-- Rounded, twice so many units are twice what so many are. -/
theorem rr_D (e E K N : Nat) (he : 52 ≤ e) (hE1 : 52 ≤ E) (hE2 : E + 1 ≤ 2075) (hK : K ≤ 1000000) (hd : 2 ^ e ∣ N) (hN : N ≤ K * 2 ^ E) : rr (2 * N) = D (rr N) := by
  have hb := bd_word false (2 * N) (E + 1) K hK (by omega) hE2 (by rw [Nat.pow_succ, ← Nat.mul_assoc]; omega)
  have hlt : rr (2 * N) < 9218868437227405312 := by
    have := hb.1.2
    rw [(word_num false (rr (2 * N)) (rr_inf _)).2.2.1] at this
    exact this
  by_cases h0 : N = 0
  · subst h0; rw [Nat.mul_zero, rr_zero]; rfl
  · have hg := great_of he hd h0
    rw [rr_double N hg hlt]
    have hp : rr N ≠ 0 := by
      have h1 : rr 1 ≤ rr N := rr_mono 1 N (by omega)
      have h2 : rr 1 = 1 := by
        have := rr_mag 1 (by omega)
        rwa [mag_small 1 (by omega)] at this
      omega
    unfold D; rw [if_neg hp]
theorem D_inf {e E K b : Nat} (h : Gd e E K b) (he : 52 ≤ e) (hE1 : 52 ≤ E) (hE2 : E + 1 ≤ 2075) (hK : K ≤ 1000000) : D (rg b) < 9218868437227405312 := by
  have hm : mag (rg b) ≤ K * 2 ^ E := by rw [← sm_abs]; exact h.1.2
  have hr : rr (mag (rg b)) = rg b := rr_mag _ (by have := h.1.1.2; unfold rg; omega)
  have := rr_D e E K (mag (rg b)) he hE1 hE2 hK h.2 hm
  rw [hr] at this
  rw [← this]
  have hb := bd_word false (2 * mag (rg b)) (E + 1) K hK (by omega) hE2 (by rw [Nat.pow_succ, ← Nat.mul_assoc]; omega)
  have h2 := hb.1.2
  rw [(word_num false (rr (2 * mag (rg b))) (rr_inf _)).2.2.1] at h2
  exact h2
theorem word_self' (x : Nat) (hx : x < 18446744073709551616) : Ieee.double.word (neg' x) (rg x) = x := by
  rw [word_val]
  unfold neg' rg
  by_cases h : 9223372036854775808 ≤ x
  · rw [decide_eq_true h, if_pos rfl]; omega
  · rw [decide_eq_false h, if_neg (by decide)]; omega
theorem dw_facts {e E K b : Nat} (h : Gd e E K b) (he : 52 ≤ e) (hE1 : 52 ≤ E) (hE2 : E + 1 ≤ 2075) (hK : K ≤ 1000000) : Fin' (dw b) ∧ neg' (dw b) = neg' b ∧ rg (dw b) = D (rg b) ∧ sm (dw b) = 2 * sm b := by
  have hi := D_inf h he hE1 hE2 hK
  obtain ⟨w1, w2, w3, w4⟩ := word_num (neg' b) (D (rg b)) (by omega)
  refine ⟨⟨w2, by unfold dw; rw [w3]; exact hi⟩, w4, w3, ?_⟩
  unfold dw
  rw [sm_word _ _ (by omega), D_mag _ (gd_rung h he)]
  have : sm b = if neg' b then -(mag (rg b) : Int) else (mag (rg b) : Int) := by
    have hw := word_self' b h.1.1.1
    conv => lhs; rw [← hw]
    exact sm_word _ _ (by have := h.1.1.2; unfold rg; omega)
  rw [this]
  cases neg' b
  · show ((2 * mag (rg b) : Nat) : Int) = 2 * (mag (rg b) : Int); omega
  · show -((2 * mag (rg b) : Nat) : Int) = 2 * -(mag (rg b) : Int); omega
theorem dvd_abs {e : Nat} {a b : Int} (ha : 2 ^ e ∣ a.natAbs) (hb : 2 ^ e ∣ b.natAbs) : 2 ^ e ∣ (a + b).natAbs ∧ 2 ^ e ∣ (a - b).natAbs := by
  have h1 : ((2 ^ e : Nat) : Int) ∣ a := Int.natAbs_dvd_natAbs.1 (by rw [Int.natAbs_natCast]; exact ha)
  have h2 : ((2 ^ e : Nat) : Int) ∣ b := Int.natAbs_dvd_natAbs.1 (by rw [Int.natAbs_natCast]; exact hb)
  have h3 := Int.natAbs_dvd_natAbs.2 (Int.dvd_add h1 h2)
  have h4 := Int.natAbs_dvd_natAbs.2 (Int.dvd_sub h1 h2)
  rw [Int.natAbs_natCast] at h3 h4
  exact ⟨h3, h4⟩
theorem word_dw (s : Bool) (N e E K : Nat) (he : 52 ≤ e) (hE1 : 52 ≤ E) (hE2 : E + 1 ≤ 2075) (hK : K ≤ 1000000) (hd : 2 ^ e ∣ N) (hN : N ≤ K * 2 ^ E) : Ieee.double.word s (rr (2 * N)) = dw (Ieee.double.word s (rr N)) ∧ Gd e E K (Ieee.double.word s (rr N)) := by
  have hb := bd_word s N E K hK hE1 (by omega) hN
  obtain ⟨w1, w2, w3, w4⟩ := word_num s (rr N) (rr_inf _)
  have hrg : rg (Ieee.double.word s (rr N)) = rr N := w3
  have hng : neg' (Ieee.double.word s (rr N)) = s := w4
  refine ⟨?_, hb, ?_⟩
  · unfold dw
    rw [hrg, hng, rr_D e E K N he hE1 hE2 hK hd hN]
  · rw [hrg]
    refine rr_mult e N hd ?_
    have := hb.1.2
    rw [w3] at this; exact this
theorem add_dw {e E K J a b : Nat} (ha : Gd e E K a) (hb : Gd e E J b) (he : 52 ≤ e) (hE1 : 52 ≤ E) (hE2 : E + 1 ≤ 2075) (hK : K + J ≤ 1000000) : fo .add (dw a) (dw b) = dw (fo .add a b) ∧ Gd e E (K + J) (fo .add a b) := by
  obtain ⟨a1, a2, a3, a4⟩ := dw_facts ha he hE1 hE2 (by omega)
  obtain ⟨b1, b2, b3, b4⟩ := dw_facts hb he hE1 hE2 (by omega)
  have hd : 2 ^ e ∣ (sm a + sm b).natAbs := (dvd_abs (by rw [sm_abs]; exact ha.2) (by rw [sm_abs]; exact hb.2)).1
  have hN : (sm a + sm b).natAbs ≤ (K + J) * 2 ^ E := by
    have := ha.1.2
    have := hb.1.2
    rw [Nat.add_mul]; omega
  have hw := word_dw (if sm a + sm b = 0 then neg' a && neg' b else decide (sm a + sm b < 0)) (sm a + sm b).natAbs e E (K + J) he hE1 hE2 hK hd hN
  rw [← (add_sr a b ha.1.1 hb.1.1).2.2] at hw
  refine ⟨?_, hw.2⟩
  rw [(add_sr _ _ a1 b1).2.2, a4, b4, a2, b2, ← hw.1]
  have e1 : (2 * sm a + 2 * sm b).natAbs = 2 * (sm a + sm b).natAbs := by omega
  have e2 : (2 * sm a + 2 * sm b = 0) = (sm a + sm b = 0) := by apply propext; omega
  have e3 : (2 * sm a + 2 * sm b < 0) = (sm a + sm b < 0) := by apply propext; omega
  rw [e1]
  simp only [e2, e3]
theorem sub_dw {e E K J a b : Nat} (ha : Gd e E K a) (hb : Gd e E J b) (he : 52 ≤ e) (hE1 : 52 ≤ E) (hE2 : E + 1 ≤ 2075) (hK : K + J ≤ 1000000) : fo .sub (dw a) (dw b) = dw (fo .sub a b) ∧ Gd e E (K + J) (fo .sub a b) := by
  obtain ⟨a1, a2, a3, a4⟩ := dw_facts ha he hE1 hE2 (by omega)
  obtain ⟨b1, b2, b3, b4⟩ := dw_facts hb he hE1 hE2 (by omega)
  have hd : 2 ^ e ∣ (sm a - sm b).natAbs := (dvd_abs (by rw [sm_abs]; exact ha.2) (by rw [sm_abs]; exact hb.2)).2
  have hN : (sm a - sm b).natAbs ≤ (K + J) * 2 ^ E := by
    have := ha.1.2
    have := hb.1.2
    rw [Nat.add_mul]; omega
  have hw := word_dw (if sm a - sm b = 0 then neg' a && !neg' b else decide (sm a - sm b < 0)) (sm a - sm b).natAbs e E (K + J) he hE1 hE2 hK hd hN
  rw [← (sub_sr a b ha.1.1 hb.1.1).2.2] at hw
  refine ⟨?_, hw.2⟩
  rw [(sub_sr _ _ a1 b1).2.2, a4, b4, a2, b2, ← hw.1]
  have e1 : (2 * sm a - 2 * sm b).natAbs = 2 * (sm a - sm b).natAbs := by omega
  have e2 : (2 * sm a - 2 * sm b = 0) = (sm a - sm b = 0) := by apply propext; omega
  have e3 : (2 * sm a - 2 * sm b < 0) = (sm a - sm b < 0) := by apply propext; omega
  rw [e1]
  simp only [e2, e3]
theorem abs_lt (a b : Nat) (ha : Fin' a) (hb : Fin' b) : FloatKind.f64.format.order (a % 9223372036854775808) (b % 9223372036854775808) = some .lt ↔ rg a < rg b := by
  have h1 := ha.2
  have h2 := hb.2
  have n1 : isN (a % 9223372036854775808) = false := fin_num (b := a % 9223372036854775808) ⟨by omega, by omega⟩
  have n2 : isN (b % 9223372036854775808) = false := fin_num (b := b % 9223372036854775808) ⟨by omega, by omega⟩
  have s1 := sr_pos (a % 9223372036854775808) (by omega)
  have s2 := sr_pos (b % 9223372036854775808) (by omega)
  unfold rg
  constructor
  · intro h
    rcases Nat.lt_or_ge (a % 9223372036854775808) (b % 9223372036854775808) with k | k
    · exact k
    · exfalso
      rcases Nat.eq_or_lt_of_le k with e | e
      · rw [ord_eq _ _ (by omega) (by omega) n1 n2 (by rw [s1, s2, e])] at h; cases h
      · rw [ord_gt _ _ (by omega) (by omega) n1 n2 (by rw [s1, s2]; omega)] at h; cases h
  · intro h
    exact ord_lt _ _ (by omega) (by omega) n1 n2 (by rw [s1, s2]; omega)
theorem D_lt (r s : Nat) : D r < D s ↔ r < s := by
  unfold D
  split <;> split <;> omega
theorem gd_more {e E K J b : Nat} (h : Gd e E K b) (hk : K ≤ J) : Gd e E J b := ⟨bd_more h.1 hk, h.2⟩
theorem lost_dw {e E k s x : Nat} (hs : Gd e E k s) (hx : Gd e E 1 x) (hk : k ≤ 300) (he : 52 ≤ e) (hE1 : 52 ≤ E) (hE2 : E + 1 ≤ 2075) : lostW (dw s) (dw x) (dw (fo .add s x)) = dw (lostW s x (fo .add s x)) ∧ Gd e E 604 (lostW s x (fo .add s x)) := by
  have ht := (add_dw hs hx he hE1 hE2 (by omega)).2
  have fs := dw_facts hs he hE1 hE2 (by omega)
  have fx := dw_facts hx he hE1 hE2 (by omega)
  have hiff : (FloatKind.f64.format.order (dw s % 9223372036854775808) (dw x % 9223372036854775808) = some .lt) ↔ (FloatKind.f64.format.order (s % 9223372036854775808) (x % 9223372036854775808) = some .lt) := by
    rw [abs_lt _ _ fs.1 fx.1, abs_lt _ _ hs.1.1 hx.1.1, fs.2.2.1, fx.2.2.1]
    exact D_lt _ _
  unfold lostW
  by_cases hc : FloatKind.f64.format.order (s % 9223372036854775808) (x % 9223372036854775808) = some .lt
  · rw [if_pos hc, if_pos (hiff.2 hc)]
    have h1 := sub_dw hx ht he hE1 hE2 (by omega)
    have h2 := add_dw h1.2 hs he hE1 hE2 (by omega)
    rw [h1.1, h2.1]
    exact ⟨rfl, gd_more h2.2 (by omega)⟩
  · rw [if_neg hc, if_neg (fun h => hc (hiff.1 h))]
    have h1 := sub_dw hs ht he hE1 hE2 (by omega)
    have h2 := add_dw h1.2 hx he hE1 hE2 (by omega)
    rw [h1.1, h2.1]
    exact ⟨rfl, gd_more h2.2 (by omega)⟩
theorem fold_dw {e E : Nat} (he : 52 ≤ e) (hE1 : 52 ≤ E) (hE2 : E + 1 ≤ 2075) : ∀ (M : List Nat) (k : Nat) (p : Nat × Nat), k + M.length ≤ 300 → (∀ x ∈ M, Gd e E 1 x) → Gd e E k p.1 → Gd e E (604 * k) p.2 →
    (M.map dw).foldl stW (dw p.1, dw p.2) = (dw (M.foldl stW p).1, dw (M.foldl stW p).2) ∧ Gd e E (k + M.length) (M.foldl stW p).1 ∧ Gd e E (604 * (k + M.length)) (M.foldl stW p).2 := by
  intro M
  induction M with
  | nil => intro k p _ _ a b; exact ⟨rfl, a, b⟩
  | cons x M ih =>
    intro k p hk hM a b
    rw [List.length_cons] at hk
    have hx := hM x (by simp)
    have h1 := add_dw a hx he hE1 hE2 (by omega)
    have h2 := lost_dw a hx (by omega) he hE1 hE2
    have h3 := add_dw b h2.2 he hE1 hE2 (by omega)
    have hst : stW (dw p.1, dw p.2) (dw x) = (dw (stW p x).1, dw (stW p x).2) := by
      unfold stW
      simp only [h1.1, h2.1, h3.1]
    have := ih (k + 1) (stW p x) (by omega) (fun y hy => hM y (by simp [hy])) h1.2 (gd_more h3.2 (by omega))
    rw [List.map_cons, List.foldl_cons, List.foldl_cons, hst, List.length_cons, show k + (M.length + 1) = k + 1 + M.length by omega]
    exact this
theorem dw_zero : dw 0 = 0 := by decide
theorem gd_zero (e E : Nat) : Gd e E 0 0 := ⟨bd_zero E, by
  have : rg 0 = 0 := rfl
  rw [this, mag_zero]; exact Nat.dvd_zero _⟩
theorem dw_neg {e E K b : Nat} (h : Gd e E K b) (he : 52 ≤ e) (hE1 : 52 ≤ E) (hE2 : E + 1 ≤ 2075) (hK : K ≤ 1000000) : dw b = 9223372036854775808 ↔ b = 9223372036854775808 := by
  constructor
  · intro hd
    have f := dw_facts h he hE1 hE2 hK
    rw [hd] at f
    have h1 : neg' 9223372036854775808 = true := by decide
    have h2 : rg 9223372036854775808 = 0 := by decide
    rw [h1, h2] at f
    have h3 : rg b = 0 := by
      have := f.2.2.1
      unfold D at this
      split at this
      · assumption
      · omega
    have h4 := f.2.1.symm
    unfold neg' at h4
    have h5 := of_decide_eq_true h4
    unfold rg at h3
    have := h.1.1.1
    omega
  · intro hd; subst hd; decide
/-- Twice each number: twice the sum. -/
theorem sum_dw {e E : Nat} (he : 52 ≤ e) (hE1 : 52 ≤ E) (hE2 : E + 1 ≤ 2075) (L : List Nat) (hl : L.length ≤ 300) (hL : ∀ x ∈ L, Gd e E 1 x) : sumW (L.map dw) = dw (sumW L) ∧ Gd e E 200000 (sumW L) := by
  obtain ⟨h1, h2, h3⟩ := fold_dw he hE1 hE2 L 0 (0, 0) (by omega) hL (gd_zero e E) (by rw [Nat.mul_zero]; exact gd_zero e E)
  have h1 : runW (L.map dw) = (dw (runW L).1, dw (runW L).2) := h1
  have h2 : Gd e E (0 + L.length) (runW L).1 := h2
  have h3 : Gd e E (604 * (0 + L.length)) (runW L).2 := h3
  have f2 := dw_facts h3 he hE1 hE2 (by omega)
  have hadd := add_dw h2 h3 he hE1 hE2 (by omega)
  have hiff : ((L.map dw) ≠ [] ∧ ∀ x ∈ L.map dw, x = 9223372036854775808) ↔ (L ≠ [] ∧ ∀ x ∈ L, x = 9223372036854775808) := by
    constructor
    · rintro ⟨a, b⟩
      refine ⟨fun h => a (by rw [h]; rfl), fun x hx => ?_⟩
      exact (dw_neg (hL x hx) he hE1 hE2 (by omega)).1 (b _ (List.mem_map.2 ⟨x, hx, rfl⟩))
    · rintro ⟨a, b⟩
      refine ⟨fun h => a (by simpa using h), fun x hx => ?_⟩
      obtain ⟨y, hy, rfl⟩ := List.mem_map.1 hx
      exact (dw_neg (hL y hy) he hE1 hE2 (by omega)).2 (b y hy)
  unfold sumW
  by_cases hc : L ≠ [] ∧ ∀ x ∈ L, x = 9223372036854775808
  · rw [if_pos hc, if_pos (hiff.2 hc)]
    refine ⟨by decide, ⟨⟨by decide, by decide⟩, ?_⟩, ?_⟩
    · have : sm 9223372036854775808 = 0 := by decide
      rw [this]; simp
    · have : rg 9223372036854775808 = 0 := by decide
      rw [this, mag_zero]; exact Nat.dvd_zero _
  · rw [if_neg hc, if_neg (fun h => hc (hiff.1 h)), h1]
    simp only
    rw [if_neg (by rw [fin_num f2.1]; decide), if_neg (by rw [fin_num h3.1.1]; decide)]
    exact ⟨hadd.1, gd_more hadd.2 (by omega)⟩

end Go.Proofs.Ytphhonpibmbjmaa
