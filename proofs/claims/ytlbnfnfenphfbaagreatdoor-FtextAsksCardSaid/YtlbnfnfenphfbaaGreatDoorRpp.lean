/- Proved: plain facts of how the document's own Parse goes through a text: sign, fraction, exponent. -/
import Derived.Test.YtlbnfnfenphfbaaGreatDoorAwk
import Derived.Test.YtlbnfnfenphfbaaGreatDoorAt
import Derived.Test.YtlbnfnfenphfbaaGreatDoorRhx
namespace Go.Proofs.YtlbnfnfenphfbaaGreatDoor
open Go.RowKit Fl Tx

/-- The text, its sign aside, of a finite number above nought. -/
def IsB (L : List UInt8) (m : Nat) : Prop := 0 < m ∧ m < 9218868437227405312 ∧ L = body m

theorem body_split (m : Nat) (h1 : m < 9218868437227405312) : body m = (if m < 4503599627370496 then 48 else 49) :: (fracL (m % 4503599627370496) ++ 112 :: etx (expo m)) := by
  unfold body
  rw [itoa_etx _ (expo_range m h1).1 (expo_range m h1).2]
  simp
theorem etx_ne (e : Int) : etx e ≠ [] := by
  unfold etx
  split
  · simp
  · unfold dec4
    split
    · simp
    · split
      · simp
      · split <;> simp
theorem isB_len {L : List UInt8} {m : Nat} (h : IsB L m) : 3 ≤ L.length := by
  rw [h.2.2, body_split m h.2.1]
  have := List.length_pos_iff.2 (etx_ne (expo m))
  simp only [List.length_cons, List.length_append]
  omega
theorem isB_head {L : List UInt8} {m : Nat} (h : IsB L m) : L[0]? = some (if m < 4503599627370496 then 48 else 49) := by
  rw [h.2.2, body_split m h.2.1]; rfl
theorem isB_dot {L : List UInt8} {m : Nat} (h : IsB L m) (hd : L[1]? = some 46) : L.drop 2 = hexT 13 (m % 4503599627370496) ++ 112 :: etx (expo m) := by
  rw [h.2.2, body_split m h.2.1] at hd ⊢
  unfold fracL at hd ⊢
  by_cases k : m % 4503599627370496 = 0
  · rw [if_pos k] at hd
    exact absurd hd (by simp)
  · rw [if_neg k]; rfl
theorem isB_nodot {L : List UInt8} {m : Nat} (h : IsB L m) (hd : L[1]? ≠ some 46) : L.drop 1 = 112 :: etx (expo m) ∧ m % 4503599627370496 = 0 := by
  rw [h.2.2, body_split m h.2.1] at hd ⊢
  unfold fracL at hd ⊢
  by_cases k : m % 4503599627370496 = 0
  · rw [if_pos k]; exact ⟨rfl, k⟩
  · rw [if_neg k] at hd
    exact absurd rfl hd

/-- A digit is read. -/
theorem hex_read {n h : Nat} {c : UInt8} {R E : List UInt8} (hh : h < 16 ^ (n + 1)) (hc : 0 ≤ hv c) (he : c :: R = hexT (n + 1) h ++ 112 :: E) :
    h % 16 ^ n < 16 ^ n ∧ hv c = ((h / 16 ^ n : Nat) : Int) ∧ R = hexT n (h % 16 ^ n) ++ 112 :: E := by
  have hp : 0 < 16 ^ n := Nat.pow_pos (by decide)
  have hq : h / 16 ^ n < 16 := by rw [Nat.div_lt_iff_lt_mul hp, Nat.mul_comm, ← Nat.pow_succ]; exact hh
  unfold hexT at he
  split at he
  · simp only [List.nil_append] at he
    injection he with h1 h2
    subst h1
    exact absurd hc (by decide)
  · injection he with h1 h2
    subst h1
    exact ⟨Nat.mod_lt _ hp, hv_hx _ hq, h2⟩
/-- No digit is left. -/
theorem hex_stop {n h : Nat} {c : UInt8} {R E : List UInt8} (hh : h < 16 ^ n) (hc : hv c < 0) (he : c :: R = hexT n h ++ 112 :: E) : h = 0 := by
  cases n with
  | zero => simpa using hh
  | succ n =>
    have hp : 0 < 16 ^ n := Nat.pow_pos (by decide)
    have hq : h / 16 ^ n < 16 := by rw [Nat.div_lt_iff_lt_mul hp, Nat.mul_comm, ← Nat.pow_succ]; exact hh
    unfold hexT at he
    split at he
    · assumption
    · injection he with h1 h2
      subst h1
      rw [hv_hx _ hq] at hc
      exact absurd hc (Int.not_lt.2 (Int.natCast_nonneg _))
theorem or_up (F x p : Nat) (h : x < 2 ^ p) : (F * 2 ^ p) ||| x = F * 2 ^ p + x := by
  have := Nat.two_pow_add_eq_or_of_lt h F
  rw [Nat.mul_comm, ← this]
theorem or_hex (f d n : Nat) (hf : 16 ^ (n + 1) ∣ f) (hd : d < 16) : f ||| d * 16 ^ n = f + d * 16 ^ n ∧ 16 ^ n ∣ f + d * 16 ^ n := by
  obtain ⟨F, rfl⟩ := hf
  have e : (16 : Nat) ^ (n + 1) = 2 ^ (4 * (n + 1)) := by rw [Nat.pow_mul]
  have hlt : d * 16 ^ n < 16 ^ (n + 1) := by
    rw [Nat.pow_succ, Nat.mul_comm (16 ^ n)]
    exact Nat.mul_lt_mul_of_pos_right hd (Nat.pow_pos (by decide))
  refine ⟨?_, ?_⟩
  · rw [e] at hlt ⊢
    rw [Nat.mul_comm (2 ^ (4 * (n + 1)))]
    exact or_up F _ _ hlt
  · rw [Nat.pow_succ, Nat.mul_assoc]
    exact Nat.dvd_add (Nat.dvd_mul_right _ _) (Nat.dvd_mul_left _ _)

/-- Decimal digits read behind a value. -/
def fd : Nat → List UInt8 → Option Nat
  | e, [] => some e
  | e, c :: r => if 48 ≤ c.toNat ∧ c.toNat ≤ 57 then fd (10 * e + (c.toNat - 48)) r else none
theorem fd_ge : ∀ (l : List UInt8) (e u : Nat), fd e l = some u → e ≤ u
  | [], e, u, h => by simp [fd] at h; omega
  | c :: r, e, u, h => by
    unfold fd at h
    split at h
    · have := fd_ge r _ _ h; omega
    · cases h
theorem fd_dec (u : Nat) (h : u < 1024) : fd 0 (dec4 u) = some u := by
  have : ∀ u : Fin 1024, fd 0 (dec4 u.val) = some u.val := by decide +kernel
  exact this ⟨u, h⟩
theorem dec4_head (u : Nat) (h : u < 1024) : (dec4 u).head? ≠ some 45 := by
  have : ∀ u : Fin 1024, (dec4 u.val).head? ≠ some 45 := by decide +kernel
  exact this ⟨u, h⟩
theorem etx_minus {e : Int} {R : List UInt8} (h0 : -1022 ≤ e) (h1 : e ≤ 1023) (h : etx e = 45 :: R) : e < 0 ∧ fd 0 R = some e.natAbs := by
  unfold etx at h
  split at h
  · rename_i k
    injection h with _ h
    rw [← h]
    exact ⟨k, fd_dec _ (by omega)⟩
  · have := dec4_head e.toNat (by omega)
    rw [h] at this
    exact absurd rfl this
theorem etx_plus {e : Int} {L : List UInt8} (h0 : -1022 ≤ e) (h1 : e ≤ 1023) (h : etx e = L) (hn : L.head? ≠ some 45) : 0 ≤ e ∧ fd 0 L = some e.natAbs := by
  unfold etx at h
  split at h
  · rw [← h] at hn; exact absurd rfl hn
  · refine ⟨by omega, ?_⟩
    rw [← h, show e.natAbs = e.toNat by omega]
    exact fd_dec _ (by omega)

/-- The bits put together. -/
theorem isB_word {L : List UInt8} {m : Nat} (h : IsB L m) : m = (if L[0]? = some 49 then (expo m + 1023).toNat * 4503599627370496 else 0) + m % 4503599627370496 := by
  rw [isB_head h]
  unfold expo
  by_cases k : m < 4503599627370496
  · rw [if_pos k, if_neg (by decide)]; omega
  · rw [if_neg k, if_pos rfl, if_neg k]; omega

/-- What a text is, its sign aside. -/
theorem text_parts (b : Nat) (hb : Can b) (L T : List UInt8) (B0 : Nat) (hB : B0 = 0 ∨ B0 = 9223372036854775808) (hl : L = (if B0 = 0 then [] else [45]) ++ T) (hh : B0 = 0 → T.head? ≠ some 45) (ht : L = text b) :
    (B0 = 0 ∧ T = [110, 97, 110]) ∨ (T = [105, 110, 102]) ∨ (T = [48]) ∨ (IsB T (b % 9223372036854775808) ∧ b = B0 + b % 9223372036854775808) := by
  have hlt := hb.2
  rw [ht] at hl
  have bh : ∀ m, (body m).head? ≠ some 45 := fun m => by unfold body; split <;> simp
  rcases text_cases b hlt with ⟨hn, _, h⟩ | ⟨hn, hcb, ⟨k, _, h⟩ | ⟨k, k', _, h⟩ | ⟨k, _, h⟩ | ⟨k, _, h⟩ | ⟨k, k', _, h⟩ | ⟨k, _, h⟩⟩
  all_goals rw [h] at hl
  all_goals rcases hB with hB | hB
  all_goals subst hB
  all_goals simp only [if_pos, List.nil_append, reduceCtorEq] at hl
  · exact .inl ⟨rfl, hl.symm⟩
  · simp at hl
  · exact absurd (by rw [← hl]; rfl) (hh rfl)
  · simp at hl; exact .inr (.inl hl.symm)
  · exact absurd (by rw [← hl]; rfl) (hh rfl)
  · simp at hl; exact .inr (.inr (.inr ⟨⟨by omega, by omega, hl.symm⟩, by omega⟩))
  · exact absurd (by rw [← hl]; rfl) (hh rfl)
  · simp at hl; exact .inr (.inr (.inl hl.symm))
  · exact .inr (.inr (.inl hl.symm))
  · simp at hl
  · refine .inr (.inr (.inr ⟨⟨by omega, by omega, ?_⟩, by omega⟩))
    rw [Nat.mod_eq_of_lt (by omega)]; exact hl.symm
  · have := bh b
    rw [hl] at this; exact absurd (by simp) this
  · exact .inr (.inl hl.symm)
  · simp at hl

end Go.Proofs.YtlbnfnfenphfbaaGreatDoor
