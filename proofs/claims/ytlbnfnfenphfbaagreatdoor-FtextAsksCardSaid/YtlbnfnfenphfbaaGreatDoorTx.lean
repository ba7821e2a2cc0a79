/- Proved: plain facts of the texts of numbers: hexadecimal digits without the noughts at their end, decimal exponents; a text is read as the bits that it was written of, so unlike numbers have unlike texts. -/
import Derived.Lib.TrimByte
import Derived.Lib.ItoaNum
import Derived.Lib.AtoiAll
import Derived.Lib.IndexMore
namespace Go.Proofs.YtlbnfnfenphfbaaGreatDoor
namespace Tx

/-- A hexadecimal digit, small. -/
def hx (d : Nat) : UInt8 := UInt8.ofNat (if d < 10 then 48 + d else 87 + d)

/-- n digits, the first ahead. -/
def hexA : Nat → Nat → List UInt8
  | 0, _ => []
  | n + 1, f => hx (f / 16 ^ n) :: hexA n (f % 16 ^ n)

/-- The same without the noughts at its end. -/
def hexT : Nat → Nat → List UInt8
  | 0, _ => []
  | n + 1, f => if f = 0 then [] else hx (f / 16 ^ n) :: hexT n (f % 16 ^ n)

theorem hexA_length : ∀ (n f : Nat), (hexA n f).length = n
  | 0, _ => rfl
  | n + 1, f => by simp [hexA, hexA_length n]

theorem hexT_le : ∀ (n f : Nat), (hexT n f).length ≤ n
  | 0, _ => by simp [hexT]
  | n + 1, f => by
    unfold hexT; split
    · simp
    · simp; exact hexT_le n _

theorem trim_cons (d c : UInt8) (l : List UInt8) : Lib.trimRightB (d :: l) c = if Lib.trimRightB l c = [] then (if d = c then [] else [d]) else d :: Lib.trimRightB l c := by
  unfold Lib.trimRightB
  rw [List.reverse_cons, List.dropWhile_append]
  by_cases h : (List.dropWhile (· == c) l.reverse) = []
  · simp [h, List.dropWhile_cons]
    split <;> simp_all
  · simp [h]

theorem hexT_nil (n f : Nat) (h : f < 16 ^ n) : hexT n f = [] ↔ f = 0 := by
  cases n with
  | zero => simp at h; subst h; simp [hexT]
  | succ n =>
    unfold hexT
    by_cases e : f = 0
    · simp [e]
    · simp [e]

theorem hx_zero (d : Nat) (h : d < 16) : hx d = 48 ↔ d = 0 := by
  have : ∀ d : Fin 16, hx d.val = 48 ↔ d.val = 0 := by decide
  exact this ⟨d, h⟩

theorem trim_hexA : ∀ (n f : Nat), f < 16 ^ n → Lib.trimRightB (hexA n f) 48 = hexT n f
  | 0, _, _ => rfl
  | n + 1, f, h => by
    have hp : 0 < 16 ^ n := Nat.pow_pos (by decide)
    have hr : f % 16 ^ n < 16 ^ n := Nat.mod_lt _ hp
    have hq : f / 16 ^ n < 16 := by rw [Nat.div_lt_iff_lt_mul hp, Nat.mul_comm, ← Nat.pow_succ]; exact h
    unfold hexA hexT
    rw [trim_cons, trim_hexA n _ hr]
    have hz := hexT_nil n _ hr
    have hx0 := hx_zero _ hq
    have hdm := Nat.div_add_mod f (16 ^ n)
    by_cases e : f % 16 ^ n = 0
    · rw [if_pos (hz.2 e)]
      by_cases e2 : f / 16 ^ n = 0
      · have : f = 0 := by rw [← hdm, e, e2]; simp
        rw [if_pos (hx0.2 e2), if_pos this]
      · have : f ≠ 0 := by intro hf; rw [hf] at e2; simp at e2
        rw [if_neg (fun hh => e2 (hx0.1 hh)), if_neg this, hz.2 e]
    · have : f ≠ 0 := by intro hf; rw [hf] at e; simp at e
      rw [if_neg (fun hh => e (hz.1 hh)), if_neg this]

theorem hexA_zero : ∀ n : Nat, hexA n 0 = List.replicate n 48
  | 0 => rfl
  | n + 1 => by
    unfold hexA
    rw [Nat.zero_div, Nat.zero_mod, hexA_zero n]; rfl

theorem pad_hexT : ∀ (n f : Nat), f < 16 ^ n → hexT n f ++ List.replicate (n - (hexT n f).length) 48 = hexA n f
  | 0, _, _ => rfl
  | n + 1, f, h => by
    have hp : 0 < 16 ^ n := Nat.pow_pos (by decide)
    have hr : f % 16 ^ n < 16 ^ n := Nat.mod_lt _ hp
    unfold hexT
    by_cases e : f = 0
    · subst e
      rw [if_pos rfl, hexA_zero]; simp
    · rw [if_neg e]
      unfold hexA
      simp only [List.length_cons, List.cons_append, Nat.add_sub_add_right]
      rw [pad_hexT n _ hr]

/-- A digit's value; letters great and small. -/
def dig (c : UInt8) : Option Nat :=
  if 48 ≤ c.toNat ∧ c.toNat ≤ 57 then some (c.toNat - 48)
  else if 97 ≤ (c ||| 32).toNat ∧ (c ||| 32).toNat ≤ 102 then some ((c ||| 32).toNat - 87) else none

/-- The value of digits behind others. -/
def pu : Nat → List UInt8 → Option Nat
  | a, [] => some a
  | a, c :: r => match dig c with
    | some d => pu (a * 16 + d) r
    | none => none

theorem dig_hx (d : Nat) (h : d < 16) : dig (hx d) = some d := by
  have : ∀ d : Fin 16, dig (hx d.val) = some d.val := by decide
  exact this ⟨d, h⟩

theorem dig_lt (c : UInt8) (d : Nat) (h : dig c = some d) : d < 16 := by
  unfold dig at h
  split at h
  · injection h; omega
  · split at h
    · injection h; omega
    · cases h

theorem pu_hexA : ∀ (n f a : Nat), f < 16 ^ n → pu a (hexA n f) = some (a * 16 ^ n + f)
  | 0, f, a, h => by simp at h; subst h; simp [hexA, pu]
  | n + 1, f, a, h => by
    have hp : 0 < 16 ^ n := Nat.pow_pos (by decide)
    have hr : f % 16 ^ n < 16 ^ n := Nat.mod_lt _ hp
    have hq : f / 16 ^ n < 16 := by rw [Nat.div_lt_iff_lt_mul hp, Nat.mul_comm, ← Nat.pow_succ]; exact h
    unfold hexA pu
    rw [dig_hx _ hq]
    simp only
    rw [pu_hexA n _ _ hr]
    have hdm := Nat.div_add_mod f (16 ^ n)
    rw [Nat.pow_succ, Nat.add_mul, Nat.mul_assoc, Nat.mul_comm 16, Nat.add_assoc, Nat.mul_comm (f / 16 ^ n), hdm]

theorem pu_lt : ∀ (l : List UInt8) (a u : Nat), pu a l = some u → u < (a + 1) * 16 ^ l.length
  | [], a, u, h => by simp [pu] at h; subst h; simp
  | c :: r, a, u, h => by
    unfold pu at h
    cases hd : dig c with
    | none => rw [hd] at h; cases h
    | some d =>
      rw [hd] at h
      have := dig_lt c d hd
      have ih := pu_lt r _ u h
      rw [List.length_cons, Nat.pow_succ]
      have : (a * 16 + d + 1) * 16 ^ r.length ≤ ((a + 1) * 16) * 16 ^ r.length := Nat.mul_le_mul_right _ (by omega)
      calc u < (a * 16 + d + 1) * 16 ^ r.length := ih
        _ ≤ ((a + 1) * 16) * 16 ^ r.length := this
        _ = (a + 1) * (16 ^ r.length * 16) := by rw [Nat.mul_assoc, Nat.mul_comm 16]

/-- Is it a small hexadecimal digit? -/
def isHx (c : UInt8) : Bool := (48 ≤ c.toNat && c.toNat ≤ 57) || (97 ≤ c.toNat && c.toNat ≤ 102)
theorem isHx_hx (d : Nat) (h : d < 16) : isHx (hx d) = true := by
  have : ∀ d : Fin 16, isHx (hx d.val) = true := by decide
  exact this ⟨d, h⟩
theorem hexT_isHx : ∀ (n f : Nat), f < 16 ^ n → ∀ c ∈ hexT n f, isHx c = true
  | 0, _, _, c, hc => by simp [hexT] at hc
  | n + 1, f, h, c, hc => by
    have hp : 0 < 16 ^ n := Nat.pow_pos (by decide)
    have hr : f % 16 ^ n < 16 ^ n := Nat.mod_lt _ hp
    have hq : f / 16 ^ n < 16 := by rw [Nat.div_lt_iff_lt_mul hp, Nat.mul_comm, ← Nat.pow_succ]; exact h
    unfold hexT at hc
    split at hc
    · cases hc
    · rcases List.mem_cons.1 hc with e | e
      · rw [e]; exact isHx_hx _ hq
      · exact hexT_isHx n _ hr c e
theorem isHx_ne (c : UInt8) (h : isHx c = true) : c ≠ 112 ∧ c ≠ 46 ∧ c ≠ 45 := by
  refine ⟨?_, ?_, ?_⟩ <;> (rintro rfl; revert h; decide)

/-! Cutting at one byte -/
theorem cut_one : ∀ (h t : List UInt8) (c : UInt8), c ∉ h → Lib.cut (h ++ c :: t) [c] = (h, t, true) := by
  intro h t c hc
  have hi : Lib.index (h ++ c :: t) [c] = h.length := by
    refine Lib.index_first (by simp) (by simp [Lib.occAt]) (fun j hj => ?_)
    unfold Lib.occAt
    rw [List.drop_append_of_le_length (by omega), List.drop_eq_getElem_cons hj]
    simp only [List.cons_append, List.isPrefixOf, Bool.and_true]
    have : h[j] ≠ c := fun e => hc (e ▸ List.getElem_mem hj)
    simpa using fun e => this e.symm
  unfold Lib.cut
  rw [hi, if_pos (by omega)]
  simp
theorem cut_none (h : List UInt8) (c : UInt8) (hc : c ∉ h) : Lib.cut h [c] = (h, [], false) := by
  have hi : Lib.index h [c] < 0 := by
    rcases Lib.index_spec h [c] with ⟨h1, _⟩ | ⟨i, h1, h2, h3, _⟩
    · omega
    · exfalso
      unfold Lib.occAt at h3
      have hl : i < h.length := by
        rcases Nat.lt_or_ge i h.length with k | k
        · exact k
        · rw [List.drop_of_length_le k] at h3; simp at h3
      rw [List.drop_eq_getElem_cons hl] at h3
      simp [List.isPrefixOf] at h3
      exact hc (h3 ▸ List.getElem_mem hl)
  unfold Lib.cut
  rw [if_neg (by omega)]

/-! Exponents -/
/-- Decimal digits, four at the most. -/
def dec4 (u : Nat) : List UInt8 :=
  if u < 10 then [UInt8.ofNat (48 + u)] else if u < 100 then [UInt8.ofNat (48 + u / 10), UInt8.ofNat (48 + u % 10)]
  else if u < 1000 then [UInt8.ofNat (48 + u / 100), UInt8.ofNat (48 + u / 10 % 10), UInt8.ofNat (48 + u % 10)]
  else [UInt8.ofNat (48 + u / 1000), UInt8.ofNat (48 + u / 100 % 10), UInt8.ofNat (48 + u / 10 % 10), UInt8.ofNat (48 + u % 10)]
theorem dec4_eq (u : Nat) (h : u < 10000) : Lib.decDigits u = dec4 u := by
  have one : ∀ v, v < 10 → Lib.decDigits v = [UInt8.ofNat (48 + v)] := fun v hv => by rw [Lib.decDigits, dif_pos hv]
  have more : ∀ v, ¬ v < 10 → Lib.decDigits v = Lib.decDigits (v / 10) ++ [UInt8.ofNat (48 + v % 10)] := fun v hv => by rw [Lib.decDigits, dif_neg hv]
  unfold dec4
  by_cases h1 : u < 10
  · rw [if_pos h1, one u h1]
  by_cases h2 : u < 100
  · rw [if_neg h1, if_pos h2, more u h1, one _ (by omega)]; rfl
  by_cases h3 : u < 1000
  · rw [if_neg h1, if_neg h2, if_pos h3, more u h1, more _ (by omega), one _ (by omega), Nat.div_div_eq_div_mul]; rfl
  · rw [if_neg h1, if_neg h2, if_neg h3, more u h1, more _ (by omega), more _ (by omega), one _ (by omega), show u / 10 / 10 / 10 = u / 1000 by omega, show u / 10 / 10 = u / 100 by omega]; rfl
/-- The decimal text of an exponent. -/
def etx (e : Int) : List UInt8 := if e < 0 then 45 :: dec4 e.natAbs else dec4 e.toNat
theorem itoa_etx (e : Int) (h1 : -1022 ≤ e) (h2 : e ≤ 1023) : Lib.itoa e = etx e := by
  unfold Lib.itoa etx
  split
  · rw [dec4_eq _ (by omega)]
  · rw [dec4_eq _ (by omega)]
theorem atoi_etx (e : Int) (h1 : -1022 ≤ e) (h2 : e ≤ 1023) : Lib.atoiAll (etx e) = .ok e := by
  have h : ∀ k : Fin 2046, Lib.atoiAll (etx ((k.val : Int) - 1022)) = .ok ((k.val : Int) - 1022) := by decide +kernel
  have := h ⟨(e + 1022).toNat, by omega⟩
  simp only at this
  rwa [show (((e + 1022).toNat : Nat) : Int) - 1022 = e by omega] at this

end Tx
end Go.Proofs.YtlbnfnfenphfbaaGreatDoor
