/- Proved: an operation on doubles as a plain function of words: its answer, a NaN made the NaN, hangs on its operands made canonical; and each run of it gives a word that reads as that answer. -/
import Derived.Test.YtefpaagbopmmlaaLand
import Derived.Test.YtefpaagbopmmlaaRound
namespace Go.Proofs.Ytefpaagbopmmlaa
open Go.RowKit Fl

/-- An operation's answer; where it has none, the NaN. -/
def fo (op : BinOp) (a b : Nat) : Nat := (floatBits op .f64 a b).getD 9221120237041090560
/-- The four operations. -/
def Four (op : BinOp) : Prop := op = .add ∨ op = .sub ∨ op = .mul ∨ op = .quo

theorem word_val (s : Bool) (t : Nat) : Ieee.double.word s t = if s then 9223372036854775808 + t else t := by
  unfold Ieee.Format.word
  have : Ieee.double.signWeight = 9223372036854775808 := by decide
  rw [this]
theorem word_num (s : Bool) (t : Nat) (h : t ≤ 9218868437227405312) : isN (Ieee.double.word s t) = false ∧ Ieee.double.word s t < 18446744073709551616 ∧ Ieee.double.word s t % 9223372036854775808 = t ∧ decide (9223372036854775808 ≤ Ieee.double.word s t) = s := by
  rw [word_val]
  cases s
  · have e : (if false = true then 9223372036854775808 + t else t) = t := rfl
    rw [e]
    exact ⟨by unfold isN; exact decide_eq_false (by omega), by omega, by omega, decide_eq_false (by omega)⟩
  · have e : (if true = true then 9223372036854775808 + t else t) = 9223372036854775808 + t := rfl
    rw [e]
    exact ⟨by unfold isN; exact decide_eq_false (by omega), by omega, by omega, decide_eq_true (by omega)⟩
theorem inf_val : Ieee.double.infRung = 9218868437227405312 := by decide
theorem nearest_num (s : Bool) (m : Nat) (p : Int) : ∃ t, t ≤ 9218868437227405312 ∧ Ieee.double.nearest s m p = Ieee.double.word s t := by
  unfold Ieee.Format.nearest
  split
  · exact ⟨0, by omega, rfl⟩
  · refine ⟨_, ?_, rfl⟩
    rw [inf_val]
    exact Nat.min_le_right _ _
theorem write_num (d : Ieee.Datum) (h : ∀ s t, d ≠ .nan s t) : isN (Ieee.double.write d) = false ∧ Ieee.double.write d < 18446744073709551616 := by
  cases d with
  | number s m p =>
    obtain ⟨t, ht, e⟩ := nearest_num s m p
    show isN (Ieee.double.nearest s m p) = false ∧ _
    simp only [Ieee.Format.write]
    rw [e]; exact ⟨(word_num s t ht).1, (word_num s t ht).2.1⟩
  | infinity s =>
    simp only [Ieee.Format.write]
    rw [inf_val]
    exact ⟨(word_num s _ (Nat.le_refl _)).1, (word_num s _ (Nat.le_refl _)).2.1⟩
  | nan s t => exact absurd rfl (h s t)

theorem sum_num (a b d : Ieee.Datum) (h : a.sum b = some d) : ∀ s t, d ≠ .nan s t := by
  cases a <;> cases b <;> simp [Ieee.Datum.sum] at h <;> (try split at h) <;> (try simp at h) <;> (try subst h) <;> intros <;> simp_all <;> (try (obtain ⟨_, rfl⟩ := h; simp))
theorem prod_num (a b d : Ieee.Datum) (h : a.product b = some d) : ∀ s t, d ≠ .nan s t := by
  cases a <;> cases b <;> simp [Ieee.Datum.product] at h <;> (try split at h) <;> (try simp at h) <;> (try subst h) <;> intros <;> simp_all <;> (try (obtain ⟨_, rfl⟩ := h; simp))
theorem quot_num (k : Nat) (a b d : Ieee.Datum) (h : a.quotient k b = some d) : ∀ s t, d ≠ .nan s t := by
  cases a <;> cases b <;> simp [Ieee.Datum.quotient] at h <;> (try split at h) <;> (try split at h) <;> (try simp at h) <;> (try subst h) <;> intros <;> simp_all <;> (try (obtain ⟨_, rfl⟩ := h; simp))

theorem fo_num {op : BinOp} (hop : Four op) {a b c : Nat} (h : floatBits op .f64 a b = some c) : isN c = false ∧ c < 18446744073709551616 := by
  have key : ∀ (o : Option Ieee.Datum), (∀ d, o = some d → ∀ s t, d ≠ .nan s t) → o.map Ieee.double.write = some c → isN c = false ∧ c < 18446744073709551616 := fun o ho hm => by
    cases o with
    | none => cases hm
    | some d => cases hm; exact write_num d (ho d rfl)
  rcases hop with rfl | rfl | rfl | rfl
  · exact key _ (fun d hd => sum_num _ _ d hd) h
  · exact key _ (fun d hd => sum_num _ _ d hd) h
  · exact key _ (fun d hd => prod_num _ _ d hd) h
  · exact key _ (fun d hd => quot_num _ _ _ d hd) h

theorem read_nan (a : Nat) (ha : a < 18446744073709551616) (h : isN a = true) : ∃ s t, Ieee.double.read a = .nan s t := by
  have hm : 9218868437227405312 < a % 9223372036854775808 := by simpa [isN] using h
  rw [read_eq a ha, if_neg (by omega), if_neg (by omega)]
  exact ⟨_, _, rfl⟩
theorem none_l {op : BinOp} (hop : Four op) (a b : Nat) (ha : a < 18446744073709551616) (h : isN a = true) : floatBits op .f64 a b = none := by
  obtain ⟨s, t, e⟩ := read_nan a ha h
  rcases hop with rfl | rfl | rfl | rfl
  · show Ieee.double.add a b = none
    unfold Ieee.Format.add; rw [e]; rfl
  · show Ieee.double.sub a b = none
    unfold Ieee.Format.sub; rw [e]; rfl
  · show Ieee.double.mul a b = none
    unfold Ieee.Format.mul; rw [e]; rfl
  · show Ieee.double.div a b = none
    unfold Ieee.Format.div; rw [e]; rfl
theorem none_r {op : BinOp} (hop : Four op) (a b : Nat) (hb : b < 18446744073709551616) (h : isN b = true) : floatBits op .f64 a b = none := by
  obtain ⟨s, t, e⟩ := read_nan b hb h
  rcases hop with rfl | rfl | rfl | rfl
  · show Ieee.double.add a b = none
    unfold Ieee.Format.add; rw [e]; cases Ieee.double.read a <;> rfl
  · show Ieee.double.sub a b = none
    unfold Ieee.Format.sub; rw [e]; cases Ieee.double.read a <;> rfl
  · show Ieee.double.mul a b = none
    unfold Ieee.Format.mul; rw [e]; cases Ieee.double.read a <;> rfl
  · show Ieee.double.div a b = none
    unfold Ieee.Format.div; rw [e]; cases Ieee.double.read a <;> rfl

theorem fo_lt {op : BinOp} (hop : Four op) (a b : Nat) : fo op a b < 18446744073709551616 := by
  unfold fo
  cases h : floatBits op .f64 a b with
  | none => decide
  | some c => exact (fo_num hop h).2
theorem cb_num (c : Nat) (h : isN c = false) : cb c = c := by unfold cb; rw [h]; rfl
theorem fo_can {op : BinOp} (hop : Four op) (a b : Nat) : cb (fo op a b) = fo op a b := by
  unfold fo
  cases h : floatBits op .f64 a b with
  | none => decide
  | some c => exact cb_num c (fo_num hop h).1
theorem fo_nan_l {op : BinOp} (hop : Four op) (a b : Nat) (ha : a < 18446744073709551616) (h : isN a = true) : fo op a b = 9221120237041090560 := by
  unfold fo; rw [none_l hop a b ha h]; rfl
theorem fo_nan_r {op : BinOp} (hop : Four op) (a b : Nat) (hb : b < 18446744073709551616) (h : isN b = true) : fo op a b = 9221120237041090560 := by
  unfold fo; rw [none_r hop a b hb h]; rfl
theorem nan_is : isN 9221120237041090560 = true := by decide
theorem isN_cb (a : Nat) : isN (cb a) = isN a := by
  unfold cb
  cases h : isN a
  · exact h
  · show isN 9221120237041090560 = true; decide
theorem fo_cb {op : BinOp} (hop : Four op) (a b : Nat) (ha : a < 18446744073709551616) (hb : b < 18446744073709551616) : fo op (cb a) (cb b) = fo op a b := by
  cases h : isN a
  · cases h2 : isN b
    · rw [cb_num a h, cb_num b h2]
    · rw [fo_nan_r hop _ _ (cb_lt b hb) (by rw [isN_cb]; exact h2), fo_nan_r hop _ _ hb h2]
  · rw [fo_nan_l hop _ _ (cb_lt a ha) (by rw [isN_cb]; exact h), fo_nan_l hop _ _ ha h]
/-- What reads the same is worked with alike. -/
theorem fo_congr {op : BinOp} (hop : Four op) {a b a' b' : Nat} (ha : a < 18446744073709551616) (hb : b < 18446744073709551616) (ha' : a' < 18446744073709551616) (hb' : b' < 18446744073709551616) (h1 : cb a = cb a') (h2 : cb b = cb b') : fo op a b = fo op a' b' := by
  rw [← fo_cb hop a b ha hb, ← fo_cb hop a' b' ha' hb', h1, h2]
theorem cb_nan_iff (c : Nat) : isN c = true ↔ cb c = 9221120237041090560 := by
  constructor
  · intro h; unfold cb; rw [if_pos h]
  · intro h; rw [← isN_cb, h]; decide
theorem isN_congr {a b : Nat} (h : cb a = cb b) : isN a = isN b := by rw [← isN_cb a, ← isN_cb b, h]

/-- A run of an operation on two words, in a world that was drawn from. -/
theorem run_fo {P : Program} (w : World) (m : Nat) (op : BinOp) (hop : Four op) (t : TypeId) (x y : Nat) :
    ∃ c n, cb c = fo op x y ∧ c < 18446744073709551616 ∧ (binOp op t (.float .f64 x) (.float .f64 y)).run P (w.drewN m) = .ok (.float .f64 c) (w.drewN n) := by
  cases h : floatBits op .f64 x y with
  | none =>
    obtain ⟨b, hn, hb, hr⟩ := run_float_nan (P := P) (w.drewN m) op hop t x y h
    refine ⟨b, m + 1, ?_, hb, hr⟩
    unfold fo cb; rw [h, if_pos hn]; rfl
  | some c =>
    refine ⟨c, m, ?_, (fo_num hop h).2, run_float_arith (P := P) (w.drewN m) op t .f64 x y c h⟩
    unfold fo; rw [h]; exact cb_num c (fo_num hop h).1
theorem run_fo0 {P : Program} (w : World) (op : BinOp) (hop : Four op) (t : TypeId) (x y : Nat) :
    ∃ c n, cb c = fo op x y ∧ c < 18446744073709551616 ∧ (binOp op t (.float .f64 x) (.float .f64 y)).run P w = .ok (.float .f64 c) (w.drewN n) := run_fo w 0 op hop t x y
/-- The same, its answer hidden from the walk. -/
theorem run_foH {P : Program} (w : World) (m : Nat) (op : BinOp) (hop : Four op) (t : TypeId) (x y : Nat) :
    ∃ c n, Hid (cb c = fo op x y) ∧ c < 18446744073709551616 ∧ (binOp op t (.float .f64 x) (.float .f64 y)).run P (w.drewN m) = .ok (.float .f64 c) (w.drewN n) := by
  obtain ⟨c, n, h1, h2, h3⟩ := run_fo (P := P) w m op hop t x y
  exact ⟨c, n, Lib.hid h1, h2, h3⟩
theorem run_foH0 {P : Program} (w : World) (op : BinOp) (hop : Four op) (t : TypeId) (x y : Nat) :
    ∃ c n, Hid (cb c = fo op x y) ∧ c < 18446744073709551616 ∧ (binOp op t (.float .f64 x) (.float .f64 y)).run P w = .ok (.float .f64 c) (w.drewN n) := run_foH w 0 op hop t x y
theorem f_add : Four .add := .inl rfl
theorem f_sub : Four .sub := .inr (.inl rfl)
theorem f_mul : Four .mul := .inr (.inr (.inl rfl))
theorem f_quo : Four .quo := .inr (.inr (.inr rfl))

theorem below_drawn (w : World) (n : Nat) : Below w.heap.size w (w.drewN n) := below_drewN (Below.refl _ _) n

end Go.Proofs.Ytefpaagbopmmlaa
