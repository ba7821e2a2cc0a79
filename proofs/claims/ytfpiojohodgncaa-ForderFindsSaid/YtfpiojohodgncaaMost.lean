/- Proved: what the document's own Most answers: the NaN if there is one, else a number of the list that no other one is beyond. -/
import Derived.Test.YtfpiojohodgncaaNums
namespace Go.Proofs.Ytfpiojohodgncaa
open Go.RowKit Fl

def NotBeyond (way : Int) (y x : Nat) : Prop := (way = -1 → kb x ≤ kb y) ∧ (way = 1 → kb y ≤ kb x)
def IsMost (way : Int) (n : Nat) (f : Nat → Nat) (x : Nat) : Prop :=
  ((∃ j, j < n ∧ isN (f j) = true) ∧ x = 9221120237041090560) ∨ ((∀ j, j < n → isN (f j) = false) ∧ (∃ j, j < n ∧ x = f j) ∧ ∀ j, j < n → NotBeyond way (f j) x)

theorem notBeyond_self (way : Int) (x : Nat) : NotBeyond way x x := ⟨fun _ => Nat.le_refl _, fun _ => Nat.le_refl _⟩
theorem notBeyond_step (way : Int) (hw : way = 1 ∨ way = -1) (y x z : Nat) (h : NotBeyond way y x) (hz : (cmpI z x == way) = true) : NotBeyond way y z := by
  have hz' : cmpI z x = way := by simpa using hz
  unfold cmpI at hz'
  obtain ⟨a, b⟩ := h
  rcases hw with rfl | rfl
  · refine ⟨fun h => by omega, fun _ => ?_⟩
    have := b rfl
    split at hz'
    · omega
    · split at hz' <;> omega
  · refine ⟨fun _ => ?_, fun h => by omega⟩
    have := a rfl
    split at hz'
    · omega
    · split at hz' <;> omega
theorem notBeyond_new (way : Int) (hw : way = 1 ∨ way = -1) (z x : Nat) (hz : (cmpI z x == way) = false) : NotBeyond way z x := by
  have hz' : cmpI z x ≠ way := by simpa using hz
  unfold cmpI at hz'
  refine ⟨fun h => ?_, fun h => ?_⟩
  · subst h
    by_cases c : kb z < kb x
    · rw [if_pos c] at hz'; exact absurd rfl hz'
    · omega
  · subst h
    by_cases c : kb z < kb x
    · omega
    · rw [if_neg c] at hz'
      by_cases d : kb x < kb z
      · rw [if_pos d] at hz'; exact absurd rfl hz'
      · omega

def SomeMost (way : Int) (n : Nat) (f : Nat → Nat) (w : World) (e : Ending) (w' : World) : Prop :=
  ∃ x, x < 18446744073709551616 ∧ IsMost way n f x ∧ e = .returned (.tuple #[.float .f64 x, .int .i64 0]) ∧ ∃ m, w' = w.drewN m

set_option maxHeartbeats 1000000 in
theorem rmost_some (B o cap n : Nat) (way : Int) (hw : way = 1 ∨ way = -1) (f : Nat → Nat) (w : World) (hn0 : 0 < n) (hn : n ≤ 9223372036854775807)
    (hx : ∀ j, j < n → w.cell? ⟨B, o + j, none⟩ = some (.float .f64 (f j))) (hf : ∀ j, j < n → f j < 18446744073709551616) :
    Calls Try.prog 14 #[.slice (some ⟨B, o, none⟩) n cap, .int .i64 way] w (SomeMost way n f w) := by
  have hnan : Hid (cb (9221120237041090560 : Int).toNat = 9221120237041090560) := Lib.hid (by decide)
  have c0 := hx 0 hn0
  rw [Nat.add_zero] at c0
  have hne : ((n : Int) == 0) = false := by rw [beq_eq_false_iff_ne]; omega
  have hp : (0 : Int) < (n : Int) := by omega
  have HX := Lib.hid hx
  have HF := Lib.hid hf
  have HW := Lib.hid hw
  clear hx hf hw
  go_enter Try.func14, Try.ntmps14
  go_wp2
  clear c0 hne hp
  go_loopw [6, 7] (fun x i wr => ∃ k : Nat, k ≤ n ∧ i = .int .i64 k ∧ (∃ j, j < n ∧ x = .float .f64 (f j) ∧ (∀ q, q < k → isN (f q) = false ∧ NotBeyond way (f q) (f j))) ∧ ∃ m, wr = w.drewN m) (fun _ i _ => n - (intOf i).toNat)
  case atStart => exact ⟨0, Nat.zero_le _, rfl, ⟨0, hn0, rfl, fun q hq => absurd hq (Nat.not_lt_zero q)⟩, 0, rfl⟩
  case round =>
    obtain ⟨k, hk, rfl, ⟨j, hj, rfl, hq⟩, m, rfl⟩ := hrel
    have HQ := Lib.hid hq
    clear hq
    by_cases hlt : k < n
    · have c1 := HX.out k hlt
      have d1 := HF.out k hlt
      have d2 := HF.out j hj
      have b1 : (0 : Int) ≤ (k : Int) := by omega
      have b2 : (k : Int) < (n : Int) := by omega
      by_cases hN : isN (f k) = true
      · have o1 := ord_nan_l (f k) (f k) d1 hN
        have HN := Lib.hid hN
        clear hN
        go_wp2
        go_quiet (fail)
        go_wp2_with (go_at_call 27; refine (rfrom_as _ _ (by decide) (by decide) hnan _).mono ?_; rintro e w' ⟨rfl, rfl⟩)
        go_ret2
        exact ⟨_, by decide, Or.inl ⟨⟨k, hlt, HN.out⟩, rfl⟩, rfl, _, rfl⟩
      · have hN : isN (f k) = false := by simpa using hN
        have o1 := ord_self (f k) d1 hN
        have HN := Lib.hid hN
        clear hN
        by_cases hc : (cmpI (f k) (f j) == way) = true
        · have HR : Hid (∀ q, q < k + 1 → isN (f q) = false ∧ NotBeyond way (f q) (f k)) := Lib.hid (fun q hq => by
            by_cases e : q = k
            · subst e; exact ⟨HN.out, notBeyond_self _ _⟩
            · obtain ⟨a, b⟩ := HQ.out q (by omega)
              exact ⟨a, notBeyond_step way HW.out _ _ _ b hc⟩)
          go_wp2
          go_quiet (fail)
          go_wp2_with (go_at_call 17; refine (rcompare_any _ _ d1 d2 _).mono ?_; rintro e w' ⟨rfl, rfl⟩)
          go_roundw
          case rel => exact ⟨k + 1, by omega, by go_num, ⟨k, hlt, rfl, HR.out⟩, _, rfl⟩
          case measure => simp [intOf]; omega
        · have hc : (cmpI (f k) (f j) == way) = false := by simpa using hc
          have HR : Hid (∀ q, q < k + 1 → isN (f q) = false ∧ NotBeyond way (f q) (f j)) := Lib.hid (fun q hq => by
            by_cases e : q = k
            · subst e; exact ⟨HN.out, notBeyond_new way HW.out _ _ hc⟩
            · exact HQ.out q (by omega))
          go_wp2
          go_quiet (fail)
          go_wp2_with (go_at_call 17; refine (rcompare_any _ _ d1 d2 _).mono ?_; rintro e w' ⟨rfl, rfl⟩)
          go_roundw
          case rel => exact ⟨k + 1, by omega, by go_num, ⟨j, hj, rfl, HR.out⟩, _, rfl⟩
          case measure => simp [intOf]; omega
    · have hk8 : k = n := by omega
      subst hk8
      go_wp2
      go_ret2
      exact ⟨_, HF.out j hj, Or.inr ⟨fun q hq => (HQ.out q hq).1, ⟨j, hj, rfl⟩, fun q hq => (HQ.out q hq).2⟩, rfl, _, rfl⟩

theorem rmost_none (a : Option Addr) (cap : Nat) (way : Int) (w : World) :
    Calls Try.prog 14 #[.slice a 0 cap, .int .i64 way] w fun e w' => e = .returned (.tuple #[.float .f64 0, .int .i64 14]) ∧ w = w' := by
  go_enter Try.func14, Try.ntmps14
  go_wp2
  go_ret2
  exact ⟨rfl, rfl⟩

/-- Two answers are the same number. -/
theorem most_same (way : Int) (hw : way = 1 ∨ way = -1) (n : Nat) (f : Nat → Nat) (x y : Nat) (hf : ∀ j, j < n → f j < 18446744073709551616) (hx : IsMost way n f x) (hy : IsMost way n f y) : smB x y = true := by
  rcases hx with ⟨⟨j, hj, a⟩, rfl⟩ | ⟨a, ⟨j, hj, rfl⟩, c⟩
  · rcases hy with ⟨_, rfl⟩ | ⟨b, _, _⟩
    · decide
    · rw [b j hj] at a; cases a
  · rcases hy with ⟨⟨i, hi, b⟩, _⟩ | ⟨_, ⟨i, hi, rfl⟩, d⟩
    · rw [a i hi] at b; cases b
    · have e1 := c i hi
      have e2 := d j hj
      refine decide_eq_true (kb_inj _ _ (hf j hj) (hf i hi) ?_)
      rcases hw with rfl | rfl
      · have := e1.2 rfl; have := e2.2 rfl; omega
      · have := e1.1 rfl; have := e2.1 rfl; omega

end Go.Proofs.Ytfpiojohodgncaa
