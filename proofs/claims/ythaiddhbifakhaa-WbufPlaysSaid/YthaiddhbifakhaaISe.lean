/- Proved: what sort.Search finds of a test that a function value tells; where a row's extents end at a block or past it, and where they start past it. -/
import Derived.Test.YthaiddhbifakhaaISm
import Derived.Shelf.Abstract
namespace Go.Proofs.Ythaiddhbifakhaa.Iv
open Go.RowKit

/-- A number from 0 to n at which the test turns. -/
def Found (p : Nat → Bool) (n : Nat) (w : World) (e : Ending) (w' : World) : Prop := ∃ i : Nat, Fd p n i ∧ e = .returned (.int .i64 (i : Int)) ∧ At w w'
/-- What a function value tells of the numbers ahead of n. -/
def Tests (g : Nat) (x y : Value) (p : Nat → Bool) (n : Nat) (w : World) : Prop :=
  ∀ W, At w W → ∀ k : Nat, k < n → Calls Try.prog g #[.int .i64 (k : Int), x, y] W fun e w' => e = .returned (.bool (p k)) ∧ At W w'

set_option maxHeartbeats 1000000 in
set_option maxRecDepth 100000 in
theorem search_any (n : Nat) (hn : n ≤ 1000000) (g : Nat) (x y : Value) (p : Nat → Bool) (w : World) (hp : Tests g x y p n w)
    (eg : ∀ args w, (callFunc g args).run Try.prog w = .ok (.enter g args) w) :
    Calls Try.prog 59 #[.int .i64 (n : Int), .func (.func g) #[] #[x, y]] w (Found p n w) := by
  have HP := Lib.hid hp
  clear hp
  go_enter Try.func59, Try.ntmps59
  go_wp2
  go_loopw [5, 6] (fun a b wr => ∃ i j : Nat, i ≤ j ∧ j ≤ n ∧ a = .int .i64 (i : Int) ∧ b = .int .i64 (j : Int) ∧ Hid (At w wr) ∧ Hid ((i = 0 ∨ p (i - 1) = false) ∧ (j = n ∨ p j = true))) (fun a b _ => (intOf b).toNat - (intOf a).toNat)
  case atStart => exact ⟨0, n, by omega, by omega, rfl, rfl, Lib.hid (At.start w), Lib.hid ⟨Or.inl rfl, Or.inl rfl⟩⟩
  case round =>
    obtain ⟨i, j, hij, hj, rfl, rfl, HA, HF⟩ := hrel
    by_cases hlt : i < j
    · have g1 : (i : Int) < (j : Int) := by omega
      obtain ⟨h, hh⟩ : ∃ h : Nat, h = (i + j) / 2 := ⟨_, rfl⟩
      have h1 : i ≤ h ∧ h < j := by omega
      have e1 : IntKind.u64.wrap ((i : Int) + (j : Int)) = (i : Int) + (j : Int) := by simp [IntKind.wrap, IntKind.bits, IntKind.signed]; omega
      have e2 : ((i : Int) + (j : Int)) / 2 = (h : Int) := by omega
      have e4 : IntKind.i64.wrap ((i : Int) + (j : Int)) = (i : Int) + (j : Int) := by rw [IntKind.wrap_i64]; omega
      have hc := HP.out wr HA.out h (by omega)
      have HN : Hid (∀ w', At wr w' → At w w') := Lib.hid (fun w' h => At.next HA.out h)
      clear hh HP
      by_cases hq : p h = true
      · rw [hq] at hc
        have HQ := Lib.hid hq
        clear hq
        go_wp2_with fail
        refine hc.mono ?_
        rintro e w' ⟨rfl, hb'⟩
        go_wp2
        go_roundw
        case rel => exact ⟨i, h, by omega, by omega, rfl, rfl, Lib.hid (HN.out _ (by assumption)), Lib.hid ⟨HF.out.1, Or.inr HQ.out⟩⟩
        case measure => simp [intOf]; omega
      · have hq : p h = false := by simpa using hq
        rw [hq] at hc
        have HQ := Lib.hid hq
        clear hq
        go_wp2_with fail
        refine hc.mono ?_
        rintro e w' ⟨rfl, hb'⟩
        go_wp2
        go_roundw
        case rel => exact ⟨h + 1, j, by omega, by omega, by go_num, rfl, Lib.hid (HN.out _ (by assumption)), Lib.hid ⟨Or.inr (by rw [Nat.add_sub_cancel]; exact HQ.out), HF.out.2⟩⟩
        case measure => simp [intOf]; omega
    · have hij' : i = j := by omega
      subst hij'
      go_wp2
      go_ret
      exact ⟨i, ⟨hj, HF.out.1, HF.out.2⟩, rfl, HA.out⟩


end Go.Proofs.Ythaiddhbifakhaa.Iv
