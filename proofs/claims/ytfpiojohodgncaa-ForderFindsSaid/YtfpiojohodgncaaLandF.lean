/- Proved: what the landed Find of forder gives: whether the list stands in order, and where the number stands in it. -/
import Derived.Test.YtfpiojohodgncaaLandB
namespace Go.Proofs.Ytfpiojohodgncaa
open Go.RowKit Fl

/-- From k on each stands no later than the next. -/
def Steps (n k : Nat) (L : List Nat) : Prop := ∀ a, k ≤ a → a + 1 < n → at' L a ≤ at' L (a + 1)
theorem steps_sorted (L : List Nat) (h : Steps L.length 0 L) : SortedTo L.length L := by
  intro a b hab hb
  induction b with
  | zero => omega
  | succ c ih =>
    by_cases e : a = c
    · subst e; exact h a (Nat.zero_le _) hb
    · exact Nat.le_trans (ih (by omega) (by omega)) (h c (Nat.zero_le _) hb)

def SomeOrder (L : List Nat) (w : World) (e : Ending) (w' : World) : Prop :=
  ∃ ok : Bool, e = .returned (.bool ok) ∧ (ok = true ↔ SortedTo L.length L) ∧ ∃ m, w' = w.drewN m

set_option maxHeartbeats 1000000 in
theorem issorted_some (b off cap : Nat) (L : List Nat) (w : World) (h0 : 0 < L.length) (hb : L.length ≤ 1000000)
    (hx : ∀ j, j < L.length → w.cell? ⟨b, off + j, none⟩ = some (.float .f64 (L.getD j 0))) (hf : ∀ j, j < L.length → L.getD j 0 < 18446744073709551616) :
    Calls Try.prog 35 #[.slice (some ⟨b, off, none⟩) L.length cap, .func (.func 16) #[] #[]] w (SomeOrder L w) := by
  obtain ⟨n, hn⟩ : ∃ n, n + 1 = L.length := ⟨L.length - 1, by omega⟩
  rw [← hn] at hb hx hf ⊢
  have HNL := Lib.hid hn
  have HX := Lib.hid hx
  have HF := Lib.hid hf
  have hc1 : ((n + 1 : Nat) : Int) - 1 = n := by omega
  clear hn hx hf h0
  go_enter Try.func35, Try.ntmps35
  go_wp2
  go_loopw [5] (fun i wr => ∃ k : Nat, k ≤ n ∧ i = .int .i64 k ∧ Steps (n + 1) k L ∧ ∃ m, wr = w.drewN m) (fun i _ => (intOf i).toNat)
  case atStart => exact ⟨n, Nat.le_refl _, by first | rfl | go_num, fun a h1 h2 => by omega, 0, rfl⟩
  case round =>
    clear hc1
    obtain ⟨k, hk, rfl, hs, m, rfl⟩ := hrel
    have HS := Lib.hid hs
    clear hs
    match k, hk with
    | 0, hk =>
      go_wp2
      go_ret
      exact ⟨true, rfl, ⟨fun _ => steps_sorted L (by rw [← HNL.out]; exact HS.out), fun _ => rfl⟩, _, rfl⟩
    | q + 1, hk =>
      have c1 := HX.out (q + 1) (by omega)
      have c2 := HX.out q (by omega)
      have d1 := HF.out (q + 1) (by omega)
      have d2 := HF.out q (by omega)
      have b1 : (0 : Int) ≤ (q : Int) := by omega
      have b2 : (q : Int) + 1 < (n : Int) + 1 := by omega
      have b3 : (q : Int) < (n : Int) + 1 := by omega
      have cc := cmpI_neg (L.getD (q + 1) 0) (L.getD q 0)
      obtain ⟨x, hx⟩ : ∃ x, x = L.getD (q + 1) 0 := ⟨_, rfl⟩
      obtain ⟨y, hy⟩ : ∃ y, y = L.getD q 0 := ⟨_, rfl⟩
      rw [← hx] at c1 d1 cc
      rw [← hy] at c2 d2 cc
      have HXX := Lib.hid hx
      have HYY := Lib.hid hy
      clear hx hy
      by_cases hc : kb x < kb y
      · replace cc := cc.trans (decide_eq_true hc)
        go_wp2
        go_quiet ((go_at_call 16; exact same_drawn (hC _ _ d1 d2 _)))
        go_wp2
        go_ret
        refine ⟨false, rfl, ⟨fun h => (Bool.false_ne_true h).elim, fun h => ?_⟩, _, World.drewN_drewN _ _ _⟩
        have := h q (q + 1) (by omega) (by rw [← HNL.out]; omega)
        unfold at' at this
        rw [← HXX.out, ← HYY.out] at this
        omega
      · replace cc := cc.trans (decide_eq_false hc)
        have HR : Hid (Steps (n + 1) q L) := Lib.hid (fun a h1 h2 => by
          by_cases e : a = q
          · subst e; unfold at'; rw [← HXX.out, ← HYY.out]; omega
          · exact HS.out a (by omega) h2)
        go_wp2
        go_quiet ((go_at_call 16; exact same_drawn (hC _ _ d1 d2 _)))
        go_wp2
        go_roundw
        case rel => exact ⟨q, by omega, by first | rfl | go_num, HR.out, _, rfl⟩
        case measure => simp [intOf]

end Go.Proofs.Ytfpiojohodgncaa
