/- Proved: what the landed isKind, upTo, onlyZeros, get32, get64 and Plain answer. -/
import Derived.Test.YtgmekkenodiclaaFrm
import Derived.Test.YtgmekkenodiclaaGet
import Derived.Test.YtgmekkenodiclaaCrc
namespace Go.Proofs.Ytgmekkenodiclaa
open Go.RowKit

/-- Are all of them noughts? -/
def zs (L : List Nat) : Bool := decide (∀ c ∈ L, c = 0)
theorem zs_yes {L : List Nat} (h : ∀ c ∈ L, c = 0) : zs L = true := decide_eq_true h
theorem zs_no {L : List Nat} (h : ¬ ∀ c ∈ L, c = 0) : zs L = false := decide_eq_false h

theorem iskind_any (k : Int) (w : World) : Calls Try.prog 34 #[.int .i64 k] w fun e w' => e = .returned (.bool (decide (1 ≤ k ∧ k ≤ 4))) ∧ w = w' := by
  by_cases h1 : 1 ≤ k
  · by_cases h2 : k ≤ 4
    · have h : decide (1 ≤ k ∧ k ≤ 4) = true := decide_eq_true ⟨h1, h2⟩
      rw [h]
      clear h
      go_enter Try.func34, Try.ntmps34
      go_wp2
      go_ret
      exact ⟨rfl, rfl⟩
    · have h : decide (1 ≤ k ∧ k ≤ 4) = false := decide_eq_false (by omega)
      rw [h]
      clear h
      go_enter Try.func34, Try.ntmps34
      go_wp2
      go_ret
      exact ⟨rfl, rfl⟩
  · have h : decide (1 ≤ k ∧ k ≤ 4) = false := decide_eq_false (by omega)
    rw [h]
    clear h
    go_enter Try.func34, Try.ntmps34
    go_wp2
    go_ret
    exact ⟨rfl, rfl⟩
theorem upto_any (v m : Int) (w : World) : Calls Try.prog 37 #[.int .i64 v, .int .i64 m] w fun e w' => e = .returned (.bool (decide (0 ≤ v ∧ v ≤ m))) ∧ w = w' := by
  by_cases h1 : 0 ≤ v
  · by_cases h2 : v ≤ m
    · have h : decide (0 ≤ v ∧ v ≤ m) = true := decide_eq_true ⟨h1, h2⟩
      rw [h]
      clear h
      go_enter Try.func37, Try.ntmps37
      go_wp2
      go_ret
      exact ⟨rfl, rfl⟩
    · have h : decide (0 ≤ v ∧ v ≤ m) = false := decide_eq_false (by omega)
      rw [h]
      clear h
      go_enter Try.func37, Try.ntmps37
      go_wp2
      go_ret
      exact ⟨rfl, rfl⟩
  · have h : decide (0 ≤ v ∧ v ≤ m) = false := decide_eq_false (by omega)
    rw [h]
    clear h
    go_enter Try.func37, Try.ntmps37
    go_wp2
    go_ret
    exact ⟨rfl, rfl⟩

set_option maxHeartbeats 1000000 in
set_option maxRecDepth 100000 in
theorem zeros_any (A : Option Addr) (n c : Nat) (L : List Nat) (hn : n ≤ 1000000) (hl : L.length = n) (hL : AllB L) (w : World) (hx : BV w A L) :
    Calls Try.prog 38 #[.slice A n c] w fun e w' => e = .returned (.bool (zs L)) ∧ w = w' := by
  have HL := Lib.hid hl
  have HAL := Lib.hid hL
  have HX := Lib.hid hx
  clear hl hL hx
  go_enter Try.func38, Try.ntmps38
  go_wp2
  go_loop [7] (fun i => ∃ k : Nat, k ≤ n ∧ i = .int .i64 (k : Int) ∧ Hid (∀ j, j < k → L.getD j 0 = 0)) (fun i => n - (intOf i).toNat)
  case atStart => exact ⟨0, Nat.zero_le _, rfl, fun j hj => absurd hj (Nat.not_lt_zero j)⟩
  case round =>
    obtain ⟨k, hk, rfl, HK⟩ := hrel
    by_cases hlt : k < n
    · obtain ⟨b1, o1, rfl, _, p1⟩ := HX.out.pos (by rw [HL.out]; omega)
      have e1 := p1 k (by rw [HL.out]; exact hlt)
      have d1 := allB_at HAL.out k
      obtain ⟨y, hy⟩ : ∃ y, y = L.getD k 0 := ⟨_, rfl⟩
      rw [← hy] at e1 d1
      have g1 : (0 : Int) ≤ (k : Int) := by omega
      clear p1
      by_cases h0 : y = 0
      · subst h0
        have HY := Lib.hid hy
        clear hy
        go_wp2
        go_round
        case rel => exact ⟨k + 1, by omega, by go_num, fun j hj => by
          rcases Nat.lt_or_ge j k with h | h
          · exact HK.out j h
          · obtain rfl : j = k := by omega
            exact HY.out.symm⟩
        case measure => simp [intOf]; omega
      · have hz : zs L = false := zs_no fun h => h0 (by
          rw [hy, List.getD_eq_getElem?_getD, List.getElem?_eq_getElem (by rw [HL.out]; exact hlt)]
          exact h _ (List.getElem_mem _))
        have nb : ((y : Int) != 0) = true := by simp; omega
        have HZ := Lib.hid hz
        clear hz hy h0
        go_wp2
        go_ret
        exact ⟨by rw [HZ.out]; rfl, rfl⟩
    · have hz : zs L = true := zs_yes fun x hx => by
        obtain ⟨j, hj, rfl⟩ := List.mem_iff_getElem.1 hx
        have := HK.out j (by rw [HL.out] at hj; omega)
        rwa [List.getD_eq_getElem?_getD, List.getElem?_eq_getElem hj] at this
      have HZ := Lib.hid hz
      clear hz
      go_wp2
      go_ret
      exact ⟨by rw [HZ.out]; rfl, rfl⟩

theorem gn_take (L : List Nat) (n : Nat) (h : n ≤ L.length) : gn L n = gt (L.take n) := by unfold gn; rw [if_pos h]
set_option maxRecDepth 100000 in
theorem fget32_any (A : Option Addr) (m c : Nat) (L : List Nat) (h4 : 4 ≤ m) (hc : m ≤ c) (hl : L.length = m) (hL : AllB L) (w : World) (hv : BV w A L) :
    Calls Try.prog 35 #[.slice A m c] w fun e w' => e = .returned (.int .u32 (gt (L.take 4) : Int)) ∧ w = w' := by
  have HG := Lib.hid (get32_any A m c L hc hl hL w hv)
  rw [gn_take L 4 (by omega), decide_eq_true h4] at HG
  obtain ⟨x, hx⟩ : ∃ x, x = gt (L.take 4) := ⟨_, rfl⟩
  rw [← hx] at HG ⊢
  clear hx hl
  go_enter Try.func35, Try.ntmps35
  go_wp2_with (go_at_call 49; refine HG.out.mono ?_; rintro e w1 ⟨rfl, rfl⟩)
  go_ret
  exact ⟨rfl, rfl⟩
set_option maxRecDepth 100000 in
theorem fget64_any (A : Option Addr) (m c : Nat) (L : List Nat) (h8 : 8 ≤ m) (hc : m ≤ c) (hl : L.length = m) (hL : AllB L) (w : World) (hv : BV w A L) :
    Calls Try.prog 36 #[.slice A m c] w fun e w' => e = .returned (.int .i64 (wrap64 (gt (L.take 8) : Int))) ∧ w = w' := by
  have HG := Lib.hid (get64_any A m c L hc hl hL w hv)
  rw [gn_take L 8 (by omega), decide_eq_true h8] at HG
  obtain ⟨x, hx⟩ : ∃ x, x = gt (L.take 8) := ⟨_, rfl⟩
  rw [← hx] at HG ⊢
  clear hx hl
  go_enter Try.func36, Try.ntmps36
  go_wp2_with (go_at_call 40; refine HG.out.mono ?_; rintro e w1 ⟨rfl, rfl⟩)
  go_ret
  exact ⟨rfl, rfl⟩

end Go.Proofs.Ytgmekkenodiclaa
