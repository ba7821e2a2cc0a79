/- Proved: what Total tells of rows of bytes. -/
import Derived.Test.YtgmekkenodiclaaSm
import Derived.Test.YtgmekkenodiclaaOw
namespace Go.Proofs.Ytgmekkenodiclaa
open Go.RowKit

set_option maxHeartbeats 1000000 in
set_option maxRecDepth 100000 in
theorem total_any (A : Option Addr) (P : List (List Nat)) (m c top : Nat) (hR : P.length = m) (hm : m ≤ maxLen) (w : World) (hv : RV w A P) :
    Calls Try.prog 8 #[.slice A m c, .int .i64 (top : Int)] w (Counts m w) := by
  have HN := Lib.hid hR
  have HV := Lib.hid hv
  have HS := Lib.hid (fun (n x g : Nat) (hn : n ≤ 1099511627776) (w' : World) (hc : w'.cell? ⟨g, 0, none⟩ = some (.int .i64 (x : Int))) => sum_one n x g hn w' hc)
  have hml := sm_le 0 m (by omega)
  unfold maxLen at hm
  clear hR hv
  have H0 := Lib.hid (HS.out 0 m w.heap.size (by omega) (w.alloc (.cells #[.int .i64 (m : Int)] 3)) (by simp [go_sem]))
  obtain ⟨s, hs⟩ : ∃ s, s = sm 0 m := ⟨_, rfl⟩
  rw [← hs] at H0 hml
  have HSM := Lib.hid hs
  clear hs
  go_enter Try.func8, Try.ntmps8
  go_wp2_with fail
  refine H0.out.mono ?_
  rintro e w1 ⟨rfl, rfl⟩
  have A1 : Hid (At w (w.alloc (.cells #[.int .i64 (m : Int)] 3))) := Lib.hid ((At.start w).alloc _)
  go_wp2
  go_loopw [5, 6] (fun c5 c6 wr => ∃ k v : Nat, k ≤ m ∧ c6 = .int .i64 (k : Int) ∧ c5 = .int .i64 (v : Int) ∧ v ≤ 1099511627776 ∧ s ≤ v ∧ Hid (At w wr)) (fun _ c6 _ => m - (RowKit.intOf c6).toNat)
  case atStart => exact ⟨0, s, Nat.zero_le _, rfl, rfl, hml, Nat.le_refl _, A1⟩
  case round =>
    obtain ⟨k, v, hk, rfl, rfl, hv, hsv, HA⟩ := hrel
    by_cases hlt : k < m
    · by_cases h2 : v ≤ top
      · obtain ⟨b, o, rfl, hbl, hx⟩ := (HV.out.on HA.out).pos (by rw [HN.out]; omega)
        obtain ⟨B, cb, hc, _⟩ := hx k (by rw [HN.out]; exact hlt)
        obtain ⟨x, hxl⟩ : ∃ x, x = (P.getD k []).length := ⟨_, rfl⟩
        rw [← hxl] at hc
        have H1 := Lib.hid (HS.out v x wr.heap.size hv (wr.alloc (.cells #[.int .i64 (x : Int)] 3)) (by simp [go_sem]))
        have hs1 := sm_le v x hv
        have hs2 := sm_ge v x hv
        obtain ⟨y, hy⟩ : ∃ y, y = sm v x := ⟨_, rfl⟩
        rw [← hy] at H1 hs1 hs2
        have g1 : (0 : Int) ≤ (k : Int) := by omega
        have g2 : (k : Int) < (m : Int) := by omega
        clear hx hxl hy
        go_wp2_with fail
        refine H1.out.mono ?_
        rintro e w2 ⟨rfl, rfl⟩
        have A2 : Hid (At w (wr.alloc (.cells #[.int .i64 (x : Int)] 3))) := Lib.hid (HA.out.alloc _)
        go_wp2
        go_roundw
        case rel => exact ⟨k + 1, y, by omega, by go_num, rfl, hs1, by omega, A2⟩
        case measure => simp [RowKit.intOf]; omega
      · have HC : Hid (Counts m w (.returned (.int .i64 (v : Int))) wr) := Lib.hid ⟨v, rfl, hv, by rw [← HSM.out]; exact hsv, HA.out⟩
        have q : decide ((v : Int) ≤ (top : Int)) = false := decide_eq_false (by omega)
        go_wp2
        go_ret
        exact HC.out
    · have hkm : k = m := by omega
      subst hkm
      have HC : Hid (Counts k w (.returned (.int .i64 (v : Int))) wr) := Lib.hid ⟨v, rfl, hv, by rw [← HSM.out]; exact hsv, HA.out⟩
      go_wp2
      go_ret
      exact HC.out

end Go.Proofs.Ytgmekkenodiclaa
