/- Proved: what Sum, Puts and Txs count; which arguments are looked at. -/
import Derived.Test.YtgmekkenodiclaaIn
import Derived.Test.YtgmekkenodiclaaBat
import Derived.StillTailTactics
namespace Go.Proofs.Ytgmekkenodiclaa
open Go.RowKit

/-- n and x, held at the limit. -/
def sm (n x : Nat) : Nat := if x ≤ 1099511627776 - n then n + x else 1099511627776
theorem sm_le (n x : Nat) (h : n ≤ 1099511627776) : sm n x ≤ 1099511627776 := by unfold sm; split <;> omega
theorem sm_ge (n x : Nat) (h : n ≤ 1099511627776) : n ≤ sm n x := by unfold sm; split <;> omega
theorem sm_get (n x : Nat) (h2 : sm n x ≤ 1000000) : x ≤ sm n x := by
  by_cases h3 : x ≤ 1099511627776 - n
  · unfold sm; rw [if_pos h3]; omega
  · unfold sm at h2; rw [if_neg h3] at h2; omega

set_option maxHeartbeats 1000000 in
set_option maxRecDepth 100000 in
theorem sum_one (n x g : Nat) (hn : n ≤ 1099511627776) (w : World) (hc : w.cell? ⟨g, 0, none⟩ = some (.int .i64 (x : Int))) :
    Calls Try.prog 20 #[.int .i64 (n : Int), .slice (some ⟨g, 0, none⟩) 1 1] w fun e w' => e = .returned (.int .i64 (sm n x : Int)) ∧ w = w' := by
  have n0 : ¬ (1099511627776 : Int) < (n : Int) := by omega
  have q0 : decide ((1099511627776 : Int) < (n : Int)) = false := decide_eq_false n0
  by_cases h : x ≤ 1099511627776 - n
  · have he : sm n x = n + x := if_pos h
    have q1 : decide (1099511627776 - (n : Int) < (x : Int)) = false := decide_eq_false (by omega)
    rw [he]
    go_enter Try.func20, Try.ntmps20
    go_wp2
    refine wp_loop_rounds 2 ?_
    rw [rounds_succ]
    go_wp2
    rw [rounds_succ]
    go_wp2
    go_ret
    exact ⟨by simp, rfl⟩
  · have he : sm n x = 1099511627776 := if_neg h
    have q1 : decide (1099511627776 - (n : Int) < (x : Int)) = true := decide_eq_true (by omega)
    rw [he]
    go_enter Try.func20, Try.ntmps20
    go_wp2
    refine wp_loop_rounds 2 ?_
    rw [rounds_succ]
    go_wp2
    go_ret
    exact ⟨rfl, rfl⟩

/-- What Puts tells: a number that is no less than how many there are, or the limit. -/
def Counts (m : Nat) (w : World) (e : Ending) (w' : World) : Prop := ∃ v : Nat, e = .returned (.int .i64 (v : Int)) ∧ v ≤ 1099511627776 ∧ sm 0 m ≤ v ∧ At w w'

set_option maxHeartbeats 1000000 in
set_option maxRecDepth 100000 in
theorem puts_any (A : Option Addr) (P : List Pt) (m c top : Nat) (hR : P.length = m) (hm : m ≤ maxLen) (w : World) (hv : PV w A P) :
    Calls Try.prog 45 #[.slice A m c, .int .i64 (top : Int)] w (Counts m w) := by
  have HN := Lib.hid hR
  have HV := Lib.hid hv
  have HS := Lib.hid (fun (n x g : Nat) (hn : n ≤ 1099511627776) (w' : World) (hc : w'.cell? ⟨g, 0, none⟩ = some (.int .i64 (x : Int))) => sum_one n x g hn w' hc)
  have hml := sm_le 0 m (by omega)
  unfold maxLen at hm
  clear hR hv
  have H0 := Lib.hid (HS.out 0 m w.heap.size (by omega) (w.alloc (.cells #[.int .i64 (m : Int)] 3)) (by simp [go_sem]))
  obtain ⟨s, hs⟩ : ∃ s, s = sm 0 m := ⟨_, rfl⟩
  rw [← hs] at H0 hml
  have HSM := Lib.hid hs
  clear hs
  go_enter Try.func45, Try.ntmps45
  go_wp2_with fail
  refine H0.out.mono ?_
  rintro e w1 ⟨rfl, rfl⟩
  have A1 : Hid (At w (w.alloc (.cells #[.int .i64 (m : Int)] 3))) := Lib.hid ((At.start w).alloc _)
  go_wp2
  go_loopw [5, 6] (fun c5 c6 wr => ∃ k v : Nat, k ≤ m ∧ c6 = .int .i64 (k : Int) ∧ c5 = .int .i64 (v : Int) ∧ v ≤ 1099511627776 ∧ s ≤ v ∧ Hid (At w wr)) (fun _ c6 _ => m - (RowKit.intOf c6).toNat)
  case atStart => exact ⟨0, s, Nat.zero_le _, rfl, rfl, hml, Nat.le_refl _, A1⟩
  case round =>
    obtain ⟨k, v, hk, rfl, rfl, hv, hsv, HA⟩ := hrel
    by_cases hlt : k < m
    · by_cases h2 : v ≤ top
      · obtain ⟨b, o, rfl, hbl, hx⟩ := (HV.out.on HA.out).pos (by rw [HN.out]; omega)
        obtain ⟨_, B, cb, hc, _⟩ := hx k (by rw [HN.out]; exact hlt)
        obtain ⟨x, hxl⟩ : ∃ x, x = (P.getD k pz).2.length := ⟨_, rfl⟩
        rw [← hxl] at hc
        have H1 := Lib.hid (HS.out v x wr.heap.size hv (wr.alloc (.cells #[.int .i64 (x : Int)] 3)) (by simp [go_sem]))
        have hs1 := sm_le v x hv
        have hs2 := sm_ge v x hv
        obtain ⟨y, hy⟩ : ∃ y, y = sm v x := ⟨_, rfl⟩
        rw [← hy] at H1 hs1 hs2
        have g1 : (0 : Int) ≤ (k : Int) := by omega
        have g2 : (k : Int) < (m : Int) := by omega
        clear hx hxl hy
        go_wp2_with fail
        refine H1.out.mono ?_
        rintro e w2 ⟨rfl, rfl⟩
        have A2 : Hid (At w (wr.alloc (.cells #[.int .i64 (x : Int)] 3))) := Lib.hid (HA.out.alloc _)
        go_wp2
        go_roundw
        case rel => exact ⟨k + 1, y, by omega, by go_num, rfl, hs1, by omega, A2⟩
        case measure => simp [RowKit.intOf]; omega
      · have HC : Hid (Counts m w (.returned (.int .i64 (v : Int))) wr) := Lib.hid ⟨v, rfl, hv, by rw [← HSM.out]; exact hsv, HA.out⟩
        have q : decide ((v : Int) ≤ (top : Int)) = false := decide_eq_false (by omega)
        go_wp2
        go_ret
        exact HC.out
    · have hkm : k = m := by omega
      subst hkm
      have HC : Hid (Counts k w (.returned (.int .i64 (v : Int))) wr) := Lib.hid ⟨v, rfl, hv, by rw [← HSM.out]; exact hsv, HA.out⟩
      go_wp2
      go_ret
      exact HC.out

theorem sm_is (n x : Nat) (h : sm n x ≤ 10000) : sm n x = n + x := by
  by_cases h3 : x ≤ 1099511627776 - n
  · unfold sm; rw [if_pos h3]
  · unfold sm at h; rw [if_neg h3] at h; omega
/-- What Txs tells. -/
def CountT (L : List Tx) (w : World) (e : Ending) (w' : World) : Prop := ∃ v : Nat, e = .returned (.int .i64 (v : Int)) ∧ v ≤ 1099511627776 ∧ (v ≤ 10000 → L.length + tot L ≤ v) ∧ At w w'

set_option maxHeartbeats 2000000 in
set_option maxRecDepth 100000 in
theorem txs_any (A : Option Addr) (L : List Tx) (n c : Nat) (hn : L.length = n) (hm : n ≤ maxLen) (hS : ∀ x ∈ L, TOk x) (w : World) (hv : TV w A L) :
    Calls Try.prog 27 #[.slice A n c, .int .i64 10000] w (CountT L w) := by
  have HN := Lib.hid hn
  have HV := Lib.hid hv
  have HSO := Lib.hid hS
  have HS := Lib.hid (fun (n x g : Nat) (hn : n ≤ 1099511627776) (w' : World) (hc : w'.cell? ⟨g, 0, none⟩ = some (.int .i64 (x : Int))) => sum_one n x g hn w' hc)
  have hml := sm_le 0 n (by omega)
  unfold maxLen at hm
  clear hn hv hS
  have H0 := Lib.hid (HS.out 0 n w.heap.size (by omega) (w.alloc (.cells #[.int .i64 (n : Int)] 3)) (by simp [go_sem]))
  obtain ⟨s, hs⟩ : ∃ s, s = sm 0 n := ⟨_, rfl⟩
  have hsn : s ≤ 10000 → n ≤ s := fun h => by rw [hs] at h ⊢; have := sm_is 0 n h; omega
  rw [← hs] at H0 hml
  have HSN := Lib.hid hsn
  clear hs hsn
  go_enter Try.func27, Try.ntmps27
  go_wp2_with fail
  refine H0.out.mono ?_
  rintro e w1 ⟨rfl, rfl⟩
  have A1 : Hid (At w (w.alloc (.cells #[.int .i64 (n : Int)] 3))) := Lib.hid ((At.start w).alloc _)
  go_wp2
  go_loopw [5, 6] (fun c5 c6 wr => ∃ k v : Nat, k ≤ n ∧ c6 = .int .i64 (k : Int) ∧ c5 = .int .i64 (v : Int) ∧ v ≤ 1099511627776 ∧ Hid (v ≤ 10000 → n + tot (L.take k) ≤ v) ∧ Hid (At w wr)) (fun _ c6 _ => n - (RowKit.intOf c6).toNat)
  case atStart => exact ⟨0, s, Nat.zero_le _, rfl, rfl, hml, Lib.hid (fun h => by have := HSN.out h; rw [List.take_zero]; simpa [tot] using this), A1⟩
  case round =>
    obtain ⟨k, v, hk, rfl, rfl, hv, HT, HA⟩ := hrel
    by_cases hlt : k < n
    · by_cases h2 : v ≤ 10000
      · have hkL : k < L.length := by rw [HN.out]; exact hlt
        obtain ⟨b, o, rfl, hbl, hx⟩ := (HV.out.on HA.out).pos (by omega)
        obtain ⟨k1, B, cb, k2, hpv⟩ := hx k hkL
        have hso := (HSO.out _ (tx_mem hkL)).2
        have htt := tot_take hkL
        obtain ⟨m, hm⟩ : ∃ m, m = (L.getD k txz).2.length := ⟨_, rfl⟩
        rw [← hm] at k2 hso htt
        have HP := Lib.hid (puts_any B _ m cb 10000 hm.symm hso wr hpv)
        rw [show ((10000 : Nat) : Int) = 10000 from rfl] at HP
        have HTT := Lib.hid htt
        have g1 : (0 : Int) ≤ (k : Int) := by omega
        have g2 : (k : Int) < (n : Int) := by omega
        have z1 : decide ((v : Int) ≤ 10000) = true := decide_eq_true (by omega)
        clear hx hm hpv hso htt hkL k1
        go_wp2_with fail
        refine HP.out.mono ?_
        rintro e w2 ⟨z, rfl, hz1, hz2, hA2⟩
        have A2 := Lib.hid (HA.out.next hA2)
        have hA3 : At w2 (w2.alloc (.cells #[.int .i64 (z : Int)] 3)) := (At.start w2).alloc _
        have A3 := Lib.hid (A2.out.next hA3)
        have hsb := heap_alloc_new w2 (.cells #[.int .i64 (z : Int)] 3)
        have H2 := Lib.hid (HS.out v z w2.heap.size hv _ ((cell_at hsb 0).trans rfl))
        have hs1 := sm_le v z hv
        have HZ : Hid (sm v z ≤ 10000 → n + tot (L.take (k + 1)) ≤ sm v z) := Lib.hid (fun h => by
          have a1 := sm_is v z h
          have a2 := HT.out (by omega)
          have a3 := sm_get 0 m (by omega)
          rw [HTT.out]; omega)
        obtain ⟨y, hy⟩ : ∃ y, y = sm v z := ⟨_, rfl⟩
        rw [← hy] at H2 HZ hs1
        clear hsb hA3 hA2 hy hz2
        go_wp2_with fail
        refine H2.out.mono ?_
        rintro e w3 ⟨rfl, rfl⟩
        go_wp2
        go_roundw
        case rel => exact ⟨k + 1, y, by omega, by go_num, rfl, hs1, HZ, A3⟩
        case measure => simp [RowKit.intOf]; omega
      · have HC : Hid (CountT L w (.returned (.int .i64 (v : Int))) wr) := Lib.hid ⟨v, rfl, hv, fun h => absurd h h2, HA.out⟩
        have q : decide ((v : Int) ≤ 10000) = false := decide_eq_false (by omega)
        go_wp2
        go_ret
        exact HC.out
    · have hkn : k = n := by omega
      subst hkn
      have HC : Hid (CountT L w (.returned (.int .i64 (v : Int))) wr) := Lib.hid ⟨v, rfl, hv, fun h => by
        have := HT.out h
        rwa [List.take_of_length_le (Nat.le_of_eq HN.out), ← HN.out] at this, HA.out⟩
      go_wp2
      go_ret
      exact HC.out

end Go.Proofs.Ytgmekkenodiclaa
