/- Proved: what Sum and Puts count; which steps are looked at. -/
import Derived.Test.YtgjlklladbcmcaaIn
namespace Go.Proofs.Ytgjlklladbcmcaa
open Go.RowKit

/-- n and x, held at the limit. -/
def sm (n x : Nat) : Nat := if x ≤ 1099511627776 - n then n + x else 1099511627776
theorem sm_le (n x : Nat) (h : n ≤ 1099511627776) : sm n x ≤ 1099511627776 := by unfold sm; split <;> omega
theorem sm_ge (n x : Nat) (h : n ≤ 1099511627776) : n ≤ sm n x := by unfold sm; split <;> omega
theorem sm_get (n x : Nat) (h2 : sm n x ≤ 1000000) : x ≤ sm n x := by
  by_cases h3 : x ≤ 1099511627776 - n
  · unfold sm; rw [if_pos h3]; omega
  · unfold sm at h2; rw [if_neg h3] at h2; omega

set_option maxHeartbeats 1000000 in
set_option maxRecDepth 100000 in
theorem sum_one (n x g : Nat) (hn : n ≤ 1099511627776) (w : World) (hc : w.cell? ⟨g, 0, none⟩ = some (.int .i64 (x : Int))) :
    Calls Try.prog 27 #[.int .i64 (n : Int), .slice (some ⟨g, 0, none⟩) 1 1] w fun e w' => e = .returned (.int .i64 (sm n x : Int)) ∧ w = w' := by
  have n0 : ¬ (1099511627776 : Int) < (n : Int) := by omega
  have q0 : decide ((1099511627776 : Int) < (n : Int)) = false := decide_eq_false n0
  by_cases h : x ≤ 1099511627776 - n
  · have he : sm n x = n + x := if_pos h
    have q1 : decide (1099511627776 - (n : Int) < (x : Int)) = false := decide_eq_false (by omega)
    rw [he]
    go_enter Try.func27, Try.ntmps27
    go_wp2
    refine wp_loop_rounds 2 ?_
    rw [rounds_succ]
    go_wp2
    rw [rounds_succ]
    go_wp2
    go_ret
    exact ⟨by simp, rfl⟩
  · have he : sm n x = 1099511627776 := if_neg h
    have q1 : decide (1099511627776 - (n : Int) < (x : Int)) = true := decide_eq_true (by omega)
    rw [he]
    go_enter Try.func27, Try.ntmps27
    go_wp2
    refine wp_loop_rounds 2 ?_
    rw [rounds_succ]
    go_wp2
    go_ret
    exact ⟨rfl, rfl⟩

set_option maxHeartbeats 1000000 in
set_option maxRecDepth 100000 in
theorem sum_two (n x g : Nat) (hn : n ≤ 1099511627776) (w : World) (hc : w.cell? ⟨g, 0, none⟩ = some (.int .i64 (x : Int))) (hd : w.cell? ⟨g, 1, none⟩ = some (.int .i64 3)) :
    Calls Try.prog 27 #[.int .i64 (n : Int), .slice (some ⟨g, 0, none⟩) 2 2] w fun e w' => e = .returned (.int .i64 (sm (sm n x) 3 : Int)) ∧ w = w' := by
  have n0 : ¬ (1099511627776 : Int) < (n : Int) := by omega
  have q0 : decide ((1099511627776 : Int) < (n : Int)) = false := decide_eq_false n0
  by_cases h : x ≤ 1099511627776 - n
  · have q1 : decide (1099511627776 - (n : Int) < (x : Int)) = false := decide_eq_false (by omega)
    have n2 : ¬ (1099511627776 : Int) < (n : Int) + (x : Int) := by omega
    have q2 : decide ((1099511627776 : Int) < (n : Int) + (x : Int)) = false := decide_eq_false n2
    by_cases h3 : 3 ≤ 1099511627776 - (n + x)
    · have he : sm (sm n x) 3 = n + x + 3 := by unfold sm; rw [if_pos h, if_pos h3]
      have q3 : decide (1099511627776 - ((n : Int) + (x : Int)) < 3) = false := decide_eq_false (by omega)
      rw [he]
      go_enter Try.func27, Try.ntmps27
      go_wp2
      refine wp_loop_rounds 3 ?_
      rw [rounds_succ]
      go_wp2
      rw [rounds_succ]
      go_wp2
      rw [rounds_succ]
      go_wp2
      go_ret
      exact ⟨by simp, rfl⟩
    · have he : sm (sm n x) 3 = 1099511627776 := by unfold sm; rw [if_pos h, if_neg h3]
      have q3 : decide (1099511627776 - ((n : Int) + (x : Int)) < 3) = true := decide_eq_true (by omega)
      rw [he]
      go_enter Try.func27, Try.ntmps27
      go_wp2
      refine wp_loop_rounds 3 ?_
      rw [rounds_succ]
      go_wp2
      rw [rounds_succ]
      go_wp2
      go_ret
      exact ⟨rfl, rfl⟩
  · have he : sm (sm n x) 3 = 1099511627776 := by unfold sm; rw [if_neg h]; decide
    have q1 : decide (1099511627776 - (n : Int) < (x : Int)) = true := decide_eq_true (by omega)
    rw [he]
    go_enter Try.func27, Try.ntmps27
    go_wp2
    refine wp_loop_rounds 3 ?_
    rw [rounds_succ]
    go_wp2
    go_ret
    exact ⟨rfl, rfl⟩

/-- What Puts tells: a number that is no less than how many there are, or the limit. -/
def Counts (m : Nat) (w : World) (e : Ending) (w' : World) : Prop := ∃ v : Nat, e = .returned (.int .i64 (v : Int)) ∧ v ≤ 1099511627776 ∧ sm 0 m ≤ v ∧ At w w'

set_option maxHeartbeats 1000000 in
set_option maxRecDepth 100000 in
theorem puts_any (A : Option Addr) (P : List Pt) (m c top : Nat) (hR : P.length = m) (hm : m ≤ maxLen) (w : World) (hv : PV w A P) :
    Calls Try.prog 28 #[.slice A m c, .int .i64 (top : Int)] w (Counts m w) := by
  have HN := Lib.hid hR
  have HV := Lib.hid hv
  have HS := Lib.hid (fun (n x g : Nat) (hn : n ≤ 1099511627776) (w' : World) (hc : w'.cell? ⟨g, 0, none⟩ = some (.int .i64 (x : Int))) => sum_one n x g hn w' hc)
  have hml := sm_le 0 m (by omega)
  unfold maxLen at hm
  clear hR hv
  have H0 := Lib.hid (HS.out 0 m w.heap.size (by omega) (w.alloc (.cells #[.int .i64 (m : Int)] 3)) (by simp [go_sem]))
  obtain ⟨s, hs⟩ : ∃ s, s = sm 0 m := ⟨_, rfl⟩
  rw [← hs] at H0 hml
  have HSM := Lib.hid hs
  clear hs
  go_enter Try.func28, Try.ntmps28
  go_wp2_with fail
  refine H0.out.mono ?_
  rintro e w1 ⟨rfl, rfl⟩
  have A1 : Hid (At w (w.alloc (.cells #[.int .i64 (m : Int)] 3))) := Lib.hid ((At.start w).alloc _)
  go_wp2
  go_loopw [5, 6] (fun c5 c6 wr => ∃ k v : Nat, k ≤ m ∧ c6 = .int .i64 (k : Int) ∧ c5 = .int .i64 (v : Int) ∧ v ≤ 1099511627776 ∧ s ≤ v ∧ Hid (At w wr)) (fun _ c6 _ => m - (RowKit.intOf c6).toNat)
  case atStart => exact ⟨0, s, Nat.zero_le _, rfl, rfl, hml, Nat.le_refl _, A1⟩
  case round =>
    obtain ⟨k, v, hk, rfl, rfl, hv, hsv, HA⟩ := hrel
    by_cases hlt : k < m
    · by_cases h2 : v ≤ top
      · obtain ⟨b, o, rfl, hbl, hx⟩ := (HV.out.on HA.out).pos (by rw [HN.out]; omega)
        obtain ⟨_, B, cb, hc, _⟩ := hx k (by rw [HN.out]; exact hlt)
        obtain ⟨x, hxl⟩ : ∃ x, x = (P.getD k pz).2.length := ⟨_, rfl⟩
        rw [← hxl] at hc
        have H1 := Lib.hid (HS.out v x wr.heap.size hv (wr.alloc (.cells #[.int .i64 (x : Int)] 3)) (by simp [go_sem]))
        have hs1 := sm_le v x hv
        have hs2 := sm_ge v x hv
        obtain ⟨y, hy⟩ : ∃ y, y = sm v x := ⟨_, rfl⟩
        rw [← hy] at H1 hs1 hs2
        have g1 : (0 : Int) ≤ (k : Int) := by omega
        have g2 : (k : Int) < (m : Int) := by omega
        clear hx hxl hy
        go_wp2_with fail
        refine H1.out.mono ?_
        rintro e w2 ⟨rfl, rfl⟩
        have A2 : Hid (At w (wr.alloc (.cells #[.int .i64 (x : Int)] 3))) := Lib.hid (HA.out.alloc _)
        go_wp2
        go_roundw
        case rel => exact ⟨k + 1, y, by omega, by go_num, rfl, hs1, by omega, A2⟩
        case measure => simp [RowKit.intOf]; omega
      · have HC : Hid (Counts m w (.returned (.int .i64 (v : Int))) wr) := Lib.hid ⟨v, rfl, hv, by rw [← HSM.out]; exact hsv, HA.out⟩
        have q : decide ((v : Int) ≤ (top : Int)) = false := decide_eq_false (by omega)
        go_wp2
        go_ret
        exact HC.out
    · have hkm : k = m := by omega
      subst hkm
      have HC : Hid (Counts k w (.returned (.int .i64 (v : Int))) wr) := Lib.hid ⟨v, rfl, hv, by rw [← HSM.out]; exact hsv, HA.out⟩
      go_wp2
      go_ret
      exact HC.out

/-- Which steps are looked at: few, of few blocks. -/
def Few (L : List Stp) : Prop := L.length ≤ 120 ∧ ∀ j, j < L.length → (L.getD j sz).puts.length ≤ 20000
def Small (L : List Stp) (w : World) (e : Ending) (w' : World) : Prop := ∃ r : Bool, e = .returned (.bool r) ∧ (r = true → Few L) ∧ At w w'
theorem step_mem {L : List Stp} {j : Nat} (h : j < L.length) : L.getD j sz ∈ L := by
  rw [List.getD_eq_getElem?_getD, List.getElem?_eq_getElem h]; exact List.getElem_mem _

set_option maxHeartbeats 1000000 in
set_option maxRecDepth 100000 in
theorem small_any (A : Option Addr) (L : List Stp) (n c : Nat) (hL : L.length = n) (hn : n ≤ maxLen) (hS : ∀ s ∈ L, SOk s) (w : World) (hv : SV w A L) :
    Calls Try.prog 8 #[.slice A n c] w (Small L w) := by
  have HN := Lib.hid hL
  have HV := Lib.hid hv
  have HSO := Lib.hid hS
  unfold maxLen at hn
  clear hL hv hS
  go_enter Try.func8, Try.ntmps8
  go_wp2
  go_loopw [3, 4] (fun c3 c4 wr => ∃ k v : Nat, k ≤ n ∧ c4 = .int .i64 (k : Int) ∧ c3 = .int .i64 (v : Int) ∧ v ≤ 20000 ∧ Hid (∀ j, j < k → (L.getD j sz).puts.length ≤ 20000) ∧ Hid (At w wr)) (fun _ c4 _ => n - (RowKit.intOf c4).toNat)
  case atStart => exact ⟨0, 0, Nat.zero_le _, rfl, rfl, by omega, Lib.hid (fun j h => absurd h (Nat.not_lt_zero j)), Lib.hid (At.start w)⟩
  case round =>
    obtain ⟨k, v, hk, rfl, rfl, hv2, HF, HA⟩ := hrel
    by_cases hlt : k < n
    · obtain ⟨b, o, rfl, hbl, hx⟩ := (HV.out.on HA.out).pos (by rw [HN.out]; omega)
      obtain ⟨_, _, _, ⟨B, cb, hc, hpv⟩, _⟩ := hx k (by rw [HN.out]; exact hlt)
      have hso := (HSO.out _ (step_mem (show k < L.length by rw [HN.out]; exact hlt))).2
      obtain ⟨m, hm⟩ : ∃ m, m = (L.getD k sz).puts.length := ⟨_, rfl⟩
      rw [← hm] at hc hso
      have HP := Lib.hid (puts_any B _ m cb 20000 hm.symm hso wr hpv)
      rw [show ((20000 : Nat) : Int) = 20000 from rfl] at HP
      have HM := Lib.hid hm
      have g1 : (0 : Int) ≤ (k : Int) := by omega
      have g2 : (k : Int) < (n : Int) := by omega
      clear hx hm hpv hso
      go_wp2_with fail
      refine HP.out.mono ?_
      rintro e w2 ⟨z, rfl, hz1, hz2, hA2⟩
      have A2 := Lib.hid (HA.out.next hA2)
      have hA3 : At w2 (w2.alloc (.cells #[.int .i64 (z : Int), .int .i64 3] 3)) := (At.start w2).alloc _
      have A3 := Lib.hid (A2.out.next hA3)
      have hsb := heap_alloc_new w2 (.cells #[.int .i64 (z : Int), .int .i64 3] 3)
      have H2 := Lib.hid (sum_two v z w2.heap.size (by omega) _ ((cell_at hsb 0).trans rfl) ((cell_at hsb 1).trans rfl))
      have HZ : Hid (sm (sm v z) 3 ≤ 20000 → m ≤ 20000) := Lib.hid (fun h => by
        have a1 := sm_le v z (by omega)
        have a2 := sm_ge (sm v z) 3 a1
        have a3 := sm_get v z (by omega)
        have a4 := sm_get 0 m (by omega)
        omega)
      obtain ⟨y, hy⟩ : ∃ y, y = sm (sm v z) 3 := ⟨_, rfl⟩
      rw [← hy] at H2 HZ
      clear hsb hA3 hA2 hy hz2
      go_wp2_with fail
      refine H2.out.mono ?_
      rintro e w3 ⟨rfl, rfl⟩
      by_cases hy2 : y ≤ 20000
      · have q : decide ((20000 : Int) < (y : Int)) = false := decide_eq_false (by omega)
        go_wp2
        go_roundw
        case rel => exact ⟨k + 1, y, by omega, by go_num, rfl, hy2, Lib.hid (fun j hj => by
          by_cases e : j = k
          · subst e; rw [← HM.out]; exact HZ.out hy2
          · exact HF.out j (by omega)), A3⟩
        case measure => simp [RowKit.intOf]; omega
      · have q : (20000 : Int) < (y : Int) := by omega
        go_wp2
        go_ret
        exact ⟨false, rfl, fun h => (by cases h), A3.out⟩
    · have hkn : k = n := by omega
      subst hkn
      by_cases h100 : k ≤ 120
      · have HE : Hid (Small L w (.returned (.bool true)) wr) := Lib.hid ⟨true, rfl, fun _ => ⟨by rw [HN.out]; exact h100, fun j hj => HF.out j (by rw [← HN.out]; exact hj)⟩, HA.out⟩
        have q : decide ((k : Int) ≤ 120) = true := decide_eq_true (by omega)
        go_wp2
        go_ret
        exact HE.out
      · have HE : Hid (Small L w (.returned (.bool false)) wr) := Lib.hid ⟨false, rfl, fun h => (by cases h), HA.out⟩
        have q : decide ((k : Int) ≤ 120) = false := decide_eq_false (by omega)
        go_wp2
        go_ret
        exact HE.out

end Go.Proofs.Ytgjlklladbcmcaa
