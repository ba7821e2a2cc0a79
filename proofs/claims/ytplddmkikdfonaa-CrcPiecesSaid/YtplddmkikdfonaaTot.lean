/- Proved: what Sum and Total count: the bytes of rows, held at a limit. -/
import Derived.Test.YtplddmkikdfonaaIrow
namespace Go.Proofs.Ytplddmkikdfonaa
open Go.RowKit

/-- n and x, held at the limit. -/
def sm (n x : Nat) : Nat := if x ≤ 1099511627776 - n then n + x else 1099511627776
theorem sm_le (n x : Nat) (h : n ≤ 1099511627776) : sm n x ≤ 1099511627776 := by unfold sm; split <;> omega
theorem sm_small (n x : Nat) (h : sm n x ≤ 2000) : sm n x = n + x := by unfold sm at h ⊢; split at h <;> simp_all

set_option maxHeartbeats 1000000 in
set_option maxRecDepth 100000 in
theorem sum_one (n x g : Nat) (hn : n ≤ 1099511627776) (w : World) (hc : w.cell? ⟨g, 0, none⟩ = some (.int .i64 (x : Int))) :
    Calls Try.prog 17 #[.int .i64 (n : Int), .slice (some ⟨g, 0, none⟩) 1 1] w fun e w' => e = .returned (.int .i64 (sm n x : Int)) ∧ w = w' := by
  have n0 : ¬ (1099511627776 : Int) < (n : Int) := by omega
  have q0 : decide ((1099511627776 : Int) < (n : Int)) = false := decide_eq_false n0
  by_cases h : x ≤ 1099511627776 - n
  · have he : sm n x = n + x := if_pos h
    have q1 : decide (1099511627776 - (n : Int) < (x : Int)) = false := decide_eq_false (by omega)
    rw [he]
    go_enter Try.func17, Try.ntmps17
    go_wp2
    refine wp_loop_rounds 2 ?_
    rw [rounds_succ]
    go_wp2
    rw [rounds_succ]
    go_wp2
    go_ret
    exact ⟨by simp, rfl⟩
  · have he : sm n x = 1099511627776 := if_neg h
    have q1 : decide (1099511627776 - (n : Int) < (x : Int)) = true := decide_eq_true (by omega)
    rw [he]
    go_enter Try.func17, Try.ntmps17
    go_wp2
    refine wp_loop_rounds 2 ?_
    rw [rounds_succ]
    go_wp2
    go_ret
    exact ⟨rfl, rfl⟩

/-- What Total tells: a number; one of at most 2000 is no less than all the bytes. -/
def Counts (R : List Rw) (w : World) (e : Ending) (w' : World) : Prop := ∃ t : Nat, e = .returned (.int .i64 (t : Int)) ∧ t ≤ 1099511627776 ∧ (t ≤ 2000 → (cat R).length ≤ 2000) ∧ At w w'

set_option maxHeartbeats 1000000 in
set_option maxRecDepth 100000 in
theorem total_any (A : Option Addr) (m c : Nat) (R : List Rw) (hm : m ≤ 50) (hR : R.length = m) (w : World) (hv : RV w A R) :
    Calls Try.prog 12 #[.slice A m c, .int .i64 2000] w (Counts R w) := by
  have HN := Lib.hid hR
  have HV := Lib.hid hv
  have HS := Lib.hid (fun (n x g : Nat) (hn : n ≤ 1099511627776) (w' : World) (hc : w'.cell? ⟨g, 0, none⟩ = some (.int .i64 (x : Int))) => sum_one n x g hn w' hc)
  have hm0 := sm_small 0 m
  have hml := sm_le 0 m (by omega)
  have hsm : sm 0 m = m := by unfold sm; rw [if_pos (by omega)]; omega
  rw [hsm] at hml
  clear hR hv hm0
  have H0 := Lib.hid (HS.out 0 m w.heap.size (by omega) (w.alloc (.cells #[.int .i64 (m : Int)] 3)) (by simp [go_sem]))
  rw [hsm] at H0
  clear hsm
  go_enter Try.func12, Try.ntmps12
  go_wp2_with fail
  refine H0.out.mono ?_
  rintro e w1 ⟨rfl, rfl⟩
  have A1 : Hid (At w (w.alloc (.cells #[.int .i64 (m : Int)] 3))) := Lib.hid ((At.start w).alloc _)
  go_wp2
  go_loopw [5, 6] (fun c5 c6 wr => ∃ k v : Nat, k ≤ m ∧ c6 = .int .i64 (k : Int) ∧ c5 = .int .i64 (v : Int) ∧ v ≤ 1099511627776 ∧ Hid (v ≤ 2000 → (cat (R.take k)).length ≤ v) ∧ Hid (At w wr)) (fun _ c6 _ => m - (intOf c6).toNat)
  case atStart => exact ⟨0, m, Nat.zero_le _, rfl, rfl, hml, Lib.hid (fun _ => by simp [cat]), A1⟩
  case round =>
    obtain ⟨k, v, hk, rfl, rfl, hv, HT, HA⟩ := hrel
    by_cases hlt : k < m
    · by_cases h2 : v ≤ 2000
      · obtain ⟨b, o, rfl, hbl, hx⟩ := HV.out.pos (by rw [HN.out]; omega)
        obtain ⟨hc, hl⟩ := hx k (by rw [HN.out]; exact hlt)
        have hct := cat_take R k (by rw [HN.out]; exact hlt)
        obtain ⟨r, hr⟩ : ∃ r, r = R.getD k Rw.none := ⟨_, rfl⟩
        rw [← hr] at hc hl hct
        have e1 := (HA.out.cell (p := ⟨b, o + k, none⟩) hbl).trans hc
        unfold sl at e1
        obtain ⟨ra, rc, rl⟩ := r
        simp only at e1 hct
        obtain ⟨x, hxl⟩ : ∃ x, x = rl.length := ⟨_, rfl⟩
        rw [← hxl] at e1
        have H1 := Lib.hid (HS.out v x wr.heap.size hv (wr.alloc (.cells #[.int .i64 (x : Int)] 3)) (by simp [go_sem]))
        have hs1 := sm_le v x hv
        have HT2 : Hid (sm v x ≤ 2000 → (cat (R.take (k + 1))).length ≤ sm v x) := Lib.hid (fun h => by
          rw [sm_small v x h, hct, List.length_append, ← hxl]
          have := HT.out h2; omega)
        obtain ⟨y, hy⟩ : ∃ y, y = sm v x := ⟨_, rfl⟩
        rw [← hy] at H1 hs1 HT2
        have g1 : (0 : Int) ≤ (k : Int) := by omega
        clear hx hc hl hct hr hxl hy
        go_wp2_with fail
        refine H1.out.mono ?_
        rintro e w2 ⟨rfl, rfl⟩
        have A2 : Hid (At w (wr.alloc (.cells #[.int .i64 (x : Int)] 3))) := Lib.hid (HA.out.alloc _)
        go_wp2
        go_roundw
        case rel => exact ⟨k + 1, y, by omega, by go_num, rfl, hs1, HT2, A2⟩
        case measure => simp [intOf]; omega
      · have HC : Hid (Counts R w (.returned (.int .i64 (v : Int))) wr) := Lib.hid ⟨v, rfl, hv, fun h => absurd h h2, HA.out⟩
        have q : decide ((v : Int) ≤ 2000) = false := decide_eq_false (by omega)
        go_wp2
        go_ret
        exact HC.out
    · have hkm : k = m := by omega
      subst hkm
      have HC : Hid (Counts R w (.returned (.int .i64 (v : Int))) wr) := Lib.hid ⟨v, rfl, hv, fun h => by
        have := HT.out h
        rw [List.take_of_length_le (by rw [HN.out]; omega)] at this
        omega, HA.out⟩
      go_wp2
      go_ret
      exact HC.out

end Go.Proofs.Ytplddmkikdfonaa
