/- Proved: awake answers true; Round keeps a number from 0 to ahead of n. -/
import Derived.Test.YtennafmbefnnmaaUnv
namespace Go.Proofs.Ytennafmbefnnmaa
open Go.RowKit

/-- A call hands back v and writes only what is new. -/
def Gives (v : Value) (w : World) (e : Ending) (w' : World) : Prop := e = .returned v ∧ Below w.heap.size w w'

theorem vi_300 : vi 300 = [172, 2] := by rw [vi_hi (by omega), vi_lo (by omega)]
theorem pt_one : pt 4 1 = [1, 0, 0, 0] := by decide
theorem BV.at0 {w : World} {g : Nat} {L : List Nat} (h : BV w (some ⟨g, 0, none⟩) L) : ∀ j, j < L.length → w.cell? ⟨g, j, none⟩ = some (.int .u8 ((L.getD j 0 : Nat) : Int)) := by
  intro j hj
  obtain ⟨b, o, he, _, hc⟩ := h.pos (by omega)
  injection he with he
  injection he with h1 h2
  subst h1 h2
  have := hc j hj
  rwa [Nat.zero_add] at this

set_option maxHeartbeats 1000000 in
set_option maxRecDepth 100000 in
theorem awake_any (w : World) : Calls Try.prog 8 #[] w (Gives (.bool true) w) := by
  have HV := Lib.hid (varint_any 300 (by omega) w)
  rw [vi_300] at HV
  have HP := Lib.hid (fun w => put32_any 1 (by omega) w)
  go_enter Try.func8, Try.ntmps8
  go_wp2_with fail
  refine HV.out.mono ?_
  rintro e w1 ⟨g1, c1, rfl, _, hv1, hb1⟩
  have HV1 := Lib.hid hv1
  have HB1 := Lib.hid hb1
  clear hv1 hb1
  go_wp2_with fail
  refine (HP.out _).mono ?_
  rintro e w2 ⟨g2, c2, rfl, _, hv2, hb2⟩
  rw [pt_one] at hv2 ⊢
  have a0 := (HV1.out.below hb2).at0 0 (by simp)
  have a1 := (HV1.out.below hb2).at0 1 (by simp)
  have a2 := hv2.at0 0 (by simp)
  simp only [List.getD_cons_zero, List.getD_cons_succ] at a0 a1 a2
  have HB := Lib.hid (HB1.out.trans (hb2.mono HB1.out.size))
  clear hv2 hb2
  go_wp2
  go_ret
  exact ⟨rfl, HB.out⟩

set_option maxHeartbeats 400000 in
theorem round_any (k : Int) (n : Nat) (h1 : 1 ≤ n) (h2 : n ≤ 1000) (w : World) : Calls Try.prog 20 #[.int .i64 k, .int .i64 (n : Int)] w fun e w' => (∃ r : Nat, r < n ∧ e = .returned (.int .i64 (r : Int))) ∧ w = w' := by
  obtain ⟨t, ht⟩ : ∃ t, k.tmod (n : Int) = t := ⟨_, rfl⟩
  have b1 : t < (n : Int) := by rw [← ht]; exact Int.tmod_lt_of_pos k (by omega)
  have b2 : -(n : Int) < t := by
    have := Int.lt_tmod_of_pos k (show (0 : Int) < (n : Int) by omega)
    rw [← ht]; exact this
  have hn0 : ¬ ((n : Int) = 0) := by omega
  by_cases h : t < 0
  · obtain ⟨r, hr⟩ : ∃ r : Nat, t + (n : Int) = (r : Int) := ⟨(t + n).toNat, by omega⟩
    have HR := Lib.hid hr
    have hlt : r < n := by omega
    clear hr
    go_enter Try.func20, Try.ntmps20
    go_wp2
    go_ret
    exact ⟨⟨r, hlt, by rw [← HR.out]; rfl⟩, rfl⟩
  · obtain ⟨r, hr⟩ : ∃ r : Nat, t = (r : Int) := ⟨t.toNat, by omega⟩
    have HR := Lib.hid hr
    have hlt : r < n := by omega
    clear hr
    go_enter Try.func20, Try.ntmps20
    go_wp2
    go_ret
    exact ⟨⟨r, hlt, by rw [← HR.out]; rfl⟩, rfl⟩

end Go.Proofs.Ytennafmbefnnmaa
