/- Proved: the law ScoreRanks answers true at all zones and times. -/
import Derived.Test.YtefpaagbopmmlaaRal
namespace Go.Proofs.Ytefpaagbopmmlaa
open Go.RowKit Go.Sort Fl

set_option maxHeartbeats 1000000 in
theorem lrnk_big (a : Option Addr) (n cap : Nat) (now : Int) (h : 200 < n) (w : World) : Calls Try.prog 4 #[.slice a n cap, .int .i64 now] w (Gives (.bool true) w) := by
  have q1 : decide (n ≤ 200) = false := decide_eq_false (by omega)
  clear h
  go_enter Try.func4, Try.ntmps4
  go_wp2_with (first | (go_at_call 15; refine (small_any _ _ _ _).mono ?_; rintro e w' ⟨rfl, rfl⟩) | (go_at_call 14; refine (awake_any _).mono ?_; rintro e w' ⟨rfl, hb⟩))
  go_ret
  exact ⟨rfl, hb⟩

theorem nview_nil {w : World} {v : Value} (h : NView w v []) : v = .slice none 0 0 := by
  rcases h with ⟨h, _⟩ | ⟨g, off, cap, _, h, _⟩
  · exact h
  · exact absurd h (by simp)
theorem nview_some {w : World} {v : Value} {R : List Nat} (h : NView w v R) (h0 : R ≠ []) : ∃ g off cap, v = .slice (some ⟨g, off, none⟩) R.length cap := by
  rcases h with ⟨_, h⟩ | ⟨g, off, cap, h, _⟩
  · exact absurd h h0
  · exact ⟨g, off, cap, h⟩
theorem nview_cell {w : World} {g off cap n : Nat} {R : List Nat} (h : NView w (.slice (some ⟨g, off, none⟩) n cap) R) (j : Nat) (hj : j < R.length) : w.cell? ⟨g, off + j, none⟩ = some (.int .i64 ((R.getD j 0 : Nat) : Int)) := by
  rcases h with ⟨_, h⟩ | ⟨g', off', cap', h, _, _, hc⟩
  · rw [h] at hj; exact absurd hj (by simp)
  · injection h with h1
    injection h1 with h2
    injection h2 with h3 h4
    subst h3 h4
    exact hc j hj

set_option maxHeartbeats 4000000 in
set_option maxRecDepth 100000 in
theorem lrnk_small (a : Option Addr) (n cap : Nat) (now : Int) (Z : List (Int × Int × Int)) (h : n ≤ 200) (hZ : Z.length = n) (w : World) (hv : ZView w (.slice a n cap) Z) :
    Calls Try.prog 4 #[.slice a n cap, .int .i64 now] w (Gives (.bool true) w) := by
  have q1 : decide (n ≤ 200) = true := decide_eq_true h
  have hn : Z.length ≤ 1000 := by omega
  have hr := fun w' (hA : At w w') => rrank_any (.slice a n cap) Z now w' (hA.zview hv) hn
  have hl := fun R (hR : IsRank Z now R) w' (hA : At w w') => (rank_any (.slice a n cap) Z now w' (hA.zview hv) hn).mono (R' := fun e w2 => ∃ u, e = .returned u ∧ NView w2 u R ∧ Below w'.heap.size w' w2) (fun e w2 ⟨u, S, he, hS, hN, hB⟩ => ⟨u, he, by rw [rank_one hR hS]; exact hN, hB⟩)
  have hc := fun R (hR : IsRank Z now R) w' (hA : At w w') => choose_any (.slice a n cap) Z now w' (hA.zview hv) hn R hR
  have HR := Lib.hid hr
  have HL := Lib.hid hl
  have HC := Lib.hid hc
  have HRL : Hid (∀ R, IsRank Z now R → R.length ≤ 1000) := Lib.hid (fun R hR => by
    have := kept_len Z now Z.length
    rw [← hR.p.length_eq] at this
    omega)
  have hA0 := At.start w
  clear hr hl hc hv hn hZ h
  go_enter Try.func4, Try.ntmps4
  go_wp2_with (first
    | (go_at_call 15; refine (small_any _ _ _ _).mono ?_; rintro e w' ⟨rfl, rfl⟩)
    | (go_at_call 16; refine (HR.out _ hA0).mono ?_; rintro e w2 ⟨u, R, rfl, hR, hN, hB⟩; replace hA0 := At.next hA0 hB; have HRR := Lib.hid hR; have HN := Lib.hid hN; clear hB hR hN))
  by_cases h0 : R = []
  · subst h0
    obtain rfl := nview_nil HN.out
    have HC2 := Lib.hid (HC.out [] HRR.out)
    have HL2 := Lib.hid (HL.out [] HRR.out)
    unfold Chosen at HC2
    clear HN HC HL HR
    go_wp2_with (first
      | (go_at_call 17; refine (HC2.out _ hA0).mono ?_; rintro e w3 ⟨rfl, hB⟩; replace hA0 := At.next hA0 hB; clear hB)
      | (go_at_call 18; refine (HL2.out _ hA0).mono ?_; rintro e w4 ⟨u2, rfl, hN, hB⟩; replace hA0 := At.next hA0 hB; obtain rfl := nview_nil hN; clear hB hN)
      | (go_at_call 14; refine (awake_any _).mono ?_; rintro e w5 ⟨rfl, hB⟩; replace hA0 := At.next hA0 hB; clear hB))
    go_ret
    exact ⟨rfl, hA0⟩
  · have HC2 := Lib.hid (HC.out R HRR.out)
    have HL2 := Lib.hid (HL.out R HRR.out)
    have HI := Lib.hid (fun u v w hu hv => ints_any u v R w hu hv (HRL.out R HRR.out))
    obtain ⟨g, off, cp, rfl⟩ := nview_some HN.out h0
    have hl : 0 < R.length := List.length_pos_iff.2 h0
    have hnz : ((R.length : Int) == 0) = false := by rw [beq_eq_false_iff_ne]; omega
    have hli : (0 : Int) < (R.length : Int) := by omega
    have HCE : Hid (Chosen R = .tuple #[.int .i64 ((R.getD 0 0 : Nat) : Int), .int .i64 0]) := Lib.hid (by unfold Chosen; rw [if_neg h0])
    rw [HCE.out] at HC2
    have HCL := Lib.hid (fun w (h : NView w (.slice (some ⟨g, off, none⟩) R.length cp) R) => nview_cell h 0 hl)
    obtain ⟨x, hx⟩ : ∃ x, x = R.getD 0 0 := ⟨_, rfl⟩
    rw [← hx] at HC2 HCL
    clear HC HL HR h0 hx HCE
    go_wp2_with (first
      | (go_at_call 17; refine (HC2.out _ hA0).mono ?_; rintro e w3 ⟨rfl, hB⟩; replace hA0 := At.next hA0 hB; have HNc := Lib.hid (nview_below HN.out hB); clear hB)
      | (go_at_call 18; refine (HL2.out _ hA0).mono ?_; rintro e w4 ⟨u2, rfl, hN, hB⟩; replace hA0 := At.next hA0 hB; have HNr := Lib.hid (nview_below HNc.out hB); have HNu := Lib.hid hN; clear hB hN)
      | (go_at_call 19; refine (HI.out _ _ _ HNu.out HNr.out).mono ?_; rintro e w5 ⟨rfl, hB⟩; replace hA0 := At.next hA0 hB; have hcc := HCL.out _ (nview_below HNr.out hB); rw [Nat.add_zero] at hcc; clear hB)
      | (go_at_call 14; refine (awake_any _).mono ?_; rintro e w6 ⟨rfl, hB⟩; replace hA0 := At.next hA0 hB; clear hB))
    go_ret
    exact ⟨rfl, hA0⟩

end Go.Proofs.Ytefpaagbopmmlaa
