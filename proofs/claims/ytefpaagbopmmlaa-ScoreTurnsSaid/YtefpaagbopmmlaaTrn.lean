/- Proved: plain facts of a rank with one more zone that is worth nothing; what the law's Round gives. -/
import Derived.Test.YtefpaagbopmmlaaLedg
namespace Go.Proofs.Ytefpaagbopmmlaa
open Go.RowKit Go.Sort Fl

set_option maxHeartbeats 400000 in
theorem round_any (k : Int) (n : Nat) (h1 : 1 ≤ n) (h2 : n ≤ 1000) (w : World) : Calls Try.prog 20 #[.int .i64 k, .int .i64 (n : Int)] w fun e w' => (∃ r : Nat, r < n ∧ e = .returned (.int .i64 (r : Int))) ∧ w = w' := by
  obtain ⟨t, ht⟩ : ∃ t, k.tmod (n : Int) = t := ⟨_, rfl⟩
  have b1 : t < (n : Int) := by rw [← ht]; exact Int.tmod_lt_of_pos k (by omega)
  have b2 : -(n : Int) < t := by
    have := Int.lt_tmod_of_pos k (show (0 : Int) < (n : Int) by omega)
    rw [← ht]; exact this
  have hn0 : ¬ ((n : Int) = 0) := by omega
  by_cases h : t < 0
  · obtain ⟨r, hr⟩ : ∃ r : Nat, t + (n : Int) = (r : Int) := ⟨(t + n).toNat, by omega⟩
    have HR := Lib.hid hr
    have hlt : r < n := by omega
    clear hr
    go_enter Try.func20, Try.ntmps20
    go_wp2
    go_ret
    exact ⟨⟨r, hlt, by rw [← HR.out]; rfl⟩, rfl⟩
  · obtain ⟨r, hr⟩ : ∃ r : Nat, t = (r : Int) := ⟨t.toNat, by omega⟩
    have HR := Lib.hid hr
    have hlt : r < n := by omega
    clear hr
    go_enter Try.func20, Try.ntmps20
    go_wp2
    go_ret
    exact ⟨⟨r, hlt, by rw [← HR.out]; rfl⟩, rfl⟩

/-- The zone that is worth nothing, laid at place k. -/
def ins (Z : List (Int × Int × Int)) (k : Nat) : List (Int × Int × Int) := Z.take k ++ (3, 3, 0) :: Z.drop k
def shift (k j : Nat) : Nat := if k ≤ j then j + 1 else j
theorem ins_len (Z : List (Int × Int × Int)) (k : Nat) (h : k ≤ Z.length) : (ins Z k).length = Z.length + 1 := by unfold ins; simp; omega
theorem ins_at (Z : List (Int × Int × Int)) (k : Nat) (h : k ≤ Z.length) : zn (ins Z k) k = (3, 3, 0) := by
  unfold zn ins
  rw [List.getD_eq_getElem?_getD, List.getElem?_append_right (by simp; omega), List.length_take, Nat.min_eq_left h, Nat.sub_self]
  rfl
theorem ins_shift (Z : List (Int × Int × Int)) (k j : Nat) (h : k ≤ Z.length) : zn (ins Z k) (shift k j) = zn Z j := by
  have hl : (Z.take k).length = k := by simp; omega
  unfold zn ins shift
  rw [List.getD_eq_getElem?_getD, List.getD_eq_getElem?_getD]
  by_cases hj : k ≤ j
  · rw [if_pos hj, List.getElem?_append_right (by omega), hl, show j + 1 - k = (j - k) + 1 by omega, List.getElem?_cons_succ, List.getElem?_drop, show k + (j - k) = j by omega]
  · rw [if_neg hj, List.getElem?_append_left (by omega), List.getElem?_take, if_pos (by omega)]
theorem nothing (now : Int) {Z : List (Int × Int × Int)} {k : Nat} (h : zn Z k = (3, 3, 0)) : ¬ okz Z now k := by
  rintro ⟨h1, h2, h3⟩
  unfold wz at h3
  rw [h] at h1 h2 h3
  obtain ⟨⟨a1, a2, a3, a4, a5⟩, a6, a7⟩ := h1
  obtain ⟨u1, _, _, _, u5⟩ := use_facts 3 3 (by omega) (by omega) (by omega) (by omega)
  have e : scV 3 3 0 now = scoreW (useW 3 3) (now - 0) := by unfold scV; rw [if_neg (by omega), if_neg (by omega)]
  have := (score_facts (useW 3 3) (now - 0) u1 (by have : (0 : Int) ≤ now := a6; omega) (by have : now ≤ (1099511627776 : Int) := a7; omega)).2.2.1 (u5.2 rfl)
  exact h3 (e.trans this)
theorem okz_shift (Z : List (Int × Int × Int)) (now : Int) (k j : Nat) (h : k ≤ Z.length) : okz (ins Z k) now (shift k j) ↔ okz Z now j := by
  unfold okz wz
  rw [ins_shift Z k j h]
theorem range_shift (k : Nat) : ∀ n, k ≤ n → (List.range (n + 1)).Perm (k :: (List.range n).map (shift k)) := by
  intro n hn
  induction n with
  | zero =>
    obtain rfl : k = 0 := by omega
    exact List.Perm.refl _
  | succ n ih =>
    by_cases h : k ≤ n
    · rw [List.range_succ (n := n + 1)]
      have e : (List.range (n + 1)).map (shift k) = (List.range n).map (shift k) ++ [n + 1] := by
        rw [List.range_succ, List.map_append]
        simp only [List.map_cons, List.map_nil]
        rw [show shift k n = n + 1 from if_pos h]
      rw [e, ← List.cons_append]
      exact List.Perm.append_right _ (ih h)
    · obtain rfl : k = n + 1 := by omega
      have e : (List.range (n + 1)).map (shift (n + 1)) = List.range (n + 1) := by
        conv => rhs; rw [← List.map_id (List.range (n + 1))]
        refine List.map_congr_left (fun j hj => ?_)
        rw [List.mem_range] at hj
        exact if_neg (by omega)
      rw [e, List.range_succ]
      exact List.perm_append_singleton _ _
theorem kept_shift (Z : List (Int × Int × Int)) (now : Int) (k : Nat) (h : k ≤ Z.length) : ((kept Z now Z.length).map (shift k)).Perm (kept (ins Z k) now (ins Z k).length) := by
  rw [ins_len Z k h]
  unfold kept
  have h1 := (range_shift k Z.length h).filter (fun j => decide (okz (ins Z k) now j))
  rw [List.filter_cons, if_neg (by simpa using nothing now (ins_at Z k h)), List.filter_map] at h1
  have e : ((fun j => decide (okz (ins Z k) now j)) ∘ shift k) = fun j => decide (okz Z now j) := by
    funext j
    show decide _ = decide _
    rw [decide_eq_decide]
    exact okz_shift Z now k j h
  rw [e] at h1
  exact h1.symm
theorem rank_shift {Z : List (Int × Int × Int)} {now : Int} {R : List Nat} (hR : IsRank Z now R) (k : Nat) (h : k ≤ Z.length) : IsRank (ins Z k) now (R.map (shift k)) := by
  refine ⟨(hR.p.map _).trans (kept_shift Z now k h), ?_⟩
  rw [List.pairwise_map]
  refine hR.o.imp (fun {i j} hij => ?_)
  unfold Tr wz at *
  rw [ins_shift Z k i h, ins_shift Z k j h]
  rcases hij with h1 | ⟨h1, h2⟩
  · exact .inl h1
  · refine .inr ⟨h1, ?_⟩
    unfold shift
    split <;> split <;> omega

end Go.Proofs.Ytefpaagbopmmlaa
