/- Proved: plain facts on the vector that the law WbufRefused writes: so many blocks from 40 on, one more, and perhaps the first one again. -/
import Derived.Test.YthaiddhbifakhaaBln
namespace Go.Proofs.Ythaiddhbifakhaa
open Go.RowKit

def lp (m : Nat) : List Pt := (List.range m).map fun j : Nat => (((40 : Int) + (j : Int), bk (j : Int)) : Pt)
theorem lp_succ (m : Nat) : lp (m + 1) = lp m ++ [((40 : Int) + (m : Int), bk (m : Int))] := by unfold lp; rw [List.range_succ, List.map_append]; rfl
theorem lp_len (m : Nat) : (lp m).length = m := by unfold lp; simp
theorem lp_mem {m : Nat} {p : Pt} (h : p ∈ lp m) : ∃ j : Nat, j < m ∧ p = ((40 : Int) + (j : Int), bk (j : Int)) := by
  unfold lp at h
  obtain ⟨j, hj, rfl⟩ := List.mem_map.1 h
  exact ⟨j, List.mem_range.1 hj, rfl⟩
theorem lp_in {m j : Nat} (h : j < m) : ((40 : Int) + (j : Int), bk (j : Int)) ∈ lp m := List.mem_map.2 ⟨j, List.mem_range.2 h, rfl⟩
theorem lp_un (m : Nat) : Un (lp m) := by
  unfold Un lp
  rw [List.map_map]
  exact List.Pairwise.map _ (fun a b hab e => hab (by simp only [Function.comp] at e; omega)) List.nodup_range
theorem lp_by (m : Nat) : AllBy (lp m) := fun p hp => by obtain ⟨j, _, rfl⟩ := lp_mem hp; exact bk_byte _
/-- The first one again, or nothing. -/
def tl (tw : Bool) : List Pt := if tw then [((40 : Int), bk 0)] else []
def vp (m : Nat) (x : Int) (L : List Nat) (tw : Bool) : List Pt := lp m ++ ((x, L) :: tl tw)
theorem tl_mem {tw : Bool} {p : Pt} (h : p ∈ tl tw) : p = ((40 : Int), bk 0) := by cases tw <;> simp [tl] at h; exact h
theorem vp_mem {m : Nat} {x : Int} {L : List Nat} {tw : Bool} {p : Pt} (hm : m ≤ 20) (h : p ∈ vp m x L tw) : p = (x, L) ∨ (0 ≤ p.1 ∧ p.1 < 100 ∧ p.2.length = 40) := by
  unfold vp at h
  rcases List.mem_append.1 h with h | h
  · obtain ⟨j, hj, rfl⟩ := lp_mem h
    exact Or.inr ⟨by simp only; omega, by simp only; omega, bk_len _⟩
  · rcases List.mem_cons.1 h with h | h
    · exact Or.inl h
    · rw [tl_mem h]; exact Or.inr ⟨by decide, by decide, bk_len _⟩
theorem vp_by {m : Nat} {x : Int} {L : List Nat} {tw : Bool} (hL : AllB L) : AllBy (vp m x L tw) := fun p hp => by
  unfold vp at hp
  rcases List.mem_append.1 hp with h | h
  · exact lp_by m p h
  · rcases List.mem_cons.1 h with rfl | h
    · exact hL
    · rw [tl_mem h]; exact bk_byte _
theorem vp_in (m : Nat) (x : Int) (L : List Nat) (tw : Bool) : (x, L) ∈ vp m x L tw := List.mem_append_right _ List.mem_cons_self
theorem vp_ne (m : Nat) (x : Int) (L : List Nat) (tw : Bool) : vp m x L tw ≠ [] := List.ne_nil_of_mem (vp_in m x L tw)
def s0 : St := st0 100 16
theorem vp_2 {m : Nat} {x : Int} {L : List Nat} {tw : Bool} (h : ¬ (0 ≤ x ∧ x < 100)) : rf s0 (vp m x L tw) = 2 := rf_range (vp_ne _ _ _ _) ⟨_, vp_in .., h⟩
theorem vp_rng {m : Nat} {x : Int} {L : List Nat} {tw : Bool} (hm : m ≤ 20) (h : 0 ≤ x ∧ x < 100) : ¬ ∃ p ∈ vp m x L tw, ¬ (0 ≤ p.1 ∧ p.1 < (s0.n : Int)) := fun ⟨p, hp, e⟩ => e (by
  rcases vp_mem hm hp with rfl | h1
  · exact h
  · exact ⟨h1.1, h1.2.1⟩)
theorem vp_3 {m : Nat} {x : Int} {L : List Nat} {tw : Bool} (hm : m ≤ 20) (h : 0 ≤ x ∧ x < 100) (hL : L.length ≠ 40) : rf s0 (vp m x L tw) = 3 := rf_len (vp_ne _ _ _ _) (vp_rng hm h) ⟨_, vp_in .., hL⟩
theorem vp_each {m : Nat} {x : Int} {L : List Nat} {tw : Bool} (hm : m ≤ 20) (h : 0 ≤ x ∧ x < 100) (hL : L.length = 40) : Each s0 (vp m x L tw) :=
  each_of (vp_ne _ _ _ _) (vp_rng hm h) fun ⟨p, hp, e⟩ => e (by
    rcases vp_mem hm hp with rfl | h1
    · exact hL
    · exact h1.2.2)
theorem vp_4 {m : Nat} {x : Int} {L : List Nat} {tw : Bool} (hm : m ≤ 20) (h1 : 1 ≤ m) (h : 0 ≤ x ∧ x < 100) (hL : L.length = 40) (hd : tw = true ∨ (40 ≤ x ∧ x < 40 + (m : Int))) : rf s0 (vp m x L tw) = 4 := by
  refine rf_over (vp_each hm h hL) fun hu => ?_
  unfold Un vp at hu
  rw [List.map_append, List.nodup_append] at hu
  rcases hd with rfl | hd
  · refine hu.2.2 40 (List.mem_map.2 ⟨_, lp_in (show 0 < m by omega), by simp⟩) 40 ?_ rfl
    exact List.mem_cons_of_mem _ (by simp [tl])
  · obtain ⟨j, hj⟩ : ∃ j : Nat, x = 40 + (j : Int) := ⟨(x - 40).toNat, by omega⟩
    exact hu.2.2 x (List.mem_map.2 ⟨_, lp_in (show j < m by omega), hj.symm⟩) x List.mem_cons_self rfl
theorem vp_un {m : Nat} {x : Int} {L : List Nat} (hd : ¬ (40 ≤ x ∧ x < 40 + (m : Int))) : Un (vp m x L false) := by
  unfold Un vp
  rw [List.map_append]
  refine List.nodup_append.2 ⟨lp_un m, by simp [tl], fun a ha b hb e => ?_⟩
  have hb' : b = x := by simpa [tl] using hb
  obtain ⟨p, hp, rfl⟩ := List.mem_map.1 ha
  obtain ⟨j, hj, rfl⟩ := lp_mem hp
  simp only at e
  omega
theorem fr_all (P : List Pt) : fr s0 P = P.length := by
  unfold fr
  rw [List.filter_eq_self.2 fun (p : Pt) _ => (rfl : (s0.g p.1.toNat).isEmpty = true)]
theorem vp_len (m : Nat) (x : Int) (L : List Nat) : (vp m x L false).length = m + 1 := by unfold vp; rw [List.length_append, lp_len]; rfl
theorem vp_us {m : Nat} {x : Int} {L : List Nat} (hm : m ≤ 20) (h : 0 ≤ x ∧ x < 100) (hL : L.length = 40) (hd : ¬ (40 ≤ x ∧ x < 40 + (m : Int))) : (us (upS s0 (vp m x L false))).length = m + 1 := by
  have he := vp_each (tw := false) hm h hL
  rw [us_fr _ he.rng he.ne2 (vp_un hd), fr_all, vp_len]
  show (us (st0 100 16)).length + _ = _
  rw [us_st0]; simp
theorem vp_7 {m : Nat} {x : Int} {L : List Nat} (hm : m ≤ 20) (h : 0 ≤ x ∧ x < 100) (hL : L.length = 40) (hd : ¬ (40 ≤ x ∧ x < 40 + (m : Int))) (hb : 16 < (m : Int) + 1) : rf s0 (vp m x L false) = 7 :=
  rf_big (vp_each hm h hL) (vp_un hd) (by rw [vp_us hm h hL hd]; show (16 : Int) < _; omega)
theorem vp_0 {m : Nat} {x : Int} {L : List Nat} (hm : m ≤ 20) (h : 0 ≤ x ∧ x < 100) (hL : L.length = 40) (hd : ¬ (40 ≤ x ∧ x < 40 + (m : Int))) (hb : ¬ 16 < (m : Int) + 1) : rf s0 (vp m x L false) = 0 :=
  Fine.rf ⟨vp_each hm h hL, vp_un hd, by rw [vp_us hm h hL hd]; show _ ≤ (16 : Int); omega⟩
/-- How many blocks are there behind it. -/
theorem vp_wr {m : Nat} {x : Int} {L : List Nat} {tw : Bool} : ((rf s0 (vp m x L tw) = 0) → 0 < (us (wr s0 (vp m x L tw))).length) ∧ ((rf s0 (vp m x L tw) ≠ 0) → (us (wr s0 (vp m x L tw))).length = 0) := by
  constructor
  · intro h
    have hf := fine_of h
    rw [wr_yes h, us_fr _ hf.rng hf.toEach.ne2 hf.un, fr_all]
    have := List.length_pos_iff.2 (vp_ne m x L tw)
    omega
  · intro h
    rw [wr_no h]
    show (us (st0 100 16)).length = 0
    rw [us_st0]; rfl

end Go.Proofs.Ythaiddhbifakhaa
