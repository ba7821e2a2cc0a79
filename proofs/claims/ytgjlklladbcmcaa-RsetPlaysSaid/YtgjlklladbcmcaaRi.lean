/- Proved: plain facts on a block that is put at its place in a row of rising blocks, step by step. -/
import Derived.Test.YtgjlklladbcmcaaRb
namespace Go.Proofs.Ytgjlklladbcmcaa
open Go.RowKit

def lo' (l : List Lt) (x : Int) : List Lt := l.filter fun y => decide (y.1.1 < x)
def hi' (l : List Lt) (x : Int) : List Lt := l.filter fun y => decide (x < y.1.1)
/-- What is laid out of the first blocks: z is put in or not. -/
def ins (l : List Lt) (z : Lt) (dn : Bool) : List Lt := if dn then lo' l z.1.1 ++ z :: hi' l z.1.1 else l
/-- Whether z has been put in behind so many. -/
def Dn (l : List Lt) (z : Lt) (dn : Bool) : Prop := (dn = true → ∃ y ∈ l, z.1.1 ≤ y.1.1) ∧ (dn = false → ∀ y ∈ l, y.1.1 < z.1.1)
theorem dn_nil (z : Lt) : Dn [] z false := ⟨fun h => (by cases h), fun _ y hy => (by cases hy)⟩
theorem map_lo (l : List Lt) (x : Int) : (lo' l x).map (·.1) = lo (l.map (·.1)) x := by unfold lo' lo; rw [List.filter_map]; rfl
theorem map_hi (l : List Lt) (x : Int) : (hi' l x).map (·.1) = hi (l.map (·.1)) x := by unfold hi' hi; rw [List.filter_map]; rfl
theorem lo_all {l : List Lt} {x : Int} (h : ∀ y ∈ l, y.1.1 < x) : lo' l x = l := List.filter_eq_self.2 fun y hy => decide_eq_true (h y hy)
theorem hi_none {l : List Lt} {x : Int} (h : ∀ y ∈ l, y.1.1 < x) : hi' l x = [] := List.filter_eq_nil_iff.2 fun y hy e => by have := of_decide_eq_true e; have := h y hy; omega
theorem lo_app (l m : List Lt) (x : Int) : lo' (l ++ m) x = lo' l x ++ lo' m x := List.filter_append ..
theorem hi_app (l m : List Lt) (x : Int) : hi' (l ++ m) x = hi' l x ++ hi' m x := List.filter_append ..
theorem lo_yes {y : Lt} {x : Int} (h : y.1.1 < x) : lo' [y] x = [y] := by unfold lo'; rw [List.filter_cons, if_pos (decide_eq_true h)]; rfl
theorem lo_no {y : Lt} {x : Int} (h : ¬ y.1.1 < x) : lo' [y] x = [] := by unfold lo'; rw [List.filter_cons, if_neg (by simpa using h)]; rfl
theorem hi_yes {y : Lt} {x : Int} (h : x < y.1.1) : hi' [y] x = [y] := by unfold hi'; rw [List.filter_cons, if_pos (decide_eq_true h)]; rfl
theorem hi_no {y : Lt} {x : Int} (h : ¬ x < y.1.1) : hi' [y] x = [] := by unfold hi'; rw [List.filter_cons, if_neg (by simpa using h)]; rfl
/-- Put in already: the next one is greater. -/
theorem ins_a {l : List Lt} {y z : Lt} (h : z.1.1 < y.1.1) : ins (l ++ [y]) z true = ins l z true ++ [y] := by
  unfold ins
  rw [if_pos rfl, if_pos rfl, lo_app, hi_app, lo_no (by omega), hi_yes h]; simp
theorem ins_b {l : List Lt} {y z : Lt} : ins (l ++ [y]) z false = ins l z false ++ [y] := rfl
theorem ins_c {l : List Lt} {y z : Lt} (hl : ∀ u ∈ l, u.1.1 < z.1.1) (h : y.1.1 = z.1.1) : ins (l ++ [y]) z true = ins l z false ++ [z] := by
  unfold ins
  rw [if_pos rfl, if_neg Bool.false_ne_true, lo_app, hi_app, lo_all hl, hi_none hl, lo_no (by omega), hi_no (by omega)]; simp
theorem ins_d {l : List Lt} {y z : Lt} (hl : ∀ u ∈ l, u.1.1 < z.1.1) (h : z.1.1 < y.1.1) : ins (l ++ [y]) z true = ins l z false ++ [z] ++ [y] := by
  unfold ins
  rw [if_pos rfl, if_neg Bool.false_ne_true, lo_app, hi_app, lo_all hl, hi_none hl, lo_no (by omega), hi_yes h]; simp
theorem dn_a {l : List Lt} {y z : Lt} (h : Dn l z true) : Dn (l ++ [y]) z true := ⟨fun _ => by obtain ⟨u, hu, h1⟩ := h.1 rfl; exact ⟨u, List.mem_append_left _ hu, h1⟩, fun h => by cases h⟩
theorem dn_b {l : List Lt} {y z : Lt} (h : Dn l z false) (hy : y.1.1 < z.1.1) : Dn (l ++ [y]) z false := ⟨fun h => (by cases h), fun _ u hu => by
  rcases List.mem_append.1 hu with hu | hu
  · exact h.2 rfl u hu
  · rw [List.mem_singleton.1 hu]; exact hy⟩
theorem dn_c {l : List Lt} {y z : Lt} (hy : z.1.1 ≤ y.1.1) : Dn (l ++ [y]) z true := ⟨fun _ => ⟨y, List.mem_append_right _ (List.mem_singleton.2 rfl), hy⟩, fun h => by cases h⟩
theorem ins_len (l : List Lt) (z : Lt) (dn : Bool) : (ins l z dn).length ≤ 2 * l.length + 1 := by
  unfold ins lo' hi'
  have h1 := List.length_filter_le (fun y : Lt => decide (y.1.1 < z.1.1)) l
  have h2 := List.length_filter_le (fun y : Lt => decide (z.1.1 < y.1.1)) l
  split
  · rw [List.length_append, List.length_cons]; omega
  · omega
/-- All of them laid out. -/
theorem ins_end {l : List Lt} {z : Lt} (h : Dn l z false) : ins l z false ++ [z] = ins l z true := by
  unfold ins
  rw [if_pos rfl, if_neg Bool.false_ne_true, lo_all (h.2 rfl), hi_none (h.2 rfl)]
theorem ins_is {S : St} {l : List Lt} {z : Lt} (hl : l.map (·.1) = ls S) (h1 : 0 ≤ z.1.1) (h2 : z.1.1 < (S.n : Int)) (h3 : z.1.2 ≠ []) : (ins l z true).map (·.1) = ls (upS S [z.1]) := by
  unfold ins
  rw [if_pos rfl, List.map_append, List.map_cons, map_lo, map_hi, hl]
  exact ls_put h1 h2 h3
theorem ins_mem {l : List Lt} {z x : Lt} {dn : Bool} (h : x ∈ ins l z dn) : x ∈ l ∨ x = z := by
  unfold ins at h
  split at h
  · rcases List.mem_append.1 h with h | h
    · exact Or.inl ((List.mem_filter.1 h).1)
    · rcases List.mem_cons.1 h with h | h
      · exact Or.inr h
      · exact Or.inl ((List.mem_filter.1 h).1)
  · exact Or.inl h
theorem lt_take (l : List Lt) (k : Nat) (h : k < l.length) : l.take (k + 1) = l.take k ++ [l.getD k lq] := by
  rw [List.take_succ_eq_append_getElem h, List.getD_eq_getElem?_getD, List.getElem?_eq_getElem h]; rfl
theorem lt_up {l : List Lt} (h : l.Pairwise (fun x y => x.1.1 < y.1.1)) {k : Nat} (hk : k < l.length) {y : Lt} (hy : y ∈ l.take k) : y.1.1 < (l.getD k lq).1.1 := by
  obtain ⟨j, hj, rfl⟩ := List.mem_iff_getElem.1 hy
  rw [List.length_take] at hj
  rw [List.getElem_take, List.getD_eq_getElem?_getD, List.getElem?_eq_getElem hk]
  exact List.pairwise_iff_getElem.1 h j k (by omega) hk (by omega)

end Go.Proofs.Ytgjlklladbcmcaa
