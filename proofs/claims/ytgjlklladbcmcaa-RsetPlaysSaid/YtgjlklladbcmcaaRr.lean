/- Proved: words for a row of reads: each one's block, its bytes beside it, whether it was one's own. -/
import Derived.Test.YtgjlklladbcmcaaBo
import Derived.Test.YtgjlklladbcmcaaERe
namespace Go.Proofs.Ytgjlklladbcmcaa
open Go.RowKit

/-- A read: its block, its bytes, whether it was one's own. -/
structure Rd where
  n : Int
  d : List Nat
  o : Bool
def rz : Rd := ⟨0, [], false⟩
/-- A read as it lies: where its bytes lie, their room. -/
abbrev Lr := Rd × Nat × Nat
def lrz : Lr := (rz, 0, 0)
def rcs : List Lr → List Value
  | [] => []
  | x :: l => .int .i64 x.1.n :: .slice (some ⟨x.2.1, 0, none⟩) 40 x.2.2 :: .bool x.1.o :: rcs l
theorem rcs_len : ∀ l, (rcs l).length = l.length * 3
  | [] => rfl
  | _ :: l => by simp [rcs, rcs_len l]; omega
theorem rcs_app : ∀ l m, rcs (l ++ m) = rcs l ++ rcs m
  | [], _ => rfl
  | x :: l, m => by simp [rcs, rcs_app l m]
theorem rcs_one : ∀ (l : List Lr) (u : Value), u ∈ rcs l → u.oneCell' = true
  | [], _, h => by cases h
  | x :: l, u, h => by
    rw [rcs] at h
    rcases List.mem_cons.1 h with rfl | h
    · rfl
    rcases List.mem_cons.1 h with rfl | h
    · rfl
    rcases List.mem_cons.1 h with rfl | h
    · rfl
    exact rcs_one l u h
theorem rcs_at : ∀ (l : List Lr) (j : Nat) (x : Lr), l[j]? = some x → (rcs l)[j * 3]? = some (.int .i64 x.1.n) ∧ (rcs l)[j * 3 + 1]? = some (.slice (some ⟨x.2.1, 0, none⟩) 40 x.2.2) ∧ (rcs l)[j * 3 + 2]? = some (.bool x.1.o)
  | [], _, _, h => by simp at h
  | y :: l, 0, x, h => by simp at h; subst h; exact ⟨rfl, rfl, rfl⟩
  | y :: l, j + 1, x, h => by
    simp at h
    have := rcs_at l j x h
    rw [show (j + 1) * 3 = j * 3 + 1 + 1 + 1 by omega]
    exact this
theorem read_parts : ∃ i z, Try.prog.info? 67 = some i ∧ i.zero = some z ∧ i.size = 3 ∧ i.bytes = 40 ∧ z.cells.size = 3 := by
  cases h : Try.prog.info? 67 with
  | none => exact absurd h (by have : (Try.prog.info? 67).isSome = true := by kernel_rfl
                               intro e; rw [e] at this; cases this)
  | some i =>
    have h1 : (Try.prog.info? 67).map (fun i => (i.zero, i.size, i.bytes)) = some (some (.agg #[.int .i64 0, .slice none 0 0, .bool false]), 3, 40) := by kernel_rfl
    rw [h] at h1
    simp only [Option.map_some, Option.some.injEq, Prod.mk.injEq] at h1
    exact ⟨i, _, rfl, h1.1, h1.2.1, h1.2.2, rfl⟩

/-- The slice v is a row of the program's own of those reads, each one's bytes beside it. -/
structure Rw (w : World) (v : Value) (l : List Lr) : Prop where
  row : w.ownsRow 0 67 3 v l.length (rcs l)
  bv : ∀ x ∈ l, BV w (some ⟨x.2.1, 0, none⟩) x.1.d ∧ x.2.1 < w.heap.size
  by_ : ∀ x ∈ l, x.1.d.length = 40 ∧ AllB x.1.d
theorem Rw.nil (w : World) : Rw w (.slice none 0 0) [] := ⟨World.ownsRow_nil _ _ _ _, fun _ h => (by cases h), fun _ h => (by cases h)⟩
section
variable {w w' : World} {v : Value} {l : List Lr}
theorem Rw.on (h : Rw w v l) (hA : At w w') : Rw w' v l := ⟨row_on h.row hA, fun x hx => ⟨(h.bv x hx).1.below hA, Nat.lt_of_lt_of_le (h.bv x hx).2 hA.size⟩, h.by_⟩
theorem Rw.lt (h : Rw w v l) {g : Nat} (hg : v.ownBlock = some g) : g < w.heap.size := (row_lt h.row hg).1
theorem Rw.mv {F : Nat → Prop} (h : Rw w v l) (hm : Mv F w w') (hv : ∀ g, v.ownBlock = some g → ¬ F g) (hx : ∀ x ∈ l, ¬ F x.2.1) : Rw w' v l := by
  refine ⟨⟨h.row.1, ?_⟩, fun x hxm => ⟨bv_mv (h.bv x hxm).1 hm (hx x hxm), Nat.lt_of_lt_of_le (h.bv x hxm).2 hm.size⟩, h.by_⟩
  rcases h.row.2 with h1 | ⟨g, cap, cur, hv', hB, hh, hr⟩
  · exact Or.inl h1
  · exact Or.inr ⟨g, cap, cur, hv', hB, hm.keep hh (hv g (by rw [hv']; rfl)), hr⟩
theorem Rw.form (h : Rw w v l) : ∃ A c, v = .slice A l.length c ∧ (A = none → l.length = 0 ∧ c = 0) ∧ (0 < l.length → ∃ g, A = some ⟨g, 0, none⟩ ∧ g < w.heap.size ∧ ∀ j, j < l.length → w.cell? ⟨g, j * 3, none⟩ = some (.int .i64 (l.getD j lrz).1.n) ∧ w.cell? ⟨g, j * 3 + 1, none⟩ = some (.slice (some ⟨(l.getD j lrz).2.1, 0, none⟩) 40 (l.getD j lrz).2.2) ∧ w.cell? ⟨g, j * 3 + 2, none⟩ = some (.bool (l.getD j lrz).1.o)) := by
  rcases Joins.ownsRow_forms h.row with ⟨rfl, h0⟩ | ⟨g, cap, rfl⟩
  · exact ⟨none, 0, by rw [h0], fun _ => ⟨h0, rfl⟩, fun h1 => by omega⟩
  · refine ⟨_, cap, rfl, (fun e => by cases e), fun _ => ⟨g, rfl, h.lt rfl, fun j hj => ?_⟩⟩
    have hc := h.row.cells (g := g) rfl
    obtain ⟨h1, h2, h3⟩ := rcs_at l j l[j] (List.getElem?_eq_getElem hj)
    have k1 := hc _ _ h1
    have k2 := hc _ _ h2
    have k3 := hc _ _ h3
    rw [Go.WideShapes.add_plain, Nat.zero_add] at k1 k2 k3
    have e : l.getD j lrz = l[j] := by rw [List.getD_eq_getElem?_getD, List.getElem?_eq_getElem hj]; rfl
    rw [e]
    exact ⟨k1, k2, k3⟩
theorem lr_mem {j : Nat} (hj : j < l.length) : l.getD j lrz ∈ l := by
  rw [List.getD_eq_getElem?_getD, List.getElem?_eq_getElem hj]; exact List.getElem_mem _
/-- The row's block is none of its bytes'. -/
theorem Rw.ap (h : Rw w v l) {x : Lr} (hx : x ∈ l) : v.ownBlock ≠ some x.2.1 := by
  intro e
  obtain ⟨A, c, rfl, _, hf⟩ := h.form
  obtain ⟨g, rfl, _, hc⟩ := hf (List.length_pos_of_mem hx)
  injection e with e
  obtain ⟨b', o', e1, _, hb⟩ := (h.bv x hx).1.pos (by rw [(h.by_ x hx).1]; omega)
  injection e1 with e1
  injection e1 with e2 e3
  subst e2 e3
  have h1 := hb 0 (by rw [(h.by_ x hx).1]; omega)
  have h2 := (hc 0 (List.length_pos_of_mem hx)).1
  rw [← e] at h1
  rw [Nat.zero_mul] at h2
  rw [h2] at h1
  simp at h1
/-- One read more behind such a row. -/
theorem Rw.more {w3 w4 : World} {a : Int} {d : List Nat} {o : Bool} {gc cc gg cap : Nat} (h : Rw w3 v l) (hb : BV w3 (some ⟨gc, 0, none⟩) d) (hgl : gc < w3.heap.size) (hd : d.length = 40 ∧ AllB d) (hnb : v.ownBlock ≠ some gc)
    (hown : w4.ownsRow 0 67 3 (.slice (some ⟨gg, 0, none⟩) (l.length + 1) cap) (l.length + 1) (rcs l ++ [.int .i64 a, .slice (some ⟨gc, 0, none⟩) 40 cc, .bool o])) (hgrow : w3.grownBy w4 v.ownBlock) :
    Rw w4 (.slice (some ⟨gg, 0, none⟩) (l.length + 1) cap) (l ++ [((⟨a, d, o⟩ : Rd), gc, cc)]) := by
  have hmv : Mv (fun j => v.ownBlock = some j) w3 w4 := (Mv.refl _ _).grown hgrow fun j hj => Or.inl hj
  refine ⟨?_, fun y hy => ?_, fun y hy => ?_⟩
  · rw [rcs_app, List.length_append]
    exact hown
  · rcases List.mem_append.1 hy with hy | hy
    · exact ⟨bv_mv (h.bv y hy).1 hmv (h.ap hy), Nat.lt_of_lt_of_le (h.bv y hy).2 hmv.size⟩
    · rw [List.mem_singleton] at hy
      subst hy
      exact ⟨bv_mv hb hmv hnb, Nat.lt_of_lt_of_le hgl hmv.size⟩
  · rcases List.mem_append.1 hy with hy | hy
    · exact h.by_ y hy
    · rw [List.mem_singleton] at hy
      subst hy
      exact hd
end

/-- What a block reads as: the buffer's bytes, else the map's at the time. -/
def see (M : Em.St) (B : St) (at_ : Int) (k : Nat) : Rd := if B.g k = [] then ⟨(k : Int), (Em.rdv (M.V k) at_).2, false⟩ else ⟨(k : Int), B.g k, true⟩
def sees (M : Em.St) (B : St) (at_ : Int) (a n : Nat) : List Rd := (List.range n).map fun i => see M B at_ (a + i)
theorem see_own {M : Em.St} {B : St} {at_ : Int} {k : Nat} (h : B.g k ≠ []) : see M B at_ k = ⟨(k : Int), B.g k, true⟩ := if_neg h
theorem see_map {M : Em.St} {B : St} {at_ : Int} {k : Nat} (h : B.g k = []) : see M B at_ k = ⟨(k : Int), (Em.rdv (M.V k) at_).2, false⟩ := if_pos h
theorem sees_len (M : Em.St) (B : St) (at_ : Int) (a n : Nat) : (sees M B at_ a n).length = n := by unfold sees; rw [List.length_map, List.length_range]
theorem sees_more (M : Em.St) (B : St) (at_ : Int) (a n : Nat) : sees M B at_ a (n + 1) = sees M B at_ a n ++ [see M B at_ (a + n)] := by unfold sees; rw [List.range_succ, List.map_append]; rfl
theorem see_by {M : Em.St} {B : St} (hM : Em.Ok M) (hB : Ok B) (at_ : Int) (k : Nat) : (see M B at_ k).d.length = 40 ∧ AllB (see M B at_ k).d := by
  by_cases h : B.g k = []
  · rw [see_map h]; exact ⟨hM.rd_len k at_, hM.rd_byte k at_⟩
  · rw [see_own h]; exact hB.v k h
/-- All their bytes. -/
def byt (R : List Rd) : List Nat := R.flatMap fun r => r.d
theorem byt_app (R T : List Rd) : byt (R ++ T) = byt R ++ byt T := by unfold byt; rw [List.flatMap_append]
theorem byt_one (r : Rd) : byt [r] = r.d := by unfold byt; simp
theorem byt_len : ∀ (R : List Rd), (∀ r ∈ R, r.d.length = 40) → (byt R).length = 40 * R.length
  | [], _ => rfl
  | r :: R, h => by
    have e : byt (r :: R) = r.d ++ byt R := rfl
    rw [e, List.length_append, byt_len R fun x hx => h x (List.mem_cons_of_mem _ hx), h r List.mem_cons_self, List.length_cons]
    omega
theorem byt_by {R : List Rd} (h : ∀ r ∈ R, AllB r.d) : AllB (byt R) := fun c hc => by
  obtain ⟨r, hr, h1⟩ := List.mem_flatMap.1 hc
  exact h r hr c h1

end Go.Proofs.Ytgjlklladbcmcaa
