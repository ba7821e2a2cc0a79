/- Proved: the document's own Rank answers with the one rank of the zones. -/
import Derived.Test.YtefpaagbopmmlaaRan
namespace Go.Proofs.Ytefpaagbopmmlaa
open Go.RowKit Go.Sort Fl

def fz (Z : List (Int × Int × Int)) (now : Int) (j : Nat) : Value := .float .f64 (wz Z now j)
/-- What stands at the head of a round of the document's own Rank. -/
structure Rr (Z : List (Int × Int × Int)) (now : Int) (B k : Nat) (v1 v2 : Value) (R : List Nat) (w wr : World) : Prop where
  r1 : wr.ownsRow B 3 1 v1 R.length (R.map nv)
  r2 : wr.ownsRow B 24 1 v2 R.length (R.map (fz Z now))
  p : R.Perm (kept Z now k)
  o : R.Pairwise (Tr Z now)
  b : Below B w wr
  d : ∀ g, v1.ownBlock = some g → v2.ownBlock ≠ some g
  e : R = [] → v1 = .slice none 0 0
/-- The two rows while one place is made. -/
structure Rs (Z : List (Int × Int × Int)) (now : Int) (B n1 g1 g2 c1 c2 : Nat) (A B1 B2 : List Nat) (z1 z2 : Value) (w wr : World) : Prop where
  r1 : wr.ownsRow B 3 1 (.slice (some ⟨g1, 0, none⟩) n1 c1) n1 ((A ++ B1).map nv ++ z1 :: B2.map nv)
  r2 : wr.ownsRow B 24 1 (.slice (some ⟨g2, 0, none⟩) n1 c2) n1 ((A ++ B1).map (fz Z now) ++ z2 :: B2.map (fz Z now))
  b : Below B w wr
  ne : g1 ≠ g2
  gB : B ≤ g1 ∧ B ≤ g2

section
variable {Z : List (Int × Int × Int)} {now : Int} {B k : Nat} {v1 v2 : Value} {R : List Nat} {w wr w2 : World}
theorem Rr.keep (h : Rr Z now B k v1 v2 R w wr) (hB : B ≤ w.heap.size) (hb : Below wr.heap.size wr w2) : Rr Z now B k v1 v2 R w w2 where
  r1 := h.r1.kept (grown_of_below hb) (none_ne _)
  r2 := h.r2.kept (grown_of_below hb) (none_ne _)
  p := h.p
  o := h.o
  b := h.b.trans (hb.mono (Nat.le_trans hB h.b.size))
  d := h.d
  e := h.e
theorem Rr.skip (h : Rr Z now B k v1 v2 R w wr) (hk : ¬ okz Z now k) : Rr Z now B (k + 1) v1 v2 R w wr where
  r1 := h.r1
  r2 := h.r2
  p := by rw [kept_no hk]; exact h.p
  o := h.o
  b := h.b
  d := h.d
  e := h.e
theorem set_mid (P Q : List Value) (z u : Value) : (P ++ z :: Q).set P.length u = P ++ u :: Q := by simp
theorem get_last (P Q : List Value) (y z : Value) : ((P ++ [y]) ++ z :: Q)[P.length]? = some y := by simp

variable {n1 g1 g2 c1 c2 : Nat} {A B1 B2 : List Nat} {z1 z2 : Value}
theorem Rs.len (h : Rs Z now B n1 g1 g2 c1 c2 A B1 B2 z1 z2 w wr) : A.length + B1.length + 1 + B2.length = n1 := by
  have := h.r1.1
  simp at this
  omega
/-- One place further. -/
theorem Rs.step {y : Nat} (h : Rs Z now B n1 g1 g2 c1 c2 A (B1 ++ [y]) B2 z1 z2 w wr) :
    wr.cell? ⟨g1, A.length + B1.length, none⟩ = some (nv y) ∧ wr.cell? ⟨g2, A.length + B1.length, none⟩ = some (fz Z now y) ∧
    Rs Z now B n1 g1 g2 c1 c2 A B1 (y :: B2) (nv y) (fz Z now y) w ((wr.setCell ⟨g1, A.length + B1.length + 1, none⟩ (nv y)).setCell ⟨g2, A.length + B1.length + 1, none⟩ (fz Z now y)) := by
  have hl := h.len
  rw [List.length_append] at hl
  simp only [List.length_cons, List.length_nil] at hl
  have s1 := h.r1.stored (A.length + B1.length + 1) (nv y)
  have s2 := h.r2.stored (A.length + B1.length + 1) (fz Z now y)
  have s1' := s1.1.kept (h.r2.kept s1.2 (.inr (by simpa [Value.ownBlock] using fun e => h.ne e.symm)) |>.stored (A.length + B1.length + 1) (fz Z now y)).2 (.inr (by simpa [Value.ownBlock] using h.ne))
  have s2' := (h.r2.kept s1.2 (.inr (by simpa [Value.ownBlock] using fun e => h.ne e.symm))).stored (A.length + B1.length + 1) (fz Z now y)
  have e1 : ∀ f : Nat → Value, ((A ++ (B1 ++ [y])).map f ++ z1 :: B2.map f).set (A.length + B1.length + 1) (f y) = (A ++ B1).map f ++ f y :: (y :: B2).map f := fun f => by
    have := set_mid ((A ++ (B1 ++ [y])).map f) (B2.map f) z1 (f y)
    rw [List.length_map, List.length_append, List.length_append] at this
    simp only [List.length_cons, List.length_nil, Nat.zero_add, ← Nat.add_assoc] at this
    rw [this]; simp
  have e2 : ∀ f : Nat → Value, ((A ++ (B1 ++ [y])).map f ++ z2 :: B2.map f).set (A.length + B1.length + 1) (f y) = (A ++ B1).map f ++ f y :: (y :: B2).map f := fun f => by
    have := set_mid ((A ++ (B1 ++ [y])).map f) (B2.map f) z2 (f y)
    rw [List.length_map, List.length_append, List.length_append] at this
    simp only [List.length_cons, List.length_nil, Nat.zero_add, ← Nat.add_assoc] at this
    rw [this]; simp
  refine ⟨?_, ?_, ⟨?_, ?_, (h.b.setCell h.gB.1 _).setCell h.gB.2 _, h.ne, h.gB⟩⟩
  · rw [h.r1.cellAt _ (by omega)]
    have := get_last ((A ++ B1).map nv) (B2.map nv) (nv y) z1
    rw [List.length_map, List.length_append] at this
    rw [← this]; simp
  · rw [h.r2.cellAt _ (by omega)]
    have := get_last ((A ++ B1).map (fz Z now)) (B2.map (fz Z now)) (fz Z now y) z2
    rw [List.length_map, List.length_append] at this
    rw [← this]; simp
  · rw [e1] at s1'; exact s1'
  · rw [e2] at s2'; exact s2'.1

/-- The rows behind the two appends. -/
theorem Rs.start {v3 v4 : Value} {w3 w4 : World} {o1 o2 : Obj} {x0 x1 : Value} (h : Rr Z now B k v1 v2 R w wr) (hB : B ≤ w.heap.size) (e : R = A ++ B1)
    (own1 : w3.ownsRow B 3 1 v3 (R.length + 1) (R.map nv ++ [x0])) (gr1 : (wr.alloc o1).grownBy w3 v1.ownBlock) (hv1 : v3.ownBlock = v1.ownBlock ∨ v3.ownBlock = some (wr.alloc o1).heap.size)
    (own2 : w4.ownsRow B 24 1 v4 (R.length + 1) (R.map (fz Z now) ++ [x1])) (gr2 : (w3.alloc o2).grownBy w4 v2.ownBlock) (hv2 : v4.ownBlock = v2.ownBlock ∨ v4.ownBlock = some (w3.alloc o2).heap.size) :
    ∃ g1 g2 c1 c2, v3 = .slice (some ⟨g1, 0, none⟩) (R.length + 1) c1 ∧ v4 = .slice (some ⟨g2, 0, none⟩) (R.length + 1) c2 ∧ Rs Z now B (R.length + 1) g1 g2 c1 c2 A B1 [] x0 x1 w w4 := by
  have hs1 : (wr.alloc o1).heap.size = wr.heap.size + 1 := by simp
  have hs2 : (w3.alloc o2).heap.size = w3.heap.size + 1 := by simp
  have l1 := own1.lt
  have l2 := own2.lt
  have k1 := h.r1.lt
  have k2 := h.r2.lt
  have hz1 := gr1.size
  have hz2 := gr2.size
  have hd := h.d
  have hne : ∀ x, v3.ownBlock = some x → v2.ownBlock ≠ some x := fun x h3 h2 => by
    rcases hv1 with e1 | e1
    · exact hd x (e1.symm.trans h3) h2
    · rw [h3, hs1] at e1
      injection e1 with e1
      have := (k2 x h2).2
      omega
  have hb1 : Below B w w3 := (h.b.alloc (Nat.le_trans hB h.b.size) o1).grown gr1 (by rw [hs1]; have := h.b.size; omega) (fun x hx => (k1 x hx).1)
  have hb2 : Below B w w4 := (hb1.alloc (Nat.le_trans hB hb1.size) o2).grown gr2 (by rw [hs2]; have := hb1.size; omega) (fun x hx => (k2 x hx).1)
  have own1' : w4.ownsRow B 3 1 v3 (R.length + 1) (R.map nv ++ [x0]) := (own1.alloc o2).kept gr2 (by
    cases h3 : v3.ownBlock with
    | none => exact .inl rfl
    | some x => exact .inr (fun e2 => hne x h3 e2.symm))
  rcases own1'.2 with ⟨_, e1⟩ | ⟨g1, c1, cur1, rfl, hg1, _⟩
  · omega
  rcases own2.2 with ⟨_, e1⟩ | ⟨g2, c2, cur2, rfl, hg2, _⟩
  · omega
  refine ⟨g1, g2, c1, c2, rfl, rfl, ⟨?_, ?_, hb2, ?_, hg1, hg2⟩⟩
  · rw [← e]; exact own1'
  · rw [← e]; exact own2
  · intro ee
    subst ee
    rcases hv2 with e2 | e2
    · exact hne g1 rfl e2.symm
    · rw [hs2] at e2
      simp only [Value.ownBlock, Option.some.injEq] at e2
      have := (l1 g1 rfl).2
      omega
theorem get_at (P Q : List Value) (z : Value) : (P ++ z :: Q)[P.length]? = some z := by simp
/-- The place is filled. -/
theorem Rs.done (h : Rs Z now B n1 g1 g2 c1 c2 A [] B2 z1 z2 w wr) (hp : (A ++ k :: B2).Perm (kept Z now (k + 1))) (ho : (A ++ k :: B2).Pairwise (Tr Z now)) :
    wr.cell? ⟨g1, A.length, none⟩ = some z1 ∧ wr.cell? ⟨g2, A.length, none⟩ = some z2 ∧ Rr Z now B (k + 1) (.slice (some ⟨g1, 0, none⟩) n1 c1) (.slice (some ⟨g2, 0, none⟩) n1 c2) (A ++ k :: B2) w ((wr.setCell ⟨g1, A.length, none⟩ (nv k)).setCell ⟨g2, A.length, none⟩ (fz Z now k)) := by
  have hl := h.len
  simp only [List.length_nil, Nat.add_zero] at hl
  have hl2 : (A ++ k :: B2).length = n1 := by simp; omega
  have s1 := h.r1.stored A.length (nv k)
  have s2' := (h.r2.kept s1.2 (.inr (by simpa [Value.ownBlock] using fun e => h.ne e.symm))).stored A.length (fz Z now k)
  have s1' := s1.1.kept s2'.2 (.inr (by simpa [Value.ownBlock] using h.ne))
  have e1 : ∀ (f : Nat → Value) (z : Value), ((A ++ []).map f ++ z :: B2.map f).set A.length (f k) = (A ++ k :: B2).map f := fun f z => by
    have := set_mid (A.map f) (B2.map f) z (f k)
    rw [List.length_map] at this
    rw [List.append_nil, this]; simp
  refine ⟨?_, ?_, ⟨?_, ?_, hp, ho, (h.b.setCell h.gB.1 _).setCell h.gB.2 _, ?_, ?_⟩⟩
  · rw [h.r1.cellAt _ (by omega)]
    have := get_at (A.map nv) (B2.map nv) z1
    rw [List.length_map] at this
    rw [← this]; simp
  · rw [h.r2.cellAt _ (by omega)]
    have := get_at (A.map (fz Z now)) (B2.map (fz Z now)) z2
    rw [List.length_map] at this
    rw [← this]; simp
  · rw [e1] at s1'; rw [hl2]; exact s1'
  · rw [e1] at s2'; rw [hl2]; exact s2'.1
  · intro g hg e
    simp only [Value.ownBlock, Option.some.injEq] at hg e
    exact h.ne (hg.trans e.symm)
  · intro e
    simp at e
/-- Where the new one belongs. -/
theorem belongs (h : Rr Z now B k v1 v2 R w wr) (hk : okz Z now k) {d : Nat} (hd : d ≤ R.length) (h1 : ∀ j, d ≤ j → j < R.length → wz Z now (R.getD j 0) < wz Z now k) (h2 : 0 < d → wz Z now k ≤ wz Z now (R.getD (d - 1) 0)) :
    (R.take d ++ k :: R.drop d).Perm (kept Z now (k + 1)) ∧ (R.take d ++ k :: R.drop d).Pairwise (Tr Z now) := by
  have hmem : ∀ x ∈ R, x < k := fun x hx => (mem_kept.1 (h.p.mem_iff.1 hx)).1
  have hl : (R.take d).length = d := by simp; omega
  have g1 : ∀ y ∈ R.take d, Tr Z now y k := fun y hy => by
    obtain ⟨t, ht, rfl⟩ := mem_at hy
    rw [hl] at ht
    have e : (R.take d).getD t 0 = R.getD t 0 := by
      have := getD_left (R.take d) (R.drop d) t (by omega)
      rw [List.take_append_drop] at this
      exact this.symm
    rw [e]
    have hlt := hmem _ (at_mem (show t < R.length by omega))
    have h3 := h2 (by omega)
    unfold Tr
    by_cases ee : t = d - 1
    · rw [← ee] at h3; omega
    · have := pair_at h.o (show t < d - 1 by omega) (by omega)
      unfold Tr at this
      omega
  have g2 : ∀ y ∈ R.drop d, Tr Z now k y := fun y hy => by
    obtain ⟨t, ht, rfl⟩ := mem_at hy
    rw [List.length_drop] at ht
    have e : (R.drop d).getD t 0 = R.getD (d + t) 0 := by
      have := getD_right (R.take d) (R.drop d) t
      rw [List.take_append_drop, hl] at this
      exact this.symm
    rw [e]
    exact .inl (h1 _ (by omega) (by omega))
  obtain ⟨p1, p2⟩ := put_in h.o (List.take_append_drop d R).symm g1 g2
  refine ⟨p1.trans ?_, p2⟩
  rw [kept_yes hk]
  exact ((List.Perm.cons k h.p).trans (List.perm_append_singleton k _).symm)
end

end Go.Proofs.Ytefpaagbopmmlaa
