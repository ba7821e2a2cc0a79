/- Proved: plain facts of a list in chunks, each sorted, which are merged two by two. -/
import Derived.Test.YtefpaagbopmmlaaSym
namespace Go.Proofs.Ytefpaagbopmmlaa

/-- Each chunk stands ahead of the later ones. -/
def CrossAll (T : Nat → Nat → Prop) (cf : Nat → Nat → Int) (cs : List (List Nat)) : Prop := cs.Pairwise fun A B => ∀ x ∈ A, ∀ y ∈ B, Cross T cf x y
/-- Chunks of one length, each sorted. -/
def Full (T : Nat → Nat → Prop) (bs : Nat) (cs : List (List Nat)) : Prop := ∀ C ∈ cs, C.length = bs ∧ C.Pairwise T

theorem full_len {T : Nat → Nat → Prop} {bs : Nat} : ∀ {cs : List (List Nat)}, Full T bs cs → cs.flatten.length = cs.length * bs
  | [], _ => by simp
  | C :: cs, h => by
    have h1 := h C (by simp)
    have h2 := full_len (cs := cs) (fun D hD => h D (by simp [hD]))
    simp only [List.flatten_cons, List.length_append, List.length_cons, h1.1, h2, Nat.succ_mul]
    omega
theorem full_snoc {T : Nat → Nat → Prop} {bs : Nat} {cs : List (List Nat)} {C : List Nat} (h : Full T bs cs) (h1 : C.length = bs) (h2 : C.Pairwise T) : Full T bs (cs ++ [C]) := by
  intro D hD
  rcases List.mem_append.1 hD with hD | hD
  · exact h D hD
  · rw [List.mem_singleton] at hD; subst hD; exact ⟨h1, h2⟩

theorem cross_merge {T : Nat → Nat → Prop} {cf : Nat → Nat → Int} {P S : List (List Nat)} {A B C : List Nat} (h : CrossAll T cf (P ++ A :: B :: S)) (hC : C.Perm (A ++ B)) : CrossAll T cf (P ++ C :: S) := by
  unfold CrossAll at *
  rw [List.pairwise_append] at *
  obtain ⟨h1, h2, h3⟩ := h
  rw [List.pairwise_cons, List.pairwise_cons] at h2
  obtain ⟨a, b, c⟩ := h2
  refine ⟨h1, List.pairwise_cons.2 ⟨?_, c⟩, ?_⟩
  · intro D hD x hx y hy
    rw [hC.mem_iff, List.mem_append] at hx
    rcases hx with hx | hx
    · exact a D (by simp [hD]) x hx y hy
    · exact b D hD x hx y hy
  · intro D hD E hE x hx y hy
    rcases List.mem_cons.1 hE with rfl | hE
    · rw [hC.mem_iff, List.mem_append] at hy
      rcases hy with hy | hy
      · exact h3 D hD A (by simp) x hx y hy
      · exact h3 D hD B (by simp) x hx y hy
    · exact h3 D hD E (by simp [hE]) x hx y hy
theorem cross_pair {T : Nat → Nat → Prop} {cf : Nat → Nat → Int} {P S : List (List Nat)} {A B : List Nat} (h : CrossAll T cf (P ++ A :: B :: S)) : ∀ x ∈ A, ∀ y ∈ B, Cross T cf x y := by
  unfold CrossAll at h
  rw [List.pairwise_append] at h
  exact (List.pairwise_cons.1 h.2.1).1 B (by simp)
theorem cross_perm {T : Nat → Nat → Prop} {cf : Nat → Nat → Int} {P S : List (List Nat)} {A C : List Nat} (h : CrossAll T cf (P ++ A :: S)) (hC : C.Perm A) : CrossAll T cf (P ++ C :: S) := by
  unfold CrossAll at *
  rw [List.pairwise_append] at *
  obtain ⟨h1, h2, h3⟩ := h
  rw [List.pairwise_cons] at h2
  refine ⟨h1, List.pairwise_cons.2 ⟨fun D hD x hx y hy => h2.1 D hD x (hC.mem_iff.1 hx) y hy, h2.2⟩, ?_⟩
  intro D hD E hE x hx y hy
  rcases List.mem_cons.1 hE with rfl | hE
  · exact h3 D hD A (by simp) x hx y (hC.mem_iff.1 hy)
  · exact h3 D hD E (by simp [hE]) x hx y hy
theorem cross_cut {T : Nat → Nat → Prop} {cf : Nat → Nat → Int} {P : List (List Nat)} {A R : List Nat} (h : CrossAll T cf (P ++ [A ++ R])) (hA : (A ++ R).Pairwise (Cross T cf)) : CrossAll T cf (P ++ A :: [R]) := by
  unfold CrossAll at *
  rw [List.pairwise_append] at *
  obtain ⟨h1, h2, h3⟩ := h
  refine ⟨h1, List.pairwise_cons.2 ⟨?_, List.pairwise_singleton _ _⟩, ?_⟩
  · intro D hD x hx y hy
    rw [List.mem_singleton] at hD
    subst hD
    exact hA.2.2 x hx y hy
  · intro D hD E hE x hx y hy
    have := h3 D hD (A ++ R) (by simp) x hx y
    simp only [List.mem_cons, List.not_mem_nil, or_false] at hE
    rcases hE with rfl | rfl
    · exact this (by simp [hy])
    · exact this (by simp [hy])
theorem cross_drop {T : Nat → Nat → Prop} {cf : Nat → Nat → Int} {P : List (List Nat)} {A : List Nat} (h : CrossAll T cf (P ++ [A])) : CrossAll T cf P := (List.pairwise_append.1 h).1

/-- The row on the way: whole chunks, and a last one that is less. -/
structure St (T : Nat → Nat → Prop) (cf : Nat → Nat → Int) (L : List Nat) (bs : Nat) (full : List (List Nat)) (last : List Nat) : Prop where
  f : Full T bs full
  l : last.Pairwise T
  ll : last.length < bs
  c : CrossAll T cf (full ++ [last])
  p : (full.flatten ++ last).Perm L
/-- One way over the row: what is merged, what is not, and the last one. -/
structure Ps (T : Nat → Nat → Prop) (cf : Nat → Nat → Int) (L : List Nat) (bs : Nat) (done rest : List (List Nat)) (last : List Nat) : Prop where
  d : Full T (2 * bs) done
  f : Full T bs rest
  l : last.Pairwise T
  ll : last.length < bs
  c : CrossAll T cf (done ++ (rest ++ [last]))
  p : (done.flatten ++ (rest.flatten ++ last)).Perm L

theorem ps_start {T : Nat → Nat → Prop} {cf : Nat → Nat → Int} {L : List Nat} {bs : Nat} {full : List (List Nat)} {last : List Nat} (h : St T cf L bs full last) : Ps T cf L bs [] full last :=
  ⟨fun _ h => absurd h (List.not_mem_nil), h.f, h.l, h.ll, h.c, h.p⟩
theorem ps_step {T : Nat → Nat → Prop} {cf : Nat → Nat → Int} {L : List Nat} {bs : Nat} {done rest : List (List Nat)} {A B C last : List Nat} (h : Ps T cf L bs done (A :: B :: rest) last) (h1 : C.Perm (A ++ B)) (h2 : C.Pairwise T) : Ps T cf L bs (done ++ [C]) rest last := by
  have hA := h.f A (by simp)
  have hB := h.f B (by simp)
  refine ⟨full_snoc h.d (by rw [h1.length_eq, List.length_append]; omega) h2, fun D hD => h.f D (by simp [hD]), h.l, h.ll, ?_, ?_⟩
  · have := cross_merge h.c h1
    simpa using this
  · refine List.Perm.trans ?_ h.p
    simp only [List.flatten_append, List.flatten_cons, List.flatten_nil, List.append_nil, List.append_assoc]
    refine List.Perm.append_left _ ?_
    have := List.Perm.append_right (rest.flatten ++ last) h1
    simpa using this
theorem ps_end0 {T : Nat → Nat → Prop} {cf : Nat → Nat → Int} {L : List Nat} {bs : Nat} {done : List (List Nat)} {last : List Nat} (h : Ps T cf L bs done [] last) : St T cf L (2 * bs) done last :=
  ⟨h.d, h.l, by have := h.ll; omega, by simpa using h.c, by simpa using h.p⟩
theorem ps_end1 {T : Nat → Nat → Prop} {cf : Nat → Nat → Int} {L : List Nat} {bs : Nat} {done : List (List Nat)} {A : List Nat} (h : Ps T cf L bs done [A] []) : St T cf L (2 * bs) done A := by
  have hA := h.f A (by simp)
  have hl := h.ll
  refine ⟨h.d, hA.2, by have := hA.1; rw [List.length_nil] at hl; omega, ?_, by simpa using h.p⟩
  have hc := h.c
  rw [← List.append_assoc] at hc
  exact cross_drop hc
theorem ps_end2 {T : Nat → Nat → Prop} {cf : Nat → Nat → Int} {L : List Nat} {bs : Nat} {done : List (List Nat)} {A C last : List Nat} (h : Ps T cf L bs done [A] last) (h1 : C.Perm (A ++ last)) (h2 : C.Pairwise T) : St T cf L (2 * bs) done C := by
  have hA := h.f A (by simp)
  have := h.ll
  refine ⟨h.d, h2, by rw [h1.length_eq, List.length_append]; omega, ?_, ?_⟩
  · exact cross_merge (S := []) (by simpa using h.c) h1
  · refine List.Perm.trans ?_ h.p
    refine List.Perm.append_left _ ?_
    simpa using h1
theorem st_end {T : Nat → Nat → Prop} {cf : Nat → Nat → Int} {L : List Nat} {bs : Nat} {full : List (List Nat)} {last : List Nat} (h : St T cf L bs full last) (hn : L.length ≤ bs) (h0 : 0 < bs) : (full.flatten ++ last).Pairwise T := by
  have hl := full_len h.f
  have hp := h.p.length_eq
  rw [List.length_append, hl] at hp
  match full, h, hp with
  | [], h, _ => simpa using h.l
  | [A], h, hp =>
    have : last = [] := List.eq_nil_of_length_eq_zero (by simp at hp; omega)
    subst this
    simpa using (h.f A (by simp)).2
  | A :: B :: rest, h, hp =>
    exfalso
    have : bs + bs ≤ (A :: B :: rest).length * bs := by
      have : 2 * bs ≤ (A :: B :: rest).length * bs := Nat.mul_le_mul_right _ (by simp)
      omega
    omega

end Go.Proofs.Ytefpaagbopmmlaa
