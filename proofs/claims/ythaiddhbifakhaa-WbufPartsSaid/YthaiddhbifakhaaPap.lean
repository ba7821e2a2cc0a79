/- Proved: plain facts on a vector that is written at once, in two parts, and block by block from its end; a buffer stays while another one is written. -/
import Derived.Test.YthaiddhbifakhaaTot
namespace Go.Proofs.Ythaiddhbifakhaa
open Go.RowKit

theorem upS_app (S : St) (P Q : List Pt) : upS S (P ++ Q) = upS (upS S P) Q := by unfold upS; rw [ups_app]
theorem upS_perm {P Q : List Pt} (h : P.Perm Q) (hu : Un P) (S : St) : upS S P = upS S Q := by unfold upS; rw [ups_perm h hu]
/-- Some of the blocks of a vector that is taken in, none twice, ahead of others of them. -/
theorem fine_part {S : St} {P Q R : List Pt} (h : Fine S P) (hs : ∀ p ∈ Q ++ R, p ∈ P) (hu : Un (Q ++ R)) (h0 : R ≠ []) : Fine (upS S Q) R := by
  have ne := h.toEach.ne2
  refine ⟨⟨h0, fun p hp => h.rng p (hs p (List.mem_append_right _ hp)), fun p hp => h.len p (hs p (List.mem_append_right _ hp))⟩, ?_, ?_⟩
  · unfold Un at hu ⊢
    rw [List.map_append, List.nodup_append] at hu
    exact hu.2.1
  · rw [← upS_app]
    have h1 : (us (upS S (Q ++ R))).length ≤ (us (upS S P)).length := us_mono rfl fun k hk => by
      have hk' : ups S.g (Q ++ R) k ≠ [] := hk
      rw [ups_ne fun p hp => ne p (hs p hp)] at hk'
      show ups S.g P k ≠ []
      rw [ups_ne ne]
      rcases hk' with h | ⟨p, hp, e⟩
      · exact Or.inl h
      · exact Or.inr ⟨p, hs p hp, e⟩
    have := h.c
    show ((us (upS S (Q ++ R))).length : Int) ≤ S.most
    omega
theorem fine_take {S : St} {P : List Pt} (h : Fine S P) {r : Nat} (h0 : 0 < r) : Fine S (P.take r) := by
  have hp : P ≠ [] := h.ne
  have hl := List.length_pos_iff.2 hp
  have hf := fine_part (Q := []) (R := P.take r) h (fun p hp => List.mem_of_mem_take hp) (by
    rw [List.nil_append]
    have := h.un
    unfold Un at this ⊢
    rw [List.map_take]
    exact this.sublist (List.take_sublist _ _)) (fun e => by have h5 := congrArg List.length e; rw [List.length_take, List.length_nil] at h5; omega)
  exact hf
theorem fine_drop {S : St} {P : List Pt} (h : Fine S P) {r : Nat} (h0 : r < P.length) : Fine (upS S (P.take r)) (P.drop r) :=
  fine_part h (fun p hp => by rwa [List.take_append_drop] at hp) (by rw [List.take_append_drop]; exact h.un) (fun e => by have h5 := congrArg List.length e; rw [List.length_drop, List.length_nil] at h5; omega)
/-- From the end on. -/
def rv (P : List Pt) (i : Nat) : List Pt := (P.drop i).reverse
theorem rv_all (P : List Pt) : rv P P.length = [] := by unfold rv; simp
theorem rv_step (P : List Pt) (i : Nat) (h : i < P.length) : rv P i = rv P (i + 1) ++ [P.getD i pz] := by
  unfold rv
  rw [List.drop_eq_getElem_cons h, List.reverse_cons, List.getD_eq_getElem?_getD, List.getElem?_eq_getElem h]; rfl
theorem rv_un {P : List Pt} (h : Un P) (i : Nat) : Un (rv P i) := by
  unfold Un rv at *
  rw [List.map_reverse, List.map_drop]
  exact (List.reverse_perm _).nodup_iff.2 (h.sublist (List.drop_sublist _ _))
theorem fine_rv {S : St} {P : List Pt} (h : Fine S P) {i : Nat} (hi : i < P.length) : Fine (upS S (rv P (i + 1))) [P.getD i pz] :=
  fine_part h (fun p hp => by rw [← rv_step P i hi] at hp; exact List.mem_of_mem_drop (List.mem_reverse.1 hp)) (by rw [← rv_step P i hi]; exact rv_un h.un i) (by simp)
theorem upS_rv {S : St} {P : List Pt} {i : Nat} (hi : i < P.length) : upS (upS S (rv P (i + 1))) [P.getD i pz] = upS S (rv P i) := by rw [rv_step P i hi, upS_app]
theorem upS_all {S : St} {P : List Pt} (h : Un P) : upS S (rv P 0) = upS S P := upS_perm (by unfold rv; rw [List.drop_zero]; exact List.reverse_perm P) (rv_un h 0) S
theorem fr_new {n : Nat} {m : Int} (P : List Pt) : fr (st0 n m) P = P.length := by
  unfold fr
  rw [List.filter_eq_self.2 fun (p : Pt) _ => (rfl : ((st0 n m).g p.1.toNat).isEmpty = true)]
theorem ls_new {n : Nat} {m : Int} {P : List Pt} (h : Fine (st0 n m) P) : (ls (upS (st0 n m) P)).length = P.length := by
  rw [ls_len, us_fr P h.rng h.toEach.ne2 h.un, fr_new, us_st0]; simp

section
variable {w0 w w' : World} {b mb b2 mb2 : Nat} {S S2 : St}
/-- A buffer stays while another one's entries are written. -/
theorem Bo.other (h : Bo w0 w b mb S) (h2 : Bo w0 w b2 mb2 S2) (hm : Mv (fun g => g = mb2) w w') (hne : mb ≠ mb2) : Bo w0 w' b mb S :=
  ⟨h.bf.mv hm (h2.bf.far h.bf.box) hne, hm.at_ h.at_ fun g hg => by rw [hg]; exact h2.hm, h.hb, h.hm⟩
end

end Go.Proofs.Ythaiddhbifakhaa
