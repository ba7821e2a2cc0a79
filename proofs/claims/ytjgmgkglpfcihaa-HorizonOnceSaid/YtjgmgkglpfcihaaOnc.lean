/- Proved: the law HorizonOnce's walk: no handle is given twice; one that was closed is gone; others stay as they are. -/
import Derived.Test.YtjgmgkglpfcihaaApn
import Derived.Test.YtjgmgkglpfcihaaIn
import Derived.Deep.RegionHeld3
import Derived.Deep.RegionLaw
import Derived.Deep.DrawnRows
import Derived.Deep.Cut
import Derived.Deep.CutRange
namespace Go.Proofs.Ytjgmgkglpfcihaa
open Go.RowKit

theorem OI.cell {w : World} {B n : Nat} {v : Value} {R : List Int} (h : OI w B v n R) {g : Nat} (hg : v.ownBlock = some g) : ∃ cs m, w.heap[g]? = some (.cells cs 3 m) := by
  rcases h.2 with ⟨e, _⟩ | ⟨g', cap, cur, hv, hB, hh, hr⟩
  · rw [e] at hg; cases hg
  · rw [hv] at hg; injection hg with hg; subst hg; exact ⟨_, _, hh⟩
/-- An append writes nothing that stood ahead of the row. -/
theorem Apd.stay {w0 w w' : World} {B q n : Nat} {v v' : Value} {R X : List Int} (h : Apd w B v v' q R w') (ho : OI w B v n X) (ha : At w0 w) (hB : w0.heap.size ≤ B) : At w0 w' := h.mv.at_ ha fun _ hg => Nat.le_trans hB (ho.lt hg).1

/-- A book and two rows of the law's own. -/
structure Oc (w0 : World) (b mb : Nat) (S : St) (v6 : Value) (n6 : Nat) (R6 : List Int) (v7 : Value) (n7 : Nat) (R7 : List Int) (wr : World) : Prop where
  hs : Hs w0 b mb S wr
  r6 : OI wr w0.heap.size v6 n6 R6
  r7 : OI wr w0.heap.size v7 n7 R7
  ap : ∀ g, v6.ownBlock = some g → v7.ownBlock ≠ some g
section
variable {w0 wr wx : World} {b mb n6 n7 q : Nat} {S S' : St} {v6 v7 v' : Value} {R6 R7 X : List Int}
theorem Oc.on (h : Oc w0 b mb S v6 n6 R6 v7 n7 R7 wr) (ha : At wr wx) : Oc w0 b mb S v6 n6 R6 v7 n7 R7 wx := ⟨h.hs.on ha, h.r6.on ha, h.r7.on ha, h.ap⟩
theorem Hs.off {B n : Nat} {v : Value} {R : List Int} (h : Hs w0 b mb S wr) (ho : OI wr B v n R) {g : Nat} (hg : v.ownBlock = some g) : g ≠ b ∧ g ≠ mb := by
  obtain ⟨cs, m, hc⟩ := ho.cell hg
  exact ⟨cells_ne hc h.bk.box (by decide), h.bk.far hc⟩
theorem Oc.turnB (h : Oc w0 b mb S v6 n6 R6 v7 n7 R7 wr) (hs : Hs w0 b mb S' wx) (hm : Mv (Bf b mb) wr wx) : Oc w0 b mb S' v6 n6 R6 v7 n7 R7 wx :=
  ⟨hs, h.r6.mv hm (fun _ hg e => e.elim (h.hs.off h.r6 hg).1 (h.hs.off h.r6 hg).2), h.r7.mv hm (fun _ hg e => e.elim (h.hs.off h.r7 hg).1 (h.hs.off h.r7 hg).2), h.ap⟩
theorem Oc.app6 (h : Oc w0 b mb S v6 n6 R6 v7 n7 R7 wr) (ha : Apd wr w0.heap.size v6 v' q (R6 ++ X) wx) : Oc w0 b mb S v' q (R6 ++ X) v7 n7 R7 wx := by
  refine ⟨⟨h.hs.bk.mv ha.mv (fun e => (h.hs.off h.r6 e).1 rfl) (fun e => (h.hs.off h.r6 e).2 rfl), ha.stay h.r6 h.hs.stands (Nat.le_refl _), h.hs.nb, h.hs.nm⟩, ha.own, h.r7.mv ha.mv fun g hg e => h.ap g e hg, fun g hg e => ?_⟩
  rcases ha.at_ with e' | e'
  · exact h.ap g (by rw [← e']; exact hg) e
  · rw [e'] at hg; injection hg with hg; have := (h.r7.lt e).2; omega
theorem Oc.app7 (h : Oc w0 b mb S v6 n6 R6 v7 n7 R7 wr) (ha : Apd wr w0.heap.size v7 v' q (R7 ++ X) wx) : Oc w0 b mb S v6 n6 R6 v' q (R7 ++ X) wx := by
  refine ⟨⟨h.hs.bk.mv ha.mv (fun e => (h.hs.off h.r7 e).1 rfl) (fun e => (h.hs.off h.r7 e).2 rfl), ha.stay h.r7 h.hs.stands (Nat.le_refl _), h.hs.nb, h.hs.nm⟩, h.r6.mv ha.mv fun g hg e => h.ap g hg e, ha.own, fun g hg e => ?_⟩
  rcases ha.at_ with e' | e'
  · exact h.ap g hg (by rw [← e']; exact e)
  · rw [e'] at e; injection e with e; have := (h.r6.lt hg).2; omega
/-- Two rows laid anew, one behind the other. -/
theorem Oc.anew {w5 w8 : World} {v8 v9 : Value} {q8 q9 : Nat} {R8 R9 : List Int} (h : Oc w0 b mb S v6 n6 R6 v7 n7 R7 wr) (ha : At wr w5) (h8 : OI w5 wr.heap.size v8 q8 R8) (hb : At w5 w8) (h9 : OI w8 w5.heap.size v9 q9 R9) : Oc w0 b mb S v8 q8 R8 v9 q9 R9 w8 := by
  have hsz := h.hs.stands.size
  have hsa := ha.size
  refine ⟨(h.hs.on ha).on hb, (h8.on hb).less hsz, h9.less (by omega), fun g hg e => ?_⟩
  have h1 := (h8.lt hg).2
  have h2 := (h9.lt e).1
  omega
end
/-- Where the loop over the open ones has found y. -/
def Fnd (H : List Int) (j : Nat) (y kv : Int) : Prop := (kv = -1 ∧ ∀ i, i < j → H.getD i 0 ≠ y) ∨ ∃ p : Nat, p < j ∧ kv = (p : Int) ∧ H[p]? = some y
theorem fnd_start (H : List Int) (y : Int) : Fnd H 0 y (-1) := Or.inl ⟨rfl, fun i hi => absurd hi (Nat.not_lt_zero i)⟩
theorem Fnd.yes {H : List Int} {j : Nat} {y kv : Int} (hj : j < H.length) (e : H.getD j 0 = y) (_h : Fnd H j y kv) : Fnd H (j + 1) y (j : Int) := Or.inr ⟨j, Nat.lt_succ_self j, rfl, by
  rw [List.getD_eq_getElem?_getD, List.getElem?_eq_getElem hj] at e
  rw [List.getElem?_eq_getElem hj]
  exact congrArg some e⟩
theorem Fnd.no {H : List Int} {j : Nat} {y kv : Int} (e : H.getD j 0 ≠ y) (h : Fnd H j y kv) : Fnd H (j + 1) y kv := by
  rcases h with ⟨h1, h2⟩ | ⟨p, hp, h⟩
  · exact Or.inl ⟨h1, fun i hi => by
      by_cases e' : i = j
      · rw [e']; exact e
      · exact h2 i (by omega)⟩
  · exact Or.inr ⟨p, by omega, h⟩
theorem Fnd.out {H : List Int} {j : Nat} {y kv : Int} (h : Fnd H j y kv) (hj : H.length ≤ j) : (kv = -1 ∧ ¬ y ∈ H) ∨ ∃ p : Nat, kv = (p : Int) ∧ H[p]? = some y := by
  rcases h with ⟨h1, h2⟩ | ⟨p, _, h⟩
  · refine Or.inl ⟨h1, fun hm => ?_⟩
    obtain ⟨i, hi, e⟩ := List.mem_iff_getElem.1 hm
    refine h2 i (by omega) ?_
    rw [List.getD_eq_getElem?_getD, List.getElem?_eq_getElem hi, e]; rfl
  · exact Or.inr ⟨p, h⟩

/-- What the law looks at. -/
def Onin (M : Int) (u : Nat) : Prop := 0 ≤ M ∧ M ≤ 50 ∧ u ≤ 200
set_option maxHeartbeats 1000000 in
set_option maxRecDepth 100000 in
theorem once_out (M : Int) (A : Option Addr) (u c : Nat) (h : ¬ Onin M u) (w : World) : Calls Try.prog 6 #[.int .i64 M, .slice A u c] w (Gives (.bool true) w) := by
  have HG := Lib.hid awake_any
  by_cases h1 : M < 0
  · clear h
    go_enter Try.func6, Try.ntmps6
    go_wp2_with (go_at_call 8; refine (HG.out _).mono ?_; rintro e w' ⟨rfl, hb⟩)
    go_ret
    exact ⟨rfl, hb⟩
  have h1 : 0 ≤ M := by omega
  by_cases h2 : 50 < M
  · clear h
    go_enter Try.func6, Try.ntmps6
    go_wp2_with (go_at_call 8; refine (HG.out _).mono ?_; rintro e w' ⟨rfl, hb⟩)
    go_ret
    exact ⟨rfl, hb⟩
  have h2 : M ≤ 50 := by omega
  have h4 : decide ((200 : Int) < (u : Int)) = true := decide_eq_true (by unfold Onin at h; omega)
  clear h
  go_enter Try.func6, Try.ntmps6
  go_wp2_with (go_at_call 8; refine (HG.out _).mono ?_; rintro e w' ⟨rfl, hb⟩)
  go_ret
  exact ⟨rfl, hb⟩

end Go.Proofs.Ytjgmgkglpfcihaa
