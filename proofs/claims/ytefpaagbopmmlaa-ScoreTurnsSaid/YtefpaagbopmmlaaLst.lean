/- Proved: plain facts of rows of a call's own: two places exchanged; what a row's cells hold in a world of the sort's. -/
import Derived.Test.YtefpaagbopmmlaaRows
import Derived.Sort.WalkC
import Derived.Sort.WalkB12
import Derived.Lib.Hide
namespace Go.Proofs.Ytefpaagbopmmlaa
open Go.RowKit Go.Sort

/-- Two places of a list exchanged. -/
def sw (L : List Nat) (i j : Nat) : List Nat := (L.set i (L.getD j 0)).set j (L.getD i 0)
theorem sw_len (L : List Nat) (i j : Nat) : (sw L i j).length = L.length := by simp [sw]
theorem getD_mid (P S : List Nat) (x : Nat) : (P ++ x :: S).getD P.length 0 = x := by
  simp [List.getD_eq_getElem?_getD]
theorem getD_mid2 (P Q S : List Nat) (x y : Nat) : (P ++ x :: (Q ++ y :: S)).getD (P.length + 1 + Q.length) 0 = y := by
  have := getD_mid (P ++ x :: Q) S y
  have e : (P ++ x :: Q).length = P.length + 1 + Q.length := by simp; omega
  rw [e] at this
  have e2 : (P ++ x :: Q) ++ y :: S = P ++ x :: (Q ++ y :: S) := by simp
  rw [e2] at this
  exact this
theorem sw_split (P Q S : List Nat) (x y : Nat) : sw (P ++ x :: (Q ++ y :: S)) P.length (P.length + 1 + Q.length) = P ++ y :: (Q ++ x :: S) := by
  unfold sw
  rw [getD_mid, getD_mid2]
  have e1 : (P ++ x :: (Q ++ y :: S)).set P.length y = P ++ y :: (Q ++ y :: S) := by simp
  have e2 : (P ++ y :: (Q ++ y :: S)) = (P ++ y :: Q) ++ y :: S := by simp
  have e3 : (P ++ y :: Q).length = P.length + 1 + Q.length := by simp; omega
  rw [e1, e2, ← e3]
  simp
theorem sw_split' (P Q S : List Nat) (x y : Nat) : sw (P ++ x :: (Q ++ y :: S)) (P.length + 1 + Q.length) P.length = P ++ y :: (Q ++ x :: S) := by
  unfold sw
  rw [getD_mid, getD_mid2]
  have e2 : (P ++ x :: (Q ++ y :: S)) = (P ++ x :: Q) ++ y :: S := by simp
  have e3 : (P ++ x :: Q).length = P.length + 1 + Q.length := by simp; omega
  rw [e2, ← e3]
  simp
theorem swp_sw (L : List Nat) (i j : Nat) : swp L.toArray i j = (sw L i j).toArray := by
  have g : ∀ k, L.toArray[k]! = L.getD k 0 := fun k => by
    by_cases h : k < L.length
    · rw [getElem!_pos _ k (by simpa using h), List.getD_eq_getElem?_getD, List.getElem?_eq_getElem h]; rfl
    · rw [getElem!_neg _ k (by simpa using h), List.getD_eq_getElem?_getD, List.getElem?_eq_none (by omega)]; rfl
  unfold swp sw
  rw [g, g]
  simp

/-- The value of a place. -/
def ev (F : Nat → Int) (x : Nat) : Value := .int .i64 (F x)
/-- A world of the sort's: the row holds L, so many draws on. -/
def RW (F : Nat → Int) (w : World) (blk off : Nat) (L : List Nat) (m : Nat) : World := (putRow (ev F) w blk off L.toArray).drewN m
/-- The row is there, and may be written. -/
def Rw (F : Nat → Int) (w : World) (blk off n : Nat) : Prop := ∃ L0 : List Nat, L0.length = n ∧ Holds (ev F) w blk off L0.toArray

theorem getE (L : List Nat) (k : Nat) : L.toArray[k]! = L.getD k 0 := by
  by_cases h : k < L.length
  · rw [getElem!_pos _ k (by simpa using h), List.getD_eq_getElem?_getD, List.getElem?_eq_getElem h]; rfl
  · rw [getElem!_neg _ k (by simpa using h), List.getD_eq_getElem?_getD, List.getElem?_eq_none (by omega)]; rfl
theorem rw_cell {F : Nat → Int} {w : World} {blk off n : Nat} (H : Rw F w blk off n) {L : List Nat} (hl : L.length = n) (m j : Nat) (hj : j < n) :
    (RW F w blk off L m).cell? ⟨blk, off + j, none⟩ = some (.int .i64 (F (L.getD j 0))) := by
  obtain ⟨L0, h0, hH⟩ := H
  have := (holds_putRow (ev F) w blk off L0.toArray L.toArray hH (by simp [hl, h0]) j (by simpa [hl] using hj)).1
  rw [getE] at this
  exact this
theorem rw_frozen {F : Nat → Int} {w : World} {blk off n : Nat} (H : Rw F w blk off n) {L : List Nat} (hl : L.length = n) (m j : Nat) (hj : j < n) :
    (RW F w blk off L m).frozen? ⟨blk, off + j, none⟩ = false := by
  obtain ⟨L0, h0, hH⟩ := H
  exact (holds_putRow (ev F) w blk off L0.toArray L.toArray hH (by simp [hl, h0]) j (by simpa [hl] using hj)).2
theorem rw_swap (F : Nat → Int) (w : World) (blk off : Nat) (L : List Nat) (m i j : Nat) (hi : i < L.length) (hj : j < L.length) :
    (((RW F w blk off L m).setCell ⟨blk, off + i, none⟩ (.int .i64 (F (L.getD j 0)))).setCell ⟨blk, off + j, none⟩ (.int .i64 (F (L.getD i 0)))).drew = RW F w blk off (sw L i j) (m + 1) := by
  have := swap_worldC (ev F) w blk off L.toArray m i j (by simpa using hi) (by simpa using hj)
  rw [swp_sw L i j, getE, getE] at this
  exact this
theorem rw_drewN (F : Nat → Int) (w : World) (blk off : Nat) (L : List Nat) (m q : Nat) : (RW F w blk off L m).drewN q = RW F w blk off L (m + q) := by
  unfold RW; rw [World.drewN_drewN]
theorem rw_start {F : Nat → Int} {w : World} {blk off : Nat} {L : List Nat} (h : Holds (ev F) w blk off L.toArray) : w = RW F w blk off L 0 := (putRow_self (ev F) w blk off L.toArray h).symm
theorem rw_second {F : Nat → Int} {w : World} {blk off n : Nat} (H : Rw F w blk off n) {L : List Nat} (hl : L.length = n) (m i j : Nat) (hi : i < n) (hj : j < n) (v : Value) :
    ∃ u, ((RW F w blk off L m).setCell ⟨blk, off + i, none⟩ v).cell? ⟨blk, off + j, none⟩ = some u := by
  by_cases e : i = j
  · subst e; exact ⟨v, World.cell?_setCell_same _ _ _ (rw_cell H hl m i hi)⟩
  · exact ⟨_, (World.cell?_setCell_other _ _ _ _ (by intro e'; simp only [Addr.mk.injEq] at e'; omega)).trans (rw_cell H hl m j hj)⟩

end Go.Proofs.Ytefpaagbopmmlaa
