/- Proved: words for transactions: a slice that reads as a list of them; whether they stand in order; whether one writes into a set; whether a transaction conflicts. -/
import Derived.Test.YtcffoebpgjonmaaRap
import Derived.Test.YtcffoebpgjonmaaRs
import Derived.Test.YtcffoebpgjonmaaIMe
import Derived.Test.YtcffoebpgjonmaaEWr
namespace Go.Proofs.Ytcffoebpgjonmaa
open Go.RowKit
open Iv (In Nm Is Vm Va)

/-- A transaction: its time, its blocks. -/
abbrev Tx := Int × List Pt
def txz : Tx := (0, [])
theorem tx_mem {L : List Tx} {j : Nat} (h : j < L.length) : L.getD j txz ∈ L := by
  rw [List.getD_eq_getElem?_getD, List.getElem?_eq_getElem h]; exact List.getElem_mem _
theorem tx_at {L : List Tx} {x : Tx} (h : x ∈ L) : ∃ j, j < L.length ∧ L.getD j txz = x := by
  obtain ⟨j, hj, e⟩ := List.getElem_of_mem h
  exact ⟨j, hj, by rw [List.getD_eq_getElem?_getD, List.getElem?_eq_getElem hj]; exact e⟩
/-- The slice at A reads as the list L of transactions. -/
def TV (w : World) (A : Option Addr) (L : List Tx) : Prop :=
  L = [] ∨ ∃ g o, A = some ⟨g, o, none⟩ ∧ g < w.heap.size ∧ ∀ j, j < L.length → w.cell? ⟨g, o + j * 2, none⟩ = some (.int .i64 (L.getD j txz).1) ∧ ∃ B c, w.cell? ⟨g, o + j * 2 + 1, none⟩ = some (.slice B (L.getD j txz).2.length c) ∧ PV w B (L.getD j txz).2
theorem TV.pos {w : World} {A : Option Addr} {L : List Tx} (h : TV w A L) (h0 : 0 < L.length) : ∃ g o, A = some ⟨g, o, none⟩ ∧ g < w.heap.size ∧ ∀ j, j < L.length → w.cell? ⟨g, o + j * 2, none⟩ = some (.int .i64 (L.getD j txz).1) ∧ ∃ B c, w.cell? ⟨g, o + j * 2 + 1, none⟩ = some (.slice B (L.getD j txz).2.length c) ∧ PV w B (L.getD j txz).2 := by
  rcases h with rfl | h
  · simp at h0
  · exact h
theorem TV.on {w w' : World} {A : Option Addr} {L : List Tx} (h : TV w A L) (hb : At w w') : TV w' A L := by
  rcases h with h | ⟨g, o, rfl, hlt, hc⟩
  · exact Or.inl h
  · refine Or.inr ⟨g, o, rfl, Nat.lt_of_lt_of_le hlt hb.size, fun j hj => ?_⟩
    obtain ⟨h1, B, c, h2, h3⟩ := hc j hj
    exact ⟨(Below.cell hb (p := ⟨g, o + j * 2, none⟩) hlt).trans h1, B, c, (Below.cell hb (p := ⟨g, o + j * 2 + 1, none⟩) hlt).trans h2, h3.on hb⟩
theorem TV.nil (w : World) (A : Option Addr) : TV w A [] := Or.inl rfl
theorem TV.take {w : World} {A : Option Addr} {L : List Tx} (h : TV w A L) (k : Nat) : TV w A (L.take k) := by
  rcases h with rfl | ⟨g, o, rfl, hlt, hc⟩
  · exact Or.inl (by simp)
  · refine Or.inr ⟨g, o, rfl, hlt, fun j hj => ?_⟩
    rw [List.length_take] at hj
    have e : (L.take k).getD j txz = L.getD j txz := by simp only [List.getD_eq_getElem?_getD, List.getElem?_take, if_pos (show j < k by omega)]
    rw [e]; exact hc j (by omega)
theorem TV.drop {w : World} {g o : Nat} {L : List Tx} (h : TV w (some ⟨g, o, none⟩) L) (k : Nat) : TV w (some ⟨g, o + k * 2, none⟩) (L.drop k) := by
  rcases h with rfl | ⟨g', o', he, hlt, hc⟩
  · exact Or.inl (by simp)
  · injection he with he
    injection he with h1 h2
    subst h1 h2
    refine Or.inr ⟨_, _, rfl, hlt, fun j hj => ?_⟩
    rw [List.length_drop] at hj
    have e : (L.drop k).getD j txz = L.getD (k + j) txz := by simp only [List.getD_eq_getElem?_getD, List.getElem?_drop]
    have := hc (k + j) (by omega)
    rw [e, show o + k * 2 + j * 2 = o + (k + j) * 2 by omega]; exact this

/-- The time of the last one of the first k, or 0. -/
def la (L : List Tx) : Nat → Int
  | 0 => 0
  | k + 1 => (L.getD k txz).1
/-- One stands in order, behind the time t. -/
structure O1 (t : Int) (x : Tx) : Prop where
  lo : t < x.1
  hi : x.1 ≤ 1099511627776
  ne : x.2 ≠ []
  rs : Em.Rs x.2
/-- All stand in order. -/
def Od (L : List Tx) : Prop := ∀ j, j < L.length → O1 (la L j) (L.getD j txz)
noncomputable def odB (L : List Tx) : Bool := @decide (Od L) (Classical.propDecidable _)
theorem odB_yes {L : List Tx} (h : Od L) : odB L = true := @decide_eq_true _ (Classical.propDecidable _) h
theorem odB_no {L : List Tx} (h : ¬ Od L) : odB L = false := @decide_eq_false _ (Classical.propDecidable _) h
theorem odB_at {L : List Tx} {j : Nat} (hj : j < L.length) (h : ¬ O1 (la L j) (L.getD j txz)) : odB L = false := odB_no fun h' => h (h' j hj)
theorem odB_iff (L : List Tx) : odB L = true ↔ Od L := @decide_eq_true_iff _ (Classical.propDecidable _)

/-- Block a is in one of the extents. -/
noncomputable def inB (L : List (Int × Int)) (a : Int) : Bool := @decide (In L a) (Classical.propDecidable _)
theorem inB_yes {L : List (Int × Int)} {a : Int} (h : In L a) : inB L a = true := @decide_eq_true _ (Classical.propDecidable _) h
theorem inB_no {L : List (Int × Int)} {a : Int} (h : ¬ In L a) : inB L a = false := @decide_eq_false _ (Classical.propDecidable _) h
theorem inB_iff {L : List (Int × Int)} {a : Int} : inB L a = true ↔ In L a := @decide_eq_true_iff _ (Classical.propDecidable _)
theorem in_va {L : List (Int × Int)} (hL : Nm L) {a : Int} (h : In L a) : Va (a, 1) := by
  obtain ⟨e, he, h1, h2⟩ := h
  have hv := hL.1 e he
  unfold Vm at hv
  unfold Va; simp only; omega
theorem me_in {L : List (Int × Int)} (hL : Nm L) (a : Int) : Iv.meB L a 1 = inB L a := by
  rw [Bool.eq_iff_iff, Iv.me_iff hL.1, inB_iff]
  constructor
  · rintro ⟨-, x, h1, h2⟩
    rw [Iv.in_one] at h1
    obtain rfl : x = a := by have := h1.1; have := h1.2; simp only at *; omega
    exact h2
  · intro h
    exact ⟨in_va hL h, a, (Iv.in_one _ _).2 ⟨Int.le_refl _, by simp only; omega⟩, h⟩

/-- The transaction writes into the set. -/
def Ag (x : Tx) (L : List (Int × Int)) : Prop := ∃ p ∈ x.2, In L p.1
noncomputable def agB (x : Tx) (L : List (Int × Int)) : Bool := @decide (Ag x L) (Classical.propDecidable _)
theorem agB_yes {x : Tx} {L : List (Int × Int)} (h : Ag x L) : agB x L = true := @decide_eq_true _ (Classical.propDecidable _) h
theorem agB_no {x : Tx} {L : List (Int × Int)} (h : ¬ Ag x L) : agB x L = false := @decide_eq_false _ (Classical.propDecidable _) h
theorem agB_iff {x : Tx} {L : List (Int × Int)} : agB x L = true ↔ Ag x L := @decide_eq_true_iff _ (Classical.propDecidable _)
/-- A block of the set has a version that is later than t. -/
def Lt_ (M : Em.St) (t : Int) (L : List (Int × Int)) : Prop := ∃ k : Nat, In L (k : Int) ∧ ∃ v ∈ M.V k, t < v.1
/-- What was committed, or waits, conflicts with the set. -/
def Cf (M : Em.St) (Q : List Tx) (t : Int) (L : List (Int × Int)) : Prop := Lt_ M t L ∨ ∃ x ∈ Q, Ag x L
/-- What Check tells. -/
noncomputable def ck (M : Em.St) (Q : List Tx) (t : Int) (R W : List (Int × Int)) : Int := open Classical in if W = [] then 0 else if Cf M Q t R ∨ Cf M Q t W then 8 else 0
theorem ck_none (M : Em.St) (Q : List Tx) (t : Int) (R : List (Int × Int)) : ck M Q t R [] = 0 := if_pos rfl
theorem ck_yes {M : Em.St} {Q : List Tx} {t : Int} {R W : List (Int × Int)} (h : W ≠ []) (h1 : Cf M Q t R ∨ Cf M Q t W) : ck M Q t R W = 8 := by
  unfold ck; rw [if_neg h, if_pos h1]
theorem ck_no {M : Em.St} {Q : List Tx} {t : Int} {R W : List (Int × Int)} (h1 : ¬ (Cf M Q t R ∨ Cf M Q t W)) : ck M Q t R W = 0 := by
  unfold ck
  by_cases h : W = []
  · rw [if_pos h]
  · rw [if_neg h, if_neg h1]
/-- The newest version of a block is no earlier than its others. -/
def Up (M : Em.St) : Prop := ∀ k, ∀ v ∈ M.V k, v.1 ≤ (Em.nw (M.V k)).1
theorem up_st0 (n : Nat) : Up (Em.st0 n) := fun _ _ h => by cases h
theorem up_took {M : Em.St} (hM : Em.Ok M) (h : Up M) (T : Int) (P : List Pt) : Up (Em.took M T P) := by
  by_cases h0 : Em.rf M T P = 0
  · rw [Em.took_ok h0]
    have hf := Em.fine_rf h0
    intro k v hv
    rcases Em.ups_at M.V T k P hf.rs with ⟨e, -⟩ | ⟨p, -, -, e⟩
    · have e' : (Em.ap M T P).V k = M.V k := e
      rw [e'] at hv ⊢; exact h k v hv
    · have e' : (Em.ap M T P).V k = M.V k ++ [(T, p.2)] := e
      rw [e'] at hv ⊢
      rw [Em.nw_app]
      rcases List.mem_append.1 hv with hv | hv
      · have h1 := hM.time k (Int.le_refl _) v hv
        have h2 := hf.t0
        simp only; omega
      · rw [List.mem_singleton.1 hv]; exact Int.le_refl _
  · rw [Em.took_no h0]; exact h
theorem up_iff {M : Em.St} (h : Up M) {k : Nat} {t : Int} : (∃ v ∈ M.V k, t < v.1) ↔ M.V k ≠ [] ∧ t < (Em.nw (M.V k)).1 := by
  constructor
  · rintro ⟨v, hv, h1⟩
    exact ⟨fun e => (by rw [e] at hv; cases hv), Int.lt_of_lt_of_le h1 (h k v hv)⟩
  · rintro ⟨h1, h2⟩
    exact ⟨_, Em.nw_mem _ h1, h2⟩

end Go.Proofs.Ytcffoebpgjonmaa
