/- Proved: words for memory: a slice that reads as a list of extents, kept over draws and new blocks; a row of extents of a call's own. -/
import Derived.Test.YthaiddhbifakhaaMem
namespace Go.Proofs.Ythaiddhbifakhaa.Iv
open Go.RowKit

/-- An extent's two cells, and those of a list. -/
def ec (e : Int × Int) : List Value := [.int .i64 e.1, .int .i64 e.2]
def fl : List (Int × Int) → List Value
  | [] => []
  | e :: L => .int .i64 e.1 :: .int .i64 e.2 :: fl L
theorem fl_app : ∀ (L M : List (Int × Int)), fl (L ++ M) = fl L ++ fl M
  | [], _ => rfl
  | e :: L, M => by rw [List.cons_append, fl, fl, fl_app L M]; rfl
theorem fl_one (e : Int × Int) : fl [e] = ec e := rfl
theorem fl_len : ∀ (L : List (Int × Int)), (fl L).length = L.length * 2
  | [] => rfl
  | e :: L => by rw [fl, List.length_cons, List.length_cons, fl_len L, List.length_cons]; omega
theorem fl_take : ∀ (L : List (Int × Int)) (k : Nat), fl (L.take k) = (fl L).take (k * 2)
  | [], k => by simp [fl]
  | e :: L, 0 => by simp [fl]
  | e :: L, k + 1 => by rw [List.take_succ_cons, fl, fl, fl_take L k, show (k + 1) * 2 = k * 2 + 1 + 1 by omega, List.take_succ_cons, List.take_succ_cons]
theorem fl_drop : ∀ (L : List (Int × Int)) (k : Nat), fl (L.drop k) = (fl L).drop (k * 2)
  | [], k => by simp [fl]
  | e :: L, 0 => by simp [fl]
  | e :: L, k + 1 => by rw [List.drop_succ_cons, fl_drop L k, fl, show (k + 1) * 2 = k * 2 + 1 + 1 by omega, List.drop_succ_cons, List.drop_succ_cons]
theorem fl_cells : ∀ (u : Value) (L : List (Int × Int)), u ∈ fl L → u.oneCell' = true
  | _, [], h => by cases h
  | u, e :: L, h => by
    rw [fl] at h
    rcases List.mem_cons.1 h with rfl | h
    · rfl
    · rcases List.mem_cons.1 h with rfl | h
      · rfl
      · exact fl_cells u L h
theorem fl_fst : ∀ (L : List (Int × Int)) (k : Nat), k < L.length → (fl L)[k * 2]? = some (.int .i64 (L.getD k (0, 0)).1)
  | [], k, h => by simp at h
  | e :: L, 0, _ => rfl
  | e :: L, k + 1, h => by
    rw [fl, show (k + 1) * 2 = k * 2 + 1 + 1 by omega, List.getElem?_cons_succ, List.getElem?_cons_succ, fl_fst L k (by simpa using h)]; rfl
theorem fl_snd : ∀ (L : List (Int × Int)) (k : Nat), k < L.length → (fl L)[k * 2 + 1]? = some (.int .i64 (L.getD k (0, 0)).2)
  | [], k, h => by simp at h
  | e :: L, 0, _ => rfl
  | e :: L, k + 1, h => by
    rw [fl, show (k + 1) * 2 + 1 = k * 2 + 1 + 1 + 1 by omega, List.getElem?_cons_succ, List.getElem?_cons_succ, fl_snd L k (by simpa using h)]; rfl
theorem fl_at (L : List (Int × Int)) (i : Nat) (u : Value) (h : (fl L)[i]? = some u) : i / 2 < L.length ∧ u = .int .i64 (if i % 2 = 0 then (L.getD (i / 2) (0, 0)).1 else (L.getD (i / 2) (0, 0)).2) := by
  have hl : i < L.length * 2 := by rw [← fl_len]; exact (List.getElem?_eq_some_iff.1 h).1
  have hk : i / 2 < L.length := by omega
  refine ⟨hk, ?_⟩
  by_cases h2 : i % 2 = 0
  · rw [if_pos h2]
    have := fl_fst L (i / 2) hk
    rw [show i / 2 * 2 = i by omega, h] at this
    injection this
  · rw [if_neg h2]
    have := fl_snd L (i / 2) hk
    rw [show i / 2 * 2 + 1 = i by omega, h] at this
    injection this

/-- The slice at A reads as the list L of extents. -/
def EV (w : World) (A : Option Addr) (L : List (Int × Int)) : Prop :=
  L = [] ∨ ∃ g o, A = some ⟨g, o, none⟩ ∧ g < w.heap.size ∧ ∀ j, j < L.length → w.cell? ⟨g, o + j * 2, none⟩ = some (.int .i64 (L.getD j (0, 0)).1) ∧ w.cell? ⟨g, o + j * 2 + 1, none⟩ = some (.int .i64 (L.getD j (0, 0)).2)
theorem EV.pos {w : World} {A : Option Addr} {L : List (Int × Int)} (h : EV w A L) (h0 : 0 < L.length) : ∃ g o, A = some ⟨g, o, none⟩ ∧ g < w.heap.size ∧ ∀ j, j < L.length → w.cell? ⟨g, o + j * 2, none⟩ = some (.int .i64 (L.getD j (0, 0)).1) ∧ w.cell? ⟨g, o + j * 2 + 1, none⟩ = some (.int .i64 (L.getD j (0, 0)).2) := by
  rcases h with rfl | h
  · simp at h0
  · exact h
theorem EV.nil (w : World) (A : Option Addr) : EV w A [] := Or.inl rfl
theorem EV.on {w w' : World} {A : Option Addr} {L : List (Int × Int)} (h : EV w A L) (hb : At w w') : EV w' A L := by
  rcases h with h | ⟨b, o, rfl, hlt, hc⟩
  · exact Or.inl h
  · exact Or.inr ⟨b, o, rfl, Nat.lt_of_lt_of_le hlt hb.size, fun j hj => ⟨(Below.cell hb (p := ⟨b, o + j * 2, none⟩) hlt).trans (hc j hj).1, (Below.cell hb (p := ⟨b, o + j * 2 + 1, none⟩) hlt).trans (hc j hj).2⟩⟩
/-- The cells one by one, as the laws on append and copy ask for them. -/
theorem EV.cells {w : World} {A : Option Addr} {L : List (Int × Int)} (h : EV w A L) (h0 : 0 < L.length) : ∃ ad, A = some ad ∧ ad.block < w.heap.size ∧ ∀ j u, (fl L)[j]? = some u → w.cell? (ad.add j) = some u := by
  obtain ⟨g, o, rfl, hlt, hc⟩ := h.pos h0
  refine ⟨_, rfl, hlt, fun j u hu => ?_⟩
  rw [Go.WideShapes.add_plain]
  obtain ⟨hk, rfl⟩ := fl_at L j u hu
  by_cases h2 : j % 2 = 0
  · rw [if_pos h2, ← (hc _ hk).1]; congr 2; omega
  · rw [if_neg h2, ← (hc _ hk).2]; congr 2; omega
theorem EV.cut {w : World} {g o : Nat} {L : List (Int × Int)} (h : EV w (some ⟨g, o, none⟩) L) (k m : Nat) : EV w (some ⟨g, o + k * 2, none⟩) ((L.drop k).take m) := by
  rcases h with rfl | ⟨g', o', he, hlt, hc⟩
  · exact Or.inl (by simp)
  · injection he with he
    injection he with h1 h2
    subst h1 h2
    refine Or.inr ⟨g, _, rfl, hlt, fun j hj => ?_⟩
    have hj' : j < m ∧ k + j < L.length := by rw [List.length_take, List.length_drop] at hj; omega
    have e : ((L.drop k).take m).getD j (0, 0) = L.getD (k + j) (0, 0) := by
      rw [List.getD_eq_getElem?_getD, List.getD_eq_getElem?_getD, List.getElem?_take, if_pos hj'.1, List.getElem?_drop]
    rw [e]
    have := hc (k + j) hj'.2
    rw [show o + k * 2 + j * 2 = o + (k + j) * 2 by omega]; exact this

/-- A row of extents of the program's own: the slice v holds L. -/
def Ow (w : World) (v : Value) (L : List (Int × Int)) : Prop := w.ownsRow 0 75 2 v L.length (fl L)
theorem Ow.nil (w : World) : Ow w (.slice none 0 0) [] := World.ownsRow_nil _ _ _ _
theorem Ow.form {w : World} {v : Value} {L : List (Int × Int)} (h : Ow w v L) : (v = .slice none 0 0 ∧ L = []) ∨ ∃ g c T, v = .slice (some ⟨g, 0, none⟩) L.length c ∧ L.length ≤ c ∧ c ≤ maxLen ∧ (fl L ++ T).length = c * 2 ∧ w.heap[g]? = some (.cells (fl L ++ T).toArray 75 (0, 0)) := by
  rcases h.2 with ⟨h1, h2⟩ | ⟨g, cap, cur, h1, _, h3, h4, h5, h6, h7⟩
  · exact Or.inl ⟨h1, List.eq_nil_of_length_eq_zero h2⟩
  · refine Or.inr ⟨g, cap, cur.toList.drop (L.length * 2), h1, h4, h5, ?_, ?_⟩
    · rw [← h7, List.take_append_drop, Array.length_toList, h6]
    · rw [← h7, List.take_append_drop, Array.toArray_toList]; exact h3
theorem Ow.of_block {w : World} {g c : Nat} {L : List (Int × Int)} {T : List Value} (h1 : L.length ≤ c) (h2 : c ≤ maxLen) (h3 : (fl L ++ T).length = c * 2) (h4 : w.heap[g]? = some (.cells (fl L ++ T).toArray 75 (0, 0))) : Ow w (.slice (some ⟨g, 0, none⟩) L.length c) L :=
  ⟨fl_len L, Or.inr ⟨g, c, _, rfl, Nat.zero_le _, h4, h1, h2, by rw [List.size_toArray, h3], by rw [← fl_len]; simp⟩⟩
theorem Ow.lt {w : World} {v : Value} {L : List (Int × Int)} (h : Ow w v L) {g : Nat} (hg : v.ownBlock = some g) : g < w.heap.size := by
  rcases h.form with ⟨rfl, _⟩ | ⟨g', c, T, rfl, _, _, _, h4⟩
  · cases hg
  · injection hg with hg; rw [← hg]; exact lt_heap h4
theorem Ow.keep {w w' : World} {v : Value} {L : List (Int × Int)} (h : Ow w v L) (hk : ∀ g, v.ownBlock = some g → w'.heap[g]? = w.heap[g]?) : Ow w' v L := by
  refine ⟨h.1, ?_⟩
  rcases h.2 with h | ⟨g, cap, cur, hv, hB, hh, hr⟩
  · exact Or.inl h
  · refine Or.inr ⟨g, cap, cur, hv, hB, ?_, hr⟩
    rw [hk g (by rw [hv]; rfl)]; exact hh
theorem Ow.on {w w' : World} {v : Value} {L : List (Int × Int)} (h : Ow w v L) (hm : At w w') : Ow w' v L := h.keep fun _ hg => hm.block _ (h.lt hg)
theorem Ow.mv {w w' : World} {F : Nat → Prop} {v : Value} {L : List (Int × Int)} (h : Ow w v L) (hm : Mv F w w') (hF : ∀ g, v.ownBlock = some g → ¬ F g) : Ow w' v L := h.keep fun g hg => hm.block _ (h.lt hg) (hF g hg)
theorem Ow.ev {w : World} {v : Value} {L : List (Int × Int)} (h : Ow w v L) : ∃ A c, v = .slice A L.length c ∧ L.length ≤ c ∧ c ≤ maxLen ∧ EV w A L := by
  rcases h.form with ⟨rfl, rfl⟩ | ⟨g, c, T, rfl, h1, h2, h3, h4⟩
  · exact ⟨none, 0, rfl, by simp, by unfold maxLen; omega, Or.inl rfl⟩
  · refine ⟨_, c, rfl, h1, h2, Or.inr ⟨g, 0, rfl, lt_heap h4, fun j hj => ?_⟩⟩
    have hl := fl_len L
    constructor
    · rw [cell_at h4, List.getElem?_toArray, List.getElem?_append_left (by omega), Nat.zero_add]; exact fl_fst L j hj
    · rw [cell_at h4, List.getElem?_toArray, List.getElem?_append_left (by omega), Nat.zero_add]; exact fl_snd L j hj
theorem own_ne {v v' : Value} {g : Nat} (h : v.ownBlock ≠ v'.ownBlock) (h1 : v.ownBlock = some g) : v'.ownBlock ≠ some g := fun h2 => h (h1.trans h2.symm)
theorem info_ext : (Try.prog.info? 75).map (fun i => (i.zero, i.size, i.bytes)) = some (some (.agg #[.int .i64 0, .int .i64 0]), 2, 16) := by kernel_rfl

end Go.Proofs.Ythaiddhbifakhaa.Iv
