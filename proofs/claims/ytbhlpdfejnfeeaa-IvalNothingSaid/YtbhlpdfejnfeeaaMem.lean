/- Proved: words for memory: a slice that reads as a list of extents, kept over draws and new blocks; what a call may have written; a row of extents of a call's own. -/
import Derived.Test.YtbhlpdfejnfeeaaRows
import Derived.Test.YtbhlpdfejnfeeaaPure
import Derived.WalkKit
import Derived.WalkSpells
import Derived.WalkLawsBesides
import Derived.Lib.Hide
import Derived.Deep.QuietTactic
import Derived.BigQuiet
import Derived.LoopN
import Derived.Handy
import Derived.Deep.Draws
import Derived.Deep.AppendLies
import Derived.Laws.OwnMore
import Derived.OneCell
import Derived.Maps.AppendAt
import Derived.Laws.AppendOwnNone
namespace Go.Proofs.Ytbhlpdfejnfeeaa
open Go.RowKit

/-- What stood at w0 stands. -/
def At (w0 w : World) : Prop := Below w0.heap.size w0 w
theorem At.start (w : World) : At w w := Below.refl _ _
theorem At.next {w0 w w' : World} (h : At w0 w) (h' : Below w.heap.size w w') : At w0 w' := h.trans (h'.mono h.size)
theorem At.drewN {w0 w : World} (h : At w0 w) (n : Nat) : At w0 (w.drewN n) := ⟨h.os, h.tape, h.output, h.size, h.block⟩
theorem At.alloc {w0 w : World} (h : At w0 w) (o : Obj) : At w0 (w.alloc o) := Below.alloc h h.size o
/-- A call hands back v and writes only what is new. -/
def Gives (v : Value) (w : World) (e : Ending) (w' : World) : Prop := e = .returned v ∧ Below w.heap.size w w'

theorem lt_heap {w : World} {g : Nat} {o : Obj} (h : w.heap[g]? = some o) : g < w.heap.size := by
  rcases Nat.lt_or_ge g w.heap.size with h' | h'
  · exact h'
  · rw [Array.getElem?_eq_none h'] at h; cases h
/-- A block of cells of which one is written. -/
theorem heap_set {w : World} {b t : Nat} {cs : Array Value} (h : w.heap[b]? = some (.cells cs t (0, 0))) (i : Nat) (u : Value) : (w.setCell ⟨b, i, none⟩ u).heap[b]? = some (.cells (cs.setIfInBounds i u) t (0, 0)) := by
  rw [setCell_eq_setRow w b i _ _ _ _ h]
  exact setRow_heap w b _ _ _ _ h
theorem cell_at {w : World} {b t : Nat} {cs : Array Value} (h : w.heap[b]? = some (.cells cs t (0, 0))) (i : Nat) : w.cell? ⟨b, i, none⟩ = cs[i]? := by
  unfold World.cell?; simp [h]
theorem free_at {w : World} {b t : Nat} {cs : Array Value} (h : w.heap[b]? = some (.cells cs t (0, 0))) (i : Nat) : w.frozen? ⟨b, i, none⟩ = false := by
  unfold World.frozen?; simp [h]
theorem cells_ne {w : World} {a b : Nat} {cs ds : Array Value} {s t : TypeId} {m n : Nat × Nat} (h : w.heap[a]? = some (.cells cs s m)) (h' : w.heap[b]? = some (.cells ds t n)) (hne : s ≠ t) : a ≠ b := by
  rintro rfl
  rw [h] at h'
  injection h' with h'
  injection h' with _ ht
  exact hne ht

/-- Outside of the blocks F all that was there is as it was. -/
structure Mv (F : Nat → Prop) (w w' : World) : Prop where
  os : w'.os = w.os
  tape : w'.tape = w.tape
  output : w'.output = w.output
  size : w.heap.size ≤ w'.heap.size
  block : ∀ k, k < w.heap.size → ¬ F k → w'.heap[k]? = w.heap[k]?
theorem Mv.refl (F : Nat → Prop) (w : World) : Mv F w w := ⟨rfl, rfl, rfl, Nat.le_refl _, fun _ _ _ => rfl⟩
theorem Mv.trans {F G : Nat → Prop} {a b c : World} (h : Mv F a b) (k : Mv G b c) (hG : ∀ g, G g → F g ∨ a.heap.size ≤ g) : Mv F a c :=
  ⟨k.os.trans h.os, k.tape.trans h.tape, k.output.trans h.output, Nat.le_trans h.size k.size, fun i hi hF => (k.block i (Nat.lt_of_lt_of_le hi h.size) (fun hg => by
    rcases hG i hg with h1 | h1
    · exact hF h1
    · omega)).trans (h.block i hi hF)⟩
theorem Mv.more {F G : Nat → Prop} {w w' : World} (h : Mv F w w') (hs : ∀ g, F g → G g ∨ w.heap.size ≤ g) : Mv G w w' :=
  ⟨h.os, h.tape, h.output, h.size, fun i hi hG => h.block i hi fun hF => by
    rcases hs i hF with h1 | h1
    · exact hG h1
    · omega⟩
theorem Mv.of_below (F : Nat → Prop) {w w' : World} (h : At w w') : Mv F w w' := ⟨h.os, h.tape, h.output, h.size, fun i hi _ => h.block i hi⟩
theorem Mv.next {F : Nat → Prop} {a b c : World} (h : Mv F a b) (k : At b c) : Mv F a c := h.trans (Mv.of_below F k) (fun _ => Or.inl)
theorem Mv.at_ {F : Nat → Prop} {w0 w w' : World} (h : Mv F w w') (ha : At w0 w) (hF : ∀ g, F g → w0.heap.size ≤ g) : At w0 w' :=
  ha.trans ⟨h.os, h.tape, h.output, h.size, fun i hi => h.block i (Nat.lt_of_lt_of_le hi ha.size) (fun hf => by have := hF i hf; omega)⟩
theorem Mv.drewN {F : Nat → Prop} {w w' : World} (h : Mv F w w') (n : Nat) : Mv F w (w'.drewN n) := ⟨h.os, h.tape, h.output, h.size, h.block⟩
theorem Mv.set {F : Nat → Prop} {w w' : World} (h : Mv F w w') {p : Addr} (hp : F p.block ∨ w.heap.size ≤ p.block) (u : Value) : Mv F w (w'.setCell p u) :=
  ⟨h.os, h.tape, h.output, by have := h.size; simp only [World.setCell, Array.size_modify]; exact this, fun i hi hF => (Below.heap_setCell _ _ _ _ (fun e => by
    subst e
    rcases hp with h1 | h1
    · exact hF h1
    · omega)).trans (h.block i hi hF)⟩
theorem Mv.grown {F : Nat → Prop} {w w1 w' : World} {row : Option Nat} (h : Mv F w w1) (hg : w1.grownBy w' row) (hr : ∀ k, row = some k → F k ∨ w.heap.size ≤ k) : Mv F w w' :=
  ⟨hg.os.trans h.os, hg.tape.trans h.tape, hg.output.trans h.output, Nat.le_trans h.size hg.size, fun i hi hF => (hg.block i (Nat.lt_of_lt_of_le hi h.size) (fun e => by
    rcases hr i e.symm with h1 | h1
    · exact hF h1
    · omega)).trans (h.block i hi hF)⟩

theorem Mv.keep {F : Nat → Prop} {w w' : World} (h : Mv F w w') {g : Nat} {o : Obj} (hg : w.heap[g]? = some o) (hF : ¬ F g) : w'.heap[g]? = some o := (h.block g (lt_heap hg) hF).trans hg
theorem At.keep {w w' : World} (h : At w w') {g : Nat} {o : Obj} (hg : w.heap[g]? = some o) : w'.heap[g]? = some o := (h.block g (lt_heap hg)).trans hg

/-- An extent's two cells, and those of a list. -/
def ec (e : Int × Int) : List Value := [.int .i64 e.1, .int .i64 e.2]
def fl : List (Int × Int) → List Value
  | [] => []
  | e :: L => .int .i64 e.1 :: .int .i64 e.2 :: fl L
theorem fl_app : ∀ (L M : List (Int × Int)), fl (L ++ M) = fl L ++ fl M
  | [], _ => rfl
  | e :: L, M => by rw [List.cons_append, fl, fl, fl_app L M]; rfl
theorem fl_one (e : Int × Int) : fl [e] = ec e := rfl
theorem fl_len : ∀ (L : List (Int × Int)), (fl L).length = L.length * 2
  | [] => rfl
  | e :: L => by rw [fl, List.length_cons, List.length_cons, fl_len L, List.length_cons]; omega
theorem fl_take : ∀ (L : List (Int × Int)) (k : Nat), fl (L.take k) = (fl L).take (k * 2)
  | [], k => by simp [fl]
  | e :: L, 0 => by simp [fl]
  | e :: L, k + 1 => by rw [List.take_succ_cons, fl, fl, fl_take L k, show (k + 1) * 2 = k * 2 + 1 + 1 by omega, List.take_succ_cons, List.take_succ_cons]
theorem fl_drop : ∀ (L : List (Int × Int)) (k : Nat), fl (L.drop k) = (fl L).drop (k * 2)
  | [], k => by simp [fl]
  | e :: L, 0 => by simp [fl]
  | e :: L, k + 1 => by rw [List.drop_succ_cons, fl_drop L k, fl, show (k + 1) * 2 = k * 2 + 1 + 1 by omega, List.drop_succ_cons, List.drop_succ_cons]
theorem fl_cells : ∀ (u : Value) (L : List (Int × Int)), u ∈ fl L → u.oneCell' = true
  | _, [], h => by cases h
  | u, e :: L, h => by
    rw [fl] at h
    rcases List.mem_cons.1 h with rfl | h
    · rfl
    · rcases List.mem_cons.1 h with rfl | h
      · rfl
      · exact fl_cells u L h
theorem fl_fst : ∀ (L : List (Int × Int)) (k : Nat), k < L.length → (fl L)[k * 2]? = some (.int .i64 (L.getD k (0, 0)).1)
  | [], k, h => by simp at h
  | e :: L, 0, _ => rfl
  | e :: L, k + 1, h => by
    rw [fl, show (k + 1) * 2 = k * 2 + 1 + 1 by omega, List.getElem?_cons_succ, List.getElem?_cons_succ, fl_fst L k (by simpa using h)]; rfl
theorem fl_snd : ∀ (L : List (Int × Int)) (k : Nat), k < L.length → (fl L)[k * 2 + 1]? = some (.int .i64 (L.getD k (0, 0)).2)
  | [], k, h => by simp at h
  | e :: L, 0, _ => rfl
  | e :: L, k + 1, h => by
    rw [fl, show (k + 1) * 2 + 1 = k * 2 + 1 + 1 + 1 by omega, List.getElem?_cons_succ, List.getElem?_cons_succ, fl_snd L k (by simpa using h)]; rfl
theorem fl_at (L : List (Int × Int)) (i : Nat) (u : Value) (h : (fl L)[i]? = some u) : i / 2 < L.length ∧ u = .int .i64 (if i % 2 = 0 then (L.getD (i / 2) (0, 0)).1 else (L.getD (i / 2) (0, 0)).2) := by
  have hl : i < L.length * 2 := by rw [← fl_len]; exact (List.getElem?_eq_some_iff.1 h).1
  have hk : i / 2 < L.length := by omega
  refine ⟨hk, ?_⟩
  by_cases h2 : i % 2 = 0
  · rw [if_pos h2]
    have := fl_fst L (i / 2) hk
    rw [show i / 2 * 2 = i by omega, h] at this
    injection this
  · rw [if_neg h2]
    have := fl_snd L (i / 2) hk
    rw [show i / 2 * 2 + 1 = i by omega, h] at this
    injection this

/-- The slice at A reads as the list L of extents. -/
def EV (w : World) (A : Option Addr) (L : List (Int × Int)) : Prop :=
  L = [] ∨ ∃ g o, A = some ⟨g, o, none⟩ ∧ g < w.heap.size ∧ ∀ j, j < L.length → w.cell? ⟨g, o + j * 2, none⟩ = some (.int .i64 (L.getD j (0, 0)).1) ∧ w.cell? ⟨g, o + j * 2 + 1, none⟩ = some (.int .i64 (L.getD j (0, 0)).2)
theorem EV.pos {w : World} {A : Option Addr} {L : List (Int × Int)} (h : EV w A L) (h0 : 0 < L.length) : ∃ g o, A = some ⟨g, o, none⟩ ∧ g < w.heap.size ∧ ∀ j, j < L.length → w.cell? ⟨g, o + j * 2, none⟩ = some (.int .i64 (L.getD j (0, 0)).1) ∧ w.cell? ⟨g, o + j * 2 + 1, none⟩ = some (.int .i64 (L.getD j (0, 0)).2) := by
  rcases h with rfl | h
  · simp at h0
  · exact h
theorem EV.nil (w : World) (A : Option Addr) : EV w A [] := Or.inl rfl
theorem EV.on {w w' : World} {A : Option Addr} {L : List (Int × Int)} (h : EV w A L) (hb : At w w') : EV w' A L := by
  rcases h with h | ⟨b, o, rfl, hlt, hc⟩
  · exact Or.inl h
  · exact Or.inr ⟨b, o, rfl, Nat.lt_of_lt_of_le hlt hb.size, fun j hj => ⟨(Below.cell hb (p := ⟨b, o + j * 2, none⟩) hlt).trans (hc j hj).1, (Below.cell hb (p := ⟨b, o + j * 2 + 1, none⟩) hlt).trans (hc j hj).2⟩⟩
/-- The cells one by one, as the laws on append and copy ask for them. -/
theorem EV.cells {w : World} {A : Option Addr} {L : List (Int × Int)} (h : EV w A L) (h0 : 0 < L.length) : ∃ ad, A = some ad ∧ ad.block < w.heap.size ∧ ∀ j u, (fl L)[j]? = some u → w.cell? (ad.add j) = some u := by
  obtain ⟨g, o, rfl, hlt, hc⟩ := h.pos h0
  refine ⟨_, rfl, hlt, fun j u hu => ?_⟩
  rw [Go.WideShapes.add_plain]
  obtain ⟨hk, rfl⟩ := fl_at L j u hu
  by_cases h2 : j % 2 = 0
  · rw [if_pos h2, ← (hc _ hk).1]; congr 2; omega
  · rw [if_neg h2, ← (hc _ hk).2]; congr 2; omega
theorem EV.cut {w : World} {g o : Nat} {L : List (Int × Int)} (h : EV w (some ⟨g, o, none⟩) L) (k m : Nat) : EV w (some ⟨g, o + k * 2, none⟩) ((L.drop k).take m) := by
  rcases h with rfl | ⟨g', o', he, hlt, hc⟩
  · exact Or.inl (by simp)
  · injection he with he
    injection he with h1 h2
    subst h1 h2
    refine Or.inr ⟨g, _, rfl, hlt, fun j hj => ?_⟩
    have hj' : j < m ∧ k + j < L.length := by rw [List.length_take, List.length_drop] at hj; omega
    have e : ((L.drop k).take m).getD j (0, 0) = L.getD (k + j) (0, 0) := by
      rw [List.getD_eq_getElem?_getD, List.getD_eq_getElem?_getD, List.getElem?_take, if_pos hj'.1, List.getElem?_drop]
    rw [e]
    have := hc (k + j) hj'.2
    rw [show o + k * 2 + j * 2 = o + (k + j) * 2 by omega]; exact this

/-- A row of extents of the program's own: the slice v holds L. -/
def Ow (w : World) (v : Value) (L : List (Int × Int)) : Prop := w.ownsRow 0 28 2 v L.length (fl L)
theorem Ow.nil (w : World) : Ow w (.slice none 0 0) [] := World.ownsRow_nil _ _ _ _
theorem Ow.form {w : World} {v : Value} {L : List (Int × Int)} (h : Ow w v L) : (v = .slice none 0 0 ∧ L = []) ∨ ∃ g c T, v = .slice (some ⟨g, 0, none⟩) L.length c ∧ L.length ≤ c ∧ c ≤ maxLen ∧ (fl L ++ T).length = c * 2 ∧ w.heap[g]? = some (.cells (fl L ++ T).toArray 28 (0, 0)) := by
  rcases h.2 with ⟨h1, h2⟩ | ⟨g, cap, cur, h1, _, h3, h4, h5, h6, h7⟩
  · exact Or.inl ⟨h1, List.eq_nil_of_length_eq_zero h2⟩
  · refine Or.inr ⟨g, cap, cur.toList.drop (L.length * 2), h1, h4, h5, ?_, ?_⟩
    · rw [← h7, List.take_append_drop, Array.length_toList, h6]
    · rw [← h7, List.take_append_drop, Array.toArray_toList]; exact h3
theorem Ow.of_block {w : World} {g c : Nat} {L : List (Int × Int)} {T : List Value} (h1 : L.length ≤ c) (h2 : c ≤ maxLen) (h3 : (fl L ++ T).length = c * 2) (h4 : w.heap[g]? = some (.cells (fl L ++ T).toArray 28 (0, 0))) : Ow w (.slice (some ⟨g, 0, none⟩) L.length c) L :=
  ⟨fl_len L, Or.inr ⟨g, c, _, rfl, Nat.zero_le _, h4, h1, h2, by rw [List.size_toArray, h3], by rw [← fl_len]; simp⟩⟩
theorem Ow.lt {w : World} {v : Value} {L : List (Int × Int)} (h : Ow w v L) {g : Nat} (hg : v.ownBlock = some g) : g < w.heap.size := by
  rcases h.form with ⟨rfl, _⟩ | ⟨g', c, T, rfl, _, _, _, h4⟩
  · cases hg
  · injection hg with hg; rw [← hg]; exact lt_heap h4
theorem Ow.keep {w w' : World} {v : Value} {L : List (Int × Int)} (h : Ow w v L) (hk : ∀ g, v.ownBlock = some g → w'.heap[g]? = w.heap[g]?) : Ow w' v L := by
  refine ⟨h.1, ?_⟩
  rcases h.2 with h | ⟨g, cap, cur, hv, hB, hh, hr⟩
  · exact Or.inl h
  · refine Or.inr ⟨g, cap, cur, hv, hB, ?_, hr⟩
    rw [hk g (by rw [hv]; rfl)]; exact hh
theorem Ow.on {w w' : World} {v : Value} {L : List (Int × Int)} (h : Ow w v L) (hm : At w w') : Ow w' v L := h.keep fun _ hg => hm.block _ (h.lt hg)
theorem Ow.mv {w w' : World} {F : Nat → Prop} {v : Value} {L : List (Int × Int)} (h : Ow w v L) (hm : Mv F w w') (hF : ∀ g, v.ownBlock = some g → ¬ F g) : Ow w' v L := h.keep fun g hg => hm.block _ (h.lt hg) (hF g hg)
theorem Ow.ev {w : World} {v : Value} {L : List (Int × Int)} (h : Ow w v L) : ∃ A c, v = .slice A L.length c ∧ L.length ≤ c ∧ c ≤ maxLen ∧ EV w A L := by
  rcases h.form with ⟨rfl, rfl⟩ | ⟨g, c, T, rfl, h1, h2, h3, h4⟩
  · exact ⟨none, 0, rfl, by simp, by unfold maxLen; omega, Or.inl rfl⟩
  · refine ⟨_, c, rfl, h1, h2, Or.inr ⟨g, 0, rfl, lt_heap h4, fun j hj => ?_⟩⟩
    have hl := fl_len L
    constructor
    · rw [cell_at h4, List.getElem?_toArray, List.getElem?_append_left (by omega), Nat.zero_add]; exact fl_fst L j hj
    · rw [cell_at h4, List.getElem?_toArray, List.getElem?_append_left (by omega), Nat.zero_add]; exact fl_snd L j hj
theorem own_ne {v v' : Value} {g : Nat} (h : v.ownBlock ≠ v'.ownBlock) (h1 : v.ownBlock = some g) : v'.ownBlock ≠ some g := fun h2 => h (h1.trans h2.symm)
theorem info_ext : (Try.prog.info? 28).map (fun i => (i.zero, i.size, i.bytes)) = some (some (.agg #[.int .i64 0, .int .i64 0]), 2, 16) := by kernel_rfl

/-- The number from 0 to ahead of n that Round keeps. -/
def rd (k : Int) (n : Nat) : Nat := if k.tmod (n : Int) < 0 then (k.tmod (n : Int) + (n : Int)).toNat else (k.tmod (n : Int)).toNat
theorem rd_lt (k : Int) (n : Nat) (h : 1 ≤ n) : rd k n < n := by
  have b1 : k.tmod (n : Int) < (n : Int) := Int.tmod_lt_of_pos k (by omega)
  have b2 : -(n : Int) < k.tmod (n : Int) := Int.lt_tmod_of_pos k (show (0 : Int) < (n : Int) by omega)
  unfold rd; split <;> omega
set_option maxHeartbeats 400000 in
theorem round_any (k : Int) (n : Nat) (h1 : 1 ≤ n) (h2 : n ≤ 100000) (w : World) : Calls Try.prog 19 #[.int .i64 k, .int .i64 (n : Int)] w fun e w' => e = .returned (.int .i64 (rd k n : Int)) ∧ w = w' := by
  have b1 : k.tmod (n : Int) < (n : Int) := Int.tmod_lt_of_pos k (by omega)
  have b2 : -(n : Int) < k.tmod (n : Int) := Int.lt_tmod_of_pos k (show (0 : Int) < (n : Int) by omega)
  have hr : rd k n = if k.tmod (n : Int) < 0 then (k.tmod (n : Int) + (n : Int)).toNat else (k.tmod (n : Int)).toNat := rfl
  obtain ⟨r, hrd⟩ : ∃ r, r = rd k n := ⟨_, rfl⟩
  rw [← hrd] at hr ⊢
  clear hrd
  obtain ⟨t, ht⟩ : ∃ t, k.tmod (n : Int) = t := ⟨_, rfl⟩
  rw [ht] at b1 b2 hr
  have hn0 : ¬ ((n : Int) = 0) := by omega
  by_cases h : t < 0
  · rw [if_pos h] at hr
    have hr2 : t + (n : Int) = (r : Int) := by omega
    have HR := Lib.hid hr2
    clear hr hr2
    go_enter Try.func19, Try.ntmps19
    go_wp2
    go_ret
    exact ⟨by rw [← HR.out]; rfl, rfl⟩
  · rw [if_neg h] at hr
    have hr2 : t = (r : Int) := by omega
    have HR := Lib.hid hr2
    clear hr hr2
    go_enter Try.func19, Try.ntmps19
    go_wp2
    go_ret
    exact ⟨by rw [← HR.out]; rfl, rfl⟩

end Go.Proofs.Ytbhlpdfejnfeeaa
