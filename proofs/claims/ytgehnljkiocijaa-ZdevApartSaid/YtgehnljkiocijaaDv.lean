/- Proved: words for a device in memory: its struct, its zones, the blocks of each; what a call may have written. -/
import Derived.Test.YtgehnljkiocijaaBlk
import Derived.OneCell
namespace Go.Proofs.Ytgehnljkiocijaa
open Go.RowKit

/-- Outside of the blocks F all that was there is as it was. -/
structure Mv (F : Nat → Prop) (w w' : World) : Prop where
  os : w'.os = w.os
  tape : w'.tape = w.tape
  output : w'.output = w.output
  size : w.heap.size ≤ w'.heap.size
  block : ∀ k, k < w.heap.size → ¬ F k → w'.heap[k]? = w.heap[k]?
theorem Mv.refl (F : Nat → Prop) (w : World) : Mv F w w := ⟨rfl, rfl, rfl, Nat.le_refl _, fun _ _ _ => rfl⟩
theorem Mv.trans {F G : Nat → Prop} {a b c : World} (h : Mv F a b) (k : Mv G b c) (hG : ∀ g, G g → F g ∨ a.heap.size ≤ g) : Mv F a c :=
  ⟨k.os.trans h.os, k.tape.trans h.tape, k.output.trans h.output, Nat.le_trans h.size k.size, fun i hi hF => (k.block i (Nat.lt_of_lt_of_le hi h.size) (fun hg => by
    rcases hG i hg with h1 | h1
    · exact hF h1
    · omega)).trans (h.block i hi hF)⟩
theorem Mv.more {F G : Nat → Prop} {w w' : World} (h : Mv F w w') (hs : ∀ g, F g → G g ∨ w.heap.size ≤ g) : Mv G w w' :=
  ⟨h.os, h.tape, h.output, h.size, fun i hi hG => h.block i hi fun hF => by
    rcases hs i hF with h1 | h1
    · exact hG h1
    · omega⟩
theorem Mv.of_below (F : Nat → Prop) {w w' : World} (h : At w w') : Mv F w w' := ⟨h.os, h.tape, h.output, h.size, fun i hi _ => h.block i hi⟩
theorem Mv.next {F : Nat → Prop} {a b c : World} (h : Mv F a b) (k : At b c) : Mv F a c := h.trans (Mv.of_below F k) (fun _ => Or.inl)
theorem Mv.at_ {F : Nat → Prop} {w0 w w' : World} (h : Mv F w w') (ha : At w0 w) (hF : ∀ g, F g → w0.heap.size ≤ g) : At w0 w' :=
  ha.trans ⟨h.os, h.tape, h.output, h.size, fun i hi => h.block i (Nat.lt_of_lt_of_le hi ha.size) (fun hf => by have := hF i hf; omega)⟩
theorem Mv.drewN {F : Nat → Prop} {w w' : World} (h : Mv F w w') (n : Nat) : Mv F w (w'.drewN n) := ⟨h.os, h.tape, h.output, h.size, h.block⟩
theorem Mv.set {F : Nat → Prop} {w w' : World} (h : Mv F w w') {p : Addr} (hp : F p.block ∨ w.heap.size ≤ p.block) (u : Value) : Mv F w (w'.setCell p u) :=
  ⟨h.os, h.tape, h.output, by have := h.size; simp only [World.setCell, Array.size_modify]; exact this, fun i hi hF => (Below.heap_setCell _ _ _ _ (fun e => by
    subst e
    rcases hp with h1 | h1
    · exact hF h1
    · omega)).trans (h.block i hi hF)⟩
theorem Mv.grown {F : Nat → Prop} {w w1 w' : World} {row : Option Nat} (h : Mv F w w1) (hg : w1.grownBy w' row) (hr : ∀ k, row = some k → F k ∨ w.heap.size ≤ k) : Mv F w w' :=
  ⟨hg.os.trans h.os, hg.tape.trans h.tape, hg.output.trans h.output, Nat.le_trans h.size hg.size, fun i hi hF => (hg.block i (Nat.lt_of_lt_of_le hi h.size) (fun e => by
    rcases hr i e.symm with h1 | h1
    · exact hF h1
    · omega)).trans (h.block i hi hF)⟩

/-- A zone: its row, how many blocks, the row's room, how many of them last, the bytes of all. -/
structure Zr where
  g : Option Addr
  n : Nat
  c : Nat
  d : Nat
  L : List Nat
def Zr.none : Zr := ⟨Option.none, 0, 0, 0, []⟩
def sl (r : Zr) : Value := .slice r.g r.n r.c
def up (S : Nat → Zr) (z : Nat) (r : Zr) : Nat → Zr := fun k => if k = z then r else S k
theorem up_same (S : Nat → Zr) (z : Nat) (r : Zr) : up S z r z = r := if_pos rfl
theorem up_other (S : Nat → Zr) {z k : Nat} (r : Zr) (h : k ≠ z) : up S z r k = S k := if_neg h
/-- The cells of eight zones. -/
def zc (S : Nat → Zr) : List Value := [sl (S 0), .int .i64 (S 0).d, sl (S 1), .int .i64 (S 1).d, sl (S 2), .int .i64 (S 2).d, sl (S 3), .int .i64 (S 3).d, sl (S 4), .int .i64 (S 4).d, sl (S 5), .int .i64 (S 5).d, sl (S 6), .int .i64 (S 6).d, sl (S 7), .int .i64 (S 7).d]
theorem zc_len (S : Nat → Zr) : (zc S).length = 16 := rfl
theorem eight {k : Nat} (h : k < 8) : k = 0 ∨ k = 1 ∨ k = 2 ∨ k = 3 ∨ k = 4 ∨ k = 5 ∨ k = 6 ∨ k = 7 := by omega
theorem zc_row (S : Nat → Zr) {k : Nat} (h : k < 8) : (zc S)[2 * k]? = some (sl (S k)) := by
  rcases eight h with rfl | rfl | rfl | rfl | rfl | rfl | rfl | rfl <;> rfl
theorem zc_dur (S : Nat → Zr) {k : Nat} (h : k < 8) : (zc S)[2 * k + 1]? = some (.int .i64 (S k).d) := by
  rcases eight h with rfl | rfl | rfl | rfl | rfl | rfl | rfl | rfl <;> rfl
theorem zc_set (S : Nat → Zr) {k : Nat} (h : k < 8) (r : Zr) : ((zc S).set (2 * k) (sl r)).set (2 * k + 1) (.int .i64 (r.d : Int)) = zc (up S k r) := by
  rcases eight h with rfl | rfl | rfl | rfl | rfl | rfl | rfl | rfl <;> rfl
theorem zc_set_row (S : Nat → Zr) {k : Nat} (h : k < 8) (r : Zr) (hd : r.d = (S k).d) : (zc S).set (2 * k) (sl r) = zc (up S k r) := by
  rw [← zc_set S h r, hd]
  apply List.ext_getElem?
  intro i
  rw [List.getElem?_set (i := 2 * k + 1)]
  by_cases hi : 2 * k + 1 = i
  · subst hi
    rw [if_pos rfl, List.getElem?_set_ne (by omega), zc_dur S h, if_pos (by simp [zc_len]; omega)]
  · rw [if_neg hi]
theorem zc_set_dur (S : Nat → Zr) {k : Nat} (h : k < 8) (m : Nat) : (zc S).set (2 * k + 1) (.int .i64 (m : Int)) = zc (up S k { S k with d := m }) := by
  rw [← zc_set S h]
  congr 1
  apply List.ext_getElem?
  intro i
  rw [List.getElem?_set]
  by_cases hi : 2 * k = i
  · subst hi
    rw [if_pos rfl, zc_row S h, if_pos (by simp [zc_len]; omega)]; rfl
  · rw [if_neg hi]

/-- The row of a zone: none where the zone is empty. -/
def Zn (w : World) (r : Zr) : Prop := (r.n = 0 ∧ r.g = none ∧ r.c = 0 ∧ r.L = []) ∨ (0 < r.n ∧ ∃ g, r.g = some ⟨g, 0, none⟩ ∧ w.ownsRow 0 60 64 (sl r) r.n (r.L.map bt))
theorem Zn.own {w : World} {r : Zr} (h : Zn w r) : w.ownsRow 0 60 64 (sl r) r.n (r.L.map bt) := by
  rcases h with ⟨h1, h2, h3, h4⟩ | ⟨_, g, _, h⟩
  · obtain ⟨g, n, c, d, L⟩ := r
    simp only at h1 h2 h3 h4
    subst h1 h2 h3 h4
    exact World.ownsRow_nil _ _ _ _
  · exact h
theorem Zn.len {w : World} {r : Zr} (h : Zn w r) : r.L.length = 64 * r.n := by
  have := h.own.1
  rw [List.length_map] at this; omega
theorem Zn.none_ (w : World) (d : Nat) : Zn w ⟨none, 0, 0, d, []⟩ := Or.inl ⟨rfl, rfl, rfl, rfl⟩

/-- The blocks in which a device lies. -/
def Ft (b z : Nat) (S : Nat → Zr) (g : Nat) : Prop := g = b ∨ g = z ∨ ∃ k, k < 8 ∧ ∃ a, (S k).g = some a ∧ a.block = g

/-- The device at b, its zones at z: of so many blocks a zone, so many ops and reads; S its zones; no cut. -/
structure Dv (w : World) (b z : Nat) (sz ops rds : Nat) (S : Nat → Zr) : Prop where
  box : ∃ c, 8 ≤ c ∧ c ≤ maxLen ∧ w.heap[b]? = some (.cells #[.slice (some ⟨z, 0, none⟩) 8 c, .int .i64 (sz : Int), .int .i64 (ops : Int), .int .i64 (rds : Int), .int .i64 (-1), .bool false] 57 (0, 0))
  zon : ∃ T : List Value, w.heap[z]? = some (.cells (zc S ++ T).toArray 54 (0, 0))
  row : ∀ k, k < 8 → Zn w (S k)
  sep : ∀ i j, i < 8 → j < 8 → i ≠ j → ∀ a, (S i).g = some a → (S j).g ≠ some a
  le : ∀ k, k < 8 → (S k).n ≤ sz
  dur : ∀ k, k < 8 → (S k).d ≤ (S k).n
  top : sz ≤ 192
theorem Zn.keep {w w' : World} {r : Zr} (h : Zn w r) (hk : ∀ a, r.g = some a → w'.heap[a.block]? = w.heap[a.block]?) : Zn w' r := by
  rcases h with h | ⟨h0, g, hg, h1, h2⟩
  · exact Or.inl h
  · refine Or.inr ⟨h0, g, hg, h1, ?_⟩
    rcases h2 with h2 | ⟨g', cap, cur, hv, hB, hh, hr⟩
    · exact Or.inl h2
    · refine Or.inr ⟨g', cap, cur, hv, hB, ?_, hr⟩
      unfold sl at hv
      injection hv with e1 _ _
      rw [hk _ e1]; exact hh
theorem Zn.form {w : World} {r : Zr} (h : Zn w r) (a : Addr) (ha : r.g = some a) : ∃ g cap cur, a = ⟨g, 0, none⟩ ∧ w.heap[g]? = some (.cells cur 60 (0, 0)) ∧ r.c = cap ∧ r.n ≤ cap ∧ cap ≤ maxLen ∧ cur.size = cap * 64 ∧ cur.toList.take (r.n * 64) = r.L.map bt := by
  rcases h with ⟨_, h2, _, _⟩ | ⟨h0, g, hg, _, h2⟩
  · rw [h2] at ha; cases ha
  · rcases h2 with ⟨h2, h3⟩ | ⟨g', cap, cur, hv, _, hh, h3, h4, h5, h6⟩
    · omega
    · unfold sl at hv
      injection hv with e1 _ e3
      rw [ha] at e1
      injection e1 with e1
      exact ⟨g', cap, cur, e1, hh, e3, h3, h4, h5, h6⟩
theorem Zn.cap {w : World} {r : Zr} (h : Zn w r) : r.n ≤ r.c ∧ r.c ≤ maxLen := by
  rcases h with ⟨h1, _, h3, _⟩ | h
  · rw [h1, h3]; unfold maxLen; omega
  · obtain ⟨h0, g, hg, _⟩ := id h
    obtain ⟨_, cap, _, _, _, h3, h4, h5, _⟩ := Zn.form (Or.inr h) _ hg
    omega
theorem Dv.lt {w : World} {b z sz ops rds : Nat} {S : Nat → Zr} (h : Dv w b z sz ops rds S) : ∀ g, Ft b z S g → g < w.heap.size := by
  rintro g (rfl | rfl | ⟨k, hk, a, ha, rfl⟩)
  · obtain ⟨c, _, _, hb⟩ := h.box; exact lt_heap hb
  · obtain ⟨T, hz⟩ := h.zon; exact lt_heap hz
  · obtain ⟨g, _, _, rfl, hh, _⟩ := (h.row k hk).form a ha; exact lt_heap hh
theorem cells_ne {w : World} {a b : Nat} {cs ds : Array Value} {s t : TypeId} {m n : Nat × Nat} (h : w.heap[a]? = some (.cells cs s m)) (h' : w.heap[b]? = some (.cells ds t n)) (hne : s ≠ t) : a ≠ b := by
  rintro rfl
  rw [h] at h'
  injection h' with h'
  injection h' with _ ht
  exact hne ht
theorem Dv.bz {w : World} {b z sz ops rds : Nat} {S : Nat → Zr} (h : Dv w b z sz ops rds S) : b ≠ z := by
  obtain ⟨c, _, _, hb⟩ := h.box; obtain ⟨T, hz⟩ := h.zon
  exact cells_ne hb hz (by decide)
theorem Dv.br {w : World} {b z sz ops rds : Nat} {S : Nat → Zr} (h : Dv w b z sz ops rds S) (k : Nat) (hk : k < 8) (a : Addr) (ha : (S k).g = some a) : a.block ≠ b ∧ a.block ≠ z := by
  obtain ⟨c, _, _, hb⟩ := h.box; obtain ⟨T, hz⟩ := h.zon
  obtain ⟨g, _, _, rfl, hh, _⟩ := (h.row k hk).form a ha
  exact ⟨cells_ne hh hb (by decide), cells_ne hh hz (by decide)⟩
/-- What is written elsewhere leaves a device as it was. -/
theorem Dv.keep {w w' : World} {b z sz ops rds : Nat} {S : Nat → Zr} {F : Nat → Prop} (h : Dv w b z sz ops rds S) (hm : Mv F w w') (hF : ∀ g, Ft b z S g → ¬ F g) : Dv w' b z sz ops rds S where
  box := by
    obtain ⟨c, h1, h2, hb⟩ := h.box
    exact ⟨c, h1, h2, (hm.block b (lt_heap hb) (hF b (Or.inl rfl))).trans hb⟩
  zon := by
    obtain ⟨T, hz⟩ := h.zon
    exact ⟨T, (hm.block z (lt_heap hz) (hF z (Or.inr (Or.inl rfl)))).trans hz⟩
  row k hk := (h.row k hk).keep fun a ha => hm.block _ (h.lt _ (Or.inr (Or.inr ⟨k, hk, a, ha, rfl⟩))) (hF _ (Or.inr (Or.inr ⟨k, hk, a, ha, rfl⟩)))
  sep := h.sep
  le := h.le
  dur := h.dur
  top := h.top
theorem Dv.on {w w' : World} {b z sz ops rds : Nat} {S : Nat → Zr} (h : Dv w b z sz ops rds S) (hm : At w w') : Dv w' b z sz ops rds S :=
  h.keep (Mv.of_below (fun _ => False) hm) (fun _ _ h => h)

/-- What a call on a device has done: only the device's own blocks are written, and it lies in its own blocks and in new ones. -/
structure Did (w : World) (b z : Nat) (S S' : Nat → Zr) (w' : World) : Prop where
  mv : Mv (Ft b z S) w w'
  ft : ∀ g, Ft b z S' g → Ft b z S g ∨ w.heap.size ≤ g

end Go.Proofs.Ytgehnljkiocijaa
