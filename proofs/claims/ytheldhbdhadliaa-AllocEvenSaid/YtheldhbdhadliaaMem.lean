/- Proved: words for memory: a slice that reads as a list of numbers, kept over draws and new blocks; what a call may have written; one number appended to a row of a call's own; two lists held against each other. -/
import Derived.Test.YtheldhbdhadliaaRows
import Derived.Test.YtheldhbdhadliaaPure
import Derived.WalkKit
import Derived.WalkSpells
import Derived.WalkLawsBesides
import Derived.Lib.Hide
import Derived.Deep.QuietTactic
import Derived.BigQuiet
import Derived.LoopN
import Derived.Handy
import Derived.Deep.Draws
import Derived.Deep.AppendLies
import Derived.Laws.OwnMore
import Derived.OneCell
import Derived.Maps.AppendAt
import Derived.Laws.AppendOwnNone
namespace Go.Proofs.Ytheldhbdhadliaa
open Go.RowKit

/-- What stood at w0 stands. -/
def At (w0 w : World) : Prop := Below w0.heap.size w0 w
theorem At.start (w : World) : At w w := Below.refl _ _
theorem At.next {w0 w w' : World} (h : At w0 w) (h' : Below w.heap.size w w') : At w0 w' := h.trans (h'.mono h.size)
theorem At.drewN {w0 w : World} (h : At w0 w) (n : Nat) : At w0 (w.drewN n) := ⟨h.os, h.tape, h.output, h.size, h.block⟩
theorem At.alloc {w0 w : World} (h : At w0 w) (o : Obj) : At w0 (w.alloc o) := Below.alloc h h.size o
/-- A call hands back v and writes only what is new. -/
def Gives (v : Value) (w : World) (e : Ending) (w' : World) : Prop := e = .returned v ∧ Below w.heap.size w w'

theorem lt_heap {w : World} {g : Nat} {o : Obj} (h : w.heap[g]? = some o) : g < w.heap.size := by
  rcases Nat.lt_or_ge g w.heap.size with h' | h'
  · exact h'
  · rw [Array.getElem?_eq_none h'] at h; cases h
/-- A block of cells of which one is written. -/
theorem heap_set {w : World} {b t : Nat} {cs : Array Value} (h : w.heap[b]? = some (.cells cs t (0, 0))) (i : Nat) (u : Value) : (w.setCell ⟨b, i, none⟩ u).heap[b]? = some (.cells (cs.setIfInBounds i u) t (0, 0)) := by
  rw [setCell_eq_setRow w b i _ _ _ _ h]
  exact setRow_heap w b _ _ _ _ h
theorem cell_at {w : World} {b t : Nat} {cs : Array Value} (h : w.heap[b]? = some (.cells cs t (0, 0))) (i : Nat) : w.cell? ⟨b, i, none⟩ = cs[i]? := by
  unfold World.cell?; simp [h]
theorem free_at {w : World} {b t : Nat} {cs : Array Value} (h : w.heap[b]? = some (.cells cs t (0, 0))) (i : Nat) : w.frozen? ⟨b, i, none⟩ = false := by
  unfold World.frozen?; simp [h]
theorem cells_ne {w : World} {a b : Nat} {cs ds : Array Value} {s t : TypeId} {m n : Nat × Nat} (h : w.heap[a]? = some (.cells cs s m)) (h' : w.heap[b]? = some (.cells ds t n)) (hne : s ≠ t) : a ≠ b := by
  rintro rfl
  rw [h] at h'
  injection h' with h'
  injection h' with _ ht
  exact hne ht

/-- Outside of the blocks F all that was there is as it was. -/
structure Mv (F : Nat → Prop) (w w' : World) : Prop where
  os : w'.os = w.os
  tape : w'.tape = w.tape
  output : w'.output = w.output
  size : w.heap.size ≤ w'.heap.size
  block : ∀ k, k < w.heap.size → ¬ F k → w'.heap[k]? = w.heap[k]?
theorem Mv.refl (F : Nat → Prop) (w : World) : Mv F w w := ⟨rfl, rfl, rfl, Nat.le_refl _, fun _ _ _ => rfl⟩
theorem Mv.trans {F : Nat → Prop} {a b c : World} (h : Mv F a b) (k : Mv F b c) : Mv F a c :=
  ⟨k.os.trans h.os, k.tape.trans h.tape, k.output.trans h.output, Nat.le_trans h.size k.size, fun i hi hF => (k.block i (Nat.lt_of_lt_of_le hi h.size) hF).trans (h.block i hi hF)⟩
theorem Mv.of_at (F : Nat → Prop) {w w' : World} (h : At w w') : Mv F w w' := ⟨h.os, h.tape, h.output, h.size, fun i hi _ => h.block i hi⟩
theorem Mv.next {F : Nat → Prop} {a b c : World} (h : Mv F a b) (k : At b c) : Mv F a c := h.trans (Mv.of_at F k)
theorem Mv.at_ {F : Nat → Prop} {w0 w w' : World} (h : Mv F w w') (ha : At w0 w) (hF : ∀ g, F g → w0.heap.size ≤ g) : At w0 w' :=
  ha.trans ⟨h.os, h.tape, h.output, h.size, fun i hi => h.block i (Nat.lt_of_lt_of_le hi ha.size) (fun hf => by have := hF i hf; omega)⟩
theorem Mv.drewN {F : Nat → Prop} {w w' : World} (h : Mv F w w') (n : Nat) : Mv F w (w'.drewN n) := ⟨h.os, h.tape, h.output, h.size, h.block⟩
theorem Mv.set {F : Nat → Prop} {w w' : World} (h : Mv F w w') {p : Addr} (hp : F p.block) (u : Value) : Mv F w (w'.setCell p u) :=
  ⟨h.os, h.tape, h.output, by have := h.size; simp only [World.setCell, Array.size_modify]; exact this, fun i hi hF => (Below.heap_setCell _ _ _ _ (fun e => by
    subst e; exact hF hp)).trans (h.block i hi hF)⟩
theorem Mv.keep {F : Nat → Prop} {w w' : World} (h : Mv F w w') {g : Nat} {o : Obj} (hg : w.heap[g]? = some o) (hF : ¬ F g) : w'.heap[g]? = some o := (h.block g (lt_heap hg) hF).trans hg
theorem At.keep {w w' : World} (h : At w w') {g : Nat} {o : Obj} (hg : w.heap[g]? = some o) : w'.heap[g]? = some o := (h.block g (lt_heap hg)).trans hg

/-- A number's cell. -/
def nv (j : Nat) : Value := .int .i64 (j : Int)
/-- The slice at A reads as the list R of numbers. -/
def NV (w : World) (A : Option Addr) (R : List Nat) : Prop :=
  R = [] ∨ ∃ g o, A = some ⟨g, o, none⟩ ∧ g < w.heap.size ∧ ∀ j, j < R.length → w.cell? ⟨g, o + j, none⟩ = some (nv (R.getD j 0))
theorem NV.pos {w : World} {A : Option Addr} {R : List Nat} (h : NV w A R) (h0 : 0 < R.length) : ∃ g o, A = some ⟨g, o, none⟩ ∧ g < w.heap.size ∧ ∀ j, j < R.length → w.cell? ⟨g, o + j, none⟩ = some (.int .i64 ((R.getD j 0 : Nat) : Int)) := by
  rcases h with rfl | h
  · simp at h0
  · exact h
theorem NV.on {w w' : World} {A : Option Addr} {R : List Nat} (h : NV w A R) (hb : At w w') : NV w' A R := by
  rcases h with h | ⟨b, o, rfl, hlt, hc⟩
  · exact Or.inl h
  · exact Or.inr ⟨b, o, rfl, Nat.lt_of_lt_of_le hlt hb.size, fun j hj => (Below.cell hb (p := ⟨b, o + j, none⟩) hlt).trans (hc j hj)⟩
/-- A row of numbers of a call's own reads as its list. -/
theorem own_nv {w : World} {B n : Nat} {v : Value} {R : List Nat} (h : w.ownsRow B 3 1 v n (R.map nv)) : ∃ A c, v = .slice A n c ∧ R.length = n ∧ NV w A R := by
  have hl : R.length = n := by have := h.1; simpa using this
  have h0 := h
  rcases h.2 with ⟨he, hn⟩ | ⟨g, cap, cur, he, _, _, _, _⟩
  · subst he hn
    exact ⟨none, 0, rfl, hl, Or.inl (List.eq_nil_of_length_eq_zero hl)⟩
  · subst he
    refine ⟨_, cap, rfl, hl, ?_⟩
    by_cases hp : R = []
    · exact Or.inl hp
    · have hp : 0 < n := by rw [← hl]; exact List.length_pos_iff.2 hp
      obtain ⟨g', cap', hv, _, hlt⟩ := h.form hp
      injection hv with e1 _ _
      injection e1 with e1
      injection e1 with e1
      subst e1
      refine Or.inr ⟨g, 0, rfl, hlt, fun j hj => ?_⟩
      have := h.cells (g := g) rfl j (nv (R.getD j 0)) (by rw [List.getElem?_map, List.getElem?_eq_getElem hj, List.getD_eq_getElem?_getD, List.getElem?_eq_getElem hj]; rfl)
      rw [Go.WideShapes.add_plain] at this
      exact this
theorem own_at {w w' : World} {B n : Nat} {e : TypeId} {v : Value} {xs : List Value} (h : w.ownsRow B e 1 v n xs) (hb : At w w') : w'.ownsRow B e 1 v n xs := by
  refine ⟨h.1, ?_⟩
  rcases h.2 with h | ⟨g, cap, cur, hv, hB, hh, hr⟩
  · exact Or.inl h
  · exact Or.inr ⟨g, cap, cur, hv, hB, hb.keep hh, hr⟩

theorem info_int : (Try.prog.info? 3).map (fun i => (i.zero, i.size, i.bytes)) = some (some (.int .i64 0), 1, 8) := by kernel_rfl
theorem info_bool : (Try.prog.info? 4).map (fun i => (i.zero, i.size, i.bytes)) = some (some (.bool false), 1, 1) := by kernel_rfl
theorem new_nv (w : World) (k : Nat) (T : TypeId) : ∀ j u, [nv k][j]? = some u → (w.alloc (.cells #[.int .i64 (k : Int)] T)).cell? ((⟨w.heap.size, 0, none⟩ : Addr).add j) = some u := by
  intro j u hj
  match j, hj with
  | 0, hj => simp at hj; subst hj; simp [Addr.add, nv]
/-- A list of numbers of the call's own that is under way. -/
structure Li (w : World) (v : Value) (R : List Nat) (wr : World) : Prop where
  own : wr.ownsRow w.heap.size 3 1 v R.length (R.map nv)
  stands : At w wr
theorem Li.start (w : World) : Li w (.slice none 0 0) [] w := ⟨World.ownsRow_nil _ _ _ _, At.start w⟩
theorem Li.on {w wr wx : World} {v : Value} {R : List Nat} (h : Li w v R wr) (ha : At wr wx) : Li w v R wx := ⟨own_at h.own ha, h.stands.next ha⟩
theorem Li.grown {w wr wx : World} {v v' : Value} {R : List Nat} {k : Nat} {o : Obj} (h : Li w v R wr) (ho : wx.ownsRow w.heap.size 3 1 v' (R.length + 1) (R.map nv ++ [nv k])) (hg : (wr.alloc o).grownBy wx v.ownBlock) : Li w v' (R ++ [k]) wx :=
  ⟨by rw [List.length_append, List.map_append]; exact ho, Below.grown (h.stands.alloc o) hg (h.stands.alloc o).size (fun j hj => (h.own.lt j hj).1)⟩

set_option maxHeartbeats 1000000 in
/-- A list is held against itself. -/
theorem ints_same (A1 A2 : Option Addr) (n c1 c2 : Nat) (R : List Nat) (w : World) (hn : n ≤ 1000000) (hl : R.length = n) (hx : NV w A1 R) (hy : NV w A2 R) :
    Calls Try.prog 19 #[.slice A1 n c1, .slice A2 n c2] w (Gives (.bool true) w) := by
  have HL := Lib.hid hl
  have HX := Lib.hid hx
  have HY := Lib.hid hy
  have hne : ((n : Int) != (n : Int)) = false := by simp
  clear hl hx hy
  go_enter Try.func19, Try.ntmps19
  go_wp2
  go_loopw [5] (fun i wr => ∃ k : Nat, k ≤ n ∧ i = .int .i64 k ∧ ∃ m, Hid (wr = w.drewN m)) (fun i _ => n - (intOf i).toNat)
  case atStart => exact ⟨0, Nat.zero_le _, rfl, 0, Lib.hid rfl⟩
  case round =>
    obtain ⟨k, hk, rfl, m, HM⟩ := hrel
    by_cases hlt : k < n
    · obtain ⟨b1, o1, rfl, _, q1⟩ := HX.out.pos (by rw [HL.out]; omega)
      obtain ⟨b2, o2, rfl, _, q2⟩ := HY.out.pos (by rw [HL.out]; omega)
      have e1 : wr.cell? ⟨b1, o1 + k, none⟩ = some (.int .i64 ((R.getD k 0 : Nat) : Int)) := by rw [HM.out]; exact q1 k (by rw [HL.out]; exact hlt)
      have e2 : wr.cell? ⟨b2, o2 + k, none⟩ = some (.int .i64 ((R.getD k 0 : Nat) : Int)) := by rw [HM.out]; exact q2 k (by rw [HL.out]; exact hlt)
      clear q1 q2
      generalize R.getD k 0 = x at e1 e2
      have g1 : (0 : Int) ≤ (k : Int) := by omega
      have g2 : (k : Int) < (n : Int) := by omega
      have nb : ((x : Int) != (x : Int)) = false := by simp
      have HW : Hid (∀ q, wr.drewN q = w.drewN (m + q)) := Lib.hid (fun q => by rw [HM.out, World.drewN_drewN])
      clear HM
      go_wp2
      go_quiet (fail)
      go_wp2
      go_roundw
      case rel => exact ⟨k + 1, by omega, by go_num, _, Lib.hid (HW.out _)⟩
      case measure => simp [intOf]; omega
    · go_wp2
      go_ret
      exact ⟨rfl, by rw [HM.out]; exact (At.start w).drewN m⟩

/-- The number from 0 to ahead of n that Round keeps. -/
def rd (k : Int) (n : Nat) : Nat := if k.tmod (n : Int) < 0 then (k.tmod (n : Int) + (n : Int)).toNat else (k.tmod (n : Int)).toNat
theorem rd_lt (k : Int) (n : Nat) (h : 1 ≤ n) : rd k n < n := by
  have b1 : k.tmod (n : Int) < (n : Int) := Int.tmod_lt_of_pos k (by omega)
  have b2 : -(n : Int) < k.tmod (n : Int) := Int.lt_tmod_of_pos k (show (0 : Int) < (n : Int) by omega)
  unfold rd; split <;> omega
set_option maxHeartbeats 400000 in
theorem round_any (k : Int) (n : Nat) (h1 : 1 ≤ n) (h2 : n ≤ 100000) (w : World) : Calls Try.prog 23 #[.int .i64 k, .int .i64 (n : Int)] w fun e w' => e = .returned (.int .i64 (rd k n : Int)) ∧ w = w' := by
  have b1 : k.tmod (n : Int) < (n : Int) := Int.tmod_lt_of_pos k (by omega)
  have b2 : -(n : Int) < k.tmod (n : Int) := Int.lt_tmod_of_pos k (show (0 : Int) < (n : Int) by omega)
  have hr : rd k n = if k.tmod (n : Int) < 0 then (k.tmod (n : Int) + (n : Int)).toNat else (k.tmod (n : Int)).toNat := rfl
  obtain ⟨r, hrd⟩ : ∃ r, r = rd k n := ⟨_, rfl⟩
  rw [← hrd] at hr ⊢
  clear hrd
  obtain ⟨t, ht⟩ : ∃ t, k.tmod (n : Int) = t := ⟨_, rfl⟩
  rw [ht] at b1 b2 hr
  have hn0 : ¬ ((n : Int) = 0) := by omega
  by_cases h : t < 0
  · rw [if_pos h] at hr
    have hr2 : t + (n : Int) = (r : Int) := by omega
    have HR := Lib.hid hr2
    clear hr hr2
    go_enter Try.func23, Try.ntmps23
    go_wp2
    go_ret
    exact ⟨by rw [← HR.out]; rfl, rfl⟩
  · rw [if_neg h] at hr
    have hr2 : t = (r : Int) := by omega
    have HR := Lib.hid hr2
    clear hr hr2
    go_enter Try.func23, Try.ntmps23
    go_wp2
    go_ret
    exact ⟨by rw [← HR.out]; rfl, rfl⟩

end Go.Proofs.Ytheldhbdhadliaa
