/- Proved: words for memory: what a call may turn; a row of an own; blocks of 40 bytes that hang on a number. -/
import Derived.RowKit3
import Derived.Test.YtgmekkenodiclaaLaw
import Derived.Laws.OwnMore
import Derived.OneCell
import Derived.Maps.AppendAt
import Derived.Laws.AppendOwnNone
import Derived.Maps.OwnSet
import Derived.Laws.CopyOwn
import Derived.Laws.ResultCell
import Derived.Laws.Rows
import Derived.Lib.SliceRun
namespace Go.Proofs.Ytgmekkenodiclaa
open Go.RowKit

/-- A block that is written: its number and its bytes. -/
abbrev Pt := Int × List Nat
def pz : Pt := (0, [])
open Go.RowKit
theorem cell_at {w : World} {b t : Nat} {cs : Array Value} (h : w.heap[b]? = some (.cells cs t (0, 0))) (i : Nat) : w.cell? ⟨b, i, none⟩ = cs[i]? := by
  unfold World.cell?; simp [h]
/-- Outside of the blocks F all that was there is as it was. -/
structure Mv (F : Nat → Prop) (w w' : World) : Prop where
  os : w'.os = w.os
  tape : w'.tape = w.tape
  output : w'.output = w.output
  size : w.heap.size ≤ w'.heap.size
  block : ∀ k, k < w.heap.size → ¬ F k → w'.heap[k]? = w.heap[k]?
theorem Mv.refl (F : Nat → Prop) (w : World) : Mv F w w := ⟨rfl, rfl, rfl, Nat.le_refl _, fun _ _ _ => rfl⟩
theorem Mv.trans {F G : Nat → Prop} {a b c : World} (h : Mv F a b) (k : Mv G b c) (hG : ∀ g, G g → F g ∨ a.heap.size ≤ g) : Mv F a c :=
  ⟨k.os.trans h.os, k.tape.trans h.tape, k.output.trans h.output, Nat.le_trans h.size k.size, fun i hi hF => (k.block i (Nat.lt_of_lt_of_le hi h.size) (fun hg => by
    rcases hG i hg with h1 | h1
    · exact hF h1
    · omega)).trans (h.block i hi hF)⟩
theorem Mv.more {F G : Nat → Prop} {w w' : World} (h : Mv F w w') (hs : ∀ g, F g → G g ∨ w.heap.size ≤ g) : Mv G w w' :=
  ⟨h.os, h.tape, h.output, h.size, fun i hi hG => h.block i hi fun hF => by
    rcases hs i hF with h1 | h1
    · exact hG h1
    · omega⟩
theorem Mv.of_below (F : Nat → Prop) {w w' : World} (h : At w w') : Mv F w w' := ⟨h.os, h.tape, h.output, h.size, fun i hi _ => h.block i hi⟩
theorem Mv.next {F : Nat → Prop} {a b c : World} (h : Mv F a b) (k : At b c) : Mv F a c := h.trans (Mv.of_below F k) (fun _ => Or.inl)
theorem Mv.at_ {F : Nat → Prop} {w0 w w' : World} (h : Mv F w w') (ha : At w0 w) (hF : ∀ g, F g → w0.heap.size ≤ g) : At w0 w' :=
  ha.trans ⟨h.os, h.tape, h.output, h.size, fun i hi => h.block i (Nat.lt_of_lt_of_le hi ha.size) (fun hf => by have := hF i hf; omega)⟩
theorem Mv.drewN {F : Nat → Prop} {w w' : World} (h : Mv F w w') (n : Nat) : Mv F w (w'.drewN n) := ⟨h.os, h.tape, h.output, h.size, h.block⟩
theorem Mv.set {F : Nat → Prop} {w w' : World} (h : Mv F w w') {p : Addr} (hp : F p.block ∨ w.heap.size ≤ p.block) (u : Value) : Mv F w (w'.setCell p u) :=
  ⟨h.os, h.tape, h.output, by have := h.size; simp only [World.setCell, Array.size_modify]; exact this, fun i hi hF => (Below.heap_setCell _ _ _ _ (fun e => by
    subst e
    rcases hp with h1 | h1
    · exact hF h1
    · omega)).trans (h.block i hi hF)⟩
theorem Mv.grown {F : Nat → Prop} {w w1 w' : World} {row : Option Nat} (h : Mv F w w1) (hg : w1.grownBy w' row) (hr : ∀ k, row = some k → F k ∨ w.heap.size ≤ k) : Mv F w w' :=
  ⟨hg.os.trans h.os, hg.tape.trans h.tape, hg.output.trans h.output, Nat.le_trans h.size hg.size, fun i hi hF => (hg.block i (Nat.lt_of_lt_of_le hi h.size) (fun e => by
    rcases hr i e.symm with h1 | h1
    · exact hF h1
    · omega)).trans (h.block i hi hF)⟩

theorem Mv.keep {F : Nat → Prop} {w w' : World} (h : Mv F w w') {g : Nat} {o : Obj} (hg : w.heap[g]? = some o) (hF : ¬ F g) : w'.heap[g]? = some o := (h.block g (lt_heap hg) hF).trans hg
theorem At.keep {w w' : World} (h : At w w') {g : Nat} {o : Obj} (hg : w.heap[g]? = some o) : w'.heap[g]? = some o := (h.block g (lt_heap hg)).trans hg

open Go.RowKit
open Go.RowKit
open Go.RowKit
/-- An empty row of a call's own. -/
theorem made_row (w : World) (e : TypeId) (size : Nat) : (w.alloc (.cells #[] e)).ownsRow 0 e size (.slice (some ⟨w.heap.size, 0, none⟩) 0 0) 0 [] := World.ownsRow_made w #[] 0 (Nat.zero_le _) (by unfold maxLen; omega) (by simp)

end Go.Proofs.Ytgmekkenodiclaa
