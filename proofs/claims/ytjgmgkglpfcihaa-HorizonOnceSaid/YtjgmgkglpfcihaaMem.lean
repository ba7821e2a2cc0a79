/- Proved: words for memory: a slice that reads as a list of ints, kept over draws, new blocks and calls that write only what is new; two rows held against each other; Round. -/
import Derived.Test.YtjgmgkglpfcihaaRows
import Derived.Test.YtjgmgkglpfcihaaPure
import Derived.WalkKit
import Derived.WalkSpells
import Derived.WalkLawsBesides
import Derived.Lib.Hide
import Derived.Deep.QuietTactic
import Derived.BigQuiet
import Derived.LoopN
import Derived.Handy
import Derived.Deep.Draws
import Derived.Deep.AppendLies
import Derived.Laws.OwnMore
import Derived.Laws.Rows
import Derived.OneCell
import Derived.Maps.AppendAt
import Derived.Laws.AppendOwnNone
import Derived.Maps.OwnSet
import Derived.Maps.RangeWalk
import Derived.Maps.Range
import Derived.Lib.SlKeysI
import Derived.IntWalk
import Derived.Deep.RegionHeld3
import Derived.Deep.RegionWith
import Derived.RegionTactic
namespace Go.Proofs.Ytjgmgkglpfcihaa
open Go.RowKit

/-- What stood at w0 stands. -/
def At (w0 w : World) : Prop := Below w0.heap.size w0 w
theorem At.start (w : World) : At w w := Below.refl _ _
theorem At.next {w0 w w' : World} (h : At w0 w) (h' : Below w.heap.size w w') : At w0 w' := h.trans (h'.mono h.size)
theorem At.drewN {w0 w : World} (h : At w0 w) (n : Nat) : At w0 (w.drewN n) := ⟨h.os, h.tape, h.output, h.size, h.block⟩
theorem At.alloc {w0 w : World} (h : At w0 w) (o : Obj) : At w0 (w.alloc o) := Below.alloc h h.size o

/-- A call hands back v and writes only what is new. -/
def Gives (v : Value) (w : World) (e : Ending) (w' : World) : Prop := e = .returned v ∧ Below w.heap.size w w'

theorem lt_heap {w : World} {g : Nat} {o : Obj} (h : w.heap[g]? = some o) : g < w.heap.size := by
  rcases Nat.lt_or_ge g w.heap.size with h' | h'
  · exact h'
  · rw [Array.getElem?_eq_none h'] at h; cases h
/-- A block of cells of which one is written. -/
theorem heap_set {w : World} {b t : Nat} {cs : Array Value} (h : w.heap[b]? = some (.cells cs t (0, 0))) (i : Nat) (u : Value) : (w.setCell ⟨b, i, none⟩ u).heap[b]? = some (.cells (cs.setIfInBounds i u) t (0, 0)) := by
  rw [setCell_eq_setRow w b i _ _ _ _ h]
  exact setRow_heap w b _ _ _ _ h
theorem cell_at {w : World} {b t : Nat} {cs : Array Value} (h : w.heap[b]? = some (.cells cs t (0, 0))) (i : Nat) : w.cell? ⟨b, i, none⟩ = cs[i]? := by
  unfold World.cell?; simp [h]
theorem free_at {w : World} {b t : Nat} {cs : Array Value} (h : w.heap[b]? = some (.cells cs t (0, 0))) (i : Nat) : w.frozen? ⟨b, i, none⟩ = false := by
  unfold World.frozen?; simp [h]
theorem cells_ne {w : World} {a b : Nat} {cs ds : Array Value} {s t : TypeId} {m n : Nat × Nat} (h : w.heap[a]? = some (.cells cs s m)) (h' : w.heap[b]? = some (.cells ds t n)) (hne : s ≠ t) : a ≠ b := by
  rintro rfl
  rw [h] at h'
  injection h' with h'
  injection h' with _ ht
  exact hne ht

/-- Outside of the blocks F all that was there is as it was. -/
structure Mv (F : Nat → Prop) (w w' : World) : Prop where
  os : w'.os = w.os
  tape : w'.tape = w.tape
  output : w'.output = w.output
  size : w.heap.size ≤ w'.heap.size
  block : ∀ k, k < w.heap.size → ¬ F k → w'.heap[k]? = w.heap[k]?
theorem Mv.refl (F : Nat → Prop) (w : World) : Mv F w w := ⟨rfl, rfl, rfl, Nat.le_refl _, fun _ _ _ => rfl⟩
theorem Mv.trans {F G : Nat → Prop} {a b c : World} (h : Mv F a b) (k : Mv G b c) (hG : ∀ g, G g → F g ∨ a.heap.size ≤ g) : Mv F a c :=
  ⟨k.os.trans h.os, k.tape.trans h.tape, k.output.trans h.output, Nat.le_trans h.size k.size, fun i hi hF => (k.block i (Nat.lt_of_lt_of_le hi h.size) (fun hg => by
    rcases hG i hg with h1 | h1
    · exact hF h1
    · omega)).trans (h.block i hi hF)⟩
theorem Mv.more {F G : Nat → Prop} {w w' : World} (h : Mv F w w') (hs : ∀ g, F g → G g ∨ w.heap.size ≤ g) : Mv G w w' :=
  ⟨h.os, h.tape, h.output, h.size, fun i hi hG => h.block i hi fun hF => by
    rcases hs i hF with h1 | h1
    · exact hG h1
    · omega⟩
theorem Mv.of_below (F : Nat → Prop) {w w' : World} (h : At w w') : Mv F w w' := ⟨h.os, h.tape, h.output, h.size, fun i hi _ => h.block i hi⟩
theorem Mv.next {F : Nat → Prop} {a b c : World} (h : Mv F a b) (k : At b c) : Mv F a c := h.trans (Mv.of_below F k) (fun _ => Or.inl)
theorem Mv.at_ {F : Nat → Prop} {w0 w w' : World} (h : Mv F w w') (ha : At w0 w) (hF : ∀ g, F g → w0.heap.size ≤ g) : At w0 w' :=
  ha.trans ⟨h.os, h.tape, h.output, h.size, fun i hi => h.block i (Nat.lt_of_lt_of_le hi ha.size) (fun hf => by have := hF i hf; omega)⟩
theorem Mv.drewN {F : Nat → Prop} {w w' : World} (h : Mv F w w') (n : Nat) : Mv F w (w'.drewN n) := ⟨h.os, h.tape, h.output, h.size, h.block⟩
theorem Mv.set {F : Nat → Prop} {w w' : World} (h : Mv F w w') {p : Addr} (hp : F p.block ∨ w.heap.size ≤ p.block) (u : Value) : Mv F w (w'.setCell p u) :=
  ⟨h.os, h.tape, h.output, by have := h.size; simp only [World.setCell, Array.size_modify]; exact this, fun i hi hF => (Below.heap_setCell _ _ _ _ (fun e => by
    subst e
    rcases hp with h1 | h1
    · exact hF h1
    · omega)).trans (h.block i hi hF)⟩
theorem Mv.grown {F : Nat → Prop} {w w1 w' : World} {row : Option Nat} (h : Mv F w w1) (hg : w1.grownBy w' row) (hr : ∀ k, row = some k → F k ∨ w.heap.size ≤ k) : Mv F w w' :=
  ⟨hg.os.trans h.os, hg.tape.trans h.tape, hg.output.trans h.output, Nat.le_trans h.size hg.size, fun i hi hF => (hg.block i (Nat.lt_of_lt_of_le hi h.size) (fun e => by
    rcases hr i e.symm with h1 | h1
    · exact hF h1
    · omega)).trans (h.block i hi hF)⟩

theorem Mv.keep {F : Nat → Prop} {w w' : World} (h : Mv F w w') {g : Nat} {o : Obj} (hg : w.heap[g]? = some o) (hF : ¬ F g) : w'.heap[g]? = some o := (h.block g (lt_heap hg) hF).trans hg
theorem At.keep {w w' : World} (h : At w w') {g : Nat} {o : Obj} (hg : w.heap[g]? = some o) : w'.heap[g]? = some o := (h.block g (lt_heap hg)).trans hg

/-- The slice at A reads as the list R of ints. -/
def IV (w : World) (A : Option Addr) (R : List Int) : Prop :=
  R = [] ∨ ∃ b o, A = some ⟨b, o, none⟩ ∧ b < w.heap.size ∧ ∀ j, j < R.length → w.cell? ⟨b, o + j, none⟩ = some (.int .i64 (R.getD j 0))
theorem IV.nil (w : World) (A : Option Addr) : IV w A [] := Or.inl rfl
theorem IV.pos {w : World} {A : Option Addr} {R : List Int} (h : IV w A R) (h0 : 0 < R.length) :
    ∃ b o, A = some ⟨b, o, none⟩ ∧ b < w.heap.size ∧ ∀ j, j < R.length → w.cell? ⟨b, o + j, none⟩ = some (.int .i64 (R.getD j 0)) := by
  rcases h with rfl | h
  · simp at h0
  · exact h
theorem IV.on {w w' : World} {A : Option Addr} {R : List Int} (h : IV w A R) (hb : At w w') : IV w' A R := by
  rcases h with h | ⟨b, o, rfl, hlt, hc⟩
  · exact Or.inl h
  · exact Or.inr ⟨b, o, rfl, Nat.lt_of_lt_of_le hlt hb.size, fun j hj => (Below.cell hb (p := ⟨b, o + j, none⟩) hlt).trans (hc j hj)⟩
theorem IV.mv {w w' : World} {F : Nat → Prop} {A : Option Addr} {R : List Int} (h : IV w A R) (hm : Mv F w w') (hF : ∀ b o, A = some ⟨b, o, none⟩ → ¬ F b) : IV w' A R := by
  rcases h with h | ⟨b, o, rfl, hlt, hc⟩
  · exact Or.inl h
  · exact Or.inr ⟨b, o, rfl, Nat.lt_of_lt_of_le hlt hm.size, fun j hj => (World.cell?_of_block (a := ⟨b, _ + j, none⟩) (hm.block b hlt (hF _ _ rfl))).trans (hc j hj)⟩
theorem IV.take {w : World} {A : Option Addr} {R : List Int} (h : IV w A R) (k : Nat) : IV w A (R.take k) := by
  rcases h with rfl | ⟨b, o, rfl, hlt, hc⟩
  · exact Or.inl (by simp)
  · refine Or.inr ⟨b, o, rfl, hlt, fun j hj => ?_⟩
    rw [List.length_take] at hj
    rw [hc j (by omega)]
    simp only [List.getD_eq_getElem?_getD, List.getElem?_take, if_pos (show j < k by omega)]
theorem IV.drop {w : World} {b o : Nat} {R : List Int} (h : IV w (some ⟨b, o, none⟩) R) (k : Nat) : IV w (some ⟨b, o + k, none⟩) (R.drop k) := by
  rcases h with rfl | ⟨b', o', he, hlt, hc⟩
  · exact Or.inl (by simp)
  · injection he with he
    injection he with h1 h2
    subst h1 h2
    refine Or.inr ⟨_, _, rfl, hlt, fun j hj => ?_⟩
    rw [List.length_drop] at hj
    rw [Nat.add_assoc, hc (k + j) (by omega)]
    simp only [List.getD_eq_getElem?_getD, List.getElem?_drop]
/-- As the laws for an append ask it. -/
theorem IV.src {w : World} {ad : Addr} {R : List Int} (h : IV w (some ad) R) : ∀ j u, (R.map encZ)[j]? = some u → w.cell? (ad.add j) = some u := by
  intro j u hu
  rcases h with rfl | ⟨b, o, he, hlt, hc⟩
  · simp at hu
  · injection he with he
    subst he
    rw [List.getElem?_map] at hu
    by_cases hj : j < R.length
    · rw [List.getElem?_eq_getElem hj] at hu
      have := hc j hj
      rw [List.getD_eq_getElem?_getD, List.getElem?_eq_getElem hj] at this
      rw [Go.WideShapes.add_plain]
      simp only [Option.map_some, Option.some.injEq] at hu
      rw [← hu]; exact this
    · rw [List.getElem?_eq_none (by omega)] at hu; cases hu
theorem int_one (R : List Int) : ∀ u ∈ R.map encZ, u.oneCell' = true := by
  intro u hu; obtain ⟨x, _, rfl⟩ := List.mem_map.1 hu; rfl

/-- A row of ints of a call's own reads as its list. -/
theorem own_iv {w : World} {B n : Nat} {v : Value} {R : List Int} (h : w.ownsRow B 3 1 v n (R.map encZ)) : ∃ A c, v = .slice A n c ∧ R.length = n ∧ n ≤ c ∧ IV w A R ∧ ∀ b o, A = some ⟨b, o, none⟩ → B ≤ b ∧ b < w.heap.size ∧ o = 0 := by
  have hl : R.length = n := by have := h.1; simpa using this
  have h0 := h
  rcases h.2 with ⟨he, hn⟩ | ⟨g, cap, cur, he, hB, hh, hc, hr⟩
  · subst he hn
    exact ⟨none, 0, rfl, hl, Nat.le_refl _, Or.inl (List.eq_nil_of_length_eq_zero hl), fun _ _ e => by cases e⟩
  · subst he
    have hg : g < w.heap.size := by
      rcases Nat.lt_or_ge g w.heap.size with h | h
      · exact h
      · rw [Array.getElem?_eq_none h] at hh; cases hh
    refine ⟨_, cap, rfl, hl, hc, ?_, fun b o e => by injection e with e; injection e with e1 e2; subst e1 e2; exact ⟨hB, hg, rfl⟩⟩
    by_cases hn : R = []
    · exact Or.inl hn
    · refine Or.inr ⟨g, 0, rfl, hg, fun j hj => ?_⟩
      have := h0.cells (g := g) rfl j (.int .i64 (R.getD j 0)) (by rw [List.getElem?_map, List.getElem?_eq_getElem hj, List.getD_eq_getElem?_getD, List.getElem?_eq_getElem hj]; rfl)
      rw [Go.WideShapes.add_plain] at this
      exact this
theorem own_at {w w' : World} {B n : Nat} {e : TypeId} {v : Value} {xs : List Value} (h : w.ownsRow B e 1 v n xs) (hb : At w w') : w'.ownsRow B e 1 v n xs := by
  refine ⟨h.1, ?_⟩
  rcases h.2 with h | ⟨g, cap, cur, hv, hB, hh, hr⟩
  · exact Or.inl h
  · refine Or.inr ⟨g, cap, cur, hv, hB, ?_, hr⟩
    have hg : g < w.heap.size := by
      rcases Nat.lt_or_ge g w.heap.size with h | h
      · exact h
      · rw [Array.getElem?_eq_none h] at hh; cases hh
    rw [hb.block g hg]; exact hh
theorem info_int : (Try.prog.info? 3).map (fun i => (i.zero, i.size, i.bytes)) = some (some (.int .i64 0), 1, 8) := by kernel_rfl

set_option maxHeartbeats 1000000 in
/-- Two rows that read as one list are the same. -/
theorem ints_same (A1 A2 : Option Addr) (n c1 c2 : Nat) (R : List Int) (w : World) (hn : n ≤ 2000000) (hl : R.length = n) (hx : IV w A1 R) (hy : IV w A2 R) :
    Calls Try.prog 19 #[.slice A1 n c1, .slice A2 n c2] w (Gives (.bool true) w) := by
  have HL := Lib.hid hl
  have HX := Lib.hid hx
  have HY := Lib.hid hy
  clear hl hx hy
  go_enter Try.func19, Try.ntmps19
  go_wp2
  go_loopw [5] (fun i wr => ∃ k : Nat, k ≤ n ∧ i = .int .i64 (k : Int) ∧ ∃ m, wr = w.drewN m) (fun i _ => n - (RowKit.intOf i).toNat)
  case atStart => exact ⟨0, Nat.zero_le _, rfl, 0, rfl⟩
  case round =>
    obtain ⟨k, hk, rfl, m, rfl⟩ := hrel
    by_cases hlt : k < n
    · obtain ⟨b1, o1, rfl, _, q1⟩ := HX.out.pos (by rw [HL.out]; omega)
      obtain ⟨b2, o2, rfl, _, q2⟩ := HY.out.pos (by rw [HL.out]; omega)
      have e1 := q1 k (by rw [HL.out]; exact hlt)
      have e2 := q2 k (by rw [HL.out]; exact hlt)
      clear q1 q2
      generalize R.getD k 0 = x at e1 e2
      have g1 : (0 : Int) ≤ (k : Int) := by omega
      have g2 : (k : Int) < (n : Int) := by omega
      have nb : (x != x) = false := by simp
      go_wp2
      go_quiet (fail)
      go_wp2
      go_roundw
      case rel => exact ⟨k + 1, by omega, by go_num, _, rfl⟩
      case measure => simp [RowKit.intOf]; omega
    · have hkn : k = n := by omega
      subst hkn
      go_wp2
      go_ret
      exact ⟨rfl, (At.start w).drewN m⟩

/-- The number from 0 to ahead of n that Round keeps. -/
def rd (k : Int) (n : Nat) : Nat := if k.tmod (n : Int) < 0 then (k.tmod (n : Int) + (n : Int)).toNat else (k.tmod (n : Int)).toNat
theorem rd_lt (k : Int) (n : Nat) (h : 1 ≤ n) : rd k n < n := by
  have b1 : k.tmod (n : Int) < (n : Int) := Int.tmod_lt_of_pos k (by omega)
  have b2 : -(n : Int) < k.tmod (n : Int) := Int.lt_tmod_of_pos k (show (0 : Int) < (n : Int) by omega)
  unfold rd; split <;> omega
set_option maxHeartbeats 400000 in
theorem round_any (k : Int) (n : Nat) (h1 : 1 ≤ n) (h2 : n ≤ 100000) (w : World) : Calls Try.prog 21 #[.int .i64 k, .int .i64 (n : Int)] w fun e w' => e = .returned (.int .i64 (rd k n : Int)) ∧ w = w' := by
  have b1 : k.tmod (n : Int) < (n : Int) := Int.tmod_lt_of_pos k (by omega)
  have b2 : -(n : Int) < k.tmod (n : Int) := Int.lt_tmod_of_pos k (show (0 : Int) < (n : Int) by omega)
  have hr : rd k n = if k.tmod (n : Int) < 0 then (k.tmod (n : Int) + (n : Int)).toNat else (k.tmod (n : Int)).toNat := rfl
  obtain ⟨r, hrd⟩ : ∃ r, r = rd k n := ⟨_, rfl⟩
  rw [← hrd] at hr ⊢
  clear hrd
  obtain ⟨t, ht⟩ : ∃ t, k.tmod (n : Int) = t := ⟨_, rfl⟩
  rw [ht] at b1 b2 hr
  have hn0 : ¬ ((n : Int) = 0) := by omega
  by_cases h : t < 0
  · rw [if_pos h] at hr
    have hr2 : t + (n : Int) = (r : Int) := by omega
    have HR := Lib.hid hr2
    clear hr hr2
    go_enter Try.func21, Try.ntmps21
    go_wp2
    go_ret
    exact ⟨by rw [← HR.out]; rfl, rfl⟩
  · rw [if_neg h] at hr
    have hr2 : t = (r : Int) := by omega
    have HR := Lib.hid hr2
    clear hr hr2
    go_enter Try.func21, Try.ntmps21
    go_wp2
    go_ret
    exact ⟨by rw [← HR.out]; rfl, rfl⟩

end Go.Proofs.Ytjgmgkglpfcihaa
