/- Proved: words for a row of bytes of a call's own that is known whole; Round keeps a number from 0 to ahead of n; Block lays so many bytes that hang on a number. -/
import Derived.Test.YtgehnljkiocijaaMem
import Derived.Laws.CopyOwn
import Derived.Laws.ResultCell
import Derived.Laws.Rows
namespace Go.Proofs.Ytgehnljkiocijaa
open Go.RowKit

/-- The block g holds the row Q of bytes. -/
def Row (w : World) (g : Nat) (Q : List Nat) : Prop := w.heap[g]? = some (.cells (Q.map bt).toArray 5 (0, 0))
theorem lt_heap {w : World} {g : Nat} {o : Obj} (h : w.heap[g]? = some o) : g < w.heap.size := by
  rcases Nat.lt_or_ge g w.heap.size with h' | h'
  · exact h'
  · rw [Array.getElem?_eq_none h'] at h; cases h
theorem Row.cell {w : World} {g : Nat} {Q : List Nat} (h : Row w g Q) (i : Nat) (hi : i < Q.length) : w.cell? ⟨g, i, none⟩ = some (bt (Q.getD i 0)) := by
  unfold World.cell?; simp only [Row] at h
  simp [h, List.getElem?_eq_getElem hi, List.getD_eq_getElem?_getD]
theorem Row.free {w : World} {g : Nat} {Q : List Nat} (h : Row w g Q) (i : Nat) : w.frozen? ⟨g, i, none⟩ = false := by
  unfold World.frozen?; simp only [Row] at h; simp [h]
theorem Row.bv {w : World} {g : Nat} {Q : List Nat} (h : Row w g Q) : BV w (some ⟨g, 0, none⟩) Q :=
  Or.inr ⟨g, 0, rfl, lt_heap h, fun j hj => by rw [Nat.zero_add]; exact h.cell j hj⟩
theorem Row.on {w w' : World} {g : Nat} {Q : List Nat} (h : Row w g Q) (hb : Below w.heap.size w w') : Row w' g Q := by
  unfold Row at h ⊢
  rw [hb.block g (lt_heap h)]; exact h
theorem Row.set {w : World} {g : Nat} {Q : List Nat} (h : Row w g Q) (i x : Nat) : Row (w.setCell ⟨g, i, none⟩ (.int .u8 (x : Int))) g (Q.set i x) := by
  unfold Row at h ⊢
  rw [setCell_eq_setRow w g i _ _ _ _ h]
  have := setRow_heap w g _ ((Q.map bt).toArray.setIfInBounds i (.int .u8 (x : Int))) _ _ h
  rw [this]
  congr 2
  rw [List.map_set]
  simp [bt]
theorem Row.other {w : World} {g b : Nat} {Q : List Nat} (h : Row w g Q) (hne : g ≠ b) (i : Nat) (u : Value) : Row (w.setCell ⟨b, i, none⟩ u) g Q := by
  unfold Row at h ⊢; rw [Below.heap_setCell _ _ _ _ hne]; exact h
theorem row_new (w : World) (cs : Array Value) (Q : List Nat) (h : cs = (Q.map bt).toArray) : Row (w.alloc (.cells cs 5)) w.heap.size Q := by
  subst h; exact heap_alloc_new _ _

theorem make_u8 (n : Nat) (hn : n ≤ 1000) (w : World) : (Instr.makeSlice 35 (.int .i64 (n : Int)) (.int .i64 (n : Int))).run Try.prog w =
    .ok (.slice (some ⟨w.heap.size, 0, none⟩) n n) (w.alloc (.cells (madeCells (Value.int .u8 0).cells n) 5)) := by
  obtain ⟨i0, hi, hz0, hz1, hz2⟩ := info_parts info_u8
  have h := run_make (P := Try.prog) w 35 5 i0 (.int .u8 0) Try.underlying35 hi hz0 .i64 .i64 n n (by omega) (by omega) (by rw [hz2]; omega) (by omega)
  rw [h, hz1]
  simp only [Int.toNat_natCast, Nat.mul_one]

/-- A row of n noughts. -/
def zr (n : Nat) : List Nat := List.replicate n 0
theorem zr_len (n : Nat) : (zr n).length = n := List.length_replicate ..
theorem allB_zr (n : Nat) : AllB (zr n) := fun c hc => by have := (List.mem_replicate.1 hc).2; omega
theorem made_zn (n : Nat) : madeCells (Value.int .u8 0).cells n = ((zr n).map bt).toArray := by
  apply Array.toList_inj.1
  show (madeCells #[Value.int .u8 0] n).toList = _
  rw [toList_madeCells_one]
  simp [zr, bt]
theorem allB_set {L : List Nat} (h : AllB L) (k : Nat) {y : Nat} (hy : y < 256) : AllB (L.set k y) := by
  intro c hc
  rcases List.mem_or_eq_of_mem_set hc with hc | rfl
  · exact h c hc
  · exact hy

/-- The number from 0 to ahead of n that Round keeps. -/
def rd (k : Int) (n : Nat) : Nat := if k.tmod (n : Int) < 0 then (k.tmod (n : Int) + (n : Int)).toNat else (k.tmod (n : Int)).toNat
theorem rd_lt (k : Int) (n : Nat) (h : 1 ≤ n) : rd k n < n := by
  have b1 : k.tmod (n : Int) < (n : Int) := Int.tmod_lt_of_pos k (by omega)
  have b2 : -(n : Int) < k.tmod (n : Int) := Int.lt_tmod_of_pos k (show (0 : Int) < (n : Int) by omega)
  unfold rd; split <;> omega
set_option maxHeartbeats 400000 in
theorem round_any (k : Int) (n : Nat) (h1 : 1 ≤ n) (h2 : n ≤ 100000) (w : World) : Calls Try.prog 10 #[.int .i64 k, .int .i64 (n : Int)] w fun e w' => e = .returned (.int .i64 (rd k n : Int)) ∧ w = w' := by
  have b1 : k.tmod (n : Int) < (n : Int) := Int.tmod_lt_of_pos k (by omega)
  have b2 : -(n : Int) < k.tmod (n : Int) := Int.lt_tmod_of_pos k (show (0 : Int) < (n : Int) by omega)
  have hr : rd k n = if k.tmod (n : Int) < 0 then (k.tmod (n : Int) + (n : Int)).toNat else (k.tmod (n : Int)).toNat := rfl
  obtain ⟨r, hrd⟩ : ∃ r, r = rd k n := ⟨_, rfl⟩
  rw [← hrd] at hr ⊢
  clear hrd
  obtain ⟨t, ht⟩ : ∃ t, k.tmod (n : Int) = t := ⟨_, rfl⟩
  rw [ht] at b1 b2 hr
  have hn0 : ¬ ((n : Int) = 0) := by omega
  by_cases h : t < 0
  · rw [if_pos h] at hr
    have hr2 : t + (n : Int) = (r : Int) := by omega
    have HR := Lib.hid hr2
    clear hr hr2
    go_enter Try.func10, Try.ntmps10
    go_wp2
    go_ret
    exact ⟨by rw [← HR.out]; rfl, rfl⟩
  · rw [if_neg h] at hr
    have hr2 : t = (r : Int) := by omega
    have HR := Lib.hid hr2
    clear hr hr2
    go_enter Try.func10, Try.ntmps10
    go_wp2
    go_ret
    exact ⟨by rw [← HR.out]; rfl, rfl⟩

/-- The byte at place j of a block that hangs on k, and the 64 of them. -/
def bk1 (k : Int) (j : Nat) : Nat := rd (IntKind.i64.wrap (IntKind.i64.wrap ((j : Int) * (j : Int) + IntKind.i64.wrap (k * 7)) + 1)) 251
def bk (k : Int) : List Nat := (List.range 64).map (bk1 k)
theorem bk_len (k : Int) : (bk k).length = 64 := by simp [bk]
theorem bk_byte (k : Int) : AllB (bk k) := by
  intro c hc
  obtain ⟨j, _, rfl⟩ := List.mem_map.1 hc
  have := rd_lt (IntKind.i64.wrap (IntKind.i64.wrap ((j : Int) * (j : Int) + IntKind.i64.wrap (k * 7)) + 1)) 251 (by omega)
  unfold bk1; omega
theorem bk_at (k : Int) (j : Nat) (h : j < 64) : (bk k).getD j 0 = bk1 k j := by
  unfold bk
  rw [List.getD_eq_getElem?_getD, List.getElem?_map, List.getElem?_range h]; rfl

end Go.Proofs.Ytgehnljkiocijaa
