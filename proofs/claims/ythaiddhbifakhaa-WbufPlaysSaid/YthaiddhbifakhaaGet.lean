/- Proved: a block is read: the bytes that were written last, in memory of its own, or none. -/
import Derived.Test.YthaiddhbifakhaaCal
import Derived.Laws.ResultCell
import Derived.Laws.Rows
import Derived.Laws.Tables
import Derived.Deep.MidRow
import Derived.Deep.WholeRow
namespace Go.Proofs.Ythaiddhbifakhaa
open Go.RowKit

theorem size_data : (Try.prog.info? 68).map (·.size) = some 40 := by kernel_rfl
/-- Forty bytes in a block of their own. -/
def Blk40 (w : World) (g : Nat) (L : List Nat) : Prop := w.heap[g]? = some (.cells (L.map bt).toArray 68 (0, 0))
theorem Blk40.bv {w : World} {g : Nat} {L : List Nat} (h : Blk40 w g L) : BV w (some ⟨g, 0, none⟩) L :=
  Or.inr ⟨g, 0, rfl, lt_heap h, fun j hj => by
    rw [cell_at h, Nat.zero_add, List.getElem?_toArray, List.getElem?_map, List.getElem?_eq_getElem hj, List.getD_eq_getElem?_getD, List.getElem?_eq_getElem hj]; rfl⟩
theorem bt_all (L : List Nat) : (L.map bt).toArray.all (·.oneCell') = true := all_oneCell_toArray (bt_one L)
section
variable {ops : Array Oper} {rest : List Oper} {op : Oper} {a : Act} {w : World} {Q : Exit → Act → World → Prop}
/-- Forty bytes are stored whole into a block that was made last. -/
theorem store_data (hgd : op.guard = none) (x y : Operand) (ho : op.op = .store 68 x y) (L : List Nat) (hl : L.length = 40) (W : World) (zs : Array Value) (hw : w = W.alloc (.cells zs 68)) (hz : zs.size = 40)
    (hx : a.eval x = .pointer (some ⟨W.heap.size, 0, none⟩)) (hy : a.eval y = dv L) (h : wpList Try.prog ops Q rest (a.put op.dst undef) (W.alloc (.cells (L.map bt).toArray 68))) : wpList Try.prog ops Q (op :: rest) a w := by
  subst hw
  refine wpList_store_row hgd _ x y ho W.heap.size _ hx hy _ zs (heap_alloc_new _ _) (by rw [size_data, List.size_toArray, List.length_map, hl]) (by rw [hz, List.size_toArray, List.length_map, hl]) (bt_all L) ?_
  rw [World.setRow_alloc_new]
  exact h
end
theorem new_data (w : World) (L : List Nat) : Blk40 (w.alloc (.cells (L.map bt).toArray 68)) w.heap.size L := heap_alloc_new w _

/-- The call hands back a copy of forty bytes and true. -/
def Reads (L : List Nat) (w : World) (e : Ending) (w' : World) : Prop := ∃ g c, e = .returned (.tuple #[.slice (some ⟨g, 0, none⟩) 40 c, .bool true]) ∧ w.heap.size ≤ g ∧ BV w' (some ⟨g, 0, none⟩) L ∧ At w w'

set_option maxHeartbeats 1000000 in
set_option maxRecDepth 100000 in
theorem get_yes {w : World} {b mb : Nat} {S : St} (h : Bf w b mb S) (k : Int) (hk : (ky k).wf = true) (hg : gi S k ≠ []) :
    Calls Try.prog 15 #[.pointer (some ⟨b, 0, none⟩), .int .i64 k] w (Reads (gi S k) w) := by
  have HA := Lib.hid (all_bf h)
  have hlk := h.look hk
  have hL := gi_len h.ok hg
  rw [gz_yes hg, show (!(gi S k).isEmpty) = true by simp [hg]] at hlk
  obtain ⟨L, hLe⟩ : ∃ L, L = gi S k := ⟨_, rfl⟩
  rw [← hLe] at hlk hL ⊢
  have HL := Lib.hid hL
  clear h hk hg hLe hL
  go_enter Try.func15, Try.ntmps15
  go_wp2_with fail
  refine HA.out.mono ?_
  rintro e w' ⟨rfl, rfl⟩
  go_wp2_with (refine store_data rfl (.tmp 6) (.tmp 13) rfl L HL.out w _ rfl rfl rfl rfl ?_)
  have HB := Lib.hid (new_data w L).bv
  refine (clone_bytes HL.out HB.out).mono ?_
  rintro e w3 ⟨g, cap, rfl, hg, hb, hA⟩
  have HE : Hid (Reads L w (.returned (.tuple #[.slice (some ⟨g, 0, none⟩) 40 cap, .bool true])) w3) := Lib.hid ⟨g, cap, rfl, by simp at hg; omega, hb, ((At.start w).alloc _).next hA⟩
  clear hg hb hA hlk
  go_wp2
  go_ret2
  exact HE.out

set_option maxHeartbeats 1000000 in
set_option maxRecDepth 100000 in
/-- Nothing was written there. -/
theorem get_no {w : World} {b mb : Nat} {S : St} (h : Bf w b mb S) (k : Int) (hk : (ky k).wf = true) (hg : gi S k = []) :
    Calls Try.prog 15 #[.pointer (some ⟨b, 0, none⟩), .int .i64 k] w (Gives (.tuple #[.slice none 0 0, .bool false]) w) := by
  have HA := Lib.hid (all_bf h)
  have hlk := h.look hk
  rw [gz_no hg, show (!(gi S k).isEmpty) = false by simp [hg]] at hlk
  have HE : Hid (At w (w.alloc (.cells ((zr 40).map bt).toArray 68))) := Lib.hid ((At.start w).alloc _)
  clear h hk hg
  go_enter Try.func15, Try.ntmps15
  go_wp2_with fail
  refine HA.out.mono ?_
  rintro e w' ⟨rfl, rfl⟩
  go_wp2_with (refine store_data rfl (.tmp 6) (.tmp 13) rfl (zr 40) (zr_len 40) w _ rfl rfl rfl rfl ?_)
  go_ret2
  exact ⟨rfl, HE.out⟩

set_option maxHeartbeats 1000000 in
set_option maxRecDepth 100000 in
theorem get_nil (k : Int) (hk : (ky k).wf = true) (w : World) : Calls Try.prog 15 #[.pointer none, .int .i64 k] w (Gives (.tuple #[.slice none 0 0, .bool false]) w) := by
  have HA := Lib.hid (all_nil w)
  have hlk := Maps.look_nil (P := Try.prog) (w := w) true int_key Try.underlying65 (zero_data w) (key_of hk)
  rw [if_pos rfl] at hlk
  have HE : Hid (At w (w.alloc (.cells ((zr 40).map bt).toArray 68))) := Lib.hid ((At.start w).alloc _)
  clear hk
  go_enter Try.func15, Try.ntmps15
  go_wp2_with fail
  refine HA.out.mono ?_
  rintro e w' ⟨rfl, rfl⟩
  go_wp2_with (refine store_data rfl (.tmp 6) (.tmp 13) rfl (zr 40) (zr_len 40) w _ rfl rfl rfl rfl ?_)
  go_ret2
  exact ⟨rfl, HE.out⟩

end Go.Proofs.Ythaiddhbifakhaa
