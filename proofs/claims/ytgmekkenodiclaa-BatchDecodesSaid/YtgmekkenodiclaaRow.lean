/- Proved: words for a row of bytes of a call's own that is known whole, and for a block by value that was laid in memory. -/
import Derived.Test.YtgmekkenodiclaaSml
import Derived.Laws.CopyOwn
import Derived.Laws.ResultCell
import Derived.Laws.Rows
namespace Go.Proofs.Ytgmekkenodiclaa
open Go.RowKit

/-- The block g holds the row Q of bytes. -/
def Row (w : World) (g : Nat) (Q : List Nat) : Prop := w.heap[g]? = some (.cells (Q.map bt).toArray 5 (0, 0))
theorem lt_heap {w : World} {g : Nat} {o : Obj} (h : w.heap[g]? = some o) : g < w.heap.size := by
  rcases Nat.lt_or_ge g w.heap.size with h' | h'
  · exact h'
  · rw [Array.getElem?_eq_none h'] at h; cases h
theorem Row.cell {w : World} {g : Nat} {Q : List Nat} (h : Row w g Q) (i : Nat) (hi : i < Q.length) : w.cell? ⟨g, i, none⟩ = some (bt (Q.getD i 0)) := by
  unfold World.cell?; simp only [Row] at h
  simp [h, List.getElem?_eq_getElem hi, List.getD_eq_getElem?_getD]
theorem Row.free {w : World} {g : Nat} {Q : List Nat} (h : Row w g Q) (i : Nat) : w.frozen? ⟨g, i, none⟩ = false := by
  unfold World.frozen?; simp only [Row] at h; simp [h]
theorem Row.bv {w : World} {g : Nat} {Q : List Nat} (h : Row w g Q) : BV w (some ⟨g, 0, none⟩) Q :=
  Or.inr ⟨g, 0, rfl, lt_heap h, fun j hj => by rw [Nat.zero_add]; exact h.cell j hj⟩
theorem Row.on {w w' : World} {g : Nat} {Q : List Nat} (h : Row w g Q) (hb : Below w.heap.size w w') : Row w' g Q := by
  unfold Row at h ⊢
  rw [hb.block g (lt_heap h)]; exact h
theorem Row.set {w : World} {g : Nat} {Q : List Nat} (h : Row w g Q) (i x : Nat) : Row (w.setCell ⟨g, i, none⟩ (.int .u8 (x : Int))) g (Q.set i x) := by
  unfold Row at h ⊢
  rw [setCell_eq_setRow w g i _ _ _ _ h]
  have := setRow_heap w g _ ((Q.map bt).toArray.setIfInBounds i (.int .u8 (x : Int))) _ _ h
  rw [this]
  congr 2
  rw [List.map_set]
  simp [bt]
theorem Row.other {w : World} {g b : Nat} {Q : List Nat} (h : Row w g Q) (hne : g ≠ b) (i : Nat) (u : Value) : Row (w.setCell ⟨b, i, none⟩ u) g Q := by
  unfold Row at h ⊢; rw [Below.heap_setCell _ _ _ _ hne]; exact h
theorem splice_map (Q M : List Nat) (off : Nat) : splice (Q.map bt) off (M.map bt) = (splice Q off M).map bt := by
  simp [splice, List.map_take, List.map_drop]
theorem splice_end {α : Type} (A B C : List α) (off : Nat) (h : A.length = off) : splice (A ++ B) off C = (A ++ C) ++ B.drop C.length := by
  subst h
  rw [splice, List.take_left' rfl, ← List.drop_drop, List.drop_left' rfl, List.append_assoc]
theorem row_new (w : World) (cs : Array Value) (Q : List Nat) (h : cs = (Q.map bt).toArray) : Row (w.alloc (.cells cs 5)) w.heap.size Q := by
  subst h; exact heap_alloc_new _ _

/-- The block b of memory holds a block by value. -/
def Bx (w : World) (b t : Nat) (k e s l : Int) (v : Value) : Prop := w.heap[b]? = some (.cells #[.int .i64 k, .int .i64 e, .int .i64 s, .int .i64 l, v] t (0, 0))
theorem Bx.cells {w : World} {b t : Nat} {k e s l : Int} {v : Value} (h : Bx w b t k e s l v) :
    w.cell? ⟨b, 0, none⟩ = some (.int .i64 k) ∧ w.cell? ⟨b, 1, none⟩ = some (.int .i64 e) ∧ w.cell? ⟨b, 2, none⟩ = some (.int .i64 s) ∧ w.cell? ⟨b, 3, none⟩ = some (.int .i64 l) ∧ w.cell? ⟨b, 4, none⟩ = some v := by
  unfold World.cell?; simp only [Bx] at h; simp [h]
theorem Bx.free {w : World} {b t : Nat} {k e s l : Int} {v : Value} (h : Bx w b t k e s l v) (i : Nat) : w.frozen? ⟨b, i, none⟩ = false := by
  unfold World.frozen?; simp only [Bx] at h; simp [h]
theorem Bx.on {w w' : World} {b t : Nat} {k e s l : Int} {v : Value} (h : Bx w b t k e s l v) (hb : Below w.heap.size w w') : Bx w' b t k e s l v := by
  unfold Bx at h ⊢
  rw [hb.block b (lt_heap h)]; exact h
theorem Bx.other {w : World} {g b t : Nat} {k e s l : Int} {v : Value} (h : Bx w b t k e s l v) (hne : b ≠ g) (i : Nat) (u : Value) : Bx (w.setCell ⟨g, i, none⟩ u) b t k e s l v := by
  unfold Bx at h ⊢; rw [Below.heap_setCell _ _ _ _ hne]; exact h
theorem bx_new (w : World) (t : Nat) (k e s l : Int) (v : Value) : Bx (w.alloc (.cells #[.int .i64 k, .int .i64 e, .int .i64 s, .int .i64 l, v] t)) w.heap.size t k e s l v := heap_alloc_new _ _

theorem Bx.low {w w' : World} {g b t : Nat} {k e s l : Int} {v : Value} (h : Bx w b t k e s l v) (hlt : b < g) (hb : Below g w w') : Bx w' b t k e s l v := by
  unfold Bx at h ⊢
  rw [hb.block b hlt]; exact h
theorem BV.low {w w' : World} {g : Nat} {A : Option Addr} {L : List Nat} {w0 : World} (h : BV w0 A L) (ha : At w0 w) (hle : w0.heap.size ≤ g) (hb : Below g w w') : BV w' A L := h.below (Below.trans ha (hb.mono hle))
theorem At.low {w0 w w' : World} {g : Nat} (ha : At w0 w) (hle : w0.heap.size ≤ g) (hb : Below g w w') : At w0 w' := Below.trans ha (hb.mono hle)
theorem Bx.set0 {w : World} {b t : Nat} {k e s l : Int} {v : Value} (h : Bx w b t k e s l v) (x : Int) : Bx (w.setCell ⟨b, 0, none⟩ (.int .i64 x)) b t x e s l v := by
  unfold Bx at h ⊢; rw [setCell_eq_setRow w b 0 _ _ _ _ h]; exact setRow_heap w b _ _ _ _ h
theorem Bx.set1 {w : World} {b t : Nat} {k e s l : Int} {v : Value} (h : Bx w b t k e s l v) (x : Int) : Bx (w.setCell ⟨b, 1, none⟩ (.int .i64 x)) b t k x s l v := by
  unfold Bx at h ⊢; rw [setCell_eq_setRow w b 1 _ _ _ _ h]; exact setRow_heap w b _ _ _ _ h
theorem Bx.set2 {w : World} {b t : Nat} {k e s l : Int} {v : Value} (h : Bx w b t k e s l v) (x : Int) : Bx (w.setCell ⟨b, 2, none⟩ (.int .i64 x)) b t k e x l v := by
  unfold Bx at h ⊢; rw [setCell_eq_setRow w b 2 _ _ _ _ h]; exact setRow_heap w b _ _ _ _ h
theorem Bx.set3 {w : World} {b t : Nat} {k e s l : Int} {v : Value} (h : Bx w b t k e s l v) (x : Int) : Bx (w.setCell ⟨b, 3, none⟩ (.int .i64 x)) b t k e s x v := by
  unfold Bx at h ⊢; rw [setCell_eq_setRow w b 3 _ _ _ _ h]; exact setRow_heap w b _ _ _ _ h
theorem Bx.set4 {w : World} {b t : Nat} {k e s l : Int} {v : Value} (h : Bx w b t k e s l v) (x : Value) : Bx (w.setCell ⟨b, 4, none⟩ x) b t k e s l x := by
  unfold Bx at h ⊢; rw [setCell_eq_setRow w b 4 _ _ _ _ h]; exact setRow_heap w b _ _ _ _ h
theorem info_one : (Try.prog.info? 5).map (·.size) = some 1 := by kernel_rfl
/-- Bytes are copied into a row of the call's own, as one step of a region that draws its order. -/
theorem step_lay {ops : Array Oper} {o : Oper} {a : Act} {w : World} {K : Act → World → Prop} {Q' : Exit → Act → World → Prop} {E : Prop} (hgd : o.guard = none) (d s : Operand)
    (ho : o.op = .call { callee := .builtin .copy, args := #[d, s], argTypes := #[39, 39] }) (g off dLen dCap sLen sCap : Nat) (sp : Option Addr) (Q M : List Nat)
    (hd : a.eval d = .slice (some ⟨g, off, none⟩) dLen dCap) (hs : a.eval s = .slice sp sLen sCap) (hr : Row w g Q) (hv : BV w sp M) (hm : M.length = sLen) (hle : sLen ≤ dLen) (hfit : off + sLen ≤ Q.length)
    (h : ∀ w', Row w' g (splice Q off M) → Below g w w' → K (a.put o.dst (goInt sLen)) w') : if Region.wanted o (yielded ops a.tmps) = true then Oper.wp Try.prog o a w K Q' else E := by
  refine step_copy_splice hgd d s 39 39 ho 5 Try.underlying39 info_one _ _ dLen dCap sLen sCap hd hs g off (Q.map bt) 5 hr (M.map bt) (by rw [List.length_map, hm]; exact (Nat.min_eq_left hle).symm) (fun h0 => ⟨rfl, ?_⟩) (by simp [hm]; omega) (bt_one _) g w (Below.refl _ _) (Nat.le_refl _) ?_
  · obtain ⟨ad, he, _, hc⟩ := hv.cells (by simpa using h0)
    exact ⟨ad, he, hc⟩
  · intro w' hw' hb
    have e : ((M.map bt).length : Nat) = sLen := by simp [hm]
    rw [e]
    exact h w' (by rw [splice_map] at hw'; exact hw') hb
theorem undrew {w w' : World} {B : Nat} (h : Below B w.drew w') : Below B w w' := ⟨h.os, h.tape, h.output, h.size, h.block⟩
/-- Four bytes, and eight, of a number. -/
theorem four_any (v : Nat) (hv : v < 4294967296) (w : World) : Calls Try.prog 47 #[.int .u32 (v : Int)] w fun e w' => ∃ g c, e = .returned (.slice (some ⟨g, 0, none⟩) 4 c) ∧ BV w' (some ⟨g, 0, none⟩) (pt 4 v) ∧ Below w.heap.size w w' := by
  refine (put32_any v hv w).mono ?_
  rintro e w' ⟨g, c, rfl, _, h2, h3⟩
  rw [pt_len]
  exact ⟨g, c, rfl, h2, h3⟩
theorem eight_any (v : Nat) (hv : v < 18446744073709551616) (w : World) : Calls Try.prog 46 #[.int .u64 (v : Int)] w fun e w' => ∃ g c, e = .returned (.slice (some ⟨g, 0, none⟩) 8 c) ∧ BV w' (some ⟨g, 0, none⟩) (pt 8 v) ∧ Below w.heap.size w w' := by
  refine (put64_any v hv w).mono ?_
  rintro e w' ⟨g, c, rfl, _, h2, h3⟩
  rw [pt_len]
  exact ⟨g, c, rfl, h2, h3⟩

/-- The row of a new block: 64 noughts. -/
def zr (n : Nat) : List Nat := List.replicate n 0
theorem zr_len (n : Nat) : (zr n).length = n := List.length_replicate ..
theorem zr_drop (n k : Nat) : (zr n).drop k = zr (n - k) := by simp [zr]
theorem made_zr : madeCells (Value.int .u8 0).cells 64 = ((zr 64).map bt).toArray := by kernel_rfl
theorem allB_zr (n : Nat) : AllB (zr n) := fun c hc => by have := (List.mem_replicate.1 hc).2; omega

/-- A row that is filled part by part. -/
theorem fill_two (k n : Nat) : ((zr 64).set 0 k).set 1 n = [k, n] ++ zr 62 := rfl
theorem fill_next (P M : List Nat) (m off : Nat) (h : P.length = off) : splice (P ++ zr m) off M = (P ++ M) ++ zr (m - M.length) := by rw [splice_end _ _ _ _ h, zr_drop]

/-- A block that is being written: its row, the block by value, and what stood at the beginning. -/
structure En (w : World) (b g t : Nat) (k e s l : Int) (v : Value) (Q : List Nat) (wr : World) : Prop where
  row : Row wr g Q
  box : Bx wr b t k e s l v
  stands : At w wr
  bg : b < g
  sz : w.heap.size ≤ g
theorem En.lay {w wr wx wy : World} {b g t : Nat} {k e s l : Int} {v : Value} {P M : List Nat} {m off : Nat} (h : En w b g t k e s l v (P ++ zr m) wr) (hx : Below wr.heap.size wr wx) (hr : Row wy g (splice (P ++ zr m) off M)) (hy : Below g wx wy) (ho : P.length = off) :
    En w b g t k e s l v ((P ++ M) ++ zr (m - M.length)) wy where
  row := by rwa [fill_next _ _ _ _ ho] at hr
  box := (h.box.on hx).low h.bg hy
  stands := (h.stands.next hx).low h.sz hy
  bg := h.bg
  sz := h.sz
theorem En.drew {w wr : World} {b g t : Nat} {k e s l : Int} {v : Value} {Q : List Nat} (h : En w b g t k e s l v Q wr) : En w b g t k e s l v Q wr.drew := ⟨h.row, h.box, h.stands.drewN 1, h.bg, h.sz⟩

/-- A block that is being read: the result's block, the block so far, and what stood at the beginning. -/
structure De (w : World) (r b t : Nat) (k e s l : Int) (v : Value) (wr : World) : Prop where
  res : Bx wr r t 0 0 0 0 (.slice none 0 0)
  loc : Bx wr b t k e s l v
  stands : At w wr
  rb : r < b
  sz : w.heap.size ≤ r
theorem De.new (w : World) (t : Nat) : De w w.heap.size (w.heap.size + 1) t 0 0 0 0 (.slice none 0 0) ((w.alloc (.cells #[.int .i64 0, .int .i64 0, .int .i64 0, .int .i64 0, .slice none 0 0] t)).alloc (.cells #[.int .i64 0, .int .i64 0, .int .i64 0, .int .i64 0, .slice none 0 0] t)) where
  res := (bx_new w t 0 0 0 0 (.slice none 0 0)).on ((Below.refl _ _).alloc (Nat.le_refl _) _)
  loc := by
    have := bx_new (w.alloc (.cells #[.int .i64 0, .int .i64 0, .int .i64 0, .int .i64 0, .slice none 0 0] t)) t 0 0 0 0 (.slice none 0 0)
    simpa using this
  stands := ((At.start w).alloc _).alloc _
  rb := Nat.lt_succ_self _
  sz := Nat.le_refl _
theorem De.stay {w wr : World} {r b t : Nat} {k e s l : Int} {v : Value} (h : De w r b t k e s l v wr) (i : Nat) (u : Value) : Bx (wr.setCell ⟨b, i, none⟩ u) r t 0 0 0 0 (.slice none 0 0) ∧ At w (wr.setCell ⟨b, i, none⟩ u) :=
  ⟨h.res.other (Nat.ne_of_lt h.rb) i u, Below.setCell (p := ⟨b, i, none⟩) h.stands (Nat.le_trans h.sz (Nat.le_of_lt h.rb)) u⟩
theorem De.set0 {w wr : World} {r b t : Nat} {k e s l : Int} {v : Value} (h : De w r b t k e s l v wr) (x : Int) : De w r b t x e s l v (wr.setCell ⟨b, 0, none⟩ (.int .i64 x)) := ⟨(h.stay 0 _).1, h.loc.set0 x, (h.stay 0 _).2, h.rb, h.sz⟩
theorem De.set1 {w wr : World} {r b t : Nat} {k e s l : Int} {v : Value} (h : De w r b t k e s l v wr) (x : Int) : De w r b t k x s l v (wr.setCell ⟨b, 1, none⟩ (.int .i64 x)) := ⟨(h.stay 1 _).1, h.loc.set1 x, (h.stay 1 _).2, h.rb, h.sz⟩
theorem De.set2 {w wr : World} {r b t : Nat} {k e s l : Int} {v : Value} (h : De w r b t k e s l v wr) (x : Int) : De w r b t k e x l v (wr.setCell ⟨b, 2, none⟩ (.int .i64 x)) := ⟨(h.stay 2 _).1, h.loc.set2 x, (h.stay 2 _).2, h.rb, h.sz⟩
theorem De.set3 {w wr : World} {r b t : Nat} {k e s l : Int} {v : Value} (h : De w r b t k e s l v wr) (x : Int) : De w r b t k e s x v (wr.setCell ⟨b, 3, none⟩ (.int .i64 x)) := ⟨(h.stay 3 _).1, h.loc.set3 x, (h.stay 3 _).2, h.rb, h.sz⟩
theorem De.set4 {w wr : World} {r b t : Nat} {k e s l : Int} {v : Value} (h : De w r b t k e s l v wr) (x : Value) : De w r b t k e s l x (wr.setCell ⟨b, 4, none⟩ x) := ⟨(h.stay 4 _).1, h.loc.set4 x, (h.stay 4 _).2, h.rb, h.sz⟩
theorem De.on {w wr wx : World} {r b t : Nat} {k e s l : Int} {v : Value} (h : De w r b t k e s l v wr) (hx : Below wr.heap.size wr wx) : De w r b t k e s l v wx := ⟨h.res.on hx, h.loc.on hx, h.stands.next hx, h.rb, h.sz⟩

/-- The result of a call that hands back a block by value and a number. -/
theorem results_block {fn : Func} {p u : Tmp} {ty : TypeId} (h : fn.results = #[.cell p ty, .tmp u]) (tmps : Array Value) (w : World) (r : Nat) (k e s l : Int) (v : Value) (fs : Array Field)
    (hu : Try.prog.underlying ty = some (.struct fs)) (hi : (Try.prog.info? ty).map (·.size) = some 5) (hp : tmps.getD p undef = .pointer (some ⟨r, 0, none⟩)) (hb : Bx w r ty k e s l v) :
    (results fn tmps).run Try.prog w = .ok (.tuple #[.agg #[.int .i64 k, .int .i64 e, .int .i64 s, .int .i64 l, v], tmps.getD u undef]) w := by
  rw [results_cell_tmp h, hp]
  have := run_loadVar_row (P := Try.prog) w r ty ty #[.int .i64 k, .int .i64 e, .int .i64 s, .int .i64 l, v] (0, 0) _ hb hu rfl hi
  simp [asAddr, Result.andThen, this]
theorem De.fin {w wr : World} {r b t : Nat} {k e s l : Int} {v : Value} (h : De w r b t k e s l v wr) (k' e' s' l' : Int) (v' : Value) :
    Bx (((((wr.setCell ⟨r, 0, none⟩ (.int .i64 k')).setCell ⟨r, 1, none⟩ (.int .i64 e')).setCell ⟨r, 2, none⟩ (.int .i64 s')).setCell ⟨r, 3, none⟩ (.int .i64 l')).setCell ⟨r, 4, none⟩ v') r t k' e' s' l' v' ∧
    At w (((((wr.setCell ⟨r, 0, none⟩ (.int .i64 k')).setCell ⟨r, 1, none⟩ (.int .i64 e')).setCell ⟨r, 2, none⟩ (.int .i64 s')).setCell ⟨r, 3, none⟩ (.int .i64 l')).setCell ⟨r, 4, none⟩ v') := by
  refine ⟨((((h.res.set0 k').set1 e').set2 s').set3 l').set4 v', ?_⟩
  have hs := h.sz
  exact Below.setCell (p := ⟨r, 4, none⟩) (Below.setCell (p := ⟨r, 3, none⟩) (Below.setCell (p := ⟨r, 2, none⟩) (Below.setCell (p := ⟨r, 1, none⟩) (Below.setCell (p := ⟨r, 0, none⟩) h.stands hs _) hs _) hs _) hs _) hs _

theorem hd_row (k e s l n : Nat) (L : List Nat) (hl : L.length = n) (hn : n ≤ 40) : (((([k, n] ++ pt 4 e) ++ pt 8 s) ++ pt 4 l) ++ L) ++ zr (46 - n) = hd k e s l L ++ zr 4 := by
  subst hl
  have : zr (46 - L.length) = List.replicate (42 - L.length) 0 ++ zr 4 := by
    unfold zr; rw [List.replicate_append_replicate]; congr 1; omega
  rw [this, hd]; simp [List.append_assoc]

end Go.Proofs.Ytgmekkenodiclaa
