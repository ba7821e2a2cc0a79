/- Proved: words for batches that a law makes by itself: rows that lie outside of a box they are stored into, block by block, transaction by transaction. -/
import Derived.Test.YtgmekkenodiclaaAwa
namespace Go.Proofs.Ytgmekkenodiclaa
open Go.RowKit

/-- The same kind, outside of Q too. -/
def gx {α : Type} (Q : Nat → Prop) (gd : (Nat → Prop) → World → α → Prop) : (Nat → Prop) → World → α → Prop := fun F w x => gd (fun j => F j ∨ Q j) w x
section
variable {α : Type} {t e : TypeId} {s b : Nat} {cs : α → List Value} {gd : (Nat → Prop) → World → α → Prop} {w0 w w' : World} {v v' : Value} {l : List α} {Q : Nat → Prop}
theorem Kn.x (K : Kn t e s b cs gd) (Q : Nat → Prop) : Kn t e s b cs (gx Q gd) :=
  ⟨K.ht, K.info, K.s0, K.b0, K.len, K.one, fun _ _ _ _ h hm => K.mv _ _ _ _ h (hm.more fun _ hg => Or.inl (Or.inl hg)), fun _ _ _ _ h hG => K.re _ _ _ _ h fun g hg ho => ho.elim (fun h1 => Or.inl (hG g hg h1)) Or.inr⟩
theorem Ow.weak (K : Kn t e s b cs gd) (h : Ow e s cs (gx Q gd) w0 w v l) : Ow e s cs gd w0 w v l :=
  ⟨h.row, fun x hx => K.re _ _ _ _ (h.gd x hx) fun _ _ hg => Or.inl hg, h.new, h.at_⟩
/-- Behind a store into Q. -/
theorem Ow.mvx (K : Kn t e s b cs gd) (h : Ow e s cs (gx Q gd) w0 w v l) {F : Nat → Prop} (hm : Mv F w w') (hF : ∀ g, F g → Q g) (hv : ∀ g, F g → ¬ ob v g) (hA : At w0 w') : Ow e s cs (gx Q gd) w0 w' v l := by
  refine ⟨⟨h.row.1, ?_⟩, fun x hx => K.mv _ _ _ _ (h.gd x hx) (hm.more fun g hg => Or.inl (Or.inr (hF g hg))), h.new, hA⟩
  rcases h.row.2 with h1 | ⟨g, cap, cur, hv', hB, hh, hr⟩
  · exact Or.inl h1
  · exact Or.inr ⟨g, cap, cur, hv', hB, (hm.block g (lt_heap hh) fun hg => hv g hg (by rw [hv']; rfl)).trans hh, hr⟩
end
theorem ob_far {w : World} {B n s k t : Nat} {e : TypeId} {v : Value} {xs : List Value} {cs : Array Value} (ho : w.ownsRow B e s v n xs) (hk : w.heap[k]? = some (.cells cs t (0, 0))) (ht : t ≠ e) : ¬ ob v k := own_far ho hk ht
theorem free_at {w : World} {b t : Nat} {cs : Array Value} (h : w.heap[b]? = some (.cells cs t (0, 0))) (i : Nat) : w.frozen? ⟨b, i, none⟩ = false := by
  unfold World.frozen?; simp [h]
theorem set_box {w : World} {q t : Nat} {a u : Value} (h : w.heap[q]? = some (.cells #[a, u] t (0, 0))) (x : Value) : (w.setCell ⟨q, 1, none⟩ x).heap[q]? = some (.cells #[a, x] t (0, 0)) := by
  rw [setCell_eq_setRow w q 1 _ _ _ _ h]
  exact setRow_heap w q _ _ _ _ h

/-- The blocks that a law makes: the i-th at the LBA i. -/
def mkP (k : Nat) : List Pt := (List.range k).map fun i : Nat => ((i : Int), bk i)
theorem mkP_len (k : Nat) : (mkP k).length = k := by simp [mkP]
theorem mkP_more (k : Nat) : mkP (k + 1) = mkP k ++ [((k : Int), bk k)] := by simp [mkP, List.range_succ]
/-- A transaction that is being made: its box, its blocks. -/
structure Pu (w0 wr : World) (qt : Nat) (T : Int) (v : Value) (k : Nat) (l : List Pl) : Prop where
  bx : wr.heap[qt]? = some (.cells #[.int .i64 T, v] 44 (0, 0))
  op : @Ow Pl 47 2 pcs (gx (fun j => j ≤ qt) pgd) w0 wr v l
  w0q : w0.heap.size = qt
  len : l.length = k
  ps : l.map (·.1) = mkP k
theorem Pu.new (w0 : World) (T : Int) : Pu w0 (w0.alloc (.cells #[.int .i64 T, .slice none 0 0] 44)) w0.heap.size T (.slice none 0 0) 0 [] :=
  ⟨heap_alloc_new _ _, Ow.nil' ((At.start w0).alloc _), rfl, rfl, rfl⟩
theorem Pu.on {w0 wr wx : World} {qt : Nat} {T : Int} {v : Value} {k : Nat} {l : List Pl} (h : Pu w0 wr qt T v k l) (hA : At wr wx) : Pu w0 wx qt T v k l :=
  ⟨hA.keep h.bx, h.op.on (kP.x _) hA, h.w0q, h.len, h.ps⟩
/-- What the new block lies beside. -/
theorem Pu.fresh {w0 wr w1 : World} {qt : Nat} {T : Int} {v : Value} {k : Nat} {l : List Pl} (h : Pu w0 wr qt T v k l) {g : Nat} {D : List Nat} (hg : wr.heap.size ≤ g) (hv : BV w1 (some ⟨g, 0, none⟩) D) : BVf (fun j => ob v j ∨ j ≤ qt) w1 (some ⟨g, 0, none⟩) D := by
  rcases hv with h1 | ⟨b, o, he, h2, h4⟩
  · exact Or.inl h1
  · injection he with he
    injection he with e1 e2
    subst e1 e2
    refine Or.inr ⟨g, 0, rfl, h2, fun ho => ?_, h4⟩
    rcases ho with ho | ho
    · have := (h.op.row.lt g ho).2; omega
    · have := lt_heap h.bx; omega
/-- One block more, stored into its transaction. -/
theorem Pu.step {w0 wr wy w' : World} {qt : Nat} {T : Int} {v : Value} {k r c : Nat} {A : Option Addr} {l : List Pl} {g : Nat} (h : Pu w0 wr qt T v k l) (hA : At wr wy) (hG : Gr 47 2 pcs (gx (fun j => j ≤ qt) pgd) w0 wy v w' (.slice A r c) (l ++ [((((k : Int), bk k), some ⟨g, 0, none⟩, 40) : Pl)])) :
    Pu w0 (w'.setCell ⟨qt, 1, none⟩ (.slice A r c)) qt T (.slice A r c) (k + 1) (l ++ [((((k : Int), bk k), some ⟨g, 0, none⟩, 40) : Pl)]) := by
  have hb : w'.heap[qt]? = some (.cells #[.int .i64 T, v] 44 (0, 0)) := hG.mv.keep (hA.keep h.bx) (ob_far (h.op.on (kP.x _) hA).row (hA.keep h.bx) (by decide))
  have hAt : At w0 (w'.setCell ⟨qt, 1, none⟩ (.slice A r c)) := Below.setCell (p := ⟨qt, 1, none⟩) hG.ow.at_ (Nat.le_of_eq h.w0q) _
  refine ⟨set_box hb _, ?_, h.w0q, by rw [List.length_append, h.len]; rfl, by rw [List.map_append, h.ps, mkP_more]; rfl⟩
  refine hG.ow.mvx kP ((Mv.refl (fun j => j = qt) w').set (p := ⟨qt, 1, none⟩) (Or.inl rfl) _) (fun g hg => Nat.le_of_eq hg) (fun g hg => ?_) hAt
  obtain rfl : g = qt := hg
  exact ob_far hG.ow.row hb (by decide)
/-- The finished transaction, as an element of a row: its blocks lie outside of F. -/
theorem Pu.elem {w0 wr : World} {qt : Nat} {T : Int} {A : Option Addr} {n c : Nat} {k : Nat} {l : List Pl} (h : Pu w0 wr qt T (.slice A n c) k l) {F : Nat → Prop} (hF : ∀ g, F g → g < w0.heap.size) : PVf F wr A (mkP k) ∧ n = k ∧ n ≤ c := by
  obtain ⟨A', c', he, hpv⟩ := OP.pvf (h.op.weak kP) hF fun x hx => BVf.re (h.op.gd x hx) fun g _ hg => Or.inr (by have := hF g hg; have := h.w0q; omega)
  have he2 := h.op.form
  obtain ⟨A2, c2, he2, hc2, _, _⟩ := he2
  injection he with e1 e2 e3
  injection he2 with f1 f2 f3
  subst e1 e3 f3
  rw [h.ps] at hpv
  exact ⟨hpv, by rw [e2, h.len], by rw [e2]; exact hc2⟩

/-- A batch that is being made: its box, its transactions. -/
structure Tu (w wr : World) (q : Nat) (s : Int) (v : Value) (k : Nat) (l : List Tl) (F : Nat → Tx) : Prop where
  bx : Bb wr q s v
  op : @Ow Tl 44 2 tcs (gx (fun j => j = q) tgd) w wr v l
  wq : w.heap.size ≤ q
  len : l.length = k
  ts : l.map (·.1) = (List.range k).map F
theorem Tu.on {w wr wx : World} {q : Nat} {s : Int} {v : Value} {k : Nat} {l : List Tl} {F : Nat → Tx} (h : Tu w wr q s v k l F) (hA : At wr wx) : Tu w wx q s v k l F :=
  ⟨h.bx.on hA, h.op.on (kT.x _) hA, h.wq, h.len, h.ts⟩
theorem Tu.far {w wr : World} {q : Nat} {s : Int} {v : Value} {k : Nat} {l : List Tl} {F : Nat → Tx} (h : Tu w wr q s v k l F) : ∀ g, (ob v g ∨ g = q) → g < wr.heap.size := fun g hg => by
  rcases hg with hg | rfl
  · exact (h.op.row.lt g hg).2
  · exact lt_heap h.bx
/-- One transaction more, stored into its batch. -/
theorem Tu.step {w wr wy w' : World} {q : Nat} {s : Int} {v : Value} {k r c : Nat} {A : Option Addr} {l : List Tl} {F : Nat → Tx} {x : Tl} (h : Tu w wr q s v k l F) (hA : At wr wy) (hx : x.1 = F k) (hG : Gr 44 2 tcs (gx (fun j => j = q) tgd) w wy v w' (.slice A r c) (l ++ [x])) :
    Tu w (w'.setCell ⟨q, 1, none⟩ (.slice A r c)) q s (.slice A r c) (k + 1) (l ++ [x]) F := by
  have hb : Bb w' q s v := hG.mv.keep (hA.keep h.bx) (ob_far (h.op.on (kT.x _) hA).row (hA.keep h.bx) (by decide))
  refine ⟨hb.set1 _, ?_, h.wq, by rw [List.length_append, h.len]; rfl, by rw [List.map_append, h.ts, List.range_succ, List.map_append]; show _ ++ [x.1] = _ ++ [F k]; rw [hx]⟩
  refine hG.ow.mvx kT ((Mv.refl (fun j => j = q) w').set (p := ⟨q, 1, none⟩) (Or.inl rfl) _) (fun g hg => hg) (fun g hg => ?_) (Below.setCell (p := ⟨q, 1, none⟩) hG.ow.at_ h.wq _)
  obtain rfl : g = q := hg
  exact ob_far hG.ow.row hb (by decide)
theorem Tu.tv {w wr : World} {q : Nat} {s : Int} {v : Value} {k : Nat} {l : List Tl} {F : Nat → Tx} (h : Tu w wr q s v k l F) : ∃ A c, v = .slice A k c ∧ TV wr A ((List.range k).map F) := by
  obtain ⟨A, c, e, _, _, ht⟩ := OT.tv (h.op.weak kT)
  rw [h.ts] at ht
  exact ⟨A, c, by rw [e, h.len], ht⟩

theorem Pu.kept {w0 wr wy w' : World} {qt : Nat} {T : Int} {v v' : Value} {k : Nat} {l l' : List Pl} (h : Pu w0 wr qt T v k l) (hA : At wr wy) (hG : Gr 47 2 pcs (gx (fun j => j ≤ qt) pgd) w0 wy v w' v' l') : w'.heap[qt]? = some (.cells #[.int .i64 T, v] 44 (0, 0)) :=
  hG.mv.keep (hA.keep h.bx) (ob_far (h.op.on (kP.x _) hA).row (hA.keep h.bx) (by decide))
theorem Tu.kept {w wr wy w' : World} {q : Nat} {s : Int} {v v' : Value} {k : Nat} {l l' : List Tl} {F : Nat → Tx} (h : Tu w wr q s v k l F) (hA : At wr wy) (hG : Gr 44 2 tcs (gx (fun j => j = q) tgd) w wy v w' v' l') : Bb w' q s v :=
  hG.mv.keep (hA.keep h.bx) (ob_far (h.op.on (kT.x _) hA).row (hA.keep h.bx) (by decide))
/-- What is known behind the append, and behind the store that follows. -/
structure Pn (w0 wr : World) (qt : Nat) (T : Int) (v : Value) (k : Nat) (w2 : World) (v' : Value) : Prop where
  c1 : w2.cell? ⟨qt, 1, none⟩ = some v
  f1 : w2.frozen? ⟨qt, 1, none⟩ = false
  pu : ∃ l, Pu w0 (w2.setCell ⟨qt, 1, none⟩ v') qt T v' (k + 1) l
/-- One block more, as one step of a region that draws. -/
theorem Pu.append_step {w0 wr w1 : World} {qt : Nat} {T : Int} {B : Option Addr} {k d : Nat} {l : List Pl} (h : Pu w0 wr qt T (.slice B k d) k l) (hA : At wr w1) {g : Nat} (hg : wr.heap.size ≤ g) (hv : BV w1 (some ⟨g, 0, none⟩) (bk k)) (hk : k + 1 ≤ 1000000)
    {ops : Array Oper} {o : Oper} {a : Act} {K : Act → World → Prop} {Q : Exit → Act → World → Prop} {E : Prop} (hgd : o.guard = none) (x y : Operand) (ho : o.op = .call { callee := .builtin .append, args := #[x, y], argTypes := #[42, 42] })
    (hs : a.eval x = .slice B k d) (hx : a.eval y = .slice (some ⟨w1.heap.size, 0, none⟩) 1 1) (hK : ∀ A' c' w2, Hid (Pn w0 wr qt T (.slice B k d) k w2 (.slice A' (k + 1) c')) → K (a.put o.dst (.slice A' (k + 1) c')) w2) :
    if Region.wanted o (yielded ops a.tmps) = true then Oper.wp Try.prog o a (w1.alloc (.cells #[.int .i64 (k : Int), .slice (some ⟨g, 0, none⟩) 40 40] 47)) K Q else E := by
  rw [if_pos (by simp [Region.wanted, hgd])]
  have hAy : At wr (w1.alloc (.cells #[.int .i64 (k : Int), .slice (some ⟨g, 0, none⟩) 40 40] 47)) := hA.alloc _
  have hfr := BVf.mv (h.fresh hg hv) (Mv.of_below _ ((At.start w1).alloc (.cells #[.int .i64 (k : Int), .slice (some ⟨g, 0, none⟩) 40 40] 47)))
  refine Ow.wp (kP.x _) (h.op.on (kP.x _) hAy) x y ho k 1 (k + 1) h.len hs (some ⟨w1.heap.size, 0, none⟩) 1 [(((k : Int), bk k), some ⟨g, 0, none⟩, 40)] hx (fun z hz => ?_) rfl (fun h => by cases h) (one_laid w1 47 _ #[.int .i64 (k : Int), .slice (some ⟨g, 0, none⟩) 40 40] ?_) rfl hk fun A' c' w2 HG => hK A' c' w2 (Lib.hid ?_)
  · rw [List.mem_singleton.1 hz]; exact hfr
  · show [_, Value.slice _ (bk k).length _] = _
    rw [bk_len]
  · have hb := h.kept hAy HG.out
    exact ⟨(cell_at hb 1).trans rfl, free_at hb 1, _, h.step hAy HG.out⟩

end Go.Proofs.Ytgmekkenodiclaa
