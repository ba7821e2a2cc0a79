/- Proved: words for the document's own making of a batch: blocks that were read; a transaction and a batch that are being made of them. -/
import Derived.Test.YtgmekkenodiclaaReb
import Derived.Test.YtgmekkenodiclaaMk
import Derived.Test.YtgmekkenodiclaaDvp
namespace Go.Proofs.Ytgmekkenodiclaa
open Go.RowKit

/-- Blocks with heads that were read: their LBAs and bodies. -/
def DV (w : World) (A : Option Addr) (P : List Pt) : Prop := P = [] ∨ ∃ g o, A = some ⟨g, o, none⟩ ∧ g < w.heap.size ∧ ∀ j, j < P.length → w.cell? ⟨g, o + j * 5 + 3, none⟩ = some (.int .i64 (P.getD j pz).1) ∧ ∃ B c, w.cell? ⟨g, o + j * 5 + 4, none⟩ = some (.slice B (P.getD j pz).2.length c) ∧ BV w B (P.getD j pz).2
theorem DV.pos {w : World} {A : Option Addr} {P : List Pt} (h : DV w A P) (h0 : 0 < P.length) : ∃ g o, A = some ⟨g, o, none⟩ ∧ g < w.heap.size ∧ ∀ j, j < P.length → w.cell? ⟨g, o + j * 5 + 3, none⟩ = some (.int .i64 (P.getD j pz).1) ∧ ∃ B c, w.cell? ⟨g, o + j * 5 + 4, none⟩ = some (.slice B (P.getD j pz).2.length c) ∧ BV w B (P.getD j pz).2 := by
  rcases h with rfl | h
  · simp at h0
  · exact h
/-- A transaction that is being made of blocks that were there: its box, its blocks. -/
structure Pm (w w0 wr : World) (qt : Nat) (T : Int) (v : Value) (l : List Pl) (Q : List Pt) : Prop where
  bx : wr.heap[qt]? = some (.cells #[.int .i64 T, v] 44 (0, 0))
  op : @Ow Pl 47 2 pcs (gx (fun j => w.heap.size ≤ j) pgd) w0 wr v l
  w0q : w0.heap.size = qt
  aw : At w w0
  ps : l.map (·.1) = Q
theorem Pm.new {w w0 : World} (h : At w w0) (T : Int) : Pm w w0 (w0.alloc (.cells #[.int .i64 T, .slice none 0 0] 44)) w0.heap.size T (.slice none 0 0) [] [] :=
  ⟨heap_alloc_new _ _, Ow.nil' ((At.start w0).alloc _), rfl, h, rfl⟩
theorem Pm.on {w w0 wr wx : World} {qt : Nat} {T : Int} {v : Value} {l : List Pl} {Q : List Pt} (h : Pm w w0 wr qt T v l Q) (hA : At wr wx) : Pm w w0 wx qt T v l Q :=
  ⟨hA.keep h.bx, h.op.on (kP.x _) hA, h.w0q, h.aw, h.ps⟩
theorem Pm.kept {w w0 wr wy w' : World} {qt : Nat} {T : Int} {v v' : Value} {l l' : List Pl} {Q : List Pt} (h : Pm w w0 wr qt T v l Q) (hA : At wr wy) (hG : Gr 47 2 pcs (gx (fun j => w.heap.size ≤ j) pgd) w0 wy v w' v' l') : w'.heap[qt]? = some (.cells #[.int .i64 T, v] 44 (0, 0)) :=
  hG.mv.keep (hA.keep h.bx) (ob_far (h.op.on (kP.x _) hA).row (hA.keep h.bx) (by decide))
theorem Pm.step {w w0 wr wy w' : World} {qt : Nat} {T : Int} {v : Value} {r c : Nat} {A : Option Addr} {l : List Pl} {Q : List Pt} {x : Pl} (h : Pm w w0 wr qt T v l Q) (hA : At wr wy) (hG : Gr 47 2 pcs (gx (fun j => w.heap.size ≤ j) pgd) w0 wy v w' (.slice A r c) (l ++ [x])) :
    Pm w w0 (w'.setCell ⟨qt, 1, none⟩ (.slice A r c)) qt T (.slice A r c) (l ++ [x]) (Q ++ [x.1]) := by
  have hb := h.kept hA hG
  have hAt : At w0 (w'.setCell ⟨qt, 1, none⟩ (.slice A r c)) := Below.setCell (p := ⟨qt, 1, none⟩) hG.ow.at_ (Nat.le_of_eq h.w0q) _
  refine ⟨set_box hb _, ?_, h.w0q, h.aw, by rw [List.map_append, h.ps]; rfl⟩
  refine hG.ow.mvx kP ((Mv.refl (fun j => j = qt) w').set (p := ⟨qt, 1, none⟩) (Or.inl rfl) _) (fun g hg => ?_) (fun g hg => ?_) hAt
  · obtain rfl : g = qt := hg
    have := h.aw.size
    have := h.w0q
    show w.heap.size ≤ g
    omega
  · obtain rfl : g = qt := hg
    exact ob_far hG.ow.row hb (by decide)
theorem Pm.elem {w w0 wr : World} {qt : Nat} {T : Int} {A : Option Addr} {n c : Nat} {l : List Pl} {Q : List Pt} (h : Pm w w0 wr qt T (.slice A n c) l Q) {F : Nat → Prop} (hF : ∀ g, F g → w.heap.size ≤ g ∧ g < w0.heap.size) : PVf F wr A Q ∧ n = Q.length ∧ n ≤ c := by
  obtain ⟨A', c', he, hpv⟩ := OP.pvf (h.op.weak kP) (fun g hg => (hF g hg).2) fun x hx => BVf.re (h.op.gd x hx) fun g _ hg => Or.inr (hF g hg).1
  obtain ⟨A2, c2, he2, hc2, _, _⟩ := h.op.form
  injection he with e1 e2 e3
  injection he2 with f1 f2 f3
  subst e1 e3 f3
  rw [h.ps] at hpv
  exact ⟨hpv, by rw [e2, ← h.ps, List.length_map], by rw [e2]; exact hc2⟩
/-- What is known behind the append, and behind the store that follows. -/
structure Pk (w w0 : World) (qt : Nat) (T : Int) (v : Value) (Q : List Pt) (w2 : World) (v' : Value) : Prop where
  c1 : w2.cell? ⟨qt, 1, none⟩ = some v
  f1 : w2.frozen? ⟨qt, 1, none⟩ = false
  pu : ∃ l, Pm w w0 (w2.setCell ⟨qt, 1, none⟩ v') qt T v' l Q
theorem Pm.append_step {w w0 wr w1 : World} {qt : Nat} {T : Int} {B : Option Addr} {k d : Nat} {l : List Pl} {P : List Pt} (h : Pm w w0 wr qt T (.slice B k d) l P) (hA : At wr w1) {z : Int} {D : List Nat} {Bd : Option Addr} {nd cd : Nat} (hn : D.length = nd) (hD : BV w Bd D) (hk : k + 1 ≤ 1000000)
    {ops : Array Oper} {o : Oper} {a : Act} {K : Act → World → Prop} {Q : Exit → Act → World → Prop} {E : Prop} (hgd : o.guard = none) (x y : Operand) (ho : o.op = .call { callee := .builtin .append, args := #[x, y], argTypes := #[42, 42] })
    (hs : a.eval x = .slice B k d) (hx : a.eval y = .slice (some ⟨w1.heap.size, 0, none⟩) 1 1) (hK : ∀ A' c' w2, Hid (Pk w w0 qt T (.slice B k d) (P ++ [(z, D)]) w2 (.slice A' (k + 1) c')) → K (a.put o.dst (.slice A' (k + 1) c')) w2) :
    if Region.wanted o (yielded ops a.tmps) = true then Oper.wp Try.prog o a (w1.alloc (.cells #[.int .i64 z, .slice Bd nd cd] 47)) K Q else E := by
  rw [if_pos (by simp [Region.wanted, hgd])]
  have hAy : At wr (w1.alloc (.cells #[.int .i64 z, .slice Bd nd cd] 47)) := hA.alloc _
  have hlen : l.length = k := by
    obtain ⟨A2, c2, he2, _, _, _⟩ := h.op.form
    injection he2 with _ e2 _
    exact e2.symm
  have hfr : gx (fun j => w.heap.size ≤ j) pgd (ob (.slice B k d)) (w1.alloc (.cells #[.int .i64 z, .slice Bd nd cd] 47)) ((z, D), Bd, cd) :=
    (BV.out hD fun g hg ho => by
      have h1 := h.aw.size
      rcases ho with ho | ho
      · have h2 := h.op.new g ho
        omega
      · have ho : w.heap.size ≤ g := ho
        omega).mv (Mv.of_below _ ((h.aw.next h.op.at_).next hAy))
  refine Ow.wp (kP.x _) (h.op.on (kP.x _) hAy) x y ho k 1 (k + 1) hlen hs (some ⟨w1.heap.size, 0, none⟩) 1 [((z, D), Bd, cd)] hx (fun z hz => ?_) rfl (fun h => by cases h) (one_laid w1 47 _ #[.int .i64 z, .slice Bd nd cd] ?_) rfl hk fun A' c' w2 HG => hK A' c' w2 (Lib.hid ?_)
  · rw [List.mem_singleton.1 hz]; exact hfr
  · show [_, Value.slice _ D.length _] = _
    rw [hn]
  · have hb := h.kept hAy HG.out
    exact ⟨(cell_at hb 1).trans rfl, free_at hb 1, _, h.step hAy HG.out⟩

theorem Pm.newp {w w0 wr : World} {qt : Nat} {T : Int} {A : Option Addr} {n c : Nat} {l : List Pl} {Q : List Pt} (h : Pm w w0 wr qt T (.slice A n c) l Q) : ∀ a, A = some a → w.heap.size ≤ a.block := fun a ha => by
  have h1 := h.op.new a.block (by rw [ha]; rfl)
  have h2 := h.aw.size
  omega
/-- Transactions that lie outside of each older box of a batch. -/
def TVn (w w' : World) (A : Option Addr) (L : List Tx) : Prop := TV w' A L ∧ ∀ (r : Nat) (s1 : Int) (A1 : Option Addr) (n1 c1 : Nat), r < w.heap.size → Bb w' r s1 (.slice A1 n1 c1) → TVf (fun j => j = r) w' A L
theorem TVn.nil (w w' : World) (A : Option Addr) : TVn w w' A [] := ⟨TV.nil _ _, fun _ _ _ _ _ _ _ => Or.inl rfl⟩
/-- A batch that is being made of them: its box, its transactions. -/
structure Tq (w wr : World) (q4 q : Nat) (s : Int) (v : Value) (l : List Tl) (Ts : List Tx) : Prop where
  bx : Bb wr q s v
  op : @Ow Tl 44 2 tcs (gx (fun j => j = q4 ∨ j = q) tgd) w wr v l
  q1 : w.heap.size ≤ q
  q2 : w.heap.size ≤ q4
  q3 : q4 < q
  ts : l.map (·.1) = Ts
  nw : ∀ x ∈ l, ∀ a, x.2.1 = some a → w.heap.size ≤ a.block
theorem Tq.on {w wr wx : World} {q4 q : Nat} {s : Int} {v : Value} {l : List Tl} {Ts : List Tx} (h : Tq w wr q4 q s v l Ts) (hA : At wr wx) : Tq w wx q4 q s v l Ts :=
  ⟨h.bx.on hA, h.op.on (kT.x _) hA, h.q1, h.q2, h.q3, h.ts, h.nw⟩
theorem Tq.far {w wr : World} {q4 q : Nat} {s : Int} {v : Value} {l : List Tl} {Ts : List Tx} (h : Tq w wr q4 q s v l Ts) : ∀ g, (ob v g ∨ g = q4 ∨ g = q) → w.heap.size ≤ g ∧ g < wr.heap.size := fun g hg => by
  have h1 := lt_heap h.bx
  have h2 := h.q1
  have h3 := h.q2
  have h4 := h.q3
  rcases hg with hg | rfl | rfl
  · exact ⟨h.op.new g hg, (h.op.row.lt g hg).2⟩
  · exact ⟨h3, by omega⟩
  · exact ⟨h2, h1⟩
theorem Tq.kept {w wr wy w' : World} {q4 q : Nat} {s : Int} {v v' : Value} {l l' : List Tl} {Ts : List Tx} (h : Tq w wr q4 q s v l Ts) (hA : At wr wy) (hG : Gr 44 2 tcs (gx (fun j => j = q4 ∨ j = q) tgd) w wy v w' v' l') : Bb w' q s v :=
  hG.mv.keep (hA.keep h.bx) (ob_far (h.op.on (kT.x _) hA).row (hA.keep h.bx) (by decide))
theorem Tq.step {w wr wy w' : World} {q4 q : Nat} {s : Int} {v : Value} {r c : Nat} {A : Option Addr} {l : List Tl} {Ts : List Tx} {x : Tl} (h : Tq w wr q4 q s v l Ts) (hA : At wr wy) (hG : Gr 44 2 tcs (gx (fun j => j = q4 ∨ j = q) tgd) w wy v w' (.slice A r c) (l ++ [x])) (hx : ∀ a, x.2.1 = some a → w.heap.size ≤ a.block) :
    Tq w (w'.setCell ⟨q, 1, none⟩ (.slice A r c)) q4 q s (.slice A r c) (l ++ [x]) (Ts ++ [x.1]) := by
  have hb : Bb w' q s v := h.kept hA hG
  refine ⟨hb.set1 _, ?_, h.q1, h.q2, h.q3, by rw [List.map_append, h.ts]; rfl, fun y hy => (List.mem_append.1 hy).elim (h.nw y) fun hy => by rw [List.mem_singleton.1 hy]; exact hx⟩
  refine hG.ow.mvx kT ((Mv.refl (fun j => j = q) w').set (p := ⟨q, 1, none⟩) (Or.inl rfl) _) (fun g hg => Or.inr hg) (fun g hg => ?_) (Below.setCell (p := ⟨q, 1, none⟩) hG.ow.at_ h.q1 _)
  obtain rfl : g = q := hg
  exact ob_far hG.ow.row hb (by decide)
/-- At the end, behind the stores into the box of the result. -/
theorem Tq.fin {w wr : World} {q4 q : Nat} {s s4 : Int} {v v4 : Value} {l : List Tl} {Ts : List Tx} (h : Tq w wr q4 q s v l Ts) (hb : Bb wr q4 s4 v4) :
    ∃ A n c, v = .slice A n c ∧ Ts.length = n ∧ Bb ((wr.setCell ⟨q4, 0, none⟩ (.int .i64 s)).setCell ⟨q4, 1, none⟩ v) q4 s v ∧ At w ((wr.setCell ⟨q4, 0, none⟩ (.int .i64 s)).setCell ⟨q4, 1, none⟩ v) ∧ TVn w ((wr.setCell ⟨q4, 0, none⟩ (.int .i64 s)).setCell ⟨q4, 1, none⟩ v) A Ts := by
  obtain ⟨h1, h2, h3⟩ := hb.fin h.op.at_ h.q2 s v
  have h4 := h.op.mvx kT h3 (fun g hg => Or.inl hg) (fun g hg => by
    obtain rfl : g = q4 := hg
    exact ob_far h.op.row hb (by decide)) h2
  have h5 := h4.weak kT
  obtain ⟨A, c, rfl, _, _, ht⟩ := OT.tv h5
  rw [h.ts] at ht
  exact ⟨A, l.length, c, rfl, by rw [← h.ts, List.length_map], h1, h2, ht, fun r s1 A1 n1 c1 hr hb => by
    have h6 := OT.far h5 h.nw hr hb (no_u8_bb _ _ _ _)
    rwa [h.ts] at h6⟩

/-- What made tells. -/
def MadeP (s : Int) (P : List Pt) (B : List Nat) (w : World) (x : Ending) (w' : World) : Prop :=
  ∃ (T : List Tx) (A : Option Addr) (n c : Nat) (ok : Bool), x = .returned (.tuple #[.agg #[.int .i64 s, .slice A n c], .bool ok]) ∧ T.length = n ∧ n ≤ 255 ∧ tot T ≤ P.length ∧ fla T = P.take (tot T) ∧ TVn w w' A T ∧ At w w' ∧ ∀ s' L, Bk s' L → bd L = B → fla L = P → ok = true ∧ T = L
/-- The results of a call that hands back a batch and a bool. -/
theorem results_bb {fn : Func} {p u : Tmp} (h : fn.results = #[.cell p 27, .tmp u]) (tmps : Array Value) (w : World) (r : Nat) (s : Int) (y : Value)
    (hp : tmps.getD p undef = .pointer (some ⟨r, 0, none⟩)) (hb : Bb w r s y) :
    (results fn tmps).run Try.prog w = .ok (.tuple #[.agg #[.int .i64 s, y], tmps.getD u undef]) w := by
  have h1 := run_loadVar_row (P := Try.prog) w r 27 27 #[.int .i64 s, y] (0, 0) _ hb Try.underlying27 rfl (by kernel_rfl)
  have hp' : tmps[p]?.getD undef = .pointer (some ⟨r, 0, none⟩) := by simpa using hp
  simp only [results, h]
  simp [Result.andThen, hp', asAddr, h1]

end Go.Proofs.Ytgmekkenodiclaa
