/- Proved: what the landed Decode of a batch answers: the batch that the blocks begin with; that they end ahead of its end; or that they are none. -/
import Derived.Test.YtgmekkenodiclaaDv
import Derived.Test.YtgmekkenodiclaaDc
import Derived.Test.YtgmekkenodiclaaCk
import Derived.Deep.CutBlock
namespace Go.Proofs.Ytgmekkenodiclaa
open Go.RowKit
attribute [local go_sem ↓] Go.wp_at_zero Go.wp_at_succ

/-- What a Decode tells. -/
def DecP (R : List (List Nat)) (w : World) (x : Ending) (w' : World) : Prop :=
  At w w' ∧ ((∃ (e s : Nat) (L : List Tx) (A : Option Addr) (c : Nat), Rok R e s L ∧ (∀ e' s' L', Rok R e' s' L' → L' = L) ∧ TV w' A L ∧ x = .returned (.tuple #[.agg #[.int .i64 (s : Int), .slice A L.length c], .int .i64 (e : Int), .int .i64 ((tot L + 1 : Nat) : Int), .int .i64 0])) ∨
    (Dk R R.length ∧ x = .returned (.tuple #[.agg #[.int .i64 0, .slice none 0 0], .int .i64 0, .int .i64 0, .int .i64 14])) ∨
    ((∀ e s L, ¬ Rok R e s L) ∧ ¬ Dk R R.length ∧ x = .returned (.tuple #[.agg #[.int .i64 0, .slice none 0 0], .int .i64 0, .int .i64 0, .int .i64 13])))
/-- A batch by value in memory. -/
def Bb (w : World) (b : Nat) (s : Int) (v : Value) : Prop := w.heap[b]? = some (.cells #[.int .i64 s, v] 27 (0, 0))
theorem Bb.cells {w : World} {b : Nat} {s : Int} {v : Value} (h : Bb w b s v) : w.cell? ⟨b, 0, none⟩ = some (.int .i64 s) ∧ w.cell? ⟨b, 1, none⟩ = some v := ⟨(cell_at h 0).trans rfl, (cell_at h 1).trans rfl⟩
theorem Bb.free {w : World} {b : Nat} {s : Int} {v : Value} (h : Bb w b s v) (i : Nat) : w.frozen? ⟨b, i, none⟩ = false := by
  unfold World.frozen?; simp only [Bb] at h; simp [h]
theorem Bb.on {w w' : World} {b : Nat} {s : Int} {v : Value} (h : Bb w b s v) (hb : At w w') : Bb w' b s v := hb.keep h
theorem Bb.other {w : World} {b g : Nat} {s : Int} {v : Value} (h : Bb w b s v) (hne : b ≠ g) (i : Nat) (u : Value) : Bb (w.setCell ⟨g, i, none⟩ u) b s v := by
  unfold Bb at h ⊢; rw [Below.heap_setCell _ _ _ _ hne]; exact h
theorem Bb.set0 {w : World} {b : Nat} {s : Int} {v : Value} (h : Bb w b s v) (x : Int) : Bb (w.setCell ⟨b, 0, none⟩ (.int .i64 x)) b x v := by
  unfold Bb at h ⊢; rw [setCell_eq_setRow w b 0 _ _ _ _ h]; exact setRow_heap w b _ _ _ _ h
theorem Bb.set1 {w : World} {b : Nat} {s : Int} {v : Value} (h : Bb w b s v) (x : Value) : Bb (w.setCell ⟨b, 1, none⟩ x) b s x := by
  unfold Bb at h ⊢; rw [setCell_eq_setRow w b 1 _ _ _ _ h]; exact setRow_heap w b _ _ _ _ h
theorem bb_new (w : World) (s : Int) (v : Value) : Bb (w.alloc (.cells #[.int .i64 s, v] 27)) w.heap.size s v := heap_alloc_new _ _
/-- A store into it. -/
theorem Bb.fin {w wr : World} {r : Nat} {s : Int} {v : Value} (h : Bb wr r s v) (ha : At w wr) (hs : w.heap.size ≤ r) (s' : Int) (v' : Value) :
    Bb ((wr.setCell ⟨r, 0, none⟩ (.int .i64 s')).setCell ⟨r, 1, none⟩ v') r s' v' ∧ At w ((wr.setCell ⟨r, 0, none⟩ (.int .i64 s')).setCell ⟨r, 1, none⟩ v') ∧ Mv (fun j => j = r) wr ((wr.setCell ⟨r, 0, none⟩ (.int .i64 s')).setCell ⟨r, 1, none⟩ v') :=
  ⟨(h.set0 s').set1 v', Below.setCell (p := ⟨r, 1, none⟩) (Below.setCell (p := ⟨r, 0, none⟩) ha hs _) hs _, ((Mv.refl (fun j => j = r) wr).set (p := ⟨r, 0, none⟩) (Or.inl rfl) (.int .i64 s')).set (p := ⟨r, 1, none⟩) (Or.inl rfl) v'⟩
/-- The results of a call that hands back a batch and three numbers. -/
theorem results_batch {fn : Func} {p u v x : Tmp} (h : fn.results = #[.cell p 27, .tmp u, .tmp v, .tmp x]) (tmps : Array Value) (w : World) (r : Nat) (s : Int) (y : Value)
    (hp : tmps.getD p undef = .pointer (some ⟨r, 0, none⟩)) (hb : Bb w r s y) :
    (results fn tmps).run Try.prog w = .ok (.tuple #[.agg #[.int .i64 s, y], tmps.getD u undef, tmps.getD v undef, tmps.getD x undef]) w := by
  have h1 := run_loadVar_row (P := Try.prog) w r 27 27 #[.int .i64 s, y] (0, 0) _ hb Try.underlying27 rfl (by kernel_rfl)
  have hp' : tmps[p]?.getD undef = .pointer (some ⟨r, 0, none⟩) := by simpa using hp
  simp only [results, h]
  simp [Result.andThen, hp', asAddr, h1]

/-- A block without bytes is none that bytes lie in. -/
theorem bv_far {w : World} {A : Option Addr} {L : List Nat} (h : BV w A L) {r t : Nat} {cs : Array Value} (hr : w.heap[r]? = some (.cells cs t (0, 0))) (hc : ∀ (j c : Nat), cs[j]? ≠ some (bt c)) : BVf (fun j => j = r) w A L := by
  rcases h with h | ⟨b, o, h1, h2, h4⟩
  · exact Or.inl h
  · by_cases h0 : L = []
    · exact Or.inl h0
    · refine Or.inr ⟨b, o, h1, h2, fun e => ?_, h4⟩
      have h5 := h4 0 (List.length_pos_iff.2 h0)
      have e : b = r := e
      rw [e, cell_at hr] at h5
      exact hc _ _ h5
theorem pv_far {w : World} {A : Option Addr} {P : List Pt} (h : PV w A P) {r t : Nat} {cs : Array Value} (hr : w.heap[r]? = some (.cells cs t (0, 0))) (hc : ∀ (j c : Nat), cs[j]? ≠ some (bt c)) (hA : ∀ a, A = some a → a.block ≠ r) : PVf (fun j => j = r) w A P := by
  rcases h with h | ⟨g, o, h1, h2, h4⟩
  · exact Or.inl h
  · refine Or.inr ⟨g, o, h1, h2, fun e => hA _ h1 e, fun j hj => ?_⟩
    obtain ⟨k1, B, c, k2, k3⟩ := h4 j hj
    exact ⟨k1, B, c, k2, bv_far k3 hr hc⟩
theorem no_u8_bb (s : Int) (A : Option Addr) (n c : Nat) : ∀ (j x : Nat), (#[.int .i64 s, .slice A n c] : Array Value)[j]? ≠ some (bt x) := fun j x h => by
  match j with
  | 0 => simp [bt] at h
  | 1 => simp [bt] at h
  | j + 2 => simp at h
theorem no_u8_bx (k e s l : Int) (A : Option Addr) (n c : Nat) : ∀ (j x : Nat), (#[.int .i64 k, .int .i64 e, .int .i64 s, .int .i64 l, .slice A n c] : Array Value)[j]? ≠ some (bt x) := fun j x h => by
  match j with
  | 0 => simp [bt] at h
  | 1 => simp [bt] at h
  | 2 => simp [bt] at h
  | 3 => simp [bt] at h
  | 4 => simp [bt] at h
  | j + 5 => simp at h
/-- Transactions that lie outside of F. -/
def TVf (F : Nat → Prop) (w : World) (A : Option Addr) (L : List Tx) : Prop :=
  L = [] ∨ ∃ g o, A = some ⟨g, o, none⟩ ∧ g < w.heap.size ∧ ¬ F g ∧ ∀ j, j < L.length → w.cell? ⟨g, o + j * 2, none⟩ = some (.int .i64 (L.getD j txz).1) ∧ ∃ B c, w.cell? ⟨g, o + j * 2 + 1, none⟩ = some (.slice B (L.getD j txz).2.length c) ∧ PVf F w B (L.getD j txz).2
theorem TVf.tv {F : Nat → Prop} {w : World} {A : Option Addr} {L : List Tx} (h : TVf F w A L) : TV w A L := by
  rcases h with h | ⟨g, o, h1, h2, _, h4⟩
  · exact Or.inl h
  · refine Or.inr ⟨g, o, h1, h2, fun j hj => ?_⟩
    obtain ⟨k1, B, c, k2, k3⟩ := h4 j hj
    exact ⟨k1, B, c, k2, k3.pv⟩
theorem TVf.mv {F : Nat → Prop} {w w' : World} {A : Option Addr} {L : List Tx} (h : TVf F w A L) (hm : Mv F w w') : TVf F w' A L := by
  rcases h with h | ⟨g, o, h1, h2, h3, h4⟩
  · exact Or.inl h
  · refine Or.inr ⟨g, o, h1, Nat.lt_of_lt_of_le h2 hm.size, h3, fun j hj => ?_⟩
    obtain ⟨k1, B, c, k2, k3⟩ := h4 j hj
    exact ⟨(World.cell?_of_block (a := ⟨g, o + j * 2, none⟩) (hm.block g h2 h3)).trans k1, B, c, (World.cell?_of_block (a := ⟨g, o + j * 2 + 1, none⟩) (hm.block g h2 h3)).trans k2, k3.mv hm⟩
theorem TVf.on {F : Nat → Prop} {w w' : World} {A : Option Addr} {L : List Tx} (h : TVf F w A L) (hA : At w w') : TVf F w' A L := h.mv (Mv.of_below _ hA)
/-- Transactions of a row of the call's own lie outside of a block that is older and holds no bytes. -/
theorem OT.far {w0 w : World} {A : Option Addr} {m c : Nat} {T : List Tl} (h : OT w0 w (.slice A m c) T) (hnew : ∀ x ∈ T, ∀ a, x.2.1 = some a → w0.heap.size ≤ a.block) {r t : Nat} {cs : Array Value} (hrl : r < w0.heap.size) (hr : w.heap[r]? = some (.cells cs t (0, 0))) (hc : ∀ (j c : Nat), cs[j]? ≠ some (bt c)) : TVf (fun j => j = r) w A (T.map (·.1)) := by
  obtain ⟨A', c', he, _, hn, hs⟩ := h.form
  injection he with he1 he2 he3
  subst he1
  cases A with
  | none => left; rw [List.eq_nil_of_length_eq_zero (hn rfl).1]; rfl
  | some a =>
    obtain ⟨h1, h2, g, rfl⟩ := hs a rfl
    have hgr : ¬ g = r := by simp only at h2; omega
    refine Or.inr ⟨g, 0, rfl, h1, hgr, fun j hj => ?_⟩
    rw [List.length_map] at hj
    have e : (T.map (·.1)).getD j txz = (T[j]).1 := by rw [List.getD_eq_getElem?_getD, List.getElem?_map, List.getElem?_eq_getElem hj]; rfl
    have k0 := h.cell kT (List.getElem?_eq_getElem hj) (i := 0) (u := .int .i64 (T[j]).1.1) rfl
    have k1 := h.cell kT (List.getElem?_eq_getElem hj) (i := 1) (u := .slice (T[j]).2.1 (T[j]).1.2.length (T[j]).2.2) rfl
    have kp := pv_far (PVf.pv (h.gd _ (List.getElem_mem hj))) hr hc fun a ha => by have := hnew _ (List.getElem_mem hj) a ha; omega
    rw [e, Nat.zero_add]
    exact ⟨k0, _, _, k1, kp⟩

theorem new_bvo {α : Type} {e : TypeId} {s : Nat} {cs : α → List Value} {gd : (Nat → Prop) → World → α → Prop} {w0 w : World} {v : Value} {l : List α} (h : Ow e s cs gd w0 w v l) {w' : World} {A : Option Addr} {L : List Nat} (hA : ∀ a, A = some a → w.heap.size ≤ a.block) (hv : BV w' A L) : BVf (ob v) w' A L := by
  rcases hv with h1 | ⟨b, o', he, h2, h4⟩
  · exact Or.inl h1
  · refine Or.inr ⟨b, o', he, h2, fun ho => ?_, h4⟩
    have := (h.row.lt b ho).2
    have h5 := hA _ he
    simp only at h5
    omega
/-- A row of the call's own that nothing lies beside, behind a store elsewhere. -/
theorem Ow.mv0 {α : Type} {e : TypeId} {s : Nat} {cs : α → List Value} {gd : (Nat → Prop) → World → α → Prop} {w0 w w' : World} {v : Value} {F : Nat → Prop} (h : Ow e s cs gd w0 w v ([] : List α)) (hm : Mv F w w') (hF : ∀ g, F g → ¬ ob v g) (hA : At w0 w') : Ow e s cs gd w0 w' v ([] : List α) := by
  refine ⟨⟨h.row.1, ?_⟩, (fun x hx => by cases hx), h.new, hA⟩
  rcases h.row.2 with h1 | ⟨g, cap, cur, hv', hB, hh, hr⟩
  · exact Or.inl h1
  · exact Or.inr ⟨g, cap, cur, hv', hB, (hm.block g (lt_heap hh) fun hg => hF g hg (by rw [hv']; rfl)).trans hh, hr⟩
theorem Bx.fin5 {w wr : World} {r t : Nat} {k e s l : Int} {v : Value} (hb : Bx wr r t k e s l v) (ha : At w wr) (hs : w.heap.size ≤ r) (k' e' s' l' : Int) (v' : Value) (w' : World) (hw : ((((wr.setCell ⟨r, 0, none⟩ (.int .i64 k')).setCell ⟨r, 1, none⟩ (.int .i64 e')).setCell ⟨r, 2, none⟩ (.int .i64 s')).setCell ⟨r, 3, none⟩ (.int .i64 l')).setCell ⟨r, 4, none⟩ v' = w') : Bx w' r t k' e' s' l' v' ∧ At w w' ∧ Mv (fun j => j = r) wr w' := by
  subst hw
  have h := fin_bx hb ha hs k' e' s' l' v'
  exact ⟨h.1, h.2, (((((Mv.refl (fun j => j = r) wr).set (p := ⟨r, 0, none⟩) (Or.inl rfl) (.int .i64 k')).set (p := ⟨r, 1, none⟩) (Or.inl rfl) (.int .i64 e')).set (p := ⟨r, 2, none⟩) (Or.inl rfl) (.int .i64 s')).set (p := ⟨r, 3, none⟩) (Or.inl rfl) (.int .i64 l')).set (p := ⟨r, 4, none⟩) (Or.inl rfl) v'⟩
theorem Bx.mv {w w' : World} {b t : Nat} {k e s l : Int} {v : Value} {F : Nat → Prop} (h : Bx w b t k e s l v) (hm : Mv F w w') (hF : ¬ F b) : Bx w' b t k e s l v := hm.keep h hF
theorem Bb.mv {w w' : World} {b : Nat} {s : Int} {v : Value} {F : Nat → Prop} (h : Bb w b s v) (hm : Mv F w w') (hF : ¬ F b) : Bb w' b s v := hm.keep h hF
/-- What frame's Decode tells of a row. -/
def RowP (P : List Nat) (w : World) (x : Ending) (w' : World) : Prop :=
  ∃ (kd e s l : Int) (A : Option Addr) (n c : Nat) (wv : Int), x = .returned (.tuple #[.agg #[.int .i64 kd, .int .i64 e, .int .i64 s, .int .i64 l, .slice A n c], .int .i64 wv]) ∧ At w w' ∧
    ((wv = 0 ∧ P.length = 64 ∧ Good P ∧ kd = (fk P : Int) ∧ e = (fe P : Int) ∧ s = (fs P : Int) ∧ l = (fl P : Int) ∧ (fb P).length = n ∧ n ≤ c ∧ (∀ a, A = some a → w.heap.size ≤ a.block) ∧ BV w' A (fb P)) ∨ (wv ≠ 0 ∧ ¬ (P.length = 64 ∧ Good P)))
theorem row_any (A : Option Addr) (P : List Nat) (m c : Nat) (hm : P.length = m) (hB : AllB P) (hc : m ≤ c) (w : World) (hv : BV w A P) : Calls Try.prog 21 #[.slice A m c] w (RowP P w) := by
  by_cases h : m = 64
  · subst h
    refine (decode_row2 A c P hm hB w hv hc).mono ?_
    rintro x w' (⟨h1, A', n, c', rfl, h2, h3, h6, h4, h5⟩ | ⟨h1, rfl, h5⟩)
    · exact ⟨_, _, _, _, A', n, c', 0, rfl, h5, Or.inl ⟨rfl, hm, h1, rfl, rfl, rfl, rfl, h2, h3, h6, h4⟩⟩
    · exact ⟨0, 0, 0, 0, none, 0, 0, 13, rfl, h5, Or.inr ⟨by decide, fun hh => h1 hh.2⟩⟩
  · refine (decode_len A m c w h).mono ?_
    rintro x w' ⟨rfl, h5⟩
    exact ⟨0, 0, 0, 0, none, 0, 0, 3, rfl, h5, Or.inr ⟨by decide, fun hh => h (hm.symm.trans hh.1)⟩⟩
/-- A block that is neither one of the batch's data blocks nor its last one. -/
theorem bad_of {R : List (List Nat)} {k : Nat} (hd : Dk R k) (hk : k < R.length) (h1 : ¬ Dt 1 (fe (R.getD 0 rz)) (fs (R.getD 0 rz)) (R.getD k rz)) (h2 : ¬ Dt 2 (fe (R.getD 0 rz)) (fs (R.getD 0 rz)) (R.getD k rz)) : (∀ e s L, ¬ Rok R e s L) ∧ ¬ Dk R R.length := by
  refine ⟨fun e s L h => ?_, fun h => h1 (h k hk)⟩
  obtain rfl := h.ends hd (Nat.le_of_lt hk) fun _ => h1
  obtain ⟨a, b⟩ := h.head
  exact h2 (by rw [a, b]; exact h.last.1)
/-- What the loop leaves. -/
structure Ex (w : World) (R : List (List Nat)) (n r q8 : Nat) (wx : World) (ev : Int) (B : Option Addr) (p d : Nat) : Prop where
  bb : Bb wx r 0 (.slice none 0 0)
  at_ : At w wx
  cs : (ev = 14 ∧ Dk R n) ∨ (ev = 13 ∧ (∀ e s L, ¬ Rok R e s L) ∧ ¬ Dk R n) ∨
    (ev = 0 ∧ ∃ (Ab : Option Addr) (nb cb : Nat) (l : Nat), p < n ∧ Dk R p ∧ Dt 2 (fe (R.getD 0 rz)) (fs (R.getD 0 rz)) (R.getD p rz) ∧ p ≤ d ∧ (B = none → p = 0 ∧ d = 0) ∧ PV wx B (pts (R.take p)) ∧
      Bx wx q8 57 2 (fe (R.getD 0 rz) : Int) (fs (R.getD 0 rz) : Int) (l : Int) (.slice Ab nb cb) ∧ fl (R.getD p rz) = l ∧ (fb (R.getD p rz)).length = nb ∧ nb ≤ cb ∧ BV wx Ab (fb (R.getD p rz)))
/-- Inside of the loop. -/
structure Ds (w w3 wr : World) (r q7 q8 : Nat) (R : List (List Nat)) (k : Nat) (B : Option Addr) (d : Nat) (l : List Pl) : Prop where
  dk : Dk R k
  bb : Bb wr r 0 (.slice none 0 0)
  cm : Bx wr q8 57 0 0 0 0 (.slice none 0 0)
  op : OP w wr (.slice B k d) l
  new3 : ∀ a, B = some a → w3.heap.size ≤ a.block
  sz3 : w3.heap.size ≤ wr.heap.size
  pts : l.map (·.1) = Go.Proofs.Ytgmekkenodiclaa.pts (R.take k)
theorem pts_more {R : List (List Nat)} {k : Nat} (h : k < R.length) : pts (R.take (k + 1)) = pts (R.take k) ++ [pq (R.getD k rz)] := by
  rw [List.take_succ_eq_append_getElem h, pts, List.map_append, List.getD_eq_getElem?_getD, List.getElem?_eq_getElem h]; rfl

set_option maxHeartbeats 8000000 in
set_option maxRecDepth 100000 in
theorem decode_any (A : Option Addr) (R : List (List Nat)) (n c : Nat) (hn : R.length = n) (hn2 : n ≤ 1000) (hB : ∀ r ∈ R, AllB r) (w : World) (hv : RV w A R) :
    Calls Try.prog 10 #[.slice A n c] w (DecP R w) := by
  have HN := Lib.hid hn
  have HV := Lib.hid hv
  have HB := Lib.hid hB
  obtain ⟨r, hr⟩ : ∃ r, w.heap.size = r := ⟨_, rfl⟩
  obtain ⟨w1, hw1⟩ : ∃ w1, w.alloc (.cells #[.int .i64 0, .slice none 0 0] 27) = w1 := ⟨_, rfl⟩
  obtain ⟨q7, hq7⟩ : ∃ q, w1.heap.size = q := ⟨_, rfl⟩
  obtain ⟨w2, hw2⟩ : ∃ w2, w1.alloc (.cells #[.int .i64 0, .int .i64 0, .int .i64 0, .int .i64 0, .slice none 0 0] 57) = w2 := ⟨_, rfl⟩
  obtain ⟨q8, hq8⟩ : ∃ q, w2.heap.size = q := ⟨_, rfl⟩
  obtain ⟨w3, hw3⟩ : ∃ w3, w2.alloc (.cells #[.int .i64 0, .int .i64 0, .int .i64 0, .int .i64 0, .slice none 0 0] 57) = w3 := ⟨_, rfl⟩
  have h12 : At w1 w2 := by rw [← hw2]; exact (At.start w1).alloc _
  have h23 : At w2 w3 := by rw [← hw3]; exact (At.start w2).alloc _
  have HA3 : Hid (At w w3) := Lib.hid (At.next (by rw [← hw1]; exact (At.start w).alloc _) (At.next h12 h23))
  have HBB : Hid (Bb w3 r 0 (.slice none 0 0)) := Lib.hid ((show Bb w1 r 0 (.slice none 0 0) by rw [← hw1, ← hr]; exact bb_new _ _ _).on (h12.next h23))
  have HB7 : Hid (Bx w3 q7 57 0 0 0 0 (.slice none 0 0)) := Lib.hid ((show Bx w2 q7 57 0 0 0 0 (.slice none 0 0) by rw [← hw2, ← hq7]; exact bx_new _ _ _ _ _ _ _).on h23)
  have HB8 : Hid (Bx w3 q8 57 0 0 0 0 (.slice none 0 0)) := Lib.hid (by rw [← hw3, ← hq8]; exact bx_new _ _ _ _ _ _ _)
  have HSZ : Hid (w.heap.size ≤ r ∧ r < q7 ∧ q7 < q8 ∧ q8 < w3.heap.size) := Lib.hid (by
    have e1 : w1.heap.size = w.heap.size + 1 := by rw [← hw1]; simp
    have e2 : w2.heap.size = w1.heap.size + 1 := by rw [← hw2]; simp
    have e3 : w3.heap.size = w2.heap.size + 1 := by rw [← hw3]; simp
    omega)
  clear hn hv hB h12 h23
  go_enter Try.func10, Try.ntmps10
  go_wp2_with fail
  go_step3
  go_upto_block 0 with fail
  go_step3
  go_upto_block 0 with fail
  go_cut [5, 6] from 9 to 60 (fun c5 c6 wx => ∃ (ev : Int) (B : Option Addr) (p d : Nat), c5 = .int .i64 ev ∧ c6 = .slice B p d ∧ Hid (Ex w R n r q8 wx ev B p d))
  case first =>
    go_wp2_with fail
    go_loopw [5, 6, 17] (fun c5 c6 c17 wr => ∃ (k d : Nat) (B : Option Addr) (l : List Pl), k ≤ n ∧ c17 = .int .i64 (k : Int) ∧ c5 = .int .i64 14 ∧ c6 = .slice B k d ∧ Hid (Ds w w3 wr r q7 q8 R k B d l) ∧ Hid (∃ (kd e s lb : Int) (Av : Option Addr) (nv cv : Nat), Bx wr q7 57 kd e s lb (.slice Av nv cv) ∧ (k ≠ 0 → e = (fe (R.getD 0 rz) : Int) ∧ s = (fs (R.getD 0 rz) : Int)))) (fun _ _ c17 _ => n - (RowKit.intOf c17).toNat)
    case atStart => exact ⟨0, 0, none, [], Nat.zero_le _, rfl, rfl, rfl, Lib.hid ⟨Dk.zero R, HBB.out, HB8.out, Ow.nil' HA3.out, (fun a ha => by cases ha), Nat.le_refl _, rfl⟩, Lib.hid ⟨_, _, _, _, _, _, _, HB7.out, fun h => absurd rfl h⟩⟩
    case round =>
      obtain ⟨k, d, B, l, hk, rfl, rfl, rfl, HD, HF⟩ := hrel
      by_cases hlt : k < n
      · have hkR : k < R.length := by rw [HN.out]; exact hlt
        have HAW : Hid (At w wr) := Lib.hid HD.out.op.at_
        obtain ⟨ga, o, rfl, hg, hc⟩ := (HV.out.on HAW.out).pos (by omega)
        obtain ⟨Br, cr, k1, hcr, hbv⟩ := hc k hkR
        obtain ⟨P, hP⟩ : ∃ P, P = R.getD k rz := ⟨_, rfl⟩
        have hP' : R.getD k [] = P := hP.symm
        rw [hP'] at k1 hcr hbv
        obtain ⟨m, hm⟩ : ∃ m, P.length = m := ⟨_, rfl⟩
        rw [hm] at k1 hcr
        have HROW := Lib.hid (row_any Br P m cr hm (by rw [hP]; exact HB.out _ (row_mem hkR)) hcr wr hbv)
        have HPP := Lib.hid hP
        obtain ⟨f1, f2, f3, f4, f5, f6, f7, hf, hfe⟩ := HF.out
        have HF7 := Lib.hid hf
        have HFE := Lib.hid hfe
        have HBAD : Hid (¬ Dt 1 (fe (R.getD 0 rz)) (fs (R.getD 0 rz)) P → ¬ Dt 2 (fe (R.getD 0 rz)) (fs (R.getD 0 rz)) P → (∀ e s L, ¬ Rok R e s L) ∧ ¬ Dk R n) := Lib.hid fun h1 h2 => by
          rw [hP] at h1 h2
          have := bad_of HD.out.dk hkR h1 h2
          rwa [HN.out] at this
        have g1 : (0 : Int) ≤ (k : Int) := by omega
        have g2 : (k : Int) < (n : Int) := by omega
        clear hc hg hcr hbv hP hP' hm hf hfe HF hkR
        go_wp2_with fail
        refine HROW.out.mono ?_
        rintro x w4 ⟨kd, e, s, lb, AD, nD, cD, wv, rfl, hA4, hcs⟩
        obtain ⟨wx, hwx⟩ : ∃ wx, w4.alloc (.cells #[.int .i64 kd, .int .i64 e, .int .i64 s, .int .i64 lb, .slice AD nD cD] 57) = wx := ⟨_, rfl⟩
        obtain ⟨qx, hqx⟩ : ∃ q, w4.heap.size = q := ⟨_, rfl⟩
        have hA4x : At w4 wx := by rw [← hwx]; exact (At.start w4).alloc _
        have HAX : Hid (At wr wx) := Lib.hid (At.next hA4 hA4x)
        have HXB : Hid (Bx wx qx 57 kd e s lb (.slice AD nD cD)) := Lib.hid (by rw [← hwx, ← hqx]; exact bx_new _ _ _ _ _ _ _)
        have HQX : Hid (wr.heap.size ≤ qx) := Lib.hid (by rw [← hqx]; exact hA4.size)
        have HCS : Hid ((wv = 0 ∧ P.length = 64 ∧ Good P ∧ kd = (fk P : Int) ∧ e = (fe P : Int) ∧ s = (fs P : Int) ∧ lb = (fl P : Int) ∧ (fb P).length = nD ∧ nD ≤ cD ∧ (∀ a, AD = some a → wr.heap.size ≤ a.block) ∧ BV wx AD (fb P)) ∨ (wv ≠ 0 ∧ ¬ (P.length = 64 ∧ Good P))) := Lib.hid (by
          rcases hcs with ⟨a1, a2, a3, a4, a5, a6, a7, a8, a9, a11, a10⟩ | h
          · exact Or.inl ⟨a1, a2, a3, a4, a5, a6, a7, a8, a9, a11, a10.below hA4x⟩
          · exact Or.inr h)
        obtain ⟨x0, x1, x2, x3, x4⟩ := HXB.out.cells
        have h7 := HF7.out.on HAX.out
        obtain ⟨y0, y1, y2, y3, y4⟩ := h7.cells
        have p0 := h7.free 0
        have p1 := h7.free 1
        have p2 := h7.free 2
        have p3 := h7.free 3
        have p4 := h7.free 4
        have HB7X := Lib.hid h7
        have n7x : ¬ qx = q7 := by
          have h1 := lt_heap HF7.out
          have h2 := HQX.out
          omega
        have HN7 := Lib.hid n7x
        clear hA4 hA4x hcs h7
        by_cases hk0 : k = 0
        · have z0 : ((k : Int) == 0) = true := by simp [hk0]
          obtain ⟨w6, hw6⟩ : ∃ w6, ((((wx.setCell ⟨q7, 0, none⟩ (.int .i64 kd)).setCell ⟨q7, 1, none⟩ (.int .i64 e)).setCell ⟨q7, 2, none⟩ (.int .i64 s)).setCell ⟨q7, 3, none⟩ (.int .i64 lb)).setCell ⟨q7, 4, none⟩ (.slice AD nD cD) = w6 := ⟨_, rfl⟩
          have hsz := HSZ.out
          have H67 := Lib.hid (HB7X.out.fin5 (HAW.out.next HAX.out) (by omega) kd e s lb (.slice AD nD cD) w6 hw6)
          have HL0 : Hid (l = []) := Lib.hid (by
            have h1 := congrArg List.length HD.out.pts
            rw [hk0, List.take_zero, List.length_map] at h1
            exact List.eq_nil_of_length_eq_zero h1)
          have HD6 : Hid (Ds w w3 w6 r q7 q8 R k B d l) := Lib.hid (by
            have h1 := HD.out.op.on kP HAX.out
            rw [HL0.out] at h1 ⊢
            refine ⟨HD.out.dk, (HD.out.bb.on HAX.out).mv H67.out.2.2 (by omega), (HD.out.cm.on HAX.out).mv H67.out.2.2 (by omega), h1.mv0 H67.out.2.2 (fun g hg ho => ?_) H67.out.2.1, HD.out.new3, Nat.le_trans (Nat.le_trans HD.out.sz3 HAX.out.size) H67.out.2.2.size, by rw [← HL0.out]; exact HD.out.pts⟩
            cases B with
            | none => cases ho
            | some b => have h2 := HD.out.new3 b rfl; have h3 : some b.block = some g := ho; injection h3 with h3; have hg : g = q7 := hg; omega)
          have HP0 : Hid (P = R.getD 0 rz) := Lib.hid (by rw [HPP.out, hk0])
          have HF6 : Hid (wv = 0 → ∃ (kd e s lb : Int) (Av : Option Addr) (nv cv : Nat), Bx w6 q7 57 kd e s lb (.slice Av nv cv) ∧ e = (fe (R.getD 0 rz) : Int) ∧ s = (fs (R.getD 0 rz) : Int)) := Lib.hid fun hw => by
            refine ⟨kd, e, s, lb, AD, nD, cD, H67.out.1, ?_⟩
            rcases HCS.out with ⟨_, _, _, _, a5, a6, _⟩ | h
            · rw [← HP0.out]; exact ⟨a5, a6⟩
            · exact absurd hw h.1
          have HBV6 : Hid (BV wx AD (fb P) → BV w6 AD (fb P)) := Lib.hid fun hb => ((bv_far hb HB7X.out (no_u8_bx _ _ _ _ _ _ _)).mv H67.out.2.2).bv
          have HX6 : Hid (Bx w6 qx 57 kd e s lb (.slice AD nD cD)) := Lib.hid (HXB.out.mv H67.out.2.2 n7x)
          obtain ⟨i0, i1, i2, i3, i4⟩ := HX6.out.cells
          obtain ⟨t0, t1, t2, t3, t4⟩ := H67.out.1.cells
          clear hk0 hsz
          by_cases hwv : wv = 0
          rotate_left
          · have z1 : (wv != 0) = true := by simp [hwv]
            have HX : Hid (Ex w R n r q8 w6 13 B k d) := Lib.hid ⟨HD6.out.bb, HD6.out.op.at_, Or.inr (Or.inl ⟨rfl, by
              rcases HCS.out with h | h
              · exact absurd h.1 hwv
              · exact HBAD.out (fun hd => h.2 ⟨hd.n, hd.g⟩) (fun hd => h.2 ⟨hd.n, hd.g⟩)⟩)⟩
            clear hwv
            go_wp2_with fail
            go_meet
            case rel => exact ⟨13, B, k, d, rfl, rfl, HX⟩
          have z1 : (wv != 0) = false := by simp [hwv]
          have HGD : Hid (P.length = 64 ∧ Good P ∧ kd = (fk P : Int) ∧ e = (fe P : Int) ∧ s = (fs P : Int) ∧ lb = (fl P : Int) ∧ (fb P).length = nD ∧ nD ≤ cD ∧ (∀ a, AD = some a → wr.heap.size ≤ a.block) ∧ BV w6 AD (fb P)) := Lib.hid (by
            rcases HCS.out with ⟨_, a2, a3, a4, a5, a6, a7, a8, a9, a11, a10⟩ | h
            · exact ⟨a2, a3, a4, a5, a6, a7, a8, a9, a11, HBV6.out a10⟩
            · exact absurd hwv h.1)
          have HF7b := Lib.hid (HF6.out hwv)
          clear hwv
          have HES : Hid (e = (fe (R.getD 0 rz) : Int) ∧ s = (fs (R.getD 0 rz) : Int)) := Lib.hid (by rw [← HP0.out]; exact ⟨HGD.out.2.2.2.1, HGD.out.2.2.2.2.1⟩)
          have HDT : Hid (∀ j : Nat, kd = (j : Int) → Dt j (fe (R.getD 0 rz)) (fs (R.getD 0 rz)) P) := Lib.hid fun j hj => by
            obtain ⟨a2, a3, a4, a5, a6, _⟩ := HGD.out
            have h1 := HES.out
            exact ⟨a2, a3, by omega, by omega, by omega⟩
          by_cases hk1 : kd = 1
          · have z4 : (kd == 1) = true := by simp [hk1]
            have HK1 := Lib.hid hk1
            obtain ⟨wy, hwy⟩ : ∃ wy, w6.alloc (.cells #[.int .i64 lb, .slice AD nD cD] 47) = wy := ⟨_, rfl⟩
            obtain ⟨qy, hqy⟩ : ∃ q, w6.heap.size = q := ⟨_, rfl⟩
            have hAy : At w6 wy := by rw [← hwy]; exact (At.start w6).alloc _
            have HQY : Hid (wy.heap[qy]? = some (.cells #[.int .i64 lb, .slice AD nD cD] 47 (0, 0))) := Lib.hid (by rw [← hwy, ← hqy]; exact heap_alloc_new w6 _)
            have HOY := Lib.hid (HD6.out.op.on kP hAy)
            have HBY : Hid (BVf (ob (.slice B k d)) wy AD (fb P)) := Lib.hid (new_bvo HD.out.op HGD.out.2.2.2.2.2.2.2.2.1 (HGD.out.2.2.2.2.2.2.2.2.2.below hAy))
            have HYY := Lib.hid hAy
            have hk6 : k + 1 ≤ 1000000 := by omega
            have HLN : Hid (l.length = k) := Lib.hid (by
              have h1 := congrArg List.length HD6.out.pts
              have h2 := HN.out
              rw [List.length_map] at h1
              rw [h1, Go.Proofs.Ytgmekkenodiclaa.pts, List.length_map, List.length_take]; omega)
            clear hk1 hAy
            go_wp2_with (at_builtin; refine Ow.append kP rfl HOY.out (.tmp 47) (.tmp 53) rfl k 1 (k + 1) HLN.out rfl (some ⟨qy, 0, none⟩) 1 [((lb, fb P), AD, cD)] rfl (fun x hx => by rw [List.mem_singleton.1 hx]; exact HBY.out) rfl (fun h => by cases h) (one_kept (vs := #[.int .i64 lb, .slice AD nD cD]) (by show [_, Value.slice AD (fb P).length cD] = _; rw [HGD.out.2.2.2.2.2.2.1]) HQY.out) rfl hk6 ?_; intro A' c' w' HG)
            go_roundw
            case rel =>
              have hmv := HG.out.mv
              have hF : ∀ g, g < w3.heap.size → ¬ ob (.slice B k d) g := fun g hg ho => by
                cases B with
                | none => cases ho
                | some b => have h1 := HD6.out.new3 b rfl; have h2 : some b.block = some g := ho; injection h2 with h2; omega
              have hsz := HSZ.out
              obtain ⟨b1, b2, b3, b4, b5, b6, b7, hb7, hb8⟩ := HF7b.out
              refine ⟨k + 1, c', A', _, by omega, by go_num, rfl, rfl, Lib.hid ⟨HD6.out.dk.more (by rw [← HPP.out]; exact HDT.out 1 HK1.out), (HD6.out.bb.on HYY.out).mv hmv (hF r (by omega)), ((HD6.out.cm.on HYY.out).mv hmv (hF q8 (by omega))), HG.out.ow, fun a ha => ?_, Nat.le_trans (Nat.le_trans HD6.out.sz3 HYY.out.size) hmv.size, ?_⟩, Lib.hid ⟨b1, b2, b3, b4, b5, b6, b7, (hb7.on HYY.out).mv hmv (hF q7 (by omega)), fun _ => hb8⟩⟩
              · rcases HG.out.at_ with e1 | e1
                · cases B with
                  | none => rw [ha] at e1; cases e1
                  | some b => rw [ha] at e1; have e1 : some a.block = some b.block := e1; injection e1 with e1; rw [e1]; exact HD6.out.new3 b rfl
                · rw [ha] at e1
                  have e1 : some a.block = some wy.heap.size := e1
                  injection e1 with e1
                  rw [e1]; exact Nat.le_trans HD6.out.sz3 HYY.out.size
              · rw [pts_more (by rw [HN.out]; exact hlt), List.map_append, HD6.out.pts, ← HPP.out]
                congr 1
                show [(lb, fb P)] = [((fl P : Int), fb P)]
                rw [HGD.out.2.2.2.2.2.1]
            case measure => simp [RowKit.intOf]; omega
          have z4 : (kd == 1) = false := by simp [hk1]
          have HD1 : Hid (¬ Dt 1 (fe (R.getD 0 rz)) (fs (R.getD 0 rz)) P) := Lib.hid fun hd => hk1 (by have := HGD.out.2.2.1; have := hd.k; omega)
          by_cases hk2 : kd = 2
          · have z5 : (kd == 2) = true := by simp [hk2]
            have HK2 := Lib.hid hk2
            obtain ⟨w8, hw8⟩ : ∃ w8, ((((w6.setCell ⟨q8, 0, none⟩ (.int .i64 kd)).setCell ⟨q8, 1, none⟩ (.int .i64 e)).setCell ⟨q8, 2, none⟩ (.int .i64 s)).setCell ⟨q8, 3, none⟩ (.int .i64 lb)).setCell ⟨q8, 4, none⟩ (.slice AD nD cD) = w8 := ⟨_, rfl⟩
            have hsz := HSZ.out
            have h8 := HD6.out.cm.fin5 HD6.out.op.at_ (by omega) kd e s lb (.slice AD nD cD) w8 hw8
            have HX : Hid (Ex w R n r q8 w8 0 B k d) := Lib.hid (by
              obtain ⟨a2, a3, a4, a5, a6, a7, a8, a9, a11, a10⟩ := HGD.out
              obtain ⟨e1, e2⟩ := HES.out
              obtain ⟨A9, c9, he9, h9, h10, h11⟩ := OP.pv HD6.out.op
              have hln : l.length = k := by
                have h1 := congrArg List.length HD6.out.pts
                have h2 := HN.out
                rw [List.length_map] at h1
                rw [h1, Go.Proofs.Ytgmekkenodiclaa.pts, List.length_map, List.length_take]; omega
              injection he9 with f1 f2 f3
              subst f1 f3
              rw [HD6.out.pts] at h11
              refine ⟨HD6.out.bb.mv h8.2.2 (by omega), h8.2.1, Or.inr (Or.inr ⟨rfl, AD, nD, cD, fl P, hlt, HD6.out.dk, by rw [← HPP.out]; exact HDT.out 2 HK2.out, by omega, fun hz => by have := h10 hz; omega, ?_, ?_, by rw [← HPP.out], by rw [← HPP.out]; exact a8, a9, ?_⟩)⟩
              · exact ((pv_far h11 HD6.out.cm (no_u8_bx _ _ _ _ _ _ _) fun a ha => by have := HD6.out.new3 a ha; omega).mv h8.2.2).pv
              · have := h8.1
                rw [HK2.out, a7] at this
                rw [← e1, ← e2]; exact this
              · rw [← HPP.out]
                exact ((bv_far a10 HD6.out.cm (no_u8_bx _ _ _ _ _ _ _)).mv h8.2.2).bv)
            obtain ⟨v0, v1, v2, v3, v4⟩ := HD6.out.cm.cells
            have o0 := HD6.out.cm.free 0
            have o1 := HD6.out.cm.free 1
            have o2 := HD6.out.cm.free 2
            have o3 := HD6.out.cm.free 3
            have o4 := HD6.out.cm.free 4
            clear hk1 hk2 h8 hsz
            go_wp2_with fail
            go_meet
            case rel => exact ⟨0, B, k, d, rfl, rfl, HX⟩
          · have z5 : (kd == 2) = false := by simp [hk2]
            have HX : Hid (Ex w R n r q8 w6 13 B k d) := Lib.hid ⟨HD6.out.bb, HD6.out.op.at_, Or.inr (Or.inl ⟨rfl, HBAD.out HD1.out fun hd => hk2 (by have := HGD.out.2.2.1; have := hd.k; omega)⟩)⟩
            clear hk1 hk2
            go_wp2_with fail
            go_meet
            case rel => exact ⟨13, B, k, d, rfl, rfl, HX⟩
        · have z0 : ((k : Int) == 0) = false := by simp; omega
          have HE0 : Hid (f2 = (fe (R.getD 0 rz) : Int) ∧ f3 = (fs (R.getD 0 rz) : Int)) := Lib.hid (HFE.out hk0)
          have HD6 : Hid (Ds w w3 wx r q7 q8 R k B d l) := Lib.hid ⟨HD.out.dk, HD.out.bb.on HAX.out, HD.out.cm.on HAX.out, HD.out.op.on kP HAX.out, HD.out.new3, Nat.le_trans HD.out.sz3 HAX.out.size, HD.out.pts⟩
          have HF6 : Hid (wv = 0 → ∃ (kd e s lb : Int) (Av : Option Addr) (nv cv : Nat), Bx wx q7 57 kd e s lb (.slice Av nv cv) ∧ e = (fe (R.getD 0 rz) : Int) ∧ s = (fs (R.getD 0 rz) : Int)) := Lib.hid fun _ => ⟨_, _, _, _, _, _, _, HB7X.out, HE0.out⟩
          have HBV6 : Hid (BV wx AD (fb P) → BV wx AD (fb P)) := Lib.hid fun hb => hb
          clear hk0
          by_cases hwv : wv = 0
          rotate_left
          · have z1 : (wv != 0) = true := by simp [hwv]
            have HX : Hid (Ex w R n r q8 wx 13 B k d) := Lib.hid ⟨HD6.out.bb, HD6.out.op.at_, Or.inr (Or.inl ⟨rfl, by
              rcases HCS.out with h | h
              · exact absurd h.1 hwv
              · exact HBAD.out (fun hd => h.2 ⟨hd.n, hd.g⟩) (fun hd => h.2 ⟨hd.n, hd.g⟩)⟩)⟩
            clear hwv
            go_wp2_with fail
            go_meet
            case rel => exact ⟨13, B, k, d, rfl, rfl, HX⟩
          have z1 : (wv != 0) = false := by simp [hwv]
          have HGD : Hid (P.length = 64 ∧ Good P ∧ kd = (fk P : Int) ∧ e = (fe P : Int) ∧ s = (fs P : Int) ∧ lb = (fl P : Int) ∧ (fb P).length = nD ∧ nD ≤ cD ∧ (∀ a, AD = some a → wr.heap.size ≤ a.block) ∧ BV wx AD (fb P)) := Lib.hid (by
            rcases HCS.out with ⟨_, a2, a3, a4, a5, a6, a7, a8, a9, a11, a10⟩ | h
            · exact ⟨a2, a3, a4, a5, a6, a7, a8, a9, a11, HBV6.out a10⟩
            · exact absurd hwv h.1)
          have HF7b := Lib.hid (HF6.out hwv)
          clear hwv
          by_cases he : e = f2
          rotate_left
          · have z2 : (e != f2) = true := by simp [he]
            have HX : Hid (Ex w R n r q8 wx 13 B k d) := Lib.hid ⟨HD6.out.bb, HD6.out.op.at_, Or.inr (Or.inl ⟨rfl, HBAD.out (fun hd => he (by have := hd.e; have := HGD.out.2.2.2.1; have := HE0.out.1; omega)) (fun hd => he (by have := hd.e; have := HGD.out.2.2.2.1; have := HE0.out.1; omega))⟩)⟩
            clear he
            go_wp2_with fail
            go_meet
            case rel => exact ⟨13, B, k, d, rfl, rfl, HX⟩
          have z2 : (e != f2) = false := by simp [he]
          by_cases hs : s = f3
          rotate_left
          · have z3 : (s != f3) = true := by simp [hs]
            have HX : Hid (Ex w R n r q8 wx 13 B k d) := Lib.hid ⟨HD6.out.bb, HD6.out.op.at_, Or.inr (Or.inl ⟨rfl, HBAD.out (fun hd => hs (by have := hd.s; have := HGD.out.2.2.2.2.1; have := HE0.out.2; omega)) (fun hd => hs (by have := hd.s; have := HGD.out.2.2.2.2.1; have := HE0.out.2; omega))⟩)⟩
            clear he hs
            go_wp2_with fail
            go_meet
            case rel => exact ⟨13, B, k, d, rfl, rfl, HX⟩
          have z3 : (s != f3) = false := by simp [hs]
          have HES : Hid (e = (fe (R.getD 0 rz) : Int) ∧ s = (fs (R.getD 0 rz) : Int)) := Lib.hid ⟨he.trans HE0.out.1, hs.trans HE0.out.2⟩
          clear he hs
          have HDT : Hid (∀ j : Nat, kd = (j : Int) → Dt j (fe (R.getD 0 rz)) (fs (R.getD 0 rz)) P) := Lib.hid fun j hj => by
            obtain ⟨a2, a3, a4, a5, a6, _⟩ := HGD.out
            have h1 := HES.out
            exact ⟨a2, a3, by omega, by omega, by omega⟩
          by_cases hk1 : kd = 1
          · have z4 : (kd == 1) = true := by simp [hk1]
            have HK1 := Lib.hid hk1
            obtain ⟨wy, hwy⟩ : ∃ wy, wx.alloc (.cells #[.int .i64 lb, .slice AD nD cD] 47) = wy := ⟨_, rfl⟩
            obtain ⟨qy, hqy⟩ : ∃ q, wx.heap.size = q := ⟨_, rfl⟩
            have hAy : At wx wy := by rw [← hwy]; exact (At.start wx).alloc _
            have HQY : Hid (wy.heap[qy]? = some (.cells #[.int .i64 lb, .slice AD nD cD] 47 (0, 0))) := Lib.hid (by rw [← hwy, ← hqy]; exact heap_alloc_new wx _)
            have HOY := Lib.hid (HD6.out.op.on kP hAy)
            have HBY : Hid (BVf (ob (.slice B k d)) wy AD (fb P)) := Lib.hid (new_bvo HD.out.op HGD.out.2.2.2.2.2.2.2.2.1 (HGD.out.2.2.2.2.2.2.2.2.2.below hAy))
            have HYY := Lib.hid hAy
            have hk6 : k + 1 ≤ 1000000 := by omega
            have HLN : Hid (l.length = k) := Lib.hid (by
              have h1 := congrArg List.length HD6.out.pts
              have h2 := HN.out
              rw [List.length_map] at h1
              rw [h1, Go.Proofs.Ytgmekkenodiclaa.pts, List.length_map, List.length_take]; omega)
            clear hk1 hAy
            go_wp2_with (at_builtin; refine Ow.append kP rfl HOY.out (.tmp 47) (.tmp 53) rfl k 1 (k + 1) HLN.out rfl (some ⟨qy, 0, none⟩) 1 [((lb, fb P), AD, cD)] rfl (fun x hx => by rw [List.mem_singleton.1 hx]; exact HBY.out) rfl (fun h => by cases h) (one_kept (vs := #[.int .i64 lb, .slice AD nD cD]) (by show [_, Value.slice AD (fb P).length cD] = _; rw [HGD.out.2.2.2.2.2.2.1]) HQY.out) rfl hk6 ?_; intro A' c' w' HG)
            go_roundw
            case rel =>
              have hmv := HG.out.mv
              have hF : ∀ g, g < w3.heap.size → ¬ ob (.slice B k d) g := fun g hg ho => by
                cases B with
                | none => cases ho
                | some b => have h1 := HD6.out.new3 b rfl; have h2 : some b.block = some g := ho; injection h2 with h2; omega
              have hsz := HSZ.out
              obtain ⟨b1, b2, b3, b4, b5, b6, b7, hb7, hb8⟩ := HF7b.out
              refine ⟨k + 1, c', A', _, by omega, by go_num, rfl, rfl, Lib.hid ⟨HD6.out.dk.more (by rw [← HPP.out]; exact HDT.out 1 HK1.out), (HD6.out.bb.on HYY.out).mv hmv (hF r (by omega)), ((HD6.out.cm.on HYY.out).mv hmv (hF q8 (by omega))), HG.out.ow, fun a ha => ?_, Nat.le_trans (Nat.le_trans HD6.out.sz3 HYY.out.size) hmv.size, ?_⟩, Lib.hid ⟨b1, b2, b3, b4, b5, b6, b7, (hb7.on HYY.out).mv hmv (hF q7 (by omega)), fun _ => hb8⟩⟩
              · rcases HG.out.at_ with e1 | e1
                · cases B with
                  | none => rw [ha] at e1; cases e1
                  | some b => rw [ha] at e1; have e1 : some a.block = some b.block := e1; injection e1 with e1; rw [e1]; exact HD6.out.new3 b rfl
                · rw [ha] at e1
                  have e1 : some a.block = some wy.heap.size := e1
                  injection e1 with e1
                  rw [e1]; exact Nat.le_trans HD6.out.sz3 HYY.out.size
              · rw [pts_more (by rw [HN.out]; exact hlt), List.map_append, HD6.out.pts, ← HPP.out]
                congr 1
                show [(lb, fb P)] = [((fl P : Int), fb P)]
                rw [HGD.out.2.2.2.2.2.1]
            case measure => simp [RowKit.intOf]; omega
          have z4 : (kd == 1) = false := by simp [hk1]
          have HD1 : Hid (¬ Dt 1 (fe (R.getD 0 rz)) (fs (R.getD 0 rz)) P) := Lib.hid fun hd => hk1 (by have := HGD.out.2.2.1; have := hd.k; omega)
          by_cases hk2 : kd = 2
          · have z5 : (kd == 2) = true := by simp [hk2]
            have HK2 := Lib.hid hk2
            obtain ⟨w8, hw8⟩ : ∃ w8, ((((wx.setCell ⟨q8, 0, none⟩ (.int .i64 kd)).setCell ⟨q8, 1, none⟩ (.int .i64 e)).setCell ⟨q8, 2, none⟩ (.int .i64 s)).setCell ⟨q8, 3, none⟩ (.int .i64 lb)).setCell ⟨q8, 4, none⟩ (.slice AD nD cD) = w8 := ⟨_, rfl⟩
            have hsz := HSZ.out
            have h8 := HD6.out.cm.fin5 HD6.out.op.at_ (by omega) kd e s lb (.slice AD nD cD) w8 hw8
            have HX : Hid (Ex w R n r q8 w8 0 B k d) := Lib.hid (by
              obtain ⟨a2, a3, a4, a5, a6, a7, a8, a9, a11, a10⟩ := HGD.out
              obtain ⟨e1, e2⟩ := HES.out
              obtain ⟨A9, c9, he9, h9, h10, h11⟩ := OP.pv HD6.out.op
              have hln : l.length = k := by
                have h1 := congrArg List.length HD6.out.pts
                have h2 := HN.out
                rw [List.length_map] at h1
                rw [h1, Go.Proofs.Ytgmekkenodiclaa.pts, List.length_map, List.length_take]; omega
              injection he9 with f1 f2 f3
              subst f1 f3
              rw [HD6.out.pts] at h11
              refine ⟨HD6.out.bb.mv h8.2.2 (by omega), h8.2.1, Or.inr (Or.inr ⟨rfl, AD, nD, cD, fl P, hlt, HD6.out.dk, by rw [← HPP.out]; exact HDT.out 2 HK2.out, by omega, fun hz => by have := h10 hz; omega, ?_, ?_, by rw [← HPP.out], by rw [← HPP.out]; exact a8, a9, ?_⟩)⟩
              · exact ((pv_far h11 HD6.out.cm (no_u8_bx _ _ _ _ _ _ _) fun a ha => by have := HD6.out.new3 a ha; omega).mv h8.2.2).pv
              · have := h8.1
                rw [HK2.out, a7] at this
                rw [← e1, ← e2]; exact this
              · rw [← HPP.out]
                exact ((bv_far a10 HD6.out.cm (no_u8_bx _ _ _ _ _ _ _)).mv h8.2.2).bv)
            obtain ⟨v0, v1, v2, v3, v4⟩ := HD6.out.cm.cells
            have o0 := HD6.out.cm.free 0
            have o1 := HD6.out.cm.free 1
            have o2 := HD6.out.cm.free 2
            have o3 := HD6.out.cm.free 3
            have o4 := HD6.out.cm.free 4
            clear hk1 hk2 h8 hsz
            go_wp2_with fail
            go_meet
            case rel => exact ⟨0, B, k, d, rfl, rfl, HX⟩
          · have z5 : (kd == 2) = false := by simp [hk2]
            have HX : Hid (Ex w R n r q8 wx 13 B k d) := Lib.hid ⟨HD6.out.bb, HD6.out.op.at_, Or.inr (Or.inl ⟨rfl, HBAD.out HD1.out fun hd => hk2 (by have := HGD.out.2.2.1; have := hd.k; omega)⟩)⟩
            clear hk1 hk2
            go_wp2_with fail
            go_meet
            case rel => exact ⟨13, B, k, d, rfl, rfl, HX⟩
      · have hkn : k = n := by omega
        have HE : Hid (Ex w R n r q8 wr 14 B k d) := Lib.hid ⟨HD.out.bb, HD.out.op.at_, Or.inl ⟨rfl, by rw [← hkn]; exact HD.out.dk⟩⟩
        subst hkn
        go_wp2_with fail
        go_meet
        case rel => exact ⟨14, B, k, d, rfl, rfl, HE⟩
  obtain ⟨ev, B, p, d, rfl, rfl, HE⟩ := hcut
  obtain ⟨s_0, s_1⟩ := HE.out.bb.cells
  have o0 := HE.out.bb.free 0
  have o1 := HE.out.bb.free 1
  have HWS : Hid (w.heap.size ≤ r) := Lib.hid HSZ.out.1
  clear HA3 HBB HB7 HB8
  by_cases hev : ev = 0
  rotate_left
  · have z1 : (ev != 0) = true := by simp [hev]
    have HX : Hid (∀ (w' : World), At w w' → DecP R w (.returned (.tuple #[.agg #[.int .i64 0, .slice none 0 0], .int .i64 0, .int .i64 0, .int .i64 ev])) w') := Lib.hid fun w' hw' => ⟨hw', by
      rcases HE.out.cs with ⟨rfl, h⟩ | ⟨rfl, h1, h2⟩ | ⟨h, _⟩
      · exact Or.inr (Or.inl ⟨by rw [HN.out]; exact h, rfl⟩)
      · exact Or.inr (Or.inr ⟨h1, by rw [HN.out]; exact h2, rfl⟩)
      · exact absurd h hev⟩
    have hf := Lib.hid (HE.out.bb.fin HE.out.at_ HWS.out 0 (.slice none 0 0))
    clear hev
    go_wp2_with fail
    (try rw [Exit.noGoto_ret])
    (try simp only [Exit.inBlock, Exit.then])
    refine bodyPost_ret (results_batch rfl _ _ r 0 (.slice none 0 0) rfl hf.out.1) rfl ?_
    exact HX.out _ hf.out.2.1
  have z1 : (ev != 0) = false := by simp [hev]
  have HCS := HE.out.cs
  rcases HCS with ⟨h, _⟩ | ⟨h, _⟩ | ⟨_, Ab, nb, cb, lb, hpn, hdk, hdt, hpd, hz, hpv, hbx, hfl, hfbl, hcb, hbv⟩
  · omega
  · omega
  obtain ⟨e0, he0⟩ : ∃ e, e = fe (R.getD 0 rz) := ⟨_, rfl⟩
  obtain ⟨s0, hs0⟩ : ∃ s, s = fs (R.getD 0 rz) := ⟨_, rfl⟩
  rw [← he0, ← hs0] at hbx
  have hpR : p < R.length := by rw [HN.out]; exact hpn
  have hPB : AllB (R.getD p rz) := HB.out _ (row_mem hpR)
  have hPL : (pts (R.take p)).length = p := by rw [pts, List.length_map, List.length_take]; omega
  have hnb : nb ≤ 40 := by rw [← hfbl, fb_len _ hdt.n hdt.g.n]; exact hdt.g.n
  have HDV := Lib.hid (divided_any B (pts (R.take p)) p d hPL (by omega) hpd hz Ab (fb (R.getD p rz)) nb cb hfbl (by omega) (part_byte hPB _ _) hcb wc hpv hbv)
  obtain ⟨v0, v1, v2, v3, v4⟩ := hbx.cells
  have HBX := Lib.hid hbx
  have HPAR : Hid (∀ e s L, Rok R e s L → p = tot L ∧ bd L = fb (R.getD p rz) ∧ fla L = pts (R.take p) ∧ lb = p ∧ s = s0 ∧ e = e0) := Lib.hid fun e s L h => by
    have h1 := h.ends hdk (by omega) fun _ hd => by have := hd.k; have := hdt.k; omega
    have h2 := h.last
    have h3 := h.head
    rw [← h1] at h2
    exact ⟨h1, h2.2.2.symm, by rw [← h.pts, h1], by rw [← hfl, h2.2.1], by rw [hs0, h3.2], by rw [he0, h3.1]⟩
  have HND : Hid (¬ Dk R R.length) := Lib.hid fun h => by have := (h p hpR).k; have := hdt.k; omega
  have HMK : Hid (∀ L : List Tx, Bk (s0 : Int) L → bd L = fb (R.getD p rz) → fla L = pts (R.take p) → lb = p → Rok R e0 s0 L) := Lib.hid fun L hb h1 h2 h3 => by
    rw [he0, hs0] at *
    exact rok_of HB.out hpR hdk hdt (hfl.trans h3) hb h1 h2
  have HBAD : Hid (∀ (w' : World), At w w' → (∀ e s L, ¬ Rok R e s L) → DecP R w (.returned (.tuple #[.agg #[.int .i64 0, .slice none 0 0], .int .i64 0, .int .i64 0, .int .i64 13])) w') := Lib.hid fun w' hw' h => ⟨hw', Or.inr (Or.inr ⟨h, HND.out, rfl⟩)⟩
  have HPN : Hid (p ≤ 1000) := Lib.hid (by omega)
  subst hev
  clear hpn hdk hdt hpd hz hpv hbx hfl hfbl hcb hbv he0 hs0 hpR hPB hPL hnb
  go_wp2_with fail
  refine HDV.out.mono ?_
  rintro x w5 ⟨hA5, ok, A5, m5, c5, rfl, hno, hyes⟩
  have HBB5 := Lib.hid (HE.out.bb.on hA5)
  have HBX5 := Lib.hid (HBX.out.on hA5)
  have HA5 := Lib.hid (HE.out.at_.next hA5)
  have HNO := Lib.hid hno
  have HYES := Lib.hid hyes
  have HRL : Hid (r < wc.heap.size) := Lib.hid (lt_heap HE.out.bb)
  have HRQ : Hid (r ≠ q8) := Lib.hid (by have := HSZ.out; omega)
  obtain ⟨w6, hw6⟩ : ∃ w6, (w5.setCell ⟨r, 0, none⟩ (.int .i64 (s0 : Int))).setCell ⟨r, 1, none⟩ (.slice A5 m5 c5) = w6 := ⟨_, rfl⟩
  have H6 : Hid (Bb w6 r (s0 : Int) (.slice A5 m5 c5) ∧ At w w6 ∧ Mv (fun j => j = r) w5 w6) := Lib.hid (by rw [← hw6]; exact HBB5.out.fin HA5.out HWS.out _ _)
  have HBX6 := Lib.hid (HBX5.out.mv H6.out.2.2 (fun e => HRQ.out e.symm))
  obtain ⟨s_0, s_1⟩ := HBB5.out.cells
  have o0 := HBB5.out.free 0
  have o1 := HBB5.out.free 1
  obtain ⟨v0, v1, v2, v3, v4⟩ := HBX5.out.cells
  obtain ⟨t_0, t_1⟩ := H6.out.1.cells
  have r0 := H6.out.1.free 0
  have r1 := H6.out.1.free 1
  obtain ⟨u_0, u_1, u_2, u_3, u_4⟩ := HBX6.out.cells
  clear hA5 hno hyes
  have HF6 := Lib.hid (H6.out.1.fin H6.out.2.1 HWS.out 0 (.slice none 0 0))
  by_cases hok : ok = true
  rotate_left
  · obtain rfl : ok = false := by simpa using hok
    have HX : Hid (∀ e s L, ¬ Rok R e s L) := Lib.hid fun e s L h => by
      obtain ⟨_, h2, h3, _⟩ := HPAR.out e s L h
      exact HNO.out rfl _ L h.bk h2 h3
    clear hok
    go_wp2_with fail
    (try rw [Exit.noGoto_ret])
    (try simp only [Exit.inBlock, Exit.then])
    refine bodyPost_ret (results_batch rfl _ _ r 0 (.slice none 0 0) rfl HF6.out.1) rfl ?_
    exact HBAD.out _ HF6.out.2.1 HX.out
  subst hok
  obtain ⟨T, hTl, hm5, hOT, hnew, hfla, hbd, hone⟩ := HYES.out rfl
  by_cases hlp : lb = p
  rotate_left
  · have z2 : ((lb : Int) != (p : Int)) = true := by simp; omega
    have HX : Hid (∀ e s L, ¬ Rok R e s L) := Lib.hid fun e s L h => hlp (HPAR.out e s L h).2.2.2.1
    clear hlp hTl hm5 hOT hnew hfla hbd hone
    go_wp2_with fail
    (try rw [Exit.noGoto_ret])
    (try simp only [Exit.inBlock, Exit.then])
    refine bodyPost_ret (results_batch rfl _ _ r 0 (.slice none 0 0) rfl HF6.out.1) rfl ?_
    exact HBAD.out _ HF6.out.2.1 HX.out
  have z2 : ((lb : Int) != (p : Int)) = false := by simp; omega
  have HTF := Lib.hid ((OT.far hOT hnew HRL.out HBB5.out (no_u8_bb _ _ _ _)).mv H6.out.2.2)
  obtain ⟨L, hL⟩ : ∃ L, L = T.map (·.1) := ⟨_, rfl⟩
  rw [← hL] at HTF hfla hbd hone
  have HTV := Lib.hid HTF.out.tv
  have hLl : L.length = m5 := by rw [hL, List.length_map, hTl]
  have htot : tot L = p := by
    have h1 := congrArg List.length hfla
    have h2 := HPN.out
    have h3 := HN.out
    rw [fla_len] at h1
    have h4 : (pts (R.take p)).length = p := by
      have := HE.out.cs
      rcases this with ⟨h, _⟩ | ⟨h, _⟩ | ⟨_, _, _, _, _, hpn, _⟩
      · omega
      · omega
      · rw [pts, List.length_map, List.length_take]; omega
    omega
  have HCK := Lib.hid (bcheck_any (s0 : Int) A5 L m5 c5 hLl (by omega) (by have := HPN.out; omega) w6 HTV.out)
  have HONE : Hid (∀ e s L', Rok R e s L' → L' = L ∧ s = s0) := Lib.hid fun e s L' h => by
    obtain ⟨_, h2, h3, _, h5, _⟩ := HPAR.out e s L' h
    exact ⟨(hone _ L' h.bk h2 h3).symm, h5⟩
  have HFLA := Lib.hid (And.intro hfla hbd)
  have HLL := Lib.hid hLl
  have HLP := Lib.hid hlp
  obtain ⟨t, htt⟩ : ∃ t, tot L + 1 = t := ⟨_, rfl⟩
  have HBL := Lib.hid (fun W (hW : At w6 W) => blocks_any (s0 : Int) A5 L m5 c5 hLl (by omega) (by have := HPN.out; omega) t htt W (HTV.out.on hW))
  have HTT := Lib.hid htt
  clear hTl hm5 hOT hnew hfla hbd hone hL hLl htot hlp htt
  by_cases hbk : Bk (s0 : Int) L
  rotate_left
  · have h2 := HCK.out
    rw [kd_no hbk] at h2
    have HCK := Lib.hid h2
    have HX : Hid (∀ e s L, ¬ Rok R e s L) := Lib.hid fun e s L' h => by
      obtain ⟨h1, h3⟩ := HONE.out e s L' h
      exact hbk (by rw [← h1, ← h3]; exact h.bk)
    clear hbk h2
    go_wp2_with fail
    refine HCK.out.mono ?_
    rintro x w7 ⟨rfl, hA7⟩
    have HB7 := Lib.hid (H6.out.1.on hA7)
    have HA7 := Lib.hid (H6.out.2.1.next hA7)
    obtain ⟨t_0, t_1⟩ := HB7.out.cells
    have r0 := HB7.out.free 0
    have r1 := HB7.out.free 1
    have HF7 := Lib.hid (HB7.out.fin HA7.out HWS.out 0 (.slice none 0 0))
    clear hA7
    go_wp2_with fail
    (try rw [Exit.noGoto_ret])
    (try simp only [Exit.inBlock, Exit.then])
    refine bodyPost_ret (results_batch rfl _ _ r 0 (.slice none 0 0) rfl HF7.out.1) rfl ?_
    exact HBAD.out _ HF7.out.2.1 HX.out
  have h2 := HCK.out
  rw [kd_yes hbk] at h2
  have HCK := Lib.hid h2
  have HROK := Lib.hid (HMK.out L hbk (HFLA.out.2 _ hbk) HFLA.out.1 HLP.out)
  clear hbk h2
  go_wp2_with fail
  refine HCK.out.mono ?_
  rintro x w7 ⟨rfl, hA7⟩
  have HA67 : Hid (At w6 w7) := Lib.hid hA7
  have HB7 := Lib.hid (H6.out.1.on hA7)
  have HA7 := Lib.hid (H6.out.2.1.next hA7)
  have HX7 := Lib.hid (HBX6.out.on hA7)
  clear hA7 t_0 t_1 r0 r1 u_0 u_1 u_2 u_3 u_4
  obtain ⟨t_0, t_1⟩ := HB7.out.cells
  have r0 := HB7.out.free 0
  have r1 := HB7.out.free 1
  obtain ⟨u_0, u_1, u_2, u_3, u_4⟩ := HX7.out.cells
  have HSS : Hid (∀ W, At w7 W → W.cell? ⟨r, 0, none⟩ = some (.int .i64 (s0 : Int)) ∧ W.cell? ⟨r, 1, none⟩ = some (.slice A5 m5 c5) ∧ W.cell? ⟨q8, 1, none⟩ = some (.int .i64 (e0 : Int))) := Lib.hid fun W hW => ⟨(HB7.out.on hW).cells.1, (HB7.out.on hW).cells.2, (HX7.out.on hW).cells.2.1⟩
  have HBL7 := Lib.hid (HBL.out w7.drew (HA67.out.drewN 1))
  go_wp2_with fail
  go_region_held3 (fun w' => w'.cell? ⟨r, 0, none⟩ = some (.int .i64 (s0 : Int)) ∧ w'.cell? ⟨r, 1, none⟩ = some (.slice A5 m5 c5) ∧ w'.cell? ⟨q8, 1, none⟩ = some (.int .i64 (e0 : Int))) (first | go_keep | exact HSS.out _ HA8.out | exact HS9.out)
    (first
      | (go_at_call 19; (with_reducible refine HBL7.out.mono ?_); rintro x w8 ⟨rfl, hA8⟩; have HA8 : Hid (At w7 w8) := Lib.hid (((At.start w7).drewN 1).next hA8); have HB8 := Lib.hid (HB7.out.on HA8.out); have o0 := HB8.out.free 0; have o1 := HB8.out.free 1; have HF8 := Lib.hid (HB8.out.fin (HA7.out.next HA8.out) HWS.out (s0 : Int) (.slice A5 m5 c5)); have HS9 := Lib.hid (And.intro HF8.out.1.cells.1 (And.intro HF8.out.1.cells.2 (((HX7.out.on HA8.out).mv HF8.out.2.2 (fun e => HRQ.out e.symm)).cells.2.1))); clear hA8))
  all_goals
    go_wp2_with fail
    (try rw [Exit.noGoto_ret])
    (try simp only [Exit.inBlock, Exit.then])
    refine bodyPost_ret (results_batch rfl _ _ r (s0 : Int) (.slice A5 m5 c5) rfl HF8.out.1) rfl ⟨HF8.out.2.1, Or.inl ⟨e0, s0, L, A5, c5, HROK.out, fun e' s' L' h => (HONE.out e' s' L' h).1, ?_, ?_⟩⟩
    · exact ((HTF.out.on (HA67.out.next HA8.out)).mv HF8.out.2.2).tv
    · rw [HLL.out, HTT.out]; rfl

end Go.Proofs.Ytgmekkenodiclaa
