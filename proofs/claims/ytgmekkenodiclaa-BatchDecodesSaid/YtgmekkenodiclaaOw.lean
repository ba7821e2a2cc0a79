/- Proved: rows of a call's own whose elements lie with slices of their own beside them: blocks to be written, transactions, blocks with heads, rows of bytes: kept over calls, grown by an append, read. -/
import Derived.Test.YtgmekkenodiclaaTx
import Derived.Lib.SmallJoins
namespace Go.Proofs.Ytgmekkenodiclaa
open Go.RowKit

/-- Bytes that lie outside of F. -/
def BVf (F : Nat → Prop) (w : World) (A : Option Addr) (L : List Nat) : Prop :=
  L = [] ∨ ∃ b o, A = some ⟨b, o, none⟩ ∧ b < w.heap.size ∧ ¬ F b ∧ ∀ j, j < L.length → w.cell? ⟨b, o + j, none⟩ = some (bt (L.getD j 0))
theorem BVf.bv {F : Nat → Prop} {w : World} {A : Option Addr} {L : List Nat} (h : BVf F w A L) : BV w A L := by
  rcases h with h | ⟨b, o, h1, h2, _, h4⟩
  · exact Or.inl h
  · exact Or.inr ⟨b, o, h1, h2, h4⟩
theorem BV.out {F : Nat → Prop} {w : World} {A : Option Addr} {L : List Nat} (h : BV w A L) (hF : ∀ g, g < w.heap.size → ¬ F g) : BVf F w A L := by
  rcases h with h | ⟨b, o, h1, h2, h4⟩
  · exact Or.inl h
  · exact Or.inr ⟨b, o, h1, h2, hF b h2, h4⟩
theorem BVf.mv {F : Nat → Prop} {w w' : World} {A : Option Addr} {L : List Nat} (h : BVf F w A L) (hm : Mv F w w') : BVf F w' A L := by
  rcases h with h | ⟨b, o, h1, h2, h3, h4⟩
  · exact Or.inl h
  · exact Or.inr ⟨b, o, h1, Nat.lt_of_lt_of_le h2 hm.size, h3, fun j hj => (World.cell?_of_block (a := ⟨b, o + j, none⟩) (hm.block b h2 h3)).trans (h4 j hj)⟩
theorem BVf.re {F G : Nat → Prop} {w : World} {A : Option Addr} {L : List Nat} (h : BVf F w A L) (hG : ∀ g, g < w.heap.size → G g → F g) : BVf G w A L := by
  rcases h with h | ⟨b, o, h1, h2, h3, h4⟩
  · exact Or.inl h
  · exact Or.inr ⟨b, o, h1, h2, fun hg => h3 (hG b h2 hg), h4⟩
/-- Blocks to be written that lie outside of F. -/
def PVf (F : Nat → Prop) (w : World) (A : Option Addr) (P : List Pt) : Prop :=
  P = [] ∨ ∃ g o, A = some ⟨g, o, none⟩ ∧ g < w.heap.size ∧ ¬ F g ∧ ∀ j, j < P.length → w.cell? ⟨g, o + j * 2, none⟩ = some (.int .i64 (P.getD j pz).1) ∧ ∃ B c, w.cell? ⟨g, o + j * 2 + 1, none⟩ = some (.slice B (P.getD j pz).2.length c) ∧ BVf F w B (P.getD j pz).2
theorem PVf.pv {F : Nat → Prop} {w : World} {A : Option Addr} {P : List Pt} (h : PVf F w A P) : PV w A P := by
  rcases h with h | ⟨b, o, h1, h2, _, h4⟩
  · exact Or.inl h
  · exact Or.inr ⟨b, o, h1, h2, fun j hj => ⟨(h4 j hj).1, by obtain ⟨B, c, h5, h6⟩ := (h4 j hj).2; exact ⟨B, c, h5, h6.bv⟩⟩⟩
theorem PV.out {F : Nat → Prop} {w : World} {A : Option Addr} {P : List Pt} (h : PV w A P) (hF : ∀ g, g < w.heap.size → ¬ F g) : PVf F w A P := by
  rcases h with h | ⟨b, o, h1, h2, h4⟩
  · exact Or.inl h
  · exact Or.inr ⟨b, o, h1, h2, hF b h2, fun j hj => ⟨(h4 j hj).1, by obtain ⟨B, c, h5, h6⟩ := (h4 j hj).2; exact ⟨B, c, h5, h6.out hF⟩⟩⟩
theorem PVf.mv {F : Nat → Prop} {w w' : World} {A : Option Addr} {P : List Pt} (h : PVf F w A P) (hm : Mv F w w') : PVf F w' A P := by
  rcases h with h | ⟨b, o, h1, h2, h3, h4⟩
  · exact Or.inl h
  · refine Or.inr ⟨b, o, h1, Nat.lt_of_lt_of_le h2 hm.size, h3, fun j hj => ?_⟩
    obtain ⟨h5, B, c, h6, h7⟩ := h4 j hj
    exact ⟨(World.cell?_of_block (a := ⟨b, o + j * 2, none⟩) (hm.block b h2 h3)).trans h5, B, c, (World.cell?_of_block (a := ⟨b, o + j * 2 + 1, none⟩) (hm.block b h2 h3)).trans h6, h7.mv hm⟩
theorem PVf.re {F G : Nat → Prop} {w : World} {A : Option Addr} {P : List Pt} (h : PVf F w A P) (hG : ∀ g, g < w.heap.size → G g → F g) : PVf G w A P := by
  rcases h with h | ⟨b, o, h1, h2, h3, h4⟩
  · exact Or.inl h
  · refine Or.inr ⟨b, o, h1, h2, fun hg => h3 (hG b h2 hg), fun j hj => ?_⟩
    obtain ⟨h5, B, c, h6, h7⟩ := h4 j hj
    exact ⟨h5, B, c, h6, h7.re hG⟩

/-- A kind of elements: its types, its cells, what lies beside them. -/
structure Kn {α : Type} (t e : TypeId) (s b : Nat) (cs : α → List Value) (gd : (Nat → Prop) → World → α → Prop) : Prop where
  ht : Try.prog.underlying t = some (.slice e)
  info : ∃ i z, Try.prog.info? e = some i ∧ i.zero = some z ∧ i.size = s ∧ i.bytes = b ∧ z.cells.size = s
  s0 : 0 < s
  b0 : b ≤ 1000
  len : ∀ x, (cs x).length = s
  one : ∀ x, ∀ u ∈ cs x, u.oneCell' = true
  mv : ∀ F w w' x, gd F w x → Mv F w w' → gd F w' x
  re : ∀ F G w x, gd F w x → (∀ g, g < w.heap.size → G g → F g) → gd G w x
/-- The block that a slice stands in. -/
def ob (v : Value) : Nat → Prop := fun j => v.ownBlock = some j
/-- A row of the call's own, made since w0. -/
structure Ow {α : Type} (e : TypeId) (s : Nat) (cs : α → List Value) (gd : (Nat → Prop) → World → α → Prop) (w0 w : World) (v : Value) (l : List α) : Prop where
  row : w.ownsRow 0 e s v l.length (l.flatMap cs)
  gd : ∀ x ∈ l, gd (ob v) w x
  new : ∀ g, v.ownBlock = some g → w0.heap.size ≤ g
  at_ : At w0 w
section
variable {α : Type} {t e : TypeId} {s b : Nat} {cs : α → List Value} {gd : (Nat → Prop) → World → α → Prop}
theorem flat_len (h : ∀ x : α, (cs x).length = s) : ∀ l : List α, (l.flatMap cs).length = l.length * s
  | [] => by simp
  | x :: l => by rw [List.flatMap_cons, List.length_append, h, flat_len h l, List.length_cons, Nat.succ_mul]; omega
theorem flat_at (h : ∀ x : α, (cs x).length = s) : ∀ (l : List α) (j i : Nat) (x : α), l[j]? = some x → i < s → (l.flatMap cs)[j * s + i]? = (cs x)[i]?
  | [], _, _, _, hx, _ => by simp at hx
  | y :: l, 0, i, x, hx, hi => by
    simp at hx
    subst hx
    rw [List.flatMap_cons, Nat.zero_mul, Nat.zero_add, List.getElem?_append_left (by rw [h]; exact hi)]
  | y :: l, j + 1, i, x, hx, hi => by
    have := flat_at h l j i x (by simpa using hx) hi
    rw [List.flatMap_cons, List.getElem?_append_right (by rw [h, Nat.succ_mul]; omega), h, ← this]
    congr 1
    rw [Nat.succ_mul]; omega
theorem flat_one (h : ∀ x : α, ∀ u ∈ cs x, u.oneCell' = true) (l : List α) : ∀ u ∈ l.flatMap cs, u.oneCell' = true := fun u hu => by
  obtain ⟨x, _, hx⟩ := List.mem_flatMap.1 hu
  exact h x u hx
variable {w0 w w' : World} {v v' : Value} {l m : List α}
theorem Ow.nil (w : World) : Ow e s cs gd w w (.slice none 0 0) [] := ⟨World.ownsRow_nil _ _ _ _, fun _ h => (by cases h), fun g hg => (by cases hg), At.start w⟩
theorem Ow.nil' (h : At w0 w) : Ow e s cs gd w0 w (.slice none 0 0) [] := ⟨World.ownsRow_nil _ _ _ _, fun _ h => (by cases h), fun g hg => (by cases hg), h⟩
theorem Ow.made (h : At w0 w) : Ow e s cs gd w0 (w.alloc (.cells #[] e)) (.slice (some ⟨w.heap.size, 0, none⟩) 0 0) [] := by
  refine ⟨made_row w e s, fun _ h => (by cases h), fun g hg => ?_, h.next ((At.start w).alloc _)⟩
  have hg' : w.heap.size = g := by injection hg
  rw [← hg']; exact h.size
theorem Ow.on (K : Kn t e s b cs gd) (h : Ow e s cs gd w0 w v l) (hA : At w w') : Ow e s cs gd w0 w' v l := by
  refine ⟨⟨h.row.1, ?_⟩, fun x hx => K.mv _ _ _ _ (h.gd x hx) (Mv.of_below _ hA), h.new, h.at_.next hA⟩
  rcases h.row.2 with h1 | ⟨g, cap, cur, hv', hB, hh, hr⟩
  · exact Or.inl h1
  · exact Or.inr ⟨g, cap, cur, hv', hB, hA.keep hh, hr⟩
/-- Blocks that are turned, and none of them is the row's or lies beside it. -/
theorem Ow.form (h : Ow e s cs gd w0 w v l) : ∃ A c, v = .slice A l.length c ∧ l.length ≤ c ∧ (A = none → l.length = 0 ∧ c = 0) ∧ ∀ a, A = some a → a.block < w.heap.size ∧ w0.heap.size ≤ a.block ∧ ∃ g, a = ⟨g, 0, none⟩ := by
  rcases h.row.2 with ⟨rfl, h0⟩ | ⟨g, cap, cur, rfl, _, hh, hc, _⟩
  · exact ⟨none, 0, by rw [h0], by omega, fun _ => ⟨h0, rfl⟩, fun a ha => (by cases ha)⟩
  · exact ⟨_, cap, rfl, hc, (fun e => by cases e), (fun a ha => by injection ha with ha; subst ha; exact ⟨lt_heap hh, h.new g rfl, g, rfl⟩)⟩
theorem Ow.pos (h : Ow e s cs gd w0 w v l) (h0 : 0 < l.length) : ∃ g c, v = .slice (some ⟨g, 0, none⟩) l.length c ∧ l.length ≤ c ∧ g < w.heap.size ∧ w0.heap.size ≤ g := by
  obtain ⟨A, c, rfl, hc, hn, hs⟩ := h.form
  cases A with
  | none => have := (hn rfl).1; omega
  | some a =>
    obtain ⟨h1, h2, g, rfl⟩ := hs a rfl
    exact ⟨g, c, rfl, hc, h1, h2⟩
/-- The cells of an element. -/
theorem Ow.cell (K : Kn t e s b cs gd) {g n c : Nat} (h : Ow e s cs gd w0 w (.slice (some ⟨g, 0, none⟩) n c) l) {j : Nat} {x : α} (hx : l[j]? = some x) {i : Nat} {u : Value} (hu : (cs x)[i]? = some u) : w.cell? ⟨g, j * s + i, none⟩ = some u := by
  have hi : i < s := by rw [← K.len x]; exact (List.getElem?_eq_some_iff.1 hu).1
  have := h.row.cells (g := g) rfl (j * s + i) u (by rw [flat_at K.len l j i x hx hi]; exact hu)
  rw [Go.WideShapes.add_plain, Nat.zero_add] at this
  exact this
theorem Ow.more (K : Kn t e s b cs gd) {n : Nat} (h : Ow e s cs gd w0 w v l) (hm : ∀ x ∈ m, gd (ob v) w x) (hn : l.length + m.length = n) (hown : w'.ownsRow 0 e s v' n (l.flatMap cs ++ m.flatMap cs)) (hgrow : w.grownBy w' v.ownBlock) (hat : v'.ownBlock = v.ownBlock ∨ v'.ownBlock = some w.heap.size) : Ow e s cs gd w0 w' v' (l ++ m) := by
  have hmv : Mv (ob v) w w' := (Mv.refl _ _).grown hgrow fun j hj => Or.inl hj
  refine ⟨by rw [List.flatMap_append, List.length_append, hn]; exact hown, fun x hx => ?_, fun g hg => ?_, hmv.at_ h.at_ h.new⟩
  · have h1 : gd (ob v) w x := (List.mem_append.1 hx).elim (h.gd x) (hm x)
    have h2 := K.mv _ _ _ _ (K.re _ (fun j => ob v j ∨ w.heap.size = j) _ _ h1 fun g hg hj => hj.elim id fun e => by omega) (hmv.more fun g hg => Or.inl (Or.inl hg))
    refine K.re _ _ _ _ h2 fun g _ hg => ?_
    rcases hat with e | e
    · exact Or.inl (by unfold ob at hg ⊢; rw [← e]; exact hg)
    · refine Or.inr ?_
      unfold ob at hg
      rw [e] at hg
      injection hg
  · rcases hat with e | e
    · exact h.new g (by rw [← e]; exact hg)
    · rw [e] at hg
      injection hg with hg
      rw [← hg]; exact h.at_.size
/-- What an append leaves. -/
structure Gr (e : TypeId) (s : Nat) (cs : α → List Value) (gd : (Nat → Prop) → World → α → Prop) (w0 w : World) (v : Value) (w' : World) (v' : Value) (l : List α) : Prop where
  ow : Ow e s cs gd w0 w' v' l
  mv : Mv (ob v) w w'
  at_ : v'.ownBlock = v.ownBlock ∨ v'.ownBlock = some w.heap.size
theorem Gr.below (h : Gr e s cs gd w0 w v w' v' l) {wx : World} (hx : At wx w) (hn : ∀ g, v.ownBlock = some g → wx.heap.size ≤ g) : At wx w' ∧ ∀ g, v'.ownBlock = some g → wx.heap.size ≤ g := by
  refine ⟨h.mv.at_ hx hn, fun g hg => ?_⟩
  rcases h.at_ with e | e
  · exact hn g (by rw [← e]; exact hg)
  · rw [e] at hg
    injection hg with hg
    have := hx.size
    omega
/-- An append of whatever slice. -/
theorem Ow.run (K : Kn t e s b cs gd) (ty : TypeId) (h : Ow e s cs gd w0 w v l) {k n r : Nat} (hl : l.length = k) (A : Option Addr) (c : Nat) (hm : ∀ x ∈ m, gd (ob v) w x) (hml : m.length = n) (hz : A = none → n = 0 ∧ c = 0)
    (hc : ∀ a, A = some a → ∀ j u, (m.flatMap cs)[j]? = some u → w.cell? (a.add j) = some u) (hr : k + n = r) (h63 : r ≤ 1000000) :
    ∃ A' c' w', (Builtin.append_ #[t, t] ty #[v, .slice A n c]).run Try.prog w = .ok (.slice A' r c') w' ∧ Gr e s cs gd w0 w v w' (.slice A' r c') (l ++ m) := by
  obtain ⟨i0, z0, hi, hz0, hz1, hz2, hz3⟩ := K.info
  have hb := K.b0
  subst hr hl
  cases A with
  | none =>
    obtain ⟨rfl, rfl⟩ := hz rfl
    have hm0 : m = [] := List.eq_nil_of_length_eq_zero hml
    subst hm0
    obtain ⟨A, c, rfl, _, _, _⟩ := h.form
    refine ⟨A, c, w, ?_, by rw [List.append_nil]; exact h, Mv.refl _ _, Or.inl rfl⟩
    exact run_append_owned_none (P := Try.prog) (w := w) 0 t ty e i0 s K.ht hi _ _ _ h.row
  | some ad =>
    have hbb : (l.length + n) * b ≤ 140737488355328 := Nat.le_trans (Nat.mul_le_mul h63 hb) (by omega)
    obtain ⟨v', w', hr, q2, q3, _, q5⟩ := run_append_own_at (P := Try.prog) w 0 t ty e i0 z0 s b K.ht hi hz0 hz1 hz2 hz3 K.s0 _ l.length (l.flatMap cs) h.row ad n c (m.flatMap cs) (by rw [flat_len K.len, hml]) (hc ad rfl) (flat_one K.one m) (by unfold maxLen; omega) hbb (Nat.zero_le _)
    have q : ∃ A' c', v' = .slice A' (l.length + n) c' := by
      rcases Joins.ownsRow_forms q2 with ⟨rfl, h0⟩ | ⟨g, cap, rfl⟩
      · exact ⟨none, 0, by rw [h0]⟩
      · exact ⟨_, cap, rfl⟩
    obtain ⟨A', c', rfl⟩ := q
    exact ⟨A', c', w', hr, h.more K hm (by rw [hml]) q2 q3 q5, (Mv.refl _ _).grown q3 fun j hj => Or.inl hj, q5⟩
variable {a : Act}
/-- The same at an operation. -/
theorem Ow.wp (K : Kn t e s b cs gd) {o : Oper} {K' : Act → World → Prop} {Q : Exit → Act → World → Prop} (h : Ow e s cs gd w0 w v l) (x y : Operand) (ho : o.op = .call { callee := .builtin .append, args := #[x, y], argTypes := #[t, t] })
    (k n r : Nat) (hl : l.length = k) (hs : a.eval x = v) (A : Option Addr) (c : Nat) (m : List α) (hx : a.eval y = .slice A n c) (hm : ∀ x ∈ m, gd (ob v) w x) (hml : m.length = n) (hz : A = none → n = 0 ∧ c = 0)
    (hc : ∀ a, A = some a → ∀ j u, (m.flatMap cs)[j]? = some u → w.cell? (a.add j) = some u) (hr : k + n = r) (h63 : r ≤ 1000000)
    (hk : ∀ A' c' w', Hid (Gr e s cs gd w0 w v w' (.slice A' r c') (l ++ m)) → K' (a.put o.dst (.slice A' r c')) w') : o.wp Try.prog a w K' Q := by
  obtain ⟨A', c', w', hrun, h2⟩ := Ow.run (w0 := w0) K o.type h hl A c hm hml hz hc hr h63
  unfold Oper.wp execOp
  simp only [ho, resolve, invoke, builtin, Sem.run_bind, Sem.run_pure, Result.andThen_ok, List.map_toArray, List.map_cons, List.map_nil, hs, hx, hrun]
  exact hk A' c' w' (Lib.hid h2)
theorem Ow.append (K : Kn t e s b cs gd) {ops : Array Oper} {rest : List Oper} {o : Oper} {Q : Exit → Act → World → Prop} (hgd : o.guard = none) (h : Ow e s cs gd w0 w v l) (x y : Operand) (ho : o.op = .call { callee := .builtin .append, args := #[x, y], argTypes := #[t, t] })
    (k n r : Nat) (hl : l.length = k) (hs : a.eval x = v) (A : Option Addr) (c : Nat) (m : List α) (hx : a.eval y = .slice A n c) (hm : ∀ x ∈ m, gd (ob v) w x) (hml : m.length = n) (hz : A = none → n = 0 ∧ c = 0)
    (hc : ∀ a, A = some a → ∀ j u, (m.flatMap cs)[j]? = some u → w.cell? (a.add j) = some u) (hr : k + n = r) (h63 : r ≤ 1000000)
    (hk : ∀ A' c' w', Hid (Gr e s cs gd w0 w v w' (.slice A' r c') (l ++ m)) → wpList Try.prog ops Q rest (a.put o.dst (.slice A' r c')) w') : wpList Try.prog ops Q (o :: rest) a w :=
  wpList_plain hgd fun _ hK => h.wp K x y ho k n r hl hs A c m hx hm hml hz hc hr h63 fun A' c' w' hh => hK _ _ (hk A' c' w' hh)
end
/-- One element, just laid. -/
theorem one_laid {α : Type} {cs : α → List Value} (w : World) (e : TypeId) (x : α) (vs : Array Value) (h : cs x = vs.toList) : ∀ a, some (⟨w.heap.size, 0, none⟩ : Addr) = some a → ∀ j u, ([x].flatMap cs)[j]? = some u → (w.alloc (.cells vs e)).cell? (a.add j) = some u := fun a ha j u hj => by
  injection ha with ha
  subst ha
  rw [Go.WideShapes.add_plain, cell_at (heap_alloc_new w _), Nat.zero_add]
  have : [x].flatMap cs = vs.toList := by rw [List.flatMap_cons, List.flatMap_nil, List.append_nil, h]
  rw [this] at hj
  rw [← hj]; simp
theorem one_kept {α : Type} {cs : α → List Value} {w : World} {g : Nat} {e : TypeId} {x : α} {vs : Array Value} (h : cs x = vs.toList) (hg : w.heap[g]? = some (.cells vs e (0, 0))) : ∀ a, some (⟨g, 0, none⟩ : Addr) = some a → ∀ j u, ([x].flatMap cs)[j]? = some u → w.cell? (a.add j) = some u := fun a ha j u hj => by
  injection ha with ha
  subst ha
  rw [Go.WideShapes.add_plain, cell_at hg, Nat.zero_add]
  have : [x].flatMap cs = vs.toList := by rw [List.flatMap_cons, List.flatMap_nil, List.append_nil, h]
  rw [this] at hj
  rw [← hj]; simp

/-- Blocks to be written, as they lie. -/
abbrev Pl := Pt × Option Addr × Nat
def pcs (x : Pl) : List Value := [.int .i64 x.1.1, .slice x.2.1 x.1.2.length x.2.2]
def pgd (F : Nat → Prop) (w : World) (x : Pl) : Prop := BVf F w x.2.1 x.1.2
/-- Transactions, as they lie. -/
abbrev Tl := Tx × Option Addr × Nat
def tcs (x : Tl) : List Value := [.int .i64 x.1.1, .slice x.2.1 x.1.2.length x.2.2]
def tgd (F : Nat → Prop) (w : World) (x : Tl) : Prop := PVf F w x.2.1 x.1.2
/-- Rows of bytes, as they lie. -/
abbrev Rl := List Nat × Option Addr × Nat
def rcs (x : Rl) : List Value := [.slice x.2.1 x.1.length x.2.2]
def rgd (F : Nat → Prop) (w : World) (x : Rl) : Prop := BVf F w x.2.1 x.1 ∧ x.1.length ≤ x.2.2
/-- Blocks with heads, as they lie: kind, epoch, number, LBA. -/
abbrev Bl := (Int × Int × Int × Int) × List Nat × Option Addr × Nat
def bcs (x : Bl) : List Value := [.int .i64 x.1.1, .int .i64 x.1.2.1, .int .i64 x.1.2.2.1, .int .i64 x.1.2.2.2, .slice x.2.2.1 x.2.1.length x.2.2.2]
def bgd (F : Nat → Prop) (w : World) (x : Bl) : Prop := BVf F w x.2.2.1 x.2.1
theorem info_of {e : TypeId} {s b : Nat} {z : Value} (h : (Try.prog.info? e).map (fun i => (i.zero, i.size, i.bytes)) = some (some z, s, b)) (hz : z.cells.size = s) : ∃ i z, Try.prog.info? e = some i ∧ i.zero = some z ∧ i.size = s ∧ i.bytes = b ∧ z.cells.size = s := by
  cases h0 : Try.prog.info? e with
  | none => rw [h0] at h; cases h
  | some i =>
    rw [h0] at h
    simp only [Option.map_some, Option.some.injEq, Prod.mk.injEq] at h
    exact ⟨i, z, rfl, h.1, h.2.1, h.2.2, hz⟩
theorem info_put : (Try.prog.info? 47).map (fun i => (i.zero, i.size, i.bytes)) = some (some (.agg #[.int .i64 0, .slice none 0 0]), 2, 32) := by kernel_rfl
theorem info_tx : (Try.prog.info? 44).map (fun i => (i.zero, i.size, i.bytes)) = some (some (.agg #[.int .i64 0, .slice none 0 0]), 2, 32) := by kernel_rfl
theorem info_row : (Try.prog.info? 39).map (fun i => (i.zero, i.size, i.bytes)) = some (some (.slice none 0 0), 1, 24) := by kernel_rfl
theorem info_fb : (Try.prog.info? 57).map (fun i => (i.zero, i.size, i.bytes)) = some (some (.agg #[.int .i64 0, .int .i64 0, .int .i64 0, .int .i64 0, .slice none 0 0]), 5, 56) := by kernel_rfl
theorem info_rb : (Try.prog.info? 63).map (fun i => (i.zero, i.size, i.bytes)) = some (some (.agg #[.int .i64 0, .int .i64 0, .int .i64 0, .int .i64 0, .slice none 0 0]), 5, 56) := by kernel_rfl
theorem one_two {p q : Value} (hp : p.oneCell' = true) (hq : q.oneCell' = true) : ∀ u ∈ [p, q], u.oneCell' = true := fun u hu => by
  simp only [List.mem_cons, List.not_mem_nil, or_false] at hu
  rcases hu with rfl | rfl
  · exact hp
  · exact hq
theorem kP : Kn 42 47 2 32 pcs pgd := ⟨Try.underlying42, info_of info_put rfl, by omega, by omega, fun _ => rfl, fun _ => one_two rfl rfl, fun _ _ _ _ h hm => BVf.mv h hm, fun _ _ _ _ h hG => BVf.re h hG⟩
theorem kT : Kn 25 44 2 32 tcs tgd := ⟨Try.underlying25, info_of info_tx rfl, by omega, by omega, fun _ => rfl, fun _ => one_two rfl rfl, fun _ _ _ _ h hm => PVf.mv h hm, fun _ _ _ _ h hG => PVf.re h hG⟩
theorem kR : Kn 22 39 1 24 rcs rgd := ⟨Try.underlying22, info_of info_row rfl, by omega, by omega, fun _ => rfl, fun _ u hu => by rw [List.mem_singleton.1 hu]; rfl, fun _ _ _ _ h hm => ⟨BVf.mv h.1 hm, h.2⟩, fun _ _ _ _ h hG => ⟨BVf.re h.1 hG, h.2⟩⟩
theorem b_one (x : Bl) : ∀ u ∈ bcs x, u.oneCell' = true := fun u hu => by
  simp only [bcs, List.mem_cons, List.not_mem_nil, or_false] at hu
  rcases hu with rfl | rfl | rfl | rfl | rfl <;> rfl
theorem kB : Kn 72 57 5 56 bcs bgd := ⟨Try.underlying72, info_of info_fb rfl, by omega, by omega, fun _ => rfl, b_one, fun _ _ _ _ h hm => BVf.mv h hm, fun _ _ _ _ h hG => BVf.re h hG⟩
theorem kS : Kn 62 63 5 56 bcs bgd := ⟨Try.underlying62, info_of info_rb rfl, by omega, by omega, fun _ => rfl, b_one, fun _ _ _ _ h hm => BVf.mv h hm, fun _ _ _ _ h hG => BVf.re h hG⟩
/-- Rows of the five kinds. -/
abbrev OP := @Ow Pl 47 2 pcs pgd
abbrev OT := @Ow Tl 44 2 tcs tgd
abbrev OR := @Ow Rl 39 1 rcs rgd
abbrev OB := @Ow Bl 57 5 bcs bgd
abbrev OS := @Ow Bl 63 5 bcs bgd

/-- The slice at A reads as the list R of rows of bytes. -/
def RV (w : World) (A : Option Addr) (R : List (List Nat)) : Prop :=
  R = [] ∨ ∃ g o, A = some ⟨g, o, none⟩ ∧ g < w.heap.size ∧ ∀ j, j < R.length → ∃ B c, w.cell? ⟨g, o + j, none⟩ = some (.slice B (R.getD j []).length c) ∧ (R.getD j []).length ≤ c ∧ BV w B (R.getD j [])
theorem RV.nil (w : World) (A : Option Addr) : RV w A [] := Or.inl rfl
theorem RV.pos {w : World} {A : Option Addr} {R : List (List Nat)} (h : RV w A R) (h0 : 0 < R.length) : ∃ g o, A = some ⟨g, o, none⟩ ∧ g < w.heap.size ∧ ∀ j, j < R.length → ∃ B c, w.cell? ⟨g, o + j, none⟩ = some (.slice B (R.getD j []).length c) ∧ (R.getD j []).length ≤ c ∧ BV w B (R.getD j []) := by
  rcases h with rfl | h
  · simp at h0
  · exact h
theorem RV.on {w w' : World} {A : Option Addr} {R : List (List Nat)} (h : RV w A R) (hb : At w w') : RV w' A R := by
  rcases h with h | ⟨g, o, rfl, hlt, hc⟩
  · exact Or.inl h
  · refine Or.inr ⟨g, o, rfl, Nat.lt_of_lt_of_le hlt hb.size, fun j hj => ?_⟩
    obtain ⟨B, c, h1, h2, h3⟩ := hc j hj
    exact ⟨B, c, (Below.cell hb (p := ⟨g, o + j, none⟩) hlt).trans h1, h2, h3.below hb⟩
theorem RV.take {w : World} {A : Option Addr} {R : List (List Nat)} (h : RV w A R) (k : Nat) : RV w A (R.take k) := by
  rcases h with rfl | ⟨g, o, rfl, hlt, hc⟩
  · exact Or.inl (by simp)
  · refine Or.inr ⟨g, o, rfl, hlt, fun j hj => ?_⟩
    rw [List.length_take] at hj
    have e : (R.take k).getD j [] = R.getD j [] := by simp only [List.getD_eq_getElem?_getD, List.getElem?_take, if_pos (show j < k by omega)]
    rw [e]; exact hc j (by omega)
theorem RV.drop {w : World} {g o : Nat} {R : List (List Nat)} (h : RV w (some ⟨g, o, none⟩) R) (k : Nat) : RV w (some ⟨g, o + k, none⟩) (R.drop k) := by
  rcases h with rfl | ⟨g', o', he, hlt, hc⟩
  · exact Or.inl (by simp)
  · injection he with he
    injection he with h1 h2
    subst h1 h2
    refine Or.inr ⟨_, _, rfl, hlt, fun j hj => ?_⟩
    rw [List.length_drop] at hj
    have e : (R.drop k).getD j [] = R.getD (k + j) [] := by simp only [List.getD_eq_getElem?_getD, List.getElem?_drop]
    have := hc (k + j) (by omega)
    rw [e, Nat.add_assoc]; exact this
theorem OR.rv {w0 w : World} {v : Value} {l : List Rl} (h : OR w0 w v l) : ∃ A c, v = .slice A l.length c ∧ l.length ≤ c ∧ (A = none → l.length = 0 ∧ c = 0) ∧ RV w A (l.map (·.1)) := by
  obtain ⟨A, c, rfl, hc, hn, hs⟩ := h.form
  refine ⟨A, c, rfl, hc, hn, ?_⟩
  cases A with
  | none => left; rw [List.eq_nil_of_length_eq_zero (hn rfl).1]; rfl
  | some a =>
    obtain ⟨h1, h2, g, rfl⟩ := hs a rfl
    refine Or.inr ⟨g, 0, rfl, h1, fun j hj => ?_⟩
    rw [List.length_map] at hj
    have e : (l.map (·.1)).getD j [] = (l[j]).1 := by rw [List.getD_eq_getElem?_getD, List.getElem?_map, List.getElem?_eq_getElem hj]; rfl
    have k1 := h.cell kR (List.getElem?_eq_getElem hj) (i := 0) (u := .slice (l[j]).2.1 (l[j]).1.length (l[j]).2.2) rfl
    have k2 := h.gd _ (List.getElem_mem hj)
    rw [e]
    exact ⟨_, _, by rw [show 0 + j = j * 1 + 0 by omega]; exact k1, k2.2, k2.1.bv⟩
theorem OP.pv {w0 w : World} {v : Value} {l : List Pl} (h : OP w0 w v l) : ∃ A c, v = .slice A l.length c ∧ l.length ≤ c ∧ (A = none → l.length = 0 ∧ c = 0) ∧ PV w A (l.map (·.1)) := by
  obtain ⟨A, c, rfl, hc, hn, hs⟩ := h.form
  refine ⟨A, c, rfl, hc, hn, ?_⟩
  cases A with
  | none => left; rw [List.eq_nil_of_length_eq_zero (hn rfl).1]; rfl
  | some a =>
    obtain ⟨h1, h2, g, rfl⟩ := hs a rfl
    refine Or.inr ⟨g, 0, rfl, h1, fun j hj => ?_⟩
    rw [List.length_map] at hj
    have e : (l.map (·.1)).getD j pz = (l[j]).1 := by rw [List.getD_eq_getElem?_getD, List.getElem?_map, List.getElem?_eq_getElem hj]; rfl
    have k0 := h.cell kP (List.getElem?_eq_getElem hj) (i := 0) (u := .int .i64 (l[j]).1.1) rfl
    have k1 := h.cell kP (List.getElem?_eq_getElem hj) (i := 1) (u := .slice (l[j]).2.1 (l[j]).1.2.length (l[j]).2.2) rfl
    rw [e, Nat.zero_add]
    exact ⟨k0, _, _, k1, BVf.bv (h.gd _ (List.getElem_mem hj))⟩
theorem OT.tv {w0 w : World} {v : Value} {l : List Tl} (h : OT w0 w v l) : ∃ A c, v = .slice A l.length c ∧ l.length ≤ c ∧ (A = none → l.length = 0 ∧ c = 0) ∧ TV w A (l.map (·.1)) := by
  obtain ⟨A, c, rfl, hc, hn, hs⟩ := h.form
  refine ⟨A, c, rfl, hc, hn, ?_⟩
  cases A with
  | none => left; rw [List.eq_nil_of_length_eq_zero (hn rfl).1]; rfl
  | some a =>
    obtain ⟨h1, h2, g, rfl⟩ := hs a rfl
    refine Or.inr ⟨g, 0, rfl, h1, fun j hj => ?_⟩
    rw [List.length_map] at hj
    have e : (l.map (·.1)).getD j txz = (l[j]).1 := by rw [List.getD_eq_getElem?_getD, List.getElem?_map, List.getElem?_eq_getElem hj]; rfl
    have k0 := h.cell kT (List.getElem?_eq_getElem hj) (i := 0) (u := .int .i64 (l[j]).1.1) rfl
    have k1 := h.cell kT (List.getElem?_eq_getElem hj) (i := 1) (u := .slice (l[j]).2.1 (l[j]).1.2.length (l[j]).2.2) rfl
    rw [e, Nat.zero_add]
    exact ⟨k0, _, _, k1, PVf.pv (h.gd _ (List.getElem_mem hj))⟩

end Go.Proofs.Ytgmekkenodiclaa
