/- Proved: words for the document's own map: its versions in one row, each one's bytes beside it; how a transaction is merged in, in plain. -/
import Derived.Test.YtcffoebpgjonmaaOb
import Derived.Test.YtcffoebpgjonmaaIRt
import Derived.Lib.SmallJoins
namespace Go.Proofs.Ytcffoebpgjonmaa
open Go.RowKit

/-- A version of a block: the block, the time, the bytes. -/
abbrev Vx := Int × Em.Ver
def vz : Vx := (0, 0, [])
/-- The versions of one block, in their order. -/
def fk (k : Nat) (X : List Vx) : List Em.Ver := (X.filter fun v => decide (v.1 = (k : Int))).map (·.2)
theorem fk_nil (k : Nat) : fk k [] = [] := rfl
theorem fk_app (k : Nat) (X Y : List Vx) : fk k (X ++ Y) = fk k X ++ fk k Y := by unfold fk; rw [List.filter_append, List.map_append]
theorem fk_yes {k : Nat} {v : Vx} (h : v.1 = (k : Int)) : fk k [v] = [v.2] := by unfold fk; rw [List.filter_cons, if_pos (decide_eq_true h)]; rfl
theorem fk_no {k : Nat} {v : Vx} (h : ¬ v.1 = (k : Int)) : fk k [v] = [] := by unfold fk; rw [List.filter_cons, if_neg (by simpa using h)]; rfl
theorem fk_none {k : Nat} {X : List Vx} (h : ∀ v ∈ X, v.1 ≠ (k : Int)) : fk k X = [] := by
  unfold fk
  rw [List.filter_eq_nil_iff.2 fun v hv => by simpa using h v hv]; rfl
theorem fk_mem {k : Nat} {X : List Vx} {v : Vx} (hv : v ∈ X) (h : v.1 = (k : Int)) : v.2 ∈ fk k X := List.mem_map.2 ⟨v, List.mem_filter.2 ⟨hv, decide_eq_true h⟩, rfl⟩
theorem vx_take (X : List Vx) (i : Nat) (h : i < X.length) : X.take (i + 1) = X.take i ++ [X.getD i vz] := by
  rw [List.take_succ_eq_append_getElem h, List.getD_eq_getElem?_getD, List.getElem?_eq_getElem h]; rfl
theorem vx_mem {X : List Vx} {i : Nat} (h : i < X.length) : X.getD i vz ∈ X := by
  rw [List.getD_eq_getElem?_getD, List.getElem?_eq_getElem h]; exact List.getElem_mem _
theorem vx_le {X : List Vx} (h : X.Pairwise (fun a b => a.1 ≤ b.1)) {i j : Nat} (hij : i < j) (hj : j < X.length) : (X.getD i vz).1 ≤ (X.getD j vz).1 := by
  rw [List.getD_eq_getElem?_getD, List.getElem?_eq_getElem (by omega), List.getD_eq_getElem?_getD, List.getElem?_eq_getElem hj]
  exact List.pairwise_iff_getElem.1 h i j (by omega) hj hij
/-- The row of versions X is what the map in the state M holds. -/
structure Kx (X : List Vx) (M : Em.St) : Prop where
  up : X.Pairwise (fun a b => a.1 ≤ b.1)
  fk : ∀ k, fk k X = M.V k
  rng : ∀ v ∈ X, 0 ≤ v.1 ∧ v.1 < (M.n : Int)
theorem Kx.ver {X : List Vx} {M : Em.St} (h : Kx X M) {v : Vx} (hv : v ∈ X) : v.2 ∈ M.V v.1.toNat := by
  have h1 := (h.rng v hv).1
  rw [← h.fk]
  exact fk_mem hv (by omega)
theorem Kx.by_ {X : List Vx} {M : Em.St} (h : Kx X M) (hM : Em.Ok M) {v : Vx} (hv : v ∈ X) : v.2.2.length = 40 ∧ AllB v.2.2 := by
  have := hM.v _ _ (h.ver hv)
  exact ⟨this.2.2.1, this.2.2.2⟩

/-- A transaction's blocks as versions. -/
def qv (T : Int) (P : List Pt) : List Vx := P.map fun p => (p.1, T, p.2)
theorem qv_len (T : Int) (P : List Pt) : (qv T P).length = P.length := List.length_map _
theorem qv_at (T : Int) (P : List Pt) (k : Nat) (h : k < P.length) : (qv T P).getD k vz = ((P.getD k pz).1, T, (P.getD k pz).2) := by
  unfold qv
  rw [List.getD_eq_getElem?_getD, List.getElem?_map, List.getElem?_eq_getElem h, List.getD_eq_getElem?_getD, List.getElem?_eq_getElem h]; rfl
theorem ups_fk (V : Nat → List Em.Ver) (T : Int) (k : Nat) : ∀ (P : List Pt), Em.ups V T P k = V k ++ fk k (qv T P) := by
  intro P
  induction P generalizing V with
  | nil => show V k = V k ++ []; rw [List.append_nil]
  | cons p P ih =>
    show Em.ups (Em.up1 V T p) T P k = _
    rw [ih]
    have e : qv T (p :: P) = [(p.1, T, p.2)] ++ qv T P := rfl
    rw [e, fk_app, ← List.append_assoc]
    congr 1
    show (if (k : Int) = p.1 then V k ++ [(T, p.2)] else V k) = _
    by_cases h : (k : Int) = p.1
    · rw [if_pos h, fk_yes (v := (p.1, T, p.2)) h.symm]
    · rw [if_neg h, fk_no (v := (p.1, T, p.2)) (fun e => h e.symm), List.append_nil]

/-- What has been laid out of the first i versions and the first k new ones. -/
structure Mg (X Q : List Vx) (i k : Nat) (O : List Vx) : Prop where
  a1 : ∀ o ∈ O, k < Q.length → o.1 ≤ (Q.getD k vz).1
  a2 : ∀ o ∈ O, i < X.length → o.1 ≤ (X.getD i vz).1
  a3 : ∀ q ∈ Q.take k, i < X.length → q.1 < (X.getD i vz).1
  b : O.Pairwise (fun a b => a.1 ≤ b.1)
  c : ∀ j, fk j O = fk j (X.take i) ++ fk j (Q.take k)
  m : ∀ o ∈ O, o ∈ X ∨ o ∈ Q
theorem mg_start (X Q : List Vx) : Mg X Q 0 0 [] := ⟨fun _ h => (by cases h), fun _ h => (by cases h), fun q h => (by rw [List.take_zero] at h; cases h), List.Pairwise.nil, fun _ => rfl, fun _ h => by cases h⟩
theorem pair_snoc {O : List Vx} {v : Vx} (h : O.Pairwise (fun a b => a.1 ≤ b.1)) (hv : ∀ o ∈ O, o.1 ≤ v.1) : (O ++ [v]).Pairwise (fun a b => a.1 ≤ b.1) :=
  List.pairwise_append.2 ⟨h, List.pairwise_singleton _ _, fun a ha b hb => by rw [List.mem_singleton.1 hb]; exact hv a ha⟩
theorem mg_q {X Q : List Vx} {i k : Nat} {O : List Vx} (h : Mg X Q i k O) (hk : k < Q.length) (hlt : i < X.length → (Q.getD k vz).1 < (X.getD i vz).1) (hQ : Q.Pairwise (fun a b => a.1 < b.1)) : Mg X Q i (k + 1) (O ++ [Q.getD k vz]) := by
  have hle : k + 1 < Q.length → (Q.getD k vz).1 < (Q.getD (k + 1) vz).1 := fun hk1 => by
    rw [List.getD_eq_getElem?_getD, List.getElem?_eq_getElem hk, List.getD_eq_getElem?_getD, List.getElem?_eq_getElem hk1]
    exact List.pairwise_iff_getElem.1 hQ k (k + 1) hk hk1 (by omega)
  refine ⟨fun o ho hk1 => ?_, fun o ho hi => ?_, fun q hq hi => ?_, pair_snoc h.b fun o ho => h.a1 o ho hk, fun j => ?_, fun o ho => ?_⟩
  · have := hle hk1
    rcases List.mem_append.1 ho with ho | ho
    · have := h.a1 o ho hk; omega
    · rw [List.mem_singleton.1 ho]; omega
  · rcases List.mem_append.1 ho with ho | ho
    · exact h.a2 o ho hi
    · rw [List.mem_singleton.1 ho]; have := hlt hi; omega
  · rw [vx_take Q k hk] at hq
    rcases List.mem_append.1 hq with hq | hq
    · exact h.a3 q hq hi
    · rw [List.mem_singleton.1 hq]; exact hlt hi
  · rw [fk_app, h.c, vx_take Q k hk, fk_app, List.append_assoc]
  · rcases List.mem_append.1 ho with ho | ho
    · exact h.m o ho
    · rw [List.mem_singleton.1 ho]; exact Or.inr (vx_mem hk)
theorem mg_x {X Q : List Vx} {i k : Nat} {O : List Vx} (h : Mg X Q i k O) (hi : i < X.length) (hno : k < Q.length → ¬ (Q.getD k vz).1 < (X.getD i vz).1) (hX : X.Pairwise (fun a b => a.1 ≤ b.1)) : Mg X Q (i + 1) k (O ++ [X.getD i vz]) := by
  refine ⟨fun o ho hk => ?_, fun o ho hi1 => ?_, fun q hq hi1 => ?_, pair_snoc h.b fun o ho => h.a2 o ho hi, fun j => ?_, fun o ho => ?_⟩
  · rcases List.mem_append.1 ho with ho | ho
    · exact h.a1 o ho hk
    · rw [List.mem_singleton.1 ho]; have := hno hk; omega
  · have hle := vx_le hX (Nat.lt_succ_self i) hi1
    rcases List.mem_append.1 ho with ho | ho
    · have := h.a2 o ho hi; exact Int.le_trans this hle
    · rw [List.mem_singleton.1 ho]; exact hle
  · have hle := vx_le hX (Nat.lt_succ_self i) hi1
    have := h.a3 q hq hi
    exact Int.lt_of_lt_of_le this hle
  · rw [fk_app, h.c, vx_take X i hi, fk_app]
    by_cases e : (X.getD i vz).1 = (j : Int)
    · have : fk j (Q.take k) = [] := fk_none fun q hq => by have := h.a3 q hq hi; omega
      rw [this, List.append_nil, List.append_nil]
    · rw [fk_no e, List.append_nil, List.append_nil]
  · rcases List.mem_append.1 ho with ho | ho
    · exact h.m o ho
    · rw [List.mem_singleton.1 ho]; exact Or.inl (vx_mem hi)
theorem qv_up {P : List Pt} (T : Int) (h : Em.Rs P) : (qv T P).Pairwise (fun a b => a.1 < b.1) := by
  unfold qv
  rw [List.pairwise_map]
  refine List.pairwise_iff_getElem.2 fun i j hi hj hij => ?_
  have := h.lt j i hij hj
  rwa [List.getD_eq_getElem?_getD, List.getElem?_eq_getElem hi, List.getD_eq_getElem?_getD, List.getElem?_eq_getElem hj] at this
theorem mg_end {X : List Vx} {M : Em.St} {T : Int} {P : List Pt} {O : List Vx} (h : Mg X (qv T P) X.length P.length O) (hX : Kx X M) (hP : ∀ p ∈ P, 0 ≤ p.1 ∧ p.1 < (M.n : Int)) : Kx O (Em.ap M T P) := by
  refine ⟨h.b, fun k => ?_, fun v hv => ?_⟩
  · have := h.c k
    rw [List.take_length, show P.length = (qv T P).length from (qv_len T P).symm, List.take_length, hX.fk] at this
    rw [this]
    exact (ups_fk M.V T k P).symm
  · rcases h.m v hv with hv | hv
    · exact hX.rng v hv
    · obtain ⟨p, hp, rfl⟩ := List.mem_map.1 hv
      exact hP p hp

/-- A version as it lies: where its bytes lie, their room. -/
abbrev Lv := Vx × Nat × Nat
def lvz : Lv := (vz, 0, 0)
def vcs : List Lv → List Value
  | [] => []
  | x :: l => .int .i64 x.1.1 :: .int .i64 x.1.2.1 :: .slice (some ⟨x.2.1, 0, none⟩) 40 x.2.2 :: vcs l
theorem vcs_len : ∀ l, (vcs l).length = l.length * 3
  | [] => rfl
  | _ :: l => by simp [vcs, vcs_len l]; omega
theorem vcs_app : ∀ l m, vcs (l ++ m) = vcs l ++ vcs m
  | [], _ => rfl
  | x :: l, m => by simp [vcs, vcs_app l m]
theorem vcs_at : ∀ (l : List Lv) (j : Nat) (x : Lv), l[j]? = some x → (vcs l)[j * 3]? = some (.int .i64 x.1.1) ∧ (vcs l)[j * 3 + 1]? = some (.int .i64 x.1.2.1) ∧ (vcs l)[j * 3 + 2]? = some (.slice (some ⟨x.2.1, 0, none⟩) 40 x.2.2)
  | [], _, _, h => by simp at h
  | y :: l, 0, x, h => by simp at h; subst h; exact ⟨rfl, rfl, rfl⟩
  | y :: l, j + 1, x, h => by
    simp at h
    have := vcs_at l j x h
    rw [show (j + 1) * 3 = j * 3 + 1 + 1 + 1 by omega]
    exact this
theorem ver_parts : ∃ i z, Try.prog.info? 73 = some i ∧ i.zero = some z ∧ i.size = 3 ∧ i.bytes = 40 ∧ z.cells.size = 3 := by
  cases h : Try.prog.info? 73 with
  | none => exact absurd h (by have : (Try.prog.info? 73).isSome = true := by kernel_rfl
                               intro e; rw [e] at this; cases this)
  | some i =>
    have h1 : (Try.prog.info? 73).map (fun i => (i.zero, i.size, i.bytes)) = some (some (.agg #[.int .i64 0, .int .i64 0, .slice none 0 0]), 3, 40) := by kernel_rfl
    rw [h] at h1
    simp only [Option.map_some, Option.some.injEq, Prod.mk.injEq] at h1
    exact ⟨i, _, rfl, h1.1, h1.2.1, h1.2.2, rfl⟩
/-- The slice v is a row of the program's own of those versions, each one's bytes beside it. -/
structure Vr (w : World) (v : Value) (l : List Lv) : Prop where
  row : w.ownsRow 0 73 3 v l.length (vcs l)
  bv : ∀ x ∈ l, BV w (some ⟨x.2.1, 0, none⟩) x.1.2.2 ∧ x.2.1 < w.heap.size
  by_ : ∀ x ∈ l, x.1.2.2.length = 40 ∧ AllB x.1.2.2
theorem Vr.nil (w : World) : Vr w (.slice none 0 0) [] := ⟨World.ownsRow_nil _ _ _ _, fun _ h => (by cases h), fun _ h => (by cases h)⟩
section
variable {w w' : World} {v : Value} {l : List Lv}
theorem Vr.on (h : Vr w v l) (hA : At w w') : Vr w' v l := ⟨row_on h.row hA, fun x hx => ⟨(h.bv x hx).1.below hA, Nat.lt_of_lt_of_le (h.bv x hx).2 hA.size⟩, h.by_⟩
theorem Vr.lt (h : Vr w v l) {g : Nat} (hg : v.ownBlock = some g) : g < w.heap.size := (row_lt h.row hg).1
theorem Vr.mv {F : Nat → Prop} (h : Vr w v l) (hm : Mv F w w') (hv : ∀ g, v.ownBlock = some g → ¬ F g) (hx : ∀ x ∈ l, ¬ F x.2.1) : Vr w' v l := by
  refine ⟨⟨h.row.1, ?_⟩, fun x hxm => ⟨bv_mv (h.bv x hxm).1 hm (hx x hxm), Nat.lt_of_lt_of_le (h.bv x hxm).2 hm.size⟩, h.by_⟩
  rcases h.row.2 with h1 | ⟨g, cap, cur, hv', hB, hh, hr⟩
  · exact Or.inl h1
  · exact Or.inr ⟨g, cap, cur, hv', hB, hm.keep hh (hv g (by rw [hv']; rfl)), hr⟩
theorem vr_block (h : Vr w v l) {g : Nat} (hg : v.ownBlock = some g) : ∃ cs, w.heap[g]? = some (.cells cs 73 (0, 0)) := by
  rcases h.row.2 with ⟨e, _⟩ | ⟨g', cap, cur, e, _, hh, _⟩
  · rw [e] at hg; cases hg
  · rw [e] at hg; injection hg with hg; subst hg; exact ⟨cur, hh⟩
theorem Vr.form (h : Vr w v l) : ∃ A c, v = .slice A l.length c ∧ (A = none → l.length = 0 ∧ c = 0) ∧ (0 < l.length → ∃ g, A = some ⟨g, 0, none⟩ ∧ g < w.heap.size ∧ ∀ j, j < l.length → w.cell? ⟨g, j * 3, none⟩ = some (.int .i64 (l.getD j lvz).1.1) ∧ w.cell? ⟨g, j * 3 + 1, none⟩ = some (.int .i64 (l.getD j lvz).1.2.1) ∧ w.cell? ⟨g, j * 3 + 2, none⟩ = some (.slice (some ⟨(l.getD j lvz).2.1, 0, none⟩) 40 (l.getD j lvz).2.2)) := by
  rcases Joins.ownsRow_forms h.row with ⟨rfl, h0⟩ | ⟨g, cap, rfl⟩
  · exact ⟨none, 0, by rw [h0], fun _ => ⟨h0, rfl⟩, fun h1 => by omega⟩
  · refine ⟨_, cap, rfl, (fun e => by cases e), fun _ => ⟨g, rfl, h.lt rfl, fun j hj => ?_⟩⟩
    have hc := h.row.cells (g := g) rfl
    obtain ⟨h1, h2, h3⟩ := vcs_at l j l[j] (List.getElem?_eq_getElem hj)
    have k1 := hc _ _ h1
    have k2 := hc _ _ h2
    have k3 := hc _ _ h3
    rw [Go.WideShapes.add_plain, Nat.zero_add] at k1 k2 k3
    have e : l.getD j lvz = l[j] := by rw [List.getD_eq_getElem?_getD, List.getElem?_eq_getElem hj]; rfl
    rw [e]
    exact ⟨k1, k2, k3⟩
theorem lv_mem {j : Nat} (hj : j < l.length) : l.getD j lvz ∈ l := by
  rw [List.getD_eq_getElem?_getD, List.getElem?_eq_getElem hj]; exact List.getElem_mem _
theorem lv_fst (l : List Lv) (j : Nat) (hj : j < l.length) : (l.map (·.1)).getD j vz = (l.getD j lvz).1 := by
  rw [List.getD_eq_getElem?_getD, List.getElem?_map, List.getElem?_eq_getElem hj, List.getD_eq_getElem?_getD, List.getElem?_eq_getElem hj]; rfl
theorem Vr.ap (h : Vr w v l) {x : Lv} (hx : x ∈ l) : v.ownBlock ≠ some x.2.1 := by
  intro e
  obtain ⟨A, c, rfl, _, hf⟩ := h.form
  obtain ⟨g, rfl, _, hc⟩ := hf (List.length_pos_of_mem hx)
  injection e with e
  obtain ⟨b', o', e1, _, hb⟩ := (h.bv x hx).1.pos (by rw [(h.by_ x hx).1]; omega)
  injection e1 with e1
  injection e1 with e2 e3
  subst e2 e3
  have h1 := hb 0 (by rw [(h.by_ x hx).1]; omega)
  have h2 := (hc 0 (List.length_pos_of_mem hx)).1
  rw [← e] at h1
  rw [Nat.zero_mul] at h2
  rw [h2] at h1
  simp at h1
/-- One version more behind such a row. -/
theorem Vr.more {w3 w4 : World} {y : Vx} {gc cc gg cap : Nat} (h : Vr w3 v l) (hb : BV w3 (some ⟨gc, 0, none⟩) y.2.2) (hgl : gc < w3.heap.size) (hd : y.2.2.length = 40 ∧ AllB y.2.2) (hnb : v.ownBlock ≠ some gc)
    (hown : w4.ownsRow 0 73 3 (.slice (some ⟨gg, 0, none⟩) (l.length + 1) cap) (l.length + 1) (vcs l ++ [.int .i64 y.1, .int .i64 y.2.1, .slice (some ⟨gc, 0, none⟩) 40 cc])) (hgrow : w3.grownBy w4 v.ownBlock) :
    Vr w4 (.slice (some ⟨gg, 0, none⟩) (l.length + 1) cap) (l ++ [(y, gc, cc)]) := by
  have hmv : Mv (fun j => v.ownBlock = some j) w3 w4 := (Mv.refl _ _).grown hgrow fun j hj => Or.inl hj
  refine ⟨?_, fun y hy => ?_, fun y hy => ?_⟩
  · rw [vcs_app, List.length_append]
    exact hown
  · rcases List.mem_append.1 hy with hy | hy
    · exact ⟨bv_mv (h.bv y hy).1 hmv (h.ap hy), Nat.lt_of_lt_of_le (h.bv y hy).2 hmv.size⟩
    · rw [List.mem_singleton] at hy
      subst hy
      exact ⟨bv_mv hb hmv hnb, Nat.lt_of_lt_of_le hgl hmv.size⟩
  · rcases List.mem_append.1 hy with hy | hy
    · exact h.by_ y hy
    · rw [List.mem_singleton] at hy
      subst hy
      exact hd
end

/-- The document's map at d is in the state M, its row v holds the versions X; all its blocks are among P. -/
structure Rmq (w : World) (d : Nat) (M : Em.St) (P : Nat → Prop) (v : Value) (X : List Lv) : Prop where
  ok : Em.Ok M
  box : w.heap[d]? = some (.cells #[.int .i64 (M.n : Int), v, .int .i64 M.last] 67 (0, 0))
  vr : Vr w v X
  kx : Kx (X.map (·.1)) M
  pd : P d
  pr : ∀ g, v.ownBlock = some g → P g
  px : ∀ x ∈ X, P x.2.1
/-- And it has at most N versions. -/
def Rm (w : World) (d : Nat) (M : Em.St) (N : Nat) (P : Nat → Prop) : Prop := ∃ v X, Rmq w d M P v X ∧ X.length ≤ N
section
variable {w w' : World} {d N : Nat} {M : Em.St} {P Q : Nat → Prop} {v : Value} {X : List Lv}
theorem Rmq.on (h : Rmq w d M P v X) (hA : At w w') : Rmq w' d M P v X := ⟨h.ok, hA.keep h.box, h.vr.on hA, h.kx, h.pd, h.pr, h.px⟩
theorem Rmq.mv {G : Nat → Prop} (h : Rmq w d M P v X) (hm : Mv G w w') (hG : ∀ g, P g → ¬ G g) : Rmq w' d M P v X :=
  ⟨h.ok, hm.keep h.box (hG _ h.pd), h.vr.mv hm (fun g hg => hG g (h.pr g hg)) (fun x hx => hG _ (h.px x hx)), h.kx, h.pd, h.pr, h.px⟩
theorem Rmq.more (h : Rmq w d M P v X) (hP : ∀ g, g < w.heap.size → P g → Q g) : Rmq w d M Q v X :=
  ⟨h.ok, h.box, h.vr, h.kx, hP _ (lt_heap h.box) h.pd, fun g hg => hP g (h.vr.lt hg) (h.pr g hg), fun x hx => hP _ (h.vr.bv x hx).2 (h.px x hx)⟩
theorem Rm.on (h : Rm w d M N P) (hA : At w w') : Rm w' d M N P := by obtain ⟨v, X, h, hl⟩ := h; exact ⟨v, X, h.on hA, hl⟩
theorem Rm.mv {G : Nat → Prop} (h : Rm w d M N P) (hm : Mv G w w') (hG : ∀ g, P g → ¬ G g) : Rm w' d M N P := by obtain ⟨v, X, h, hl⟩ := h; exact ⟨v, X, h.mv hm hG, hl⟩
theorem Rm.more (h : Rm w d M N P) (hP : ∀ g, g < w.heap.size → P g → Q g) : Rm w d M N Q := by obtain ⟨v, X, h, hl⟩ := h; exact ⟨v, X, h.more hP, hl⟩
theorem Rmq.cells (h : Rmq w d M P v X) : w.cell? ⟨d, 0, none⟩ = some (.int .i64 (M.n : Int)) ∧ w.cell? ⟨d, 1, none⟩ = some v ∧ w.cell? ⟨d, 2, none⟩ = some (.int .i64 M.last) :=
  ⟨(cell_at h.box 0).trans rfl, (cell_at h.box 1).trans rfl, (cell_at h.box 2).trans rfl⟩
end

end Go.Proofs.Ytcffoebpgjonmaa
