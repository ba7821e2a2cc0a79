/- Proved: copy, clear and append of noughts at rows of extents, as laws for a walk: what the row's block holds behind each. -/
import Derived.Test.YthaiddhbifakhaaICl
import Derived.Laws.IdiomCopy
import Derived.Laws.CopyRow
import Derived.Lib.AppendZerosOnto
import Derived.Lib.Overlaps
import Derived.Laws.Externs
import Derived.Deep.RegionLaw
namespace Go.Proofs.Ythaiddhbifakhaa.Iv
open Go.RowKit

/-- The block g holds just these cells. -/
def Bk (w : World) (g : Nat) (cs : List Value) : Prop := w.heap[g]? = some (.cells cs.toArray 75 (0, 0))
theorem Bk.mv {w w' : World} {F : Nat → Prop} {g : Nat} {cs : List Value} (h : Bk w g cs) (hm : Mv F w w') (hF : ¬ F g) : Bk w' g cs := hm.keep h hF
theorem Bk.lt {w : World} {g : Nat} {cs : List Value} (h : Bk w g cs) : g < w.heap.size := lt_heap h
theorem Bk.cells {w : World} {g : Nat} {x y z : List Value} (h : Bk w g (x ++ (y ++ z))) : ∀ j u, y[j]? = some u → w.cell? ((⟨g, x.length, none⟩ : Addr).add j) = some u := fun j u hj => by
  have hl : j < y.length := (List.getElem?_eq_some_iff.1 hj).1
  rw [Go.WideShapes.add_plain, cell_at h, List.getElem?_toArray, List.getElem?_append_right (by omega), Nat.add_sub_cancel_left, List.getElem?_append_left hl]
  exact hj
theorem setRow_mv (w : World) (g : Nat) (cs : Array Value) : Mv (fun k => k = g) w (w.setRow g cs) :=
  ⟨rfl, rfl, rfl, by simp [World.setRow], fun k _ hk => setRow_other w g k cs hk⟩

theorem size_ext : (Try.prog.info? 75).map (·.size) = some 2 := by
  have h := info_ext
  cases hi : Try.prog.info? 75 with
  | none => rw [hi] at h; cases h
  | some i =>
    rw [hi] at h
    simp only [Option.map_some, Option.some.injEq, Prod.mk.injEq] at h ⊢
    exact h.2.1

theorem run_copy_two (w : World) (ty : TypeId) (g off dLen dCap : Nat) (a : Addr) (sLen sCap : Nat) (x y z cs : List Value)
    (hg : Bk w g (x ++ (y ++ z))) (ho : off = x.length) (hn : cs.length = Nat.min sLen dLen * 2) (hy : cs.length = y.length)
    (hsrc : ∀ j v, cs[j]? = some v → w.cell? (a.add j) = some v) (h1 : ∀ v ∈ cs, v.oneCell' = true) :
    (Builtin.copy_ #[47, 47] ty #[.slice (some ⟨g, off, none⟩) dLen dCap, .slice (some a) sLen sCap]).run Try.prog w =
      .ok (goInt (Nat.min sLen dLen)) (w.setRow g (x ++ (cs ++ z)).toArray) := by
  subst ho
  have hl := run_loadCells_list (P := Try.prog) w a cs hsrc
  have hst := run_storeCells_at Try.prog g x.length _ cs 0 _ w hg (by simp; omega) h1
  have hrow : (x ++ (y ++ z)).toArray.toList.take (x.length + 0) ++ cs ++ (x ++ (y ++ z)).toArray.toList.drop (x.length + 0 + cs.length) = x ++ (cs ++ z) := by
    simp [hy, List.drop_append]
  rw [hrow] at hst
  have hs := size_ext
  have hu := Try.underlying47
  cases hq : Try.prog.info? 75 with
  | none => simp [hq] at hs
  | some i =>
    have hi : i.size = 2 := by simpa [hq] using hs
    simp [Builtin.copy_, run_underlying hu, Builtin.lenOf, Builtin.firstCells, sizeOf, typeInfo, hq, hi, ← hn, hl, hst]

/-- The run of a builtin of two arguments that is known, as a step of a walk and of a region that draws. -/
theorem wpList_copy_two {w : World} {ops : Array Oper} {rest : List Oper} {o : Oper} {a : Act} {Q : Exit → Act → World → Prop} (hgd : o.guard = none) (d s : Operand)
    (ho : o.op = .call { callee := .builtin .copy, args := #[d, s], argTypes := #[47, 47] }) (g off dLen dCap : Nat) (ad : Addr) (sLen sCap : Nat)
    (hd : a.eval d = .slice (some ⟨g, off, none⟩) dLen dCap) (hs : a.eval s = .slice (some ad) sLen sCap) (x y z cs : List Value)
    (hg : Bk w g (x ++ (y ++ z))) (hof : off = x.length) (hn : cs.length = Nat.min sLen dLen * 2) (hy : cs.length = y.length)
    (hsrc : ∀ j v, cs[j]? = some v → w.cell? (ad.add j) = some v) (h1 : ∀ v ∈ cs, v.oneCell' = true)
    (h : ∀ w', Hid (Bk w' g (x ++ (cs ++ z))) → Hid (Mv (fun k => k = g) w w') → wpList Try.prog ops Q rest (a.put o.dst (goInt (Nat.min sLen dLen))) w') : wpList Try.prog ops Q (o :: rest) a w := by
  refine wpList_plain hgd fun K hK => ?_
  have hrun := run_copy_two w o.type g off dLen dCap ad sLen sCap x y z cs hg hof hn hy hsrc h1
  unfold Oper.wp
  simp [execOp, ho, resolve, invoke, builtin, hd, hs, hrun, Result.andThen]
  exact hK _ _ (h _ (setRow_heap w g _ _ _ _ hg) (setRow_mv w g _))
theorem step_copy_two {w : World} {ops : Array Oper} {o : Oper} {a : Act} {K : Act → World → Prop} {Q : Exit → Act → World → Prop} {E : Prop} (hgd : o.guard = none) (d s : Operand)
    (ho : o.op = .call { callee := .builtin .copy, args := #[d, s], argTypes := #[47, 47] }) (g off dLen dCap : Nat) (ad : Addr) (sLen sCap : Nat)
    (hd : a.eval d = .slice (some ⟨g, off, none⟩) dLen dCap) (hs : a.eval s = .slice (some ad) sLen sCap) (x y z cs : List Value)
    (hg : Bk w g (x ++ (y ++ z))) (hof : off = x.length) (hn : cs.length = Nat.min sLen dLen * 2) (hy : cs.length = y.length)
    (hsrc : ∀ j v, cs[j]? = some v → w.cell? (ad.add j) = some v) (h1 : ∀ v ∈ cs, v.oneCell' = true)
    (h : ∀ w', Hid (Bk w' g (x ++ (cs ++ z))) → Hid (Mv (fun k => k = g) w w') → K (a.put o.dst (goInt (Nat.min sLen dLen))) w') :
    if Region.wanted o (yielded ops a.tmps) = true then Oper.wp Try.prog o a w K Q else E := by
  have hw : Region.wanted o (yielded ops a.tmps) = true := by simp [Region.wanted, hgd]
  rw [if_pos hw]
  have hrun := run_copy_two w o.type g off dLen dCap ad sLen sCap x y z cs hg hof hn hy hsrc h1
  unfold Oper.wp
  simp [execOp, ho, resolve, invoke, builtin, hd, hs, hrun, Result.andThen]
  exact h _ (setRow_heap w g _ _ _ _ hg) (setRow_mv w g _)

/-- The run of a copy of k extents, with a name for the world behind it. -/
theorem copy_run {w : World} (k g off dLen dCap : Nat) (a : Addr) (sLen sCap : Nat) (x y z cs : List Value)
    (hg : Bk w g (x ++ (y ++ z))) (ho : off = x.length) (hk : Nat.min sLen dLen = k) (hn : cs.length = k * 2) (hy : cs.length = y.length)
    (hsrc : ∀ j v, cs[j]? = some v → w.cell? (a.add j) = some v) (h1 : ∀ v ∈ cs, v.oneCell' = true) :
    ∃ w', Sem.run Try.prog (Builtin.copy_ #[47, 47] 3 #[.slice (some ⟨g, off, none⟩) dLen dCap, .slice (some a) sLen sCap]) w = .ok (goInt k) w' ∧ Hid (Bk w' g (x ++ (cs ++ z))) ∧ Hid (Mv (fun k => k = g) w w') := by
  subst hk
  exact ⟨_, run_copy_two w _ g off dLen dCap a sLen sCap x y z cs hg ho hn hy hsrc h1, setRow_heap w g _ _ _ _ hg, setRow_mv w g _⟩
theorem zeros_len (n : Nat) : (Builtin.zeroCells (Value.agg #[.int .i64 0, .int .i64 0]).cells n).toList.length = n * 2 := by
  simp [Builtin.zeroCells, Value.cells]
theorem zeros_one (n : Nat) : ∀ u ∈ (Builtin.zeroCells (Value.agg #[.int .i64 0, .int .i64 0]).cells n).toList, u.oneCell' = true := by
  intro u hu
  simp only [Builtin.zeroCells, Value.cells, Array.toList_map, List.mem_map] at hu
  obtain ⟨i, _, rfl⟩ := hu
  have h2 : (i % 2 = 0) ∨ (i % 2 = 1) := by omega
  simp only [List.size_toArray, List.length_cons, List.length_nil] at *
  rcases h2 with h | h <;> simp [h] <;> rfl
/-- clear at a part of a row. -/
theorem run_clear_two (w : World) (ty : TypeId) (g off n c : Nat) (x y z : List Value) (hg : Bk w g (x ++ (y ++ z))) (ho : off = x.length) (hy : n * 2 = y.length) (h0 : n ≠ 0) :
    (Builtin.clear_ #[47] ty #[.slice (some ⟨g, off, none⟩) n c]).run Try.prog w =
      .ok (.tuple #[]) (w.setRow g (x ++ ((Builtin.zeroCells (Value.agg #[.int .i64 0, .int .i64 0]).cells n).toList ++ z)).toArray) := by
  subst ho
  have hlz := zeros_len n
  have hst := run_storeCells_at Try.prog g x.length _ _ 0 _ w hg (by rw [hlz]; simp; omega) (zeros_one n)
  have hrow : (x ++ (y ++ z)).toArray.toList.take (x.length + 0) ++ (Builtin.zeroCells (Value.agg #[.int .i64 0, .int .i64 0]).cells n).toList ++ (x ++ (y ++ z)).toArray.toList.drop (x.length + 0 + (Builtin.zeroCells (Value.agg #[.int .i64 0, .int .i64 0]).cells n).toList.length) = x ++ ((Builtin.zeroCells (Value.agg #[.int .i64 0, .int .i64 0]).cells n).toList ++ z) := by
    rw [hlz, hy]; simp [List.drop_append]
  rw [hrow] at hst
  obtain ⟨m, rfl⟩ : ∃ m, n = m + 1 := ⟨n - 1, by omega⟩
  simp [Builtin.clear_, run_underlying Try.underlying47, hst]

theorem wpList_clear_two {w : World} {ops : Array Oper} {rest : List Oper} {o : Oper} {a : Act} {Q : Exit → Act → World → Prop} (hgd : o.guard = none) (d : Operand)
    (ho : o.op = .call { callee := .builtin .clear, args := #[d], argTypes := #[47] }) (g off n c : Nat) (hd : a.eval d = .slice (some ⟨g, off, none⟩) n c) (x y z : List Value)
    (hg : Bk w g (x ++ (y ++ z))) (hof : off = x.length) (hy : n * 2 = y.length) (h0 : n ≠ 0)
    (h : ∀ w' y', Hid (Bk w' g (x ++ (y' ++ z))) → Hid (y'.length = y.length) → Hid (Mv (fun k => k = g) w w') → wpList Try.prog ops Q rest (a.put o.dst (.tuple #[])) w') : wpList Try.prog ops Q (o :: rest) a w := by
  refine wpList_plain hgd fun K hK => ?_
  have hrun := run_clear_two w o.type g off n c x y z hg hof hy h0
  unfold Oper.wp
  simp [execOp, ho, resolve, invoke, builtin, hd, hrun, Result.andThen]
  refine hK _ _ (h _ _ (setRow_heap w g _ _ _ _ hg) ?_ (setRow_mv w g _))
  show _ = _
  rw [zeros_len, hy]
set_option maxRecDepth 100000 in
/-- append of k noughts to the first i of a row that has no room for them: a new row. -/
theorem wpList_zeros {w : World} {ops : Array Oper} {rest : List Oper} {o : Oper} {a : Act} {Q : Exit → Act → World → Prop} (hgd : o.guard = none) (d s : Operand)
    (ho : o.op = .call { callee := .builtin .append, args := #[d, s], argTypes := #[47, 3] }) (g i c k : Nat) (hd : a.eval d = .slice (some ⟨g, 0, none⟩) i c) (hs : a.eval s = .int .i64 (k : Int))
    (x y : List Value) (hg : Bk w g (x ++ y)) (hx : x.length = i * 2) (h0 : 0 < k) (hc : c < i + k) (hb : i + k ≤ 4000000)
    (h : ∀ w' G Z, Hid (Bk w' w.heap.size (x ++ Z)) → Hid ((x ++ Z).length = G * 2) → i + k ≤ G → G ≤ maxLen → Hid (At w w') → wpList Try.prog ops Q rest (a.put o.dst (.slice (some ⟨w.heap.size, 0, none⟩) (i + k) G)) w') : wpList Try.prog ops Q (o :: rest) a w := by
  obtain ⟨i0, hi, hz0, hz1, hz2⟩ := info_parts info_ext
  have hold : (Builtin.firstCells i0.size i (.slice (some ⟨g, 0, none⟩) i c)).run Try.prog w.drew = .ok x.toArray w.drew := by
    rw [hz1]
    exact run_firstCells_some w.drew 2 i ⟨g, 0, none⟩ i c x hx (fun j v hj => by
      have hl : j < x.length := (List.getElem?_eq_some_iff.1 hj).1
      rw [Go.WideShapes.add_plain]
      show w.cell? _ = _
      rw [cell_at hg, List.getElem?_toArray, Nat.zero_add, List.getElem?_append_left hl]
      exact hj)
  have hgc := grownCap_ge w (i + k) c 75
  have hgm := grownCap_le_maxLen w (i + k) c 75 (by unfold maxLen; omega)
  have hrun := Lib.run_append_grow_zeros w 47 3 o.type 75 i0 _ .i64 .i64 Try.underlying47 Try.underlying3 hi hz0 (some ⟨g, 0, none⟩) i c x hold k h0 (by omega) hc (by omega) (by rw [hz2]; omega) (by rw [hz2]; exact growslice_fits hc (by omega))
  refine wpList_plain hgd fun K hK => ?_
  unfold Oper.wp
  simp only [execOp, ho, resolve, invoke, builtin, Sem.run_bind, Sem.run_pure, Result.andThen_ok, List.map_toArray, List.map_cons, List.map_nil, hd, hs, hrun]
  refine hK _ _ (h _ _ ((Builtin.zeroCells (Value.agg #[.int .i64 0, .int .i64 0]).cells k).toList ++ (Builtin.zeroCells (Value.agg #[.int .i64 0, .int .i64 0]).cells (grownCap w (i + k) c 75 - (i + k))).toList) ?_ ?_ hgc hgm ?_)
  · show _ = _
    have := heap_alloc_new w.drew (.cells (x.toArray ++ Builtin.zeroCells (Value.agg #[.int .i64 0, .int .i64 0]).cells k ++ Builtin.zeroCells (Value.agg #[.int .i64 0, .int .i64 0]).cells (grownCap w (i + k) c 75 - (i + k))) 75)
    rw [show w.drew.heap.size = w.heap.size from rfl] at this
    rw [this]
    congr 2
    apply Array.ext'
    simp
  · show _ = _
    rw [List.length_append, List.length_append, zeros_len, zeros_len, hx]; omega
  · exact ((At.start w).drewN 1).alloc _

end Go.Proofs.Ythaiddhbifakhaa.Iv
