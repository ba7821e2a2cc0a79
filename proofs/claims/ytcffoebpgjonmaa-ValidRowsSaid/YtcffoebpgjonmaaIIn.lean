/- Proved: slices.Clone of extents lays them once more, in memory of its own; what an append of extents to a row of the program's own leaves.
copy, clear and append of noughts at rows of extents, as laws for a walk: what the row's block holds behind each.
slices.Insert of extents into a row of the program's own: what stood ahead, what is put in, what stood behind, in the row's own block or in a new one.
slices.Replace of extents in a row of the program's own: what stood ahead, what is put in, what stood behind. -/
import Derived.Test.YtcffoebpgjonmaaIPu
import Derived.Lib.SliceRun
import Derived.Laws.IdiomCopy
import Derived.Laws.CopyRow
import Derived.Lib.AppendZerosOnto
import Derived.Lib.Overlaps
import Derived.Laws.Externs
import Derived.Deep.RegionLaw
import Derived.Deep.RegionHeld3
import Derived.Deep.DrawnRows
import Derived.IntWalk
namespace Go.Proofs.Ytcffoebpgjonmaa.Iv
open Go.RowKit

/-- A call hands back the list L in a row of its own, in new memory, and writes only what is new. -/
def Makes (L : List (Int × Int)) (w : World) (e : Ending) (w' : World) : Prop := ∃ v, e = .returned v ∧ Ow w' v L ∧ At w w' ∧ ∀ g, v.ownBlock = some g → w.heap.size ≤ g

/-- What an append leaves of the world: only the row's own block is written. -/
theorem grown_mv {w w' : World} {v : Value} (h : w.grownBy w' v.ownBlock) : Mv (fun g => v.ownBlock = some g) w w' :=
  ⟨h.os, h.tape, h.output, h.size, fun k hk hF => h.block k hk (fun e => hF e.symm)⟩
theorem made_row (w : World) : (w.alloc (.cells #[] 49)).ownsRow 0 49 2 (.slice (some ⟨w.heap.size, 0, none⟩) 0 0) 0 [] := World.ownsRow_made w #[] 0 (Nat.zero_le _) (by unfold maxLen; omega) (by simp)

theorem made_at {w w1 : World} {o : Obj} {n c : Nat} (h : (w.alloc o).grownBy w1 (Value.slice (some ⟨w.heap.size, 0, none⟩) n c).ownBlock) : At w w1 :=
  ((At.start w).alloc _).trans ⟨h.os, h.tape, h.output, h.size, fun k hk => h.block k (by simp; omega) (fun e => by
    have : k = w.heap.size := by injection e
    omega)⟩
theorem ev_news {w : World} {ad : Addr} {L : List (Int × Int)} (hx : EV w (some ad) L) : ∀ j u, (fl L)[j]? = some u → w.cell? (ad.add j) = some u := by
  by_cases h0 : L = []
  · subst h0; intro j u hj; simp [fl] at hj
  · obtain ⟨ad', he, _, hc⟩ := hx.cells (List.length_pos_iff.2 h0)
    injection he with he
    subst he
    exact hc

set_option maxHeartbeats 1000000 in
set_option maxRecDepth 100000 in
theorem clone_any (A : Option Addr) (n c : Nat) (L : List (Int × Int)) (w : World) (hn : n ≤ 1000000) (hz : A = none → n = 0 ∧ c = 0) (hl : L.length = n) (hx : EV w A L) :
    Calls Try.prog 51 #[.slice A n c] w (Makes L w) := by
  obtain ⟨i0, hi, hz0, hz1, hz2⟩ := info_parts info_ext
  rcases A with _ | ad
  · obtain ⟨rfl, rfl⟩ := hz rfl
    obtain rfl : L = [] := List.eq_nil_of_length_eq_zero hl
    have hnil := Lib.run_eql_slice_nil (P := Try.prog) w 23 49 none 0 0 0 0 Try.underlying23
    clear hx hi hz0 hz1 hz2 hz hl
    go_enter Try.func51, Try.ntmps51
    go_wp2
    go_ret
    exact ⟨_, rfl, Ow.nil _, At.start _, fun g hg => by cases hg⟩
  · have hnil := Lib.run_eql_slice_nil (P := Try.prog) w 23 49 (some ad) n c 0 0 Try.underlying23
    have HS := Lib.hid (ev_news (hx.on ((At.start w).alloc (.cells #[] 49))))
    have HL := Lib.hid hl
    have HM := Lib.hid (made_row w)
    have HZ := Lib.hid (And.intro hi (And.intro hz0 (And.intro hz1 hz2)))
    clear hx hi hz0 hz1 hz2 hz hl
    go_enter Try.func51, Try.ntmps51
    go_wp2_with (at_builtin; refine wpList_append_own_at _ rfl (.tmp 5) (.tmp 6) 23 rfl 0 49 i0 _ 2 16 Try.underlying23 HZ.out.1 HZ.out.2.1 HZ.out.2.2.1 HZ.out.2.2.2 rfl (by omega) _ 0 [] rfl HM.out ad n c (fl L) rfl (by rw [fl_len, HL.out]) HS.out (fun u hu => fl_cells u L hu) (by unfold maxLen; omega) (by omega) (Nat.zero_le _) ?_; intro v w1 hown hgrow hnn hat)
    go_ret
    rw [Nat.zero_add, List.nil_append, ← HL.out] at hown
    refine ⟨v, rfl, hown, made_at hgrow, fun g hg => ?_⟩
    rcases hat with h | h
    · rw [h] at hg
      injection hg with hg
      exact Nat.le_of_eq hg
    · rw [h] at hg
      injection hg with hg
      rw [← hg]; simp

end Go.Proofs.Ytcffoebpgjonmaa.Iv

namespace Go.Proofs.Ytcffoebpgjonmaa.Iv
open Go.RowKit

/-- The block g holds just these cells. -/
def Bk (w : World) (g : Nat) (cs : List Value) : Prop := w.heap[g]? = some (.cells cs.toArray 49 (0, 0))
theorem Bk.mv {w w' : World} {F : Nat → Prop} {g : Nat} {cs : List Value} (h : Bk w g cs) (hm : Mv F w w') (hF : ¬ F g) : Bk w' g cs := hm.keep h hF
theorem Bk.lt {w : World} {g : Nat} {cs : List Value} (h : Bk w g cs) : g < w.heap.size := lt_heap h
theorem Bk.cells {w : World} {g : Nat} {x y z : List Value} (h : Bk w g (x ++ (y ++ z))) : ∀ j u, y[j]? = some u → w.cell? ((⟨g, x.length, none⟩ : Addr).add j) = some u := fun j u hj => by
  have hl : j < y.length := (List.getElem?_eq_some_iff.1 hj).1
  rw [Go.WideShapes.add_plain, cell_at h, List.getElem?_toArray, List.getElem?_append_right (by omega), Nat.add_sub_cancel_left, List.getElem?_append_left hl]
  exact hj
theorem setRow_mv (w : World) (g : Nat) (cs : Array Value) : Mv (fun k => k = g) w (w.setRow g cs) :=
  ⟨rfl, rfl, rfl, by simp [World.setRow], fun k _ hk => setRow_other w g k cs hk⟩

theorem size_ext : (Try.prog.info? 49).map (·.size) = some 2 := by
  have h := info_ext
  cases hi : Try.prog.info? 49 with
  | none => rw [hi] at h; cases h
  | some i =>
    rw [hi] at h
    simp only [Option.map_some, Option.some.injEq, Prod.mk.injEq] at h ⊢
    exact h.2.1

theorem run_copy_two (w : World) (ty : TypeId) (g off dLen dCap : Nat) (a : Addr) (sLen sCap : Nat) (x y z cs : List Value)
    (hg : Bk w g (x ++ (y ++ z))) (ho : off = x.length) (hn : cs.length = Nat.min sLen dLen * 2) (hy : cs.length = y.length)
    (hsrc : ∀ j v, cs[j]? = some v → w.cell? (a.add j) = some v) (h1 : ∀ v ∈ cs, v.oneCell' = true) :
    (Builtin.copy_ #[23, 23] ty #[.slice (some ⟨g, off, none⟩) dLen dCap, .slice (some a) sLen sCap]).run Try.prog w =
      .ok (goInt (Nat.min sLen dLen)) (w.setRow g (x ++ (cs ++ z)).toArray) := by
  subst ho
  have hl := run_loadCells_list (P := Try.prog) w a cs hsrc
  have hst := run_storeCells_at Try.prog g x.length _ cs 0 _ w hg (by simp; omega) h1
  have hrow : (x ++ (y ++ z)).toArray.toList.take (x.length + 0) ++ cs ++ (x ++ (y ++ z)).toArray.toList.drop (x.length + 0 + cs.length) = x ++ (cs ++ z) := by
    simp [hy, List.drop_append]
  rw [hrow] at hst
  have hs := size_ext
  have hu := Try.underlying23
  cases hq : Try.prog.info? 49 with
  | none => simp [hq] at hs
  | some i =>
    have hi : i.size = 2 := by simpa [hq] using hs
    simp [Builtin.copy_, run_underlying hu, Builtin.lenOf, Builtin.firstCells, sizeOf, typeInfo, hq, hi, ← hn, hl, hst]

/-- The run of a builtin of two arguments that is known, as a step of a walk and of a region that draws. -/
theorem wpList_copy_two {w : World} {ops : Array Oper} {rest : List Oper} {o : Oper} {a : Act} {Q : Exit → Act → World → Prop} (hgd : o.guard = none) (d s : Operand)
    (ho : o.op = .call { callee := .builtin .copy, args := #[d, s], argTypes := #[23, 23] }) (g off dLen dCap : Nat) (ad : Addr) (sLen sCap : Nat)
    (hd : a.eval d = .slice (some ⟨g, off, none⟩) dLen dCap) (hs : a.eval s = .slice (some ad) sLen sCap) (x y z cs : List Value)
    (hg : Bk w g (x ++ (y ++ z))) (hof : off = x.length) (hn : cs.length = Nat.min sLen dLen * 2) (hy : cs.length = y.length)
    (hsrc : ∀ j v, cs[j]? = some v → w.cell? (ad.add j) = some v) (h1 : ∀ v ∈ cs, v.oneCell' = true)
    (h : ∀ w', Hid (Bk w' g (x ++ (cs ++ z))) → Hid (Mv (fun k => k = g) w w') → wpList Try.prog ops Q rest (a.put o.dst (goInt (Nat.min sLen dLen))) w') : wpList Try.prog ops Q (o :: rest) a w := by
  refine wpList_plain hgd fun K hK => ?_
  have hrun := run_copy_two w o.type g off dLen dCap ad sLen sCap x y z cs hg hof hn hy hsrc h1
  unfold Oper.wp
  simp [execOp, ho, resolve, invoke, builtin, hd, hs, hrun, Result.andThen]
  exact hK _ _ (h _ (setRow_heap w g _ _ _ _ hg) (setRow_mv w g _))
theorem step_copy_two {w : World} {ops : Array Oper} {o : Oper} {a : Act} {K : Act → World → Prop} {Q : Exit → Act → World → Prop} {E : Prop} (hgd : o.guard = none) (d s : Operand)
    (ho : o.op = .call { callee := .builtin .copy, args := #[d, s], argTypes := #[23, 23] }) (g off dLen dCap : Nat) (ad : Addr) (sLen sCap : Nat)
    (hd : a.eval d = .slice (some ⟨g, off, none⟩) dLen dCap) (hs : a.eval s = .slice (some ad) sLen sCap) (x y z cs : List Value)
    (hg : Bk w g (x ++ (y ++ z))) (hof : off = x.length) (hn : cs.length = Nat.min sLen dLen * 2) (hy : cs.length = y.length)
    (hsrc : ∀ j v, cs[j]? = some v → w.cell? (ad.add j) = some v) (h1 : ∀ v ∈ cs, v.oneCell' = true)
    (h : ∀ w', Hid (Bk w' g (x ++ (cs ++ z))) → Hid (Mv (fun k => k = g) w w') → K (a.put o.dst (goInt (Nat.min sLen dLen))) w') :
    if Region.wanted o (yielded ops a.tmps) = true then Oper.wp Try.prog o a w K Q else E := by
  have hw : Region.wanted o (yielded ops a.tmps) = true := by simp [Region.wanted, hgd]
  rw [if_pos hw]
  have hrun := run_copy_two w o.type g off dLen dCap ad sLen sCap x y z cs hg hof hn hy hsrc h1
  unfold Oper.wp
  simp [execOp, ho, resolve, invoke, builtin, hd, hs, hrun, Result.andThen]
  exact h _ (setRow_heap w g _ _ _ _ hg) (setRow_mv w g _)

/-- The run of a copy of k extents, with a name for the world behind it. -/
theorem copy_run {w : World} (k g off dLen dCap : Nat) (a : Addr) (sLen sCap : Nat) (x y z cs : List Value)
    (hg : Bk w g (x ++ (y ++ z))) (ho : off = x.length) (hk : Nat.min sLen dLen = k) (hn : cs.length = k * 2) (hy : cs.length = y.length)
    (hsrc : ∀ j v, cs[j]? = some v → w.cell? (a.add j) = some v) (h1 : ∀ v ∈ cs, v.oneCell' = true) :
    ∃ w', Sem.run Try.prog (Builtin.copy_ #[23, 23] 3 #[.slice (some ⟨g, off, none⟩) dLen dCap, .slice (some a) sLen sCap]) w = .ok (goInt k) w' ∧ Hid (Bk w' g (x ++ (cs ++ z))) ∧ Hid (Mv (fun k => k = g) w w') := by
  subst hk
  exact ⟨_, run_copy_two w _ g off dLen dCap a sLen sCap x y z cs hg ho hn hy hsrc h1, setRow_heap w g _ _ _ _ hg, setRow_mv w g _⟩
theorem zeros_len (n : Nat) : (Builtin.zeroCells (Value.agg #[.int .i64 0, .int .i64 0]).cells n).toList.length = n * 2 := by
  simp [Builtin.zeroCells, Value.cells]
theorem zeros_one (n : Nat) : ∀ u ∈ (Builtin.zeroCells (Value.agg #[.int .i64 0, .int .i64 0]).cells n).toList, u.oneCell' = true := by
  intro u hu
  simp only [Builtin.zeroCells, Value.cells, Array.toList_map, List.mem_map] at hu
  obtain ⟨i, _, rfl⟩ := hu
  have h2 : (i % 2 = 0) ∨ (i % 2 = 1) := by omega
  simp only [List.size_toArray, List.length_cons, List.length_nil] at *
  rcases h2 with h | h <;> simp [h] <;> rfl
/-- clear at a part of a row. -/
theorem run_clear_two (w : World) (ty : TypeId) (g off n c : Nat) (x y z : List Value) (hg : Bk w g (x ++ (y ++ z))) (ho : off = x.length) (hy : n * 2 = y.length) (h0 : n ≠ 0) :
    (Builtin.clear_ #[23] ty #[.slice (some ⟨g, off, none⟩) n c]).run Try.prog w =
      .ok (.tuple #[]) (w.setRow g (x ++ ((Builtin.zeroCells (Value.agg #[.int .i64 0, .int .i64 0]).cells n).toList ++ z)).toArray) := by
  subst ho
  have hlz := zeros_len n
  have hst := run_storeCells_at Try.prog g x.length _ _ 0 _ w hg (by rw [hlz]; simp; omega) (zeros_one n)
  have hrow : (x ++ (y ++ z)).toArray.toList.take (x.length + 0) ++ (Builtin.zeroCells (Value.agg #[.int .i64 0, .int .i64 0]).cells n).toList ++ (x ++ (y ++ z)).toArray.toList.drop (x.length + 0 + (Builtin.zeroCells (Value.agg #[.int .i64 0, .int .i64 0]).cells n).toList.length) = x ++ ((Builtin.zeroCells (Value.agg #[.int .i64 0, .int .i64 0]).cells n).toList ++ z) := by
    rw [hlz, hy]; simp [List.drop_append]
  rw [hrow] at hst
  obtain ⟨m, rfl⟩ : ∃ m, n = m + 1 := ⟨n - 1, by omega⟩
  simp [Builtin.clear_, run_underlying Try.underlying23, hst]

theorem wpList_clear_two {w : World} {ops : Array Oper} {rest : List Oper} {o : Oper} {a : Act} {Q : Exit → Act → World → Prop} (hgd : o.guard = none) (d : Operand)
    (ho : o.op = .call { callee := .builtin .clear, args := #[d], argTypes := #[23] }) (g off n c : Nat) (hd : a.eval d = .slice (some ⟨g, off, none⟩) n c) (x y z : List Value)
    (hg : Bk w g (x ++ (y ++ z))) (hof : off = x.length) (hy : n * 2 = y.length) (h0 : n ≠ 0)
    (h : ∀ w' y', Hid (Bk w' g (x ++ (y' ++ z))) → Hid (y'.length = y.length) → Hid (Mv (fun k => k = g) w w') → wpList Try.prog ops Q rest (a.put o.dst (.tuple #[])) w') : wpList Try.prog ops Q (o :: rest) a w := by
  refine wpList_plain hgd fun K hK => ?_
  have hrun := run_clear_two w o.type g off n c x y z hg hof hy h0
  unfold Oper.wp
  simp [execOp, ho, resolve, invoke, builtin, hd, hrun, Result.andThen]
  refine hK _ _ (h _ _ (setRow_heap w g _ _ _ _ hg) ?_ (setRow_mv w g _))
  show _ = _
  rw [zeros_len, hy]
set_option maxRecDepth 100000 in
/-- append of k noughts to the first i of a row that has no room for them: a new row. -/
theorem wpList_zeros {w : World} {ops : Array Oper} {rest : List Oper} {o : Oper} {a : Act} {Q : Exit → Act → World → Prop} (hgd : o.guard = none) (d s : Operand)
    (ho : o.op = .call { callee := .builtin .append, args := #[d, s], argTypes := #[23, 3] }) (g i c k : Nat) (hd : a.eval d = .slice (some ⟨g, 0, none⟩) i c) (hs : a.eval s = .int .i64 (k : Int))
    (x y : List Value) (hg : Bk w g (x ++ y)) (hx : x.length = i * 2) (h0 : 0 < k) (hc : c < i + k) (hb : i + k ≤ 4000000)
    (h : ∀ w' G Z, Hid (Bk w' w.heap.size (x ++ Z)) → Hid ((x ++ Z).length = G * 2) → i + k ≤ G → G ≤ maxLen → Hid (At w w') → wpList Try.prog ops Q rest (a.put o.dst (.slice (some ⟨w.heap.size, 0, none⟩) (i + k) G)) w') : wpList Try.prog ops Q (o :: rest) a w := by
  obtain ⟨i0, hi, hz0, hz1, hz2⟩ := info_parts info_ext
  have hold : (Builtin.firstCells i0.size i (.slice (some ⟨g, 0, none⟩) i c)).run Try.prog w.drew = .ok x.toArray w.drew := by
    rw [hz1]
    exact run_firstCells_some w.drew 2 i ⟨g, 0, none⟩ i c x hx (fun j v hj => by
      have hl : j < x.length := (List.getElem?_eq_some_iff.1 hj).1
      rw [Go.WideShapes.add_plain]
      show w.cell? _ = _
      rw [cell_at hg, List.getElem?_toArray, Nat.zero_add, List.getElem?_append_left hl]
      exact hj)
  have hgc := grownCap_ge w (i + k) c 49
  have hgm := grownCap_le_maxLen w (i + k) c 49 (by unfold maxLen; omega)
  have hrun := Lib.run_append_grow_zeros w 23 3 o.type 49 i0 _ .i64 .i64 Try.underlying23 Try.underlying3 hi hz0 (some ⟨g, 0, none⟩) i c x hold k h0 (by omega) hc (by omega) (by rw [hz2]; omega) (by rw [hz2]; exact growslice_fits hc (by omega))
  refine wpList_plain hgd fun K hK => ?_
  unfold Oper.wp
  simp only [execOp, ho, resolve, invoke, builtin, Sem.run_bind, Sem.run_pure, Result.andThen_ok, List.map_toArray, List.map_cons, List.map_nil, hd, hs, hrun]
  refine hK _ _ (h _ _ ((Builtin.zeroCells (Value.agg #[.int .i64 0, .int .i64 0]).cells k).toList ++ (Builtin.zeroCells (Value.agg #[.int .i64 0, .int .i64 0]).cells (grownCap w (i + k) c 49 - (i + k))).toList) ?_ ?_ hgc hgm ?_)
  · show _ = _
    have := heap_alloc_new w.drew (.cells (x.toArray ++ Builtin.zeroCells (Value.agg #[.int .i64 0, .int .i64 0]).cells k ++ Builtin.zeroCells (Value.agg #[.int .i64 0, .int .i64 0]).cells (grownCap w (i + k) c 49 - (i + k))) 49)
    rw [show w.drew.heap.size = w.heap.size from rfl] at this
    rw [this]
    congr 2
    apply Array.ext'
    simp
  · show _ = _
    rw [List.length_append, List.length_append, zeros_len, zeros_len, hx]; omega
  · exact ((At.start w).drewN 1).alloc _

end Go.Proofs.Ytcffoebpgjonmaa.Iv

namespace Go.Proofs.Ytcffoebpgjonmaa.Iv
open Go.RowKit

/-- A call hands back the list L in the row's own block or in a new one, and writes no other block. -/
def Puts (v0 : Value) (L : List (Int × Int)) (w : World) (e : Ending) (w' : World) : Prop :=
  ∃ v, e = .returned v ∧ Ow w' v L ∧ Mv (fun g => v0.ownBlock = some g) w w' ∧ ∀ g, v.ownBlock = some g → v0.ownBlock = some g ∨ w.heap.size ≤ g

set_option maxHeartbeats 1000000 in
set_option maxRecDepth 100000 in
theorem insert_end {w : World} {A B : Option Addr} {n c m cv : Nat} {L V : List (Int × Int)} (h : Ow w (.slice A n c) L) (hl : L.length = n) (hn : n ≤ 1000000) (hv : EV w B V) (hvl : V.length = m) (h0 : 0 < m) (hm : m ≤ 1000000) :
    Calls Try.prog 62 #[.slice A n c, .int .i64 (n : Int), .slice B m cv] w (Puts (.slice A n c) (L ++ V) w) := by
  obtain ⟨i0, hi, hz0, hz1, hz2⟩ := info_parts info_ext
  obtain ⟨ad, rfl, _, hsrc⟩ := hv.cells (by omega)
  have H := Lib.hid h
  have HL := Lib.hid hl
  have HV := Lib.hid hvl
  have HS := Lib.hid hsrc
  have HZ := Lib.hid (And.intro hi (And.intro hz0 (And.intro hz1 hz2)))
  have HO : Hid (w.ownsRow 0 49 2 (.slice A n c) n (fl L)) := Lib.hid (by have := h; unfold Ow at this; rwa [hl] at this)
  have g1 : ¬ ((m : Int) = 0) := by omega
  have hnc : n ≤ c := by
    obtain ⟨A', c', e, h1, _⟩ := h.ev
    injection e with _ _ e3
    omega
  clear h hl hv hvl hsrc hi hz0 hz1 hz2
  by_cases hA : c = n
  all_goals
    go_enter Try.func62, Try.ntmps62
    go_wp2_with (at_builtin; refine wpList_append_own_at _ rfl (.tmp 23) (.tmp 24) 23 rfl 0 49 i0 _ 2 16 Try.underlying23 HZ.out.1 HZ.out.2.1 HZ.out.2.2.1 HZ.out.2.2.2 rfl (by omega) _ n (fl L) rfl HO.out ad m cv (fl V) rfl (by rw [fl_len, HV.out]) HS.out (fun u hu => fl_cells u V hu) (by unfold maxLen; omega) (by omega) (Nat.zero_le _) ?_; intro v w1 hown hgrow hnn hat)
    go_ret
    refine ⟨v, rfl, ?_, grown_mv hgrow, fun g hg => ?_⟩
    · show World.ownsRow _ _ _ _ _ _ _
      rw [List.length_append, HL.out, HV.out, fl_app]; exact hown
    · rcases hat with h | h
      · rw [h] at hg; exact Or.inl hg
      · rw [h] at hg; injection hg with hg; exact Or.inr (Nat.le_of_eq hg)


theorem add_block (a : Addr) (j : Nat) : (a.add j).block = a.block := by unfold Addr.add; split <;> rfl
/-- Cells that were read there are read there still. -/
theorem news_on {w w' : World} {F : Nat → Prop} {ad : Addr} {cs : List Value} (hm : Mv F w w') (hl : ad.block < w.heap.size) (hF : ¬ F ad.block) (h : ∀ j u, cs[j]? = some u → w.cell? (ad.add j) = some u) : ∀ j u, cs[j]? = some u → w'.cell? (ad.add j) = some u := fun j u hj =>
  (World.cell?_of_block (a := ad.add j) (by rw [add_block]; exact hm.block _ hl hF)).trans (h j u hj)
theorem news_at {w w' : World} {ad : Addr} {cs : List Value} (hm : At w w') (hl : ad.block < w.heap.size) (h : ∀ j u, cs[j]? = some u → w.cell? (ad.add j) = some u) : ∀ j u, cs[j]? = some u → w'.cell? (ad.add j) = some u :=
  news_on (Mv.of_below (fun _ => False) hm) hl (fun h => h) h
theorem cut3 (Z : List Value) (a b : Nat) (h : a + b ≤ Z.length) : ∃ Z1 Z2 Z3, Z = Z1 ++ (Z2 ++ Z3) ∧ Z1.length = a ∧ Z2.length = b :=
  ⟨Z.take a, (Z.drop a).take b, (Z.drop a).drop b, by rw [List.take_append_drop, List.take_append_drop], by rw [List.length_take]; omega, by rw [List.length_take, List.length_drop]; omega⟩
theorem mv_drew {F : Nat → Prop} {w w' : World} (h : Mv F w.drew w') : Mv F w w' := ⟨h.os, h.tape, h.output, h.size, h.block⟩
theorem ow_of {w : World} {g c N : Nat} {P V Q : List (Int × Int)} {T : List Value} (hB : Bk w g ((fl P ++ fl V) ++ (fl Q ++ T))) (hN : (P ++ V ++ Q).length = N) (hc : N ≤ c) (hm : c ≤ maxLen) (hl : ((fl P ++ fl V) ++ (fl Q ++ T)).length = c * 2) : Ow w (.slice (some ⟨g, 0, none⟩) N c) (P ++ V ++ Q) := by
  subst hN
  have e : (fl P ++ fl V) ++ (fl Q ++ T) = fl (P ++ V ++ Q) ++ T := by rw [fl_app, fl_app, List.append_assoc, List.append_assoc, List.append_assoc]
  rw [e] at hB hl
  exact Ow.of_block hc hm hl hB
theorem min_le_sub {n m i : Nat} (hi : i ≤ n) : Nat.min m (n + m - i) = m := Nat.min_eq_left (by omega)

set_option maxHeartbeats 1000000 in
set_option maxRecDepth 100000 in
theorem insert_grow {w : World} {g n c m cv i : Nat} {B : Option Addr} {L V : List (Int × Int)} {T : List Value} (hg : Bk w g (fl L ++ T)) (hT : (fl L ++ T).length = c * 2) (hl : L.length = n) (hn : n ≤ 1000000) (hin : i < n) (hv : EV w B V) (hvl : V.length = m) (h0 : 0 < m) (hm : m ≤ 1000000) (hc : c < n + m) :
    Calls Try.prog 62 #[.slice (some ⟨g, 0, none⟩) n c, .int .i64 (i : Int), .slice B m cv] w (Puts (.slice (some ⟨g, 0, none⟩) n c) (L.take i ++ V ++ L.drop i) w) := by
  obtain ⟨ad, rfl, hbl, hsrc⟩ := hv.cells (by omega)
  obtain ⟨k, hk⟩ : ∃ k, k = n + m - i := ⟨_, rfl⟩
  have hk1 : (n : Int) + (m : Int) - (i : Int) = (k : Int) := by omega
  have hk2 : i + k = n + m := by omega
  have hsplit : fl L ++ T = fl (L.take i) ++ (fl (L.drop i) ++ T) := by rw [← List.append_assoc, ← fl_app, List.take_append_drop]
  have hx1 : (fl (L.take i)).length = i * 2 := by rw [fl_len, List.length_take]; omega
  have hx2 : (fl (L.drop i)).length = (n - i) * 2 := by rw [fl_len, List.length_drop]; omega
  have hnc : n ≤ c := by rw [List.length_append, fl_len] at hT; omega
  rw [hsplit] at hg
  have hd := hg.cells
  rw [hx1] at hd
  have hgl := hg.lt
  have HG := Lib.hid hg
  have HD := Lib.hid hd
  have HV := Lib.hid hvl
  have HS := Lib.hid hsrc
  have HX1 := Lib.hid hx1
  have HX2 := Lib.hid hx2
  have HK2 := Lib.hid hk2
  have HFL : Hid (fl (L.take i ++ V ++ L.drop i) = fl (L.take i) ++ (fl V ++ fl (L.drop i))) := Lib.hid (by rw [fl_app, fl_app, List.append_assoc])
  have HLL : Hid ((L.take i ++ V ++ L.drop i).length = i + k) := Lib.hid (by rw [List.length_append, List.length_append, List.length_take, List.length_drop]; omega)
  have g1 : ¬ ((m : Int) = 0) := by omega
  have g2 : ¬ ((i : Int) = (n : Int)) := by omega
  have g3 : (c : Int) < (n : Int) + (m : Int) := by omega
  have g4 : ¬ (c = i) := by omega
  clear hk hg hd hv hl hvl hsrc hx1 hx2 hT hsplit
  generalize hP : L.take i = P at *
  generalize hQ : L.drop i = Q at *
  clear hP hQ
  go_enter Try.func62, Try.ntmps62
  go_wp2_with (at_builtin; refine wpList_zeros rfl (.tmp 34) (.tmp 39) rfl g i c k rfl rfl (fl P) (fl Q ++ T) HG.out HX1.out (by omega) (by have := HK2.out; omega) (by have := HK2.out; omega) ?_; intro w1 G Z HB HBL hG1 hG2 HA)
  obtain ⟨Z1, Z2, Z3, hZ, hz1, hz2⟩ := cut3 Z (m * 2) ((n - i) * 2) (by have h1 := HBL.out; rw [List.length_append, HX1.out] at h1; have := HK2.out; omega)
  have HZ := Lib.hid hZ
  have HZ1 := Lib.hid hz1
  have HZ2 := Lib.hid hz2
  have g5 : ¬ (G = i) := by have := HK2.out; omega
  have g6 : ¬ (G = i + m) := by have := HK2.out; omega
  clear hZ hz1 hz2
  obtain ⟨w2, hr2, HB2, HM2⟩ := copy_run m w.heap.size (i * 2) (n + m - i) (G - i) ad m cv (fl P) Z1 (Z2 ++ Z3) (fl V) (by rw [← HZ.out]; exact HB.out) HX1.out.symm (min_le_sub (show i ≤ n by omega)) (by rw [fl_len, HV.out]) (by rw [fl_len, HV.out, HZ1.out]) (news_at HA.out hbl HS.out) (fun u hu => fl_cells u V hu)
  have HB3 : Hid (Bk w2 w.heap.size ((fl P ++ fl V) ++ (Z2 ++ Z3))) := Lib.hid (by rw [List.append_assoc]; exact HB2.out)
  have HD3 := Lib.hid (news_on (ad := ⟨g, i * 2, none⟩) HM2.out (Nat.lt_of_lt_of_le hgl HA.out.size) (show ¬ g = w.heap.size by omega) (news_at HA.out hgl HD.out))
  clear HB2 HB HD HG
  go_wp2_with fail
  rw [hr2]
  go_wp2_with fail
  have HK3 : Hid (Nat.min (n - i) (n + m - (i + m)) = n - i) := Lib.hid (Nat.min_eq_left (by omega))
  have HE : Hid (i * 2 + m * 2 = (i + m) * 2) := Lib.hid (by omega)
  have g7 : IntKind.i64.wrap ((i : Int) + (m : Int)) = (i : Int) + (m : Int) := IntWalk.i64_in _ (by omega)
  have g8 : (0 : Int) ≤ (i : Int) + (m : Int) := by omega
  have g9 : ((i : Int) + (m : Int)).toNat = i + m := by omega
  have g10 : (i : Int) + (m : Int) ≤ (n : Int) + (m : Int) := by omega
  have g11 : (0 : Int) ≤ (i : Int) := by omega
  have g12 : (i : Int) ≤ (n : Int) := by omega
  go_region_held3 (fun _ => True) (exact trivial)
    (first | (refine step_copy_two (by rfl) (.tmp 50) (.tmp 53) (by rfl) w.heap.size ((i + m) * 2) (n + m - (i + m)) (G - (i + m)) ⟨g, i * 2, none⟩ (n - i) (c - i) (by rfl) (by rfl) (fl P ++ fl V) Z2 Z3 (fl Q) (show Bk w2.drew w.heap.size (fl P ++ fl V ++ (Z2 ++ Z3)) from HB3.out) (by rw [List.length_append, HX1.out, fl_len, HV.out]; exact HE.out.symm) (by rw [HX2.out, HK3.out]) (by rw [HX2.out, HZ2.out]) HD3.out (fun u hu => fl_cells u Q hu) ?_; intro w3 HB4 HM4))
  clear g7 g8 g9 g10 g11 g12
  go_wp2
  go_ret
  refine ⟨_, rfl, ow_of HB4.out (HLL.out.trans HK2.out) (by have := HK2.out; omega) hG2 ?_, ?_, fun g' hg' => ?_⟩
  · have h1 := HBL.out
    rw [HZ.out] at h1
    simp only [List.length_append, HX1.out, HX2.out, HZ1.out, HZ2.out, fl_len, HV.out] at h1 ⊢
    omega
  · exact (Mv.of_below _ (HA.out)).trans (HM2.out.trans (mv_drew HM4.out) (fun _ => Or.inl)) (fun g h => Or.inr (by rw [h]; exact Nat.le_refl _))
  · injection hg' with hg'
    exact Or.inr (by rw [← hg']; exact Nat.le_refl _)


/-- Two rows in two blocks do not overlap. -/
theorem overlaps_no {w : World} {ga gb oa ob la ca lb cb : Nat} {xa xb : List Value} (ha : Bk w ga xa) (hb : Bk w gb xb) (hne : ga ≠ gb) (hx : xb ≠ []) :
    (callFunc 63 #[.slice (some ⟨ga, oa, none⟩) la ca, .slice (some ⟨gb, ob, none⟩) lb cb]).run Try.prog w = .ok (.value (.bool false)) w := by
  have hs : ∀ w, (sizeOf 49).run Try.prog w = .ok 2 w := fun w => by
    obtain ⟨i, hi, _, hz, _⟩ := info_parts info_ext
    simp [sizeOf, typeInfo, hi, hz]
  have ha : w.heap[ga]? = some (.cells xa.toArray 49 (0, 0)) := ha
  have hb : w.heap[gb]? = some (.cells xb.toArray 49 (0, 0)) := hb
  rw [run_callFunc_extern Try.func63 (by kernel_rfl) (by kernel_rfl) (by kernel_rfl) (e := Extern.SlicesOverlaps.overlaps #[23, 23] #[4]) (by kernel_rfl),
    Lib.run_overlaps_apart w 23 4 49 Try.underlying23 2 hs ⟨ga, oa, none⟩ ⟨gb, ob, none⟩ la ca lb cb hne 49 49 xa.length xb.length
      (by simp [World.shape?, ha]) (by simp [World.shape?, hb]) (fun h => hx (List.eq_nil_of_length_eq_zero h)) (free_at ha _) (free_at ha _)]
  rfl

set_option maxHeartbeats 1000000 in
set_option maxRecDepth 100000 in
theorem insert_shift {w : World} {g gv n c m cv i : Nat} {L V : List (Int × Int)} {T TV : List Value} (hg : Bk w g (fl L ++ T)) (hT : (fl L ++ T).length = c * 2) (hcm : c ≤ maxLen) (hl : L.length = n) (hn : n ≤ 1000000) (hin : i < n) (hv : Bk w gv (fl V ++ TV)) (hne : gv ≠ g) (hvl : V.length = m) (h0 : 0 < m) (hm : m ≤ 1000000) (hc : n + m ≤ c) :
    Calls Try.prog 62 #[.slice (some ⟨g, 0, none⟩) n c, .int .i64 (i : Int), .slice (some ⟨gv, 0, none⟩) m cv] w (Puts (.slice (some ⟨g, 0, none⟩) n c) (L.take i ++ V ++ L.drop i) w) := by
  have hx1 : (fl (L.take i)).length = i * 2 := by rw [fl_len, List.length_take]; omega
  have hx2 : (fl (L.drop i)).length = (n - i) * 2 := by rw [fl_len, List.length_drop]; omega
  have hN : (L.take i ++ V ++ L.drop i).length = n + m := by rw [List.length_append, List.length_append, List.length_take, List.length_drop]; omega
  have hov := fun la ca lb cb oa ob => overlaps_no (la := la) (ca := ca) (lb := lb) (cb := cb) (oa := oa) (ob := ob) hv hg hne (by intro e; rw [e] at hT; simp at hT; omega)
  have hsrcV : ∀ j u, (fl V)[j]? = some u → w.cell? ((⟨gv, 0, none⟩ : Addr).add j) = some u := Bk.cells (x := []) (z := TV) hv
  have hsplit : fl L ++ T = fl (L.take i) ++ (fl (L.drop i) ++ T) := by rw [← List.append_assoc, ← fl_app, List.take_append_drop]
  rw [hsplit] at hg hT
  have hd := hg.cells
  rw [hx1] at hd
  obtain ⟨Z1, Z2, Z3, hZ, hz1, hz2⟩ := cut3 (fl (L.drop i) ++ T) (m * 2) ((n - i) * 2) (by rw [List.length_append, hx1] at hT; omega)
  rw [hZ] at hg hT
  have hgl := hv.lt
  have HG : Hid (Bk w g ((fl (L.take i) ++ Z1) ++ (Z2 ++ Z3))) := Lib.hid (by rw [List.append_assoc]; exact hg)
  have HD := Lib.hid hd
  have HT := Lib.hid hT
  have HV := Lib.hid hvl
  have HS := Lib.hid hsrcV
  have HX1 := Lib.hid hx1
  have HX2 := Lib.hid hx2
  have HZ1 := Lib.hid hz1
  have HZ2 := Lib.hid hz2
  have HN := Lib.hid hN
  have g1 : ¬ ((m : Int) = 0) := by omega
  have g2 : ¬ ((i : Int) = (n : Int)) := by omega
  have g3 : ¬ ((c : Int) < (n : Int) + (m : Int)) := by omega
  have g4 : ¬ (c = i) := by omega
  have g5 : ¬ (c = i + m) := by omega
  unfold maxLen at hcm
  clear hg hd hv hl hvl hsrcV hx1 hx2 hT hsplit hZ hz1 hz2 hN
  generalize hP : L.take i = P at *
  generalize hQ : L.drop i = Q at *
  clear hP hQ
  have HK3 : Hid (Nat.min (n + m - i) (n + m - (i + m)) = n - i) := Lib.hid ((Nat.min_eq_right (by omega)).trans (by omega))
  have HE : Hid (i * 2 + m * 2 = (i + m) * 2) := Lib.hid (by omega)
  have g7 : IntKind.i64.wrap ((i : Int) + (m : Int)) = (i : Int) + (m : Int) := IntWalk.i64_in _ (by omega)
  have g8 : (0 : Int) ≤ (i : Int) + (m : Int) := by omega
  have g9 : ((i : Int) + (m : Int)).toNat = i + m := by omega
  have g10 : (i : Int) + (m : Int) ≤ (n : Int) + (m : Int) := by omega
  have g11 : (0 : Int) ≤ (i : Int) := by omega
  have g12 : (i : Int) ≤ (n : Int) := by omega
  have g13 : (i : Int) ≤ (n : Int) + (m : Int) := by omega
  go_enter Try.func62, Try.ntmps62
  go_wp2_with (simp only [hov])
  clear hov
  go_region_held3 (fun _ => True) (exact trivial)
    (first | (refine step_copy_two (by rfl) (.tmp 73) (.tmp 76) (by rfl) g ((i + m) * 2) (n + m - (i + m)) (c - (i + m)) ⟨g, i * 2, none⟩ (n + m - i) (c - i) (by rfl) (by rfl) (fl P ++ Z1) Z2 Z3 (fl Q) (show Bk w.drew g (fl P ++ Z1 ++ (Z2 ++ Z3)) from HG.out) (by rw [List.length_append, HX1.out, HZ1.out]; exact HE.out.symm) (by rw [HX2.out, HK3.out]) (by rw [HX2.out, HZ2.out]) HD.out (fun u hu => fl_cells u Q hu) ?_; intro w2 HB2 HM2))
  clear g7 g8 g9 g10
  obtain ⟨w3, hr3, HB3, HM3⟩ := copy_run m g (i * 2) (n + m - i) (c - i) ⟨gv, 0, none⟩ m cv (fl P) Z1 (fl Q ++ Z3) (fl V) (by rw [← List.append_assoc]; exact HB2.out) HX1.out.symm (min_le_sub (show i ≤ n by omega)) (by rw [fl_len, HV.out]) (by rw [fl_len, HV.out, HZ1.out]) (news_on (ad := ⟨gv, 0, none⟩) (mv_drew HM2.out) hgl (show ¬ gv = g from hne) HS.out) (fun u hu => fl_cells u V hu)
  go_wp2_with fail
  go_ret
  refine ⟨_, rfl, ow_of (by rw [List.append_assoc]; exact HB3.out) HN.out hc (by unfold maxLen; omega) ?_, ?_, fun g' hg' => Or.inl hg'⟩
  · have h1 := HT.out
    simp only [List.length_append, HX1.out, HX2.out, HZ1.out, HZ2.out, fl_len, HV.out] at h1 ⊢
    omega
  · exact ((mv_drew HM2.out).trans HM3.out (fun _ => Or.inl)).more (fun k hk => Or.inl (by rw [hk]; rfl))

end Go.Proofs.Ytcffoebpgjonmaa.Iv

namespace Go.Proofs.Ytcffoebpgjonmaa.Iv
open Go.RowKit

theorem insert_any {w : World} {A B : Option Addr} {n c m cv i : Nat} {L V : List (Int × Int)} (h : Ow w (.slice A n c) L) (hv : Ow w (.slice B m cv) V) (hap : ∀ g, (Value.slice A n c).ownBlock = some g → (Value.slice B m cv).ownBlock ≠ some g)
    (hl : L.length = n) (hvl : V.length = m) (hin : i ≤ n) (hn : n ≤ 1000000) (h0 : 0 < m) (hm : m ≤ 1000000) :
    Calls Try.prog 62 #[.slice A n c, .int .i64 (i : Int), .slice B m cv] w (Puts (.slice A n c) (L.take i ++ V ++ L.drop i) w) := by
  have hev : EV w B V := by
    obtain ⟨B', c', e, _, _, h'⟩ := hv.ev
    injection e with e1 _ _
    rw [e1]; exact h'
  by_cases hi : i = n
  · subst hi
    have := insert_end (cv := cv) h hl hn hev hvl h0 hm
    rwa [← hl, List.take_length, List.drop_length, List.append_nil, hl]
  · rcases h.form with ⟨h1, rfl⟩ | ⟨g, c', T, h1, hc1, hc2, hT, hg⟩
    · rw [List.length_nil] at hl; omega
    · injection h1 with e1 _ e3
      subst e1 e3
      by_cases hc : n + m ≤ c
      · rcases hv.form with ⟨_, rfl⟩ | ⟨gv, cv', TV, h2, _, _, _, hgv⟩
        · rw [List.length_nil] at hvl; omega
        · injection h2 with e4 _ e6
          subst e4 e6
          exact insert_shift hg hT hc2 hl hn (by omega) hgv (fun e => hap g rfl (by rw [← e]; rfl)) hvl h0 hm hc
      · exact insert_grow (cv := cv) hg hT hl hn (by omega) hev hvl h0 hm (by omega)

theorem cut_at {L : List (Int × Int)} {i j : Nat} (h : i ≤ j) : fl L = fl (L.take i) ++ (fl ((L.take j).drop i) ++ fl (L.drop j)) := by
  have e : L.take i = (L.take j).take i := by rw [List.take_take, Nat.min_eq_left h]
  rw [e, ← List.append_assoc, ← fl_app, List.take_append_drop, ← fl_app, List.take_append_drop]

set_option maxHeartbeats 1000000 in
set_option maxRecDepth 100000 in
/-- No room: a new row. -/
theorem replace_grow {w : World} {g n c m cv i j d : Nat} {B : Option Addr} {L V : List (Int × Int)} {T : List Value} (hg : Bk w g (fl L ++ T)) (hT : (fl L ++ T).length = c * 2) (hl : L.length = n) (hn : n ≤ 1000000) (hij : i < j) (hjn : j < n) (hd : n - j = d) (hv : EV w B V) (hvl : V.length = m) (h0 : 0 < m) (hm : m ≤ 1000000) (hc : c < i + m + d) :
    Calls Try.prog 45 #[.slice (some ⟨g, 0, none⟩) n c, .int .i64 (i : Int), .int .i64 (j : Int), .slice B m cv] w (Puts (.slice (some ⟨g, 0, none⟩) n c) (L.take i ++ V ++ L.drop j) w) := by
  obtain ⟨ad, rfl, hbl, hsrc⟩ := hv.cells (by omega)
  obtain ⟨k, hk⟩ : ∃ k, k = m + d := ⟨_, rfl⟩
  have hk1 : (i : Int) + (m : Int) + (d : Int) - (i : Int) = (k : Int) := by omega
  have hk2 : i + k = i + m + d := by omega
  have hsplit : fl L ++ T = fl (L.take i) ++ ((fl ((L.take j).drop i) ++ fl (L.drop j)) ++ T) := by rw [cut_at (Nat.le_of_lt hij), List.append_assoc]
  have hx1 : (fl (L.take i)).length = i * 2 := by rw [fl_len, List.length_take]; omega
  have hx2 : (fl (L.drop j)).length = d * 2 := by rw [fl_len, List.length_drop]; omega
  have hx3 : (fl ((L.take j).drop i)).length = (j - i) * 2 := by rw [fl_len, List.length_drop, List.length_take]; omega
  have hnc : n ≤ c := by rw [List.length_append, fl_len] at hT; omega
  rw [hsplit] at hg
  have hdd : ∀ t u, (fl (L.drop j))[t]? = some u → w.cell? ((⟨g, j * 2, none⟩ : Addr).add t) = some u := by
    have h1 : Bk w g ((fl (L.take i) ++ fl ((L.take j).drop i)) ++ (fl (L.drop j) ++ T)) := by rw [List.append_assoc, ← List.append_assoc (fl ((L.take j).drop i))]; exact hg
    have h2 := h1.cells
    rwa [List.length_append, hx1, hx3, show i * 2 + (j - i) * 2 = j * 2 by omega] at h2
  have hgl := hg.lt
  have HG := Lib.hid hg
  have HD := Lib.hid hdd
  have HV := Lib.hid hvl
  have HS := Lib.hid hsrc
  have HX1 := Lib.hid hx1
  have HX2 := Lib.hid hx2
  have HK2 := Lib.hid hk2
  have HLL : Hid ((L.take i ++ V ++ L.drop j).length = i + m + d) := Lib.hid (by rw [List.length_append, List.length_append, List.length_take, List.length_drop]; omega)
  have g1 : ¬ ((i : Int) = (j : Int)) := by omega
  have g2 : ¬ ((j : Int) = (n : Int)) := by omega
  have g3 : (c : Int) < (i : Int) + (m : Int) + (d : Int) := by omega
  have g4 : ¬ (c = i) := by omega
  have g5 : ¬ (c = j) := by omega
  have hdi : ((n : Int) - (j : Int)) = (d : Int) := by omega
  have b1 : (0 : Int) ≤ (i : Int) := by omega
  have b2 : (i : Int) ≤ (j : Int) := by omega
  have b3 : (j : Int) ≤ (c : Int) := by omega
  have b4 : (j : Int) ≤ (n : Int) := by omega
  have b5 : (i : Int) ≤ (c : Int) := by omega
  have b6 : (0 : Int) ≤ (j : Int) := by omega
  have b7 : IntKind.i64.wrap ((i : Int) + (m : Int)) = (i : Int) + (m : Int) := IntWalk.i64_in _ (by omega)
  have b8 : IntKind.i64.wrap ((i : Int) + (m : Int) + (d : Int)) = (i : Int) + (m : Int) + (d : Int) := IntWalk.i64_in _ (by omega)
  clear hk hg hdd hv hl hvl hsrc hx1 hx2 hx3 hT hsplit
  generalize hP : L.take i = P at *
  generalize hQ : L.drop j = Q at *
  clear hP hQ
  go_enter Try.func45, Try.ntmps45
  go_wp2_with fail
  go_quiet (fail)
  have HG0 : Hid (Bk (w.drewN nq) g (fl P ++ ((fl ((L.take j).drop i) ++ fl Q) ++ T))) := Lib.hid HG.out
  go_wp2_with (at_builtin; refine wpList_zeros rfl (.tmp 63) (.tmp 66) rfl g i c k rfl rfl (fl P) _ HG0.out HX1.out (by omega) (by omega) (by omega) ?_; intro w1 G Z HB HBL hG1 hG2 HA)
  have HBB : Hid (Bk w1 w.heap.size (fl P ++ Z)) := Lib.hid HB.out
  have HAA : Hid (At w w1) := Lib.hid (((At.start w).drewN nq).trans HA.out)
  clear HB HA HG0 HG
  obtain ⟨Z1, Z2, Z3, hZ, hz1, hz2⟩ := cut3 Z (m * 2) (d * 2) (by have h1 := HBL.out; rw [List.length_append, HX1.out] at h1; omega)
  have HZ := Lib.hid hZ
  have HZ1 := Lib.hid hz1
  have HZ2 := Lib.hid hz2
  have g6 : ¬ (G = i) := by omega
  have g7 : ¬ (G = i + m) := by omega
  clear hZ hz1 hz2
  obtain ⟨w2, hr2, HB2, HM2⟩ := copy_run m w.heap.size (i * 2) (i + m + d - i) (G - i) ad m cv (fl P) Z1 (Z2 ++ Z3) (fl V) (by rw [← HZ.out]; exact HBB.out) HX1.out.symm (Nat.min_eq_left (by omega)) (by rw [fl_len, HV.out]) (by rw [fl_len, HV.out, HZ1.out]) (news_at HAA.out hbl HS.out) (fun u hu => fl_cells u V hu)
  have HB3 : Hid (Bk w2 w.heap.size ((fl P ++ fl V) ++ (Z2 ++ Z3))) := Lib.hid (by rw [List.append_assoc]; exact HB2.out)
  have HD3 := Lib.hid (news_on (ad := ⟨g, j * 2, none⟩) HM2.out (Nat.lt_of_lt_of_le hgl HAA.out.size) (show ¬ g = w.heap.size by omega) (news_at HAA.out hgl HD.out))
  clear HB2 HBB HD
  go_wp2_with fail
  rw [hr2]
  go_wp2_with fail
  have HK3 : Hid (Nat.min d d = d) := Lib.hid (Nat.min_self d)
  have HE : Hid (i * 2 + m * 2 = (i + m) * 2) := Lib.hid (by omega)
  have g8 : (0 : Int) ≤ (i : Int) + (m : Int) := by omega
  have g9 : ((i : Int) + (m : Int)).toNat = i + m := by omega
  have g10 : (i : Int) + (m : Int) ≤ (i : Int) + (m : Int) + (d : Int) := by omega
  go_region_held3 (fun _ => True) (exact trivial)
    (first | (refine step_copy_two (by rfl) (.tmp 78) (.tmp 81) (by rfl) w.heap.size ((i + m) * 2) d (G - (i + m)) ⟨g, j * 2, none⟩ d (c - j) (by rfl) (by rfl) (fl P ++ fl V) Z2 Z3 (fl Q) (show Bk w2.drew w.heap.size (fl P ++ fl V ++ (Z2 ++ Z3)) from HB3.out) (by rw [List.length_append, HX1.out, fl_len, HV.out]; exact HE.out.symm) (by rw [HX2.out, HK3.out]) (by rw [HX2.out, HZ2.out]) HD3.out (fun u hu => fl_cells u Q hu) ?_; intro w3 HB4 HM4))
  clear g8 g9 g10
  go_wp2
  go_ret
  refine ⟨_, rfl, ow_of HB4.out HLL.out (by omega) hG2 ?_, ?_, fun g' hg' => ?_⟩
  · have h1 := HBL.out
    rw [HZ.out] at h1
    simp only [List.length_append, HX1.out, HX2.out, HZ1.out, HZ2.out, fl_len, HV.out] at h1 ⊢
    omega
  · exact (Mv.of_below _ (HAA.out)).trans (HM2.out.trans (mv_drew HM4.out) (fun _ => Or.inl)) (fun g h => Or.inr (by rw [h]; exact Nat.le_refl _))
  · injection hg' with hg'
    exact Or.inr (by rw [← hg']; exact Nat.le_refl _)

end Go.Proofs.Ytcffoebpgjonmaa.Iv
