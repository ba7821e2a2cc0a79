/- Proved: words for a set in memory; a new one; what one tells of its blocks.
the library's sort of extents by their beginnings: the row holds them all, in the order in which they begin.
the library's sort of no extents does nothing.
merge lays the blocks of extents in rows that rise and do not touch, in memory of its own. -/
import Derived.Test.YtcffoebpgjonmaaIIn
import Derived.Test.YtcffoebpgjonmaaIPu
import Derived.Test.YtcffoebpgjonmaaShelf
import Derived.Deep.RegionHeld3
import Derived.Deep.DrawnRows
import Derived.Deep.RegionLaw
import Derived.RegionTactic
import Derived.BigRegion
namespace Go.Proofs.Ytcffoebpgjonmaa.Iv
open Go.RowKit

/-- The blocks of memory in which a set lies: its struct's and its row's. -/
def Ft (b : Nat) (v : Value) (g : Nat) : Prop := g = b ∨ v.ownBlock = some g
/-- A set at b: its row v, so many extents at most, L its extents. -/
structure Sv (w : World) (b : Nat) (v : Value) (most : Int) (L : List (Int × Int)) : Prop where
  box : w.heap[b]? = some (.cells #[v, .int .i64 most] 88 (0, 0))
  row : Ow w v L
  nm : Nm L
theorem Sv.lt {w : World} {b : Nat} {v : Value} {most : Int} {L : List (Int × Int)} (h : Sv w b v most L) : ∀ g, Ft b v g → g < w.heap.size := by
  rintro g (rfl | hg)
  · exact lt_heap h.box
  · exact h.row.lt hg
theorem Sv.apart {w : World} {b : Nat} {v : Value} {most : Int} {L : List (Int × Int)} (h : Sv w b v most L) : v.ownBlock ≠ some b := by
  intro e
  rcases h.row.form with ⟨rfl, _⟩ | ⟨g, c, T, rfl, _, _, _, hg⟩
  · cases e
  · injection e with e
    exact cells_ne hg h.box (by decide) e
theorem Sv.keep {w w' : World} {b : Nat} {v : Value} {most : Int} {L : List (Int × Int)} {F : Nat → Prop} (h : Sv w b v most L) (hm : Mv F w w') (hF : ∀ g, Ft b v g → ¬ F g) : Sv w' b v most L :=
  ⟨hm.keep h.box (hF b (Or.inl rfl)), h.row.mv hm (fun g hg => hF g (Or.inr hg)), h.nm⟩
theorem Sv.on {w w' : World} {b : Nat} {v : Value} {most : Int} {L : List (Int × Int)} (h : Sv w b v most L) (hm : At w w') : Sv w' b v most L :=
  h.keep (Mv.of_below (fun _ => False) hm) (fun _ _ h => h)
theorem Sv.cells {w : World} {b : Nat} {v : Value} {most : Int} {L : List (Int × Int)} (h : Sv w b v most L) : w.cell? ⟨b, 0, none⟩ = some v ∧ w.cell? ⟨b, 1, none⟩ = some (.int .i64 most) ∧ w.frozen? ⟨b, 0, none⟩ = false :=
  ⟨by rw [cell_at h.box]; rfl, by rw [cell_at h.box]; rfl, free_at h.box 0⟩

/-- A set that is made. -/
def News (most : Int) (w : World) (e : Ending) (w' : World) : Prop := e = .returned (.pointer (some ⟨w.heap.size, 0, none⟩)) ∧ Sv w' w.heap.size (.slice none 0 0) most [] ∧ At w w'
set_option maxHeartbeats 400000 in
theorem new_any (most : Int) (w : World) : Calls Try.prog 26 #[.int .i64 most] w (News most w) := by
  have HN : Hid (Sv (w.alloc (.cells #[.slice none 0 0, .int .i64 most] 88)) w.heap.size (.slice none 0 0) most []) := Lib.hid ⟨heap_alloc_new w _, Ow.nil _, Nm.nil⟩
  have HB : Hid (At w (w.alloc (.cells #[.slice none 0 0, .int .i64 most] 88))) := Lib.hid ((At.start w).alloc _)
  go_enter Try.func26, Try.ntmps26
  go_wp2
  go_ret
  exact ⟨rfl, HN.out, HB.out⟩

theorem list_nil (w : World) : Calls Try.prog 50 #[.pointer none] w fun e w' => e = .returned (.slice none 0 0) ∧ w = w' := by
  go_enter Try.func50, Try.ntmps50
  go_wp2
  go_ret
  exact ⟨rfl, rfl⟩
theorem list_any {w : World} {b : Nat} {v : Value} {most : Int} {L : List (Int × Int)} (h : Sv w b v most L) : Calls Try.prog 50 #[.pointer (some ⟨b, 0, none⟩)] w fun e w' => e = .returned v ∧ w = w' := by
  obtain ⟨c0, -, -⟩ := h.cells
  clear h
  go_enter Try.func50, Try.ntmps50
  go_wp2
  go_ret
  exact ⟨rfl, rfl⟩

/-- Whether an extent has a block of L. -/
def shB (L : List (Int × Int)) (a n : Int) : Bool := L.any fun y => decide (y.1 < a + n ∧ a < y.1 + y.2)
theorem sh_iff {L : List (Int × Int)} {a n : Int} (hL : ∀ e ∈ L, Vm e) (hn : 1 ≤ n) : shB L a n = true ↔ ∃ x, In [(a, n)] x ∧ In L x := by
  unfold shB
  rw [List.any_eq_true]
  constructor
  · rintro ⟨y, hy, h⟩
    have h := of_decide_eq_true h
    have v := hL y hy
    unfold Vm at v
    exact ⟨max a y.1, (in_one _ _).2 ⟨by simp only; omega, by simp only; omega⟩, y, hy, by omega, by omega⟩
  · rintro ⟨x, hx, y, hy, h1, h2⟩
    have h := (in_one _ _).1 hx
    simp only at h
    exact ⟨y, hy, decide_eq_true ⟨by omega, by omega⟩⟩
theorem sh_find {L : List (Int × Int)} (hL : Nm L) {a n : Int} {k : Nat} (hn : 1 ≤ n) (hf : Fd (pe L (a + 1)) L.length k) : shB L a n = true ↔ (k < L.length ∧ (L.getD k (0, 0)).1 < a + n) :=
  (sh_iff hL.1 hn).trans (meets_iff hL (e := (a, n)) hn hf).symm
theorem shB_nil (a n : Int) : shB [] a n = false := rfl

end Go.Proofs.Ytcffoebpgjonmaa.Iv

namespace Go.Proofs.Ytcffoebpgjonmaa.Iv
open Go.RowKit Go.Sort

/-- Which of two numbers is less. -/
def cI (x y : Int) : Int := if x < y then -1 else if y < x then 1 else 0
set_option maxHeartbeats 400000 in
theorem compare_any (x y : Int) (w : World) : Calls Try.prog 58 #[.int .i64 x, .int .i64 y] w fun e w' => e = .returned (.int .i64 (cI x y)) ∧ w = w' := by
  rcases Int.lt_trichotomy x y with h | h | h
  · have hc : cI x y = -1 := by unfold cI; rw [if_pos h]
    have HC := Lib.hid hc
    clear hc
    go_enter Try.func58, Try.ntmps58
    go_wp2
    go_ret
    exact ⟨by rw [HC.out]; rfl, rfl⟩
  · subst h
    have hc : cI x x = 0 := by unfold cI; rw [if_neg (by omega), if_neg (by omega)]
    have HC := Lib.hid hc
    clear hc
    go_enter Try.func58, Try.ntmps58
    go_wp2
    go_ret
    exact ⟨by rw [HC.out]; rfl, rfl⟩
  · have hc : cI x y = 1 := by unfold cI; rw [if_neg (by omega), if_pos h]
    have HC := Lib.hid hc
    have hn : decide (x < y) = false := decide_eq_false (by omega)
    clear hc
    go_enter Try.func58, Try.ntmps58
    go_wp2
    go_ret
    exact ⟨by rw [HC.out]; rfl, rfl⟩

set_option maxHeartbeats 400000 in
theorem closure_any (x y : Int × Int) (W : World) : Calls Try.prog 57 #[.agg #[.int .i64 x.1, .int .i64 x.2], .agg #[.int .i64 y.1, .int .i64 y.2]] W fun e w' => e = .returned (.int .i64 (cI x.1 y.1)) ∧ ∃ q os', w' = grow (W.drewN q) os' := by
  go_enter Try.func57, Try.ntmps57
  go_wp2_with (go_at_call 58; refine (compare_any _ _ _).mono ?_; rintro e w' ⟨rfl, rfl⟩)
  go_ret
  exact ⟨rfl, 0, _, by rw [alloc_eq_grow, alloc_eq_grow, grow_grow]; rfl⟩
theorem lt_cI (x y : Int × Int) : ltOf (fun x y : Int × Int => cI x.1 y.1) x y = decide (x.1 < y.1) := by
  unfold ltOf cI
  by_cases h1 : x.1 < y.1
  · simp [h1]
  · by_cases h2 : y.1 < x.1 <;> simp [h1, h2]
theorem swo_cI : SWO (ltOf fun x y : Int × Int => cI x.1 y.1) where
  irrefl x := by rw [lt_cI]; simp
  trans x y z h1 h2 := by rw [lt_cI] at *; simp at *; omega
  ntrans x y z h1 h2 := by rw [lt_cI] at *; simp at *; omega

theorem flat_fl (L : List (Int × Int)) : flatK ec 2 L.toArray = (fl L).toArray := by
  refine ext_get! (by simp [fl_len]) fun t ht => ?_
  have ht' : t < L.length * 2 := by simpa using ht
  have hk : t / 2 < L.length := by omega
  rw [get_flatK _ _ _ _ (by simpa using ht')]
  have e : L.toArray[t / 2]! = L.getD (t / 2) (0, 0) := by
    rw [getElem!_pos _ _ (by simpa using hk), List.getD_eq_getElem?_getD, List.getElem?_eq_getElem hk]; rfl
  rw [e]
  have hl : t < (fl L).toArray.size := by simp [fl_len]; omega
  rw [getElem!_pos (fl L).toArray t hl]
  by_cases h2 : t % 2 = 0
  · have := fl_fst L (t / 2) hk
    rw [show t / 2 * 2 = t by omega] at this
    rw [h2]
    have e2 : (fl L).toArray[t] = .int .i64 (L.getD (t / 2) (0, 0)).1 := by
      have h3 := (List.getElem?_eq_some_iff.1 this).2
      simpa using h3
    rw [e2]; rfl
  · have h2' : t % 2 = 1 := by omega
    have := fl_snd L (t / 2) hk
    rw [show t / 2 * 2 + 1 = t by omega] at this
    rw [h2']
    have e2 : (fl L).toArray[t] = .int .i64 (L.getD (t / 2) (0, 0)).2 := by
      have h3 := (List.getElem?_eq_some_iff.1 this).2
      simpa using h3
    rw [e2]; rfl
theorem put_fl (L S : List (Int × Int)) (T : List Value) (h : S.length = L.length) : putCells id 0 (fl S).toArray (fl L ++ T).toArray = (fl S ++ T).toArray := by
  have hl : (fl L).length = (fl S).length := by rw [fl_len, fl_len, h]
  apply Array.ext (by simp [putCells, hl])
  intro k h1 h2
  simp only [putCells, Array.getElem_mapIdx, List.getElem_toArray, List.size_toArray]
  by_cases hk : k < (fl S).length
  · rw [if_pos ⟨Nat.zero_le _, by omega⟩, List.getElem_append_left hk, getElem!_pos _ _ (by simpa using hk)]; simp
  · rw [if_neg (by omega), List.getElem_append_right (by omega), List.getElem_append_right (by omega)]
    congr 1; omega

/-- A sort leaves the row so. -/
def Sorts (g : Nat) (L : List (Int × Int)) (T : List Value) (w : World) (e : Ending) (w' : World) : Prop :=
  ∃ S : List (Int × Int), S.Perm L ∧ S.Pairwise (fun a b => a.1 ≤ b.1) ∧ e = .returned (.tuple #[]) ∧ Bk w' g (fl S ++ T) ∧ Mv (fun k => k = g) w w'

theorem sort_any {w : World} {g n c : Nat} {L : List (Int × Int)} {T : List Value} (hg : Bk w g (fl L ++ T)) (hl : L.length = n) (hn : n ≤ 1000000) :
    Calls Try.prog 56 #[.slice (some ⟨g, 0, none⟩) n c, .func (.func 57) #[] #[]] w (Sorts g L T w) := by
  have eg : ∀ args w, (callFunc 57 args).run Try.prog w = .ok (.enter 57 args) w := enters_of Try.func57 (by kernel_rfl) rfl
  have hb : w.heap[g]? = some (.cells (fl L ++ T).toArray 49 (0, 0)) := hg
  have hH : HoldsK ec 2 w g 0 L.toArray := by
    intro j hj
    rw [flat_fl] at hj ⊢
    have hj' : j < (fl L).length := by simpa using hj
    refine ⟨?_, free_at hb _⟩
    rw [cell_at hb, List.getElem?_toArray, Nat.zero_add, List.getElem?_append_left hj', List.getElem?_eq_getElem hj', getElem!_pos (fl L).toArray j hj]
    simp
  have hcon := AnyQ.slices_SortFunc Try.sortE 2 Try.isAgg49 Try.sizeOf49 ec (fun _ => rfl) (fun x v hv => by simp [ec] at hv; rcases hv with rfl | rfl <;> rfl) (fun x y => cI x.1 y.1) swo_cI 57 #[] g 0 c L.toArray w eg (fun _ _ _ _ x y => closure_any x y _) hH hg.lt (by simp; omega)
  have hsz : L.toArray.size = n := by simpa using hl
  rw [hsz] at hcon
  change Calls Try.prog 56 _ _ _ at hcon
  refine hcon.mono ?_
  rintro e w' ⟨rfl, d', m, os, hp, hs, rfl⟩
  have hd : d' = d'.toList.toArray := by simp
  have hlen : d'.toList.length = L.length := by have := hp.1; simpa using this
  refine ⟨d'.toList, ?_, ?_, rfl, ?_, ?_⟩
  · have := hp.2.2
    rw [Array.toList_extract, Array.toList_extract, List.extract_eq_take_drop, List.extract_eq_take_drop, List.drop_zero, List.drop_zero, Nat.sub_zero, List.take_of_length_le (by rw [hlen, ← hl]; simp), List.take_of_length_le (by simp; omega)] at this
    exact this
  · refine List.pairwise_iff_getElem.2 fun i j hi hj hij => ?_
    have := hs i j (Nat.zero_le _) hij (by rw [← hl, ← hlen]; exact hj)
    rw [lt_cI, getElem!_pos d' j (by simpa using hj), getElem!_pos d' i (by simpa using hi)] at this
    have := of_decide_eq_false this
    simp only [Array.getElem_toList]
    omega
  · show (grow (putRowK ec 2 (Sort.ahead w m) g 0 d') os).heap[g]? = _
    have hlt : g < w.heap.size := hg.lt
    have h1 : (grow (putRowK ec 2 (Sort.ahead w m) g 0 d') os).heap[g]? = (w.heap.modify g (onCells (putCells id 0 (flatK ec 2 d'))))[g]? := by
      show ((w.heap.modify g _) ++ os)[g]? = _
      rw [Array.getElem?_append_left (by simpa using hlt)]
    rw [h1, Array.getElem?_modify, if_pos rfl, hb]
    rw [hd, flat_fl, Option.map_some]
    show some (Obj.cells (putCells id 0 (fl d'.toList).toArray (fl L ++ T).toArray) _ _) = _
    rw [put_fl L d'.toList T hlen]
  · refine ⟨rfl, rfl, rfl, ?_, fun k hk hne => ?_⟩
    · simp [sortWorldK, putRowK]
    · show ((w.heap.modify g _) ++ os)[k]? = _
      rw [Array.getElem?_append_left (by simpa using hk), Array.getElem?_modify, if_neg (fun e => hne e.symm)]

end Go.Proofs.Ytcffoebpgjonmaa.Iv

namespace Go.Proofs.Ytcffoebpgjonmaa.Iv
open Go.RowKit Go.Sort

theorem len_any (w : World) : Calls Try.prog 70 #[.int .u64 0] w fun e w' => (∃ l : Nat, e = .returned (.int .i64 (l : Int))) ∧ w = w' := by
  have h := Any.bits_Len (SlLaysF0.n15.bits (P := Try.prog) (ρ := Try.sortE_ren) { Try.sortE with }) (0 : Int) w (by omega) (by omega)
  change Calls Try.prog 70 _ _ _ at h
  exact h.mono fun _ _ ⟨he, hw⟩ => ⟨⟨_, he⟩, hw.symm⟩

set_option maxHeartbeats 1000000 in
set_option maxRecDepth 100000 in
theorem insertion_none (w : World) : Calls Try.prog 75 #[.slice none 0 0, .int .i64 0, .int .i64 0, .func (.func 57) #[] #[]] w fun e w' => e = .returned (.tuple #[]) ∧ w = w' := by
  go_enter Try.func75, Try.ntmps75
  go_wp2
  refine wp_loop_rounds 1 ?_
  rw [rounds_succ]
  go_wp2
  go_end0
  exact ⟨rfl, rfl⟩

set_option maxHeartbeats 1000000 in
set_option maxRecDepth 100000 in
theorem pdq_none (l : Nat) (w : World) : Calls Try.prog 69 #[.slice none 0 0, .int .i64 0, .int .i64 0, .int .i64 (l : Int), .func (.func 57) #[] #[]] w fun e w' => e = .returned (.tuple #[]) ∧ w = w' := by
  go_enter Try.func69, Try.ntmps69
  go_wp2
  refine wp_loop_rounds 1 ?_
  rw [rounds_succ]
  go_wp2_with (go_at_call 75; refine (insertion_none _).mono ?_; rintro e w' ⟨rfl, rfl⟩)
  exact bodyPost_ret (results_none rfl _ _ _) rfl ⟨rfl, rfl⟩

set_option maxHeartbeats 1000000 in
theorem sort_none (w : World) : Calls Try.prog 56 #[.slice none 0 0, .func (.func 57) #[] #[]] w fun e w' => e = .returned (.tuple #[]) ∧ w = w' := by
  go_enter Try.func56, Try.ntmps56
  go_wp2_with fail
  refine (len_any _).mono ?_
  rintro e w' ⟨⟨l, rfl⟩, rfl⟩
  go_wp2_with fail
  refine (pdq_none l _).mono ?_
  rintro e w' ⟨rfl, rfl⟩
  go_wp2
  go_end0
  exact ⟨rfl, rfl⟩

end Go.Proofs.Ytcffoebpgjonmaa.Iv

namespace Go.Proofs.Ytcffoebpgjonmaa.Iv
open Go.RowKit
attribute [local go_sem ↓] Go.wp_at_zero Go.wp_at_succ

/-- A sort of a row of the program's own. -/
def SortsOw (v : Value) (L : List (Int × Int)) (w : World) (e : Ending) (w' : World) : Prop :=
  ∃ S : List (Int × Int), S.Perm L ∧ Rises S ∧ e = .returned (.tuple #[]) ∧ Ow w' v S ∧ Mv (fun k => v.ownBlock = some k) w w'
theorem sort_ow {w : World} {A : Option Addr} {n c : Nat} {L : List (Int × Int)} (h : Ow w (.slice A n c) L) (hl : L.length = n) (hn : n ≤ 1000000) :
    Calls Try.prog 56 #[.slice A n c, .func (.func 57) #[] #[]] w (SortsOw (.slice A n c) L w) := by
  rcases h.form with ⟨h1, rfl⟩ | ⟨g, c', T, h1, hc1, hc2, hT, hg⟩
  · injection h1 with e1 e2 e3
    subst e1 e2 e3
    exact (sort_none w).mono fun e w' ⟨he, hw⟩ => by
      subst hw
      exact ⟨[], List.Perm.refl _, List.Pairwise.nil, he, Ow.nil _, Mv.refl _ _⟩
  · injection h1 with e1 _ e3
    subst e1 e3
    refine (sort_any hg hl hn).mono fun e w' ⟨S, hp, hr, he, hb, hm⟩ => ⟨S, hp, hr, he, ?_, hm.more (fun k hk => Or.inl (by rw [hk]; rfl))⟩
    have hsl : S.length = L.length := hp.length_eq
    have := Ow.of_block (L := S) (c := c) (T := T) (by omega) hc2 (by
      simp only [List.length_append, fl_len] at hT ⊢; omega) hb
    rwa [hsl, hl] at this

theorem new_ec (w : World) (a b : Int) : ∀ j u, (ec (a, b))[j]? = some u → (w.alloc (.cells #[.int .i64 a, .int .i64 b] 49)).cell? ((⟨w.heap.size, 0, none⟩ : Addr).add j) = some u := by
  intro j u hj
  rw [Go.WideShapes.add_plain, cell_at (heap_alloc_new w _)]
  match j, hj with
  | 0, hj => exact hj
  | 1, hj => exact hj
  | j + 2, hj => simp [ec] at hj
/-- What an append of one extent leaves. -/
theorem part_grown {w2 wy w3 : World} {v v' : Value} {M : List (Int × Int)} {m : Nat} {a b : Int} (hm : m = M.length) (hown : w3.ownsRow 0 49 2 v' (m + 1) (fl M ++ ec (a, b))) (hgrow : wy.grownBy w3 v.ownBlock)
    (hat : v'.ownBlock = v.ownBlock ∨ v'.ownBlock = some wy.heap.size) (ha : At w2 wy) (hge : ∀ g, v.ownBlock = some g → w2.heap.size ≤ g) :
    ∃ g c, v' = .slice (some ⟨g, 0, none⟩) (m + 1) c ∧ At w2 w3 ∧ m + 1 = (M ++ [(a, b)]).length ∧ Ow w3 v' (M ++ [(a, b)]) ∧ ∀ g, v'.ownBlock = some g → w2.heap.size ≤ g := by
  obtain ⟨g, c, hv, _, _⟩ := hown.form (by omega)
  refine ⟨g, c, hv, (grown_mv hgrow).at_ ha hge, by rw [List.length_append, ← hm]; rfl, ?_, fun g' hg' => ?_⟩
  · unfold Ow
    rw [List.length_append, ← hm, fl_app, fl_one]; exact hown
  · rcases hat with h | h
    · exact hge g' (h.symm.trans hg')
    · have h' := h.symm.trans hg'
      injection h' with h'
      rw [← h']; exact ha.size
/-- The last one's length is set. -/
theorem fl_last (M : List (Int × Int)) (l : Int × Int) (u : Int) : (fl (M ++ [l])).set (M.length * 2 + 1) (.int .i64 u) = fl (M ++ [(l.1, u)]) := by
  rw [fl_app, fl_app, List.set_append_right _ _ (by rw [fl_len]; omega), fl_len, Nat.add_sub_cancel_left]; rfl
theorem ow_last {w : World} {g m c : Nat} {M : List (Int × Int)} {l : Int × Int} (h : Ow w (.slice (some ⟨g, 0, none⟩) m c) (M ++ [l])) (u : Int) :
    Ow (w.setCell ⟨g, M.length * 2 + 1, none⟩ (.int .i64 u)) (.slice (some ⟨g, 0, none⟩) m c) (M ++ [(l.1, u)]) := by
  have hm : m = (M ++ [l]).length := by
    obtain ⟨A', c', e, _⟩ := h.ev
    injection e
  unfold Ow at h ⊢
  rw [← hm] at h
  rw [show (M ++ [(l.1, u)]).length = m by rw [hm]; simp, ← fl_last]
  exact (h.stored _ _).1
theorem ow_free {w : World} {g m c : Nat} {L : List (Int × Int)} (h : Ow w (.slice (some ⟨g, 0, none⟩) m c) L) (i : Nat) : w.frozen? ⟨g, i, none⟩ = false := by
  rcases h.form with ⟨h1, _⟩ | ⟨g', c', T, h1, _, _, _, hg⟩
  · injection h1 with e; cases e
  · injection h1 with e
    injection e with e
    injection e with e
    subst e
    exact free_at hg i
/-- What merge hands back. -/
def Merges (L : List (Int × Int)) (w : World) (e : Ending) (w' : World) : Prop := ∃ M, Is L M ∧ Makes M w e w'

set_option maxHeartbeats 1000000 in
set_option maxRecDepth 100000 in
theorem merge_any (A0 : Option Addr) (n c0 : Nat) (L : List (Int × Int)) (w : World) (hn : n ≤ 1000000) (hz : A0 = none → n = 0 ∧ c0 = 0) (hl : L.length = n) (hx : EV w A0 L) (hv : ∀ e ∈ L, Vm e) :
    Calls Try.prog 41 #[.slice A0 n c0] w (Merges L w) := by
  have HC := Lib.hid (clone_any A0 n c0 L w hn hz hl hx)
  obtain ⟨i0, hi, hz0, hz1, hz2⟩ := info_parts info_ext
  have HZ := Lib.hid (And.intro hi (And.intro hz0 (And.intro hz1 hz2)))
  clear hi hz0 hz1 hz2
  have HL := Lib.hid hl
  have HV := Lib.hid hv
  clear hz hl hx hv
  go_enter Try.func41, Try.ntmps41
  go_wp2
  go_step3
  go_wp2_with fail
  refine HC.out.mono ?_
  rintro e w1 ⟨v, rfl, hO, hA, hge⟩
  obtain ⟨A, c, rfl, hnc, hcm, _⟩ := hO.ev
  rw [HL.out] at hO hge
  have HS := Lib.hid (sort_ow hO HL.out hn)
  have HA := Lib.hid hA
  have HGE := Lib.hid hge
  rw [HL.out] at hnc
  clear hO hA hge HC
  rw [HL.out]
  go_wp2_with fail
  refine HS.out.mono ?_
  rintro e w2 ⟨S, hp, hr, rfl, hO2, hM2⟩
  have hsl : S.length = n := hp.length_eq.trans HL.out
  have HA2 : Hid (At w w2) := Lib.hid (hM2.at_ HA.out (fun g hg => HGE.out g hg))
  have HEV : Hid (EV w2 A S) := by
    obtain ⟨A', c', e1, _, _, h'⟩ := hO2.ev
    injection e1 with e1 _ _
    rw [e1]; exact Lib.hid h'
  have HSL := Lib.hid hsl
  have HSV : Hid (∀ e ∈ S, Vm e) := Lib.hid (fun e he => HV.out e (hp.mem_iff.1 he))
  have HR := Lib.hid hr
  have HJ := Lib.hid (jn_is HV.out hp hr)
  have HP := Lib.hid (jn_all HSV.out hr)
  clear hp hr hO2 hM2 hsl HS HA HGE
  go_wp2
  go_step3
  go_wp2
  go_loopw [4, 15] (fun v i wr => ∃ (k : Nat) (B : Option Addr) (m cb : Nat), k ≤ n ∧ i = .int .i64 (k : Int) ∧ v = .slice B m cb ∧ m ≤ k ∧ Hid (At w2 wr) ∧ Hid (m = (jn (S.take k)).length ∧ Ow wr (.slice B m cb) (jn (S.take k)) ∧ ∀ g, (Value.slice B m cb).ownBlock = some g → w2.heap.size ≤ g)) (fun _ i _ => n - (RowKit.intOf i).toNat)
  case atStart => exact ⟨0, none, 0, 0, by omega, rfl, rfl, by omega, Lib.hid (At.start w2), Lib.hid ⟨rfl, Ow.nil _, fun g hg => by cases hg⟩⟩
  case round =>
    obtain ⟨k, B, m, cb, hk, rfl, rfl, hmk, HA, HO⟩ := hrel
    by_cases hlt : k < n
    · obtain ⟨g1, o1, rfl, hg1, hc1⟩ := HEV.out.pos (by rw [HSL.out]; omega)
      have hg1r : g1 < wr.heap.size := Nat.lt_of_lt_of_le hg1 HA.out.size
      have hck := hc1 k (by rw [HSL.out]; exact hlt)
      have c1 : wr.cell? ⟨g1, o1 + k * 2, none⟩ = some (.int .i64 (S.getD k (0, 0)).1) := (Below.cell HA.out (p := ⟨g1, o1 + k * 2, none⟩) hg1).trans hck.1
      have c2 : wr.cell? ⟨g1, o1 + k * 2 + 1, none⟩ = some (.int .i64 (S.getD k (0, 0)).2) := (Below.cell HA.out (p := ⟨g1, o1 + k * 2 + 1, none⟩) hg1).trans hck.2
      have hve := HSV.out _ (getD_mem (show k < S.length by rw [HSL.out]; exact hlt))
      have hjt := jn_take S k (by rw [HSL.out]; exact hlt)
      have hpk := HP.out k (by rw [HSL.out]; omega)
      obtain ⟨M, hM⟩ : ∃ M, M = jn (S.take k) := ⟨_, rfl⟩
      obtain ⟨p, hp⟩ : ∃ p, (S.getD k (0, 0)) = p := ⟨_, rfl⟩
      rw [← hM] at HO hjt hpk
      rw [hp] at c1 c2 hve hjt
      obtain ⟨a, b⟩ := p
      obtain ⟨e1, e2, e3⟩ := hve
      simp only at c1 c2 e1 e2 e3
      have HJT := Lib.hid hjt
      have HNM := Lib.hid hpk.1.nm
      clear hc1 hck hjt hpk hM hp
      have q1 : (0 : Int) ≤ (k : Int) := by omega
      have q2 : (k : Int) < (n : Int) := by omega
      have HNB := heap_alloc_new wr (.cells #[.int .i64 a, .int .i64 b] 49)
      have HAB : At wr (wr.alloc (.cells #[.int .i64 a, .int .i64 b] 49)) := (At.start wr).alloc _
      have HX := Lib.hid (And.intro HNB HAB)
      have hbx : wr.heap.size < (wr.alloc (.cells #[.int .i64 a, .int .i64 b] 49)).heap.size := by simp
      clear HNB HAB
      by_cases h0 : m = 0
      · subst h0
        have HM0 : Hid (M = []) := Lib.hid (List.eq_nil_of_length_eq_zero HO.out.1.symm)
        go_wp2_with fail
        go_quiet (fail)
        have f1 : At wr ((wr.alloc (.cells #[.int .i64 a, .int .i64 b] 49)).drewN nq) := HX.out.2.drewN nq
        have f2 : ((wr.alloc (.cells #[.int .i64 a, .int .i64 b] 49)).drewN nq).heap[wr.heap.size]? = some (.cells #[.int .i64 a, .int .i64 b] 49 (0, 0)) := HX.out.1
        generalize (wr.alloc (.cells #[.int .i64 a, .int .i64 b] 49)).drewN nq = wx at f1 f2 ⊢
        have d1 : wx.cell? ⟨wr.heap.size, 0, none⟩ = some (.int .i64 a) := by rw [cell_at f2]; rfl
        have d2 : wx.cell? ⟨wr.heap.size, 1, none⟩ = some (.int .i64 b) := by rw [cell_at f2]; rfl
        have HF := Lib.hid f1
        have HOX := Lib.hid (HO.out.2.1.on (f1.alloc (.cells #[.int .i64 a, .int .i64 b] 49)))
        clear f1 f2 HX
        go_wp2_with (at_builtin; refine wpList_append_own_at _ rfl (.tmp 34) (.tmp 36) 23 rfl 0 49 i0 _ 2 16 Try.underlying23 HZ.out.1 HZ.out.2.1 HZ.out.2.2.1 HZ.out.2.2.2 rfl (by omega) _ 0 (fl M) rfl (by have := HOX.out; unfold Ow at this; rw [← HO.out.1] at this; exact this) ⟨wx.heap.size, 0, none⟩ 1 1 (ec (a, b)) rfl rfl (new_ec wx a b) (fun u hu => fl_cells u [(a, b)] hu) (by unfold maxLen; omega) (by omega) (Nat.zero_le _) ?_; intro v' w3 hown hgrow hnn hat; obtain ⟨g5, c5, rfl, ha5, hm5, ho5, hb5⟩ := part_grown HO.out.1 hown hgrow hat ((HA.out.next HF.out).alloc _) HO.out.2.2; have HN := Lib.hid (And.intro ha5 (And.intro hm5 (And.intro ho5 hb5))); clear hown hgrow hnn hat ha5 hm5 ho5 hb5)
        go_roundw
        case rel =>
          have e5 : jn (S.take (k + 1)) = M ++ [(a, b)] := by rw [HJT.out, HM0.out]; rfl
          exact ⟨k + 1, _, _, _, by omega, by go_num, rfl, by omega, Lib.hid HN.out.1, Lib.hid (by rw [e5]; exact HN.out.2)⟩
        case measure => simp [RowKit.intOf]; omega
      · have q3 : ((m : Int) == 0) = false := by simp; omega
        obtain ⟨j, hj⟩ : ∃ j, m = j + 1 := ⟨m - 1, by omega⟩
        have q4 : (m : Int) - 1 = (j : Int) := by omega
        have q5 : (0 : Int) ≤ (j : Int) := by omega
        have q6 : (j : Int) < (m : Int) := by omega
        have q7 : IntKind.i64.wrap (j : Int) = (j : Int) := IntWalk.i64_in _ (by omega)
        have HJM := Lib.hid hj
        clear hj
        obtain ⟨M', l, rfl⟩ := split_last M (fun e => h0 (by rw [HO.out.1, e]; rfl))
        have hjl : j = M'.length := by have h1 := HO.out.1; have h2 := HJM.out; rw [List.length_append] at h1; simp at h1; omega
        have hvl := HNM.out.1 l (by simp)
        unfold Vm at hvl
        obtain ⟨l1, l2⟩ := l
        obtain ⟨v1, v2, v3⟩ := hvl
        simp only at v1 v2 v3
        obtain ⟨g3, rfl, hc3, hc4⟩ : ∃ g3, B = some ⟨g3, 0, none⟩ ∧ (∀ W, At wr W → W.cell? ⟨g3, j * 2, none⟩ = some (.int .i64 l1)) ∧ (∀ W, At wr W → W.cell? ⟨g3, j * 2 + 1, none⟩ = some (.int .i64 l2)) := by
          rcases HO.out.2.1.form with ⟨_, h2⟩ | ⟨g3, c3, T3, h1, _, _, _, h4⟩
          · exact absurd h2 (by simp)
          · injection h1 with e1 _ _
            have hk3 : ∀ W, At wr W → Bk W g3 (fl M' ++ (ec (l1, l2) ++ T3)) := fun W hW => by
              have := hW.keep h4
              rw [fl_app, fl_one, List.append_assoc] at this; exact this
            refine ⟨g3, e1, fun W hW => ?_, fun W hW => ?_⟩
            · have := (hk3 W hW).cells 0 _ rfl
              rw [Go.WideShapes.add_plain, fl_len, ← hjl] at this; exact this
            · have := (hk3 W hW).cells 1 _ rfl
              rw [Go.WideShapes.add_plain, fl_len, ← hjl] at this; exact this
        have HC3 := Lib.hid hc3
        have HC4 := Lib.hid hc4
        have HJL := Lib.hid hjl
        clear hc3 hc4 hjl
        go_wp2_with fail
        generalize wr.alloc (.cells #[.int .i64 a, .int .i64 b] 49) = wb at HX hbx ⊢
        have d1 : wb.cell? ⟨wr.heap.size, 0, none⟩ = some (.int .i64 a) := by rw [cell_at HX.out.1]; rfl
        have d2 : wb.cell? ⟨wr.heap.size, 1, none⟩ = some (.int .i64 b) := by rw [cell_at HX.out.1]; rfl
        have d3 := HC3.out wb HX.out.2
        have d4 := HC4.out wb HX.out.2
        by_cases hfar : l1 + l2 < a
        · go_region_held3 (fun w' => w'.cell? ⟨wr.heap.size, 0, none⟩ = some (.int .i64 a) ∧ w'.cell? ⟨g3, j * 2, none⟩ = some (.int .i64 l1) ∧ w'.cell? ⟨g3, j * 2 + 1, none⟩ = some (.int .i64 l2)) (go_keep)
            (first | (go_at_call 44; refine (after_any _ _ _ (by omega) (by omega) (by omega) (by omega)).mono ?_; rintro e w' ⟨rfl, rfl⟩))
          have f1 : At wr (wb.alloc (.cells #[.int .i64 l1, .int .i64 l2] 49)).drew := (HX.out.2.alloc _).drewN 1
          have f2 : (wb.alloc (.cells #[.int .i64 l1, .int .i64 l2] 49)).drew.heap[wr.heap.size]? = some (.cells #[.int .i64 a, .int .i64 b] 49 (0, 0)) := At.keep ((At.start wb).alloc _) HX.out.1
          clear d1 d2 d3 d4
          generalize (wb.alloc (.cells #[.int .i64 l1, .int .i64 l2] 49)).drew = wx at f1 f2 ⊢
          have d1 : wx.cell? ⟨wr.heap.size, 0, none⟩ = some (.int .i64 a) := by rw [cell_at f2]; rfl
          have d2 : wx.cell? ⟨wr.heap.size, 1, none⟩ = some (.int .i64 b) := by rw [cell_at f2]; rfl
          have HF := Lib.hid f1
          have HOX := Lib.hid (HO.out.2.1.on (f1.alloc (.cells #[.int .i64 a, .int .i64 b] 49)))
          clear f1 f2 HX
          go_wp2_with (at_builtin; refine wpList_append_own_at _ rfl (.tmp 34) (.tmp 36) 23 rfl 0 49 i0 _ 2 16 Try.underlying23 HZ.out.1 HZ.out.2.1 HZ.out.2.2.1 HZ.out.2.2.2 rfl (by omega) _ m (fl (M' ++ [(l1, l2)])) rfl (by have := HOX.out; unfold Ow at this; rw [← HO.out.1] at this; exact this) ⟨wx.heap.size, 0, none⟩ 1 1 (ec (a, b)) rfl rfl (new_ec wx a b) (fun u hu => fl_cells u [(a, b)] hu) (by unfold maxLen; omega) (by omega) (Nat.zero_le _) ?_; intro v' w3 hown hgrow hnn hat; obtain ⟨g5, c5, rfl, ha5, hm5, ho5, hb5⟩ := part_grown HO.out.1 hown hgrow hat ((HA.out.next HF.out).alloc _) HO.out.2.2; have HN := Lib.hid (And.intro ha5 (And.intro hm5 (And.intro ho5 hb5))); clear hown hgrow hnn hat ha5 hm5 ho5 hb5)
          go_roundw
          case rel =>
            have e5 : jn (S.take (k + 1)) = M' ++ [(l1, l2)] ++ [(a, b)] := by rw [HJT.out]; exact st_far M' (l1, l2) (a, b) hfar
            exact ⟨k + 1, _, _, _, by omega, by go_num, rfl, by omega, Lib.hid HN.out.1, Lib.hid (by rw [e5]; exact HN.out.2)⟩
          case measure => simp [RowKit.intOf]; omega
        · have hfar' : decide (l1 + l2 < a) = false := decide_eq_false hfar
          go_region_held3 (fun w' => w'.cell? ⟨wr.heap.size, 0, none⟩ = some (.int .i64 a) ∧ w'.cell? ⟨g3, j * 2, none⟩ = some (.int .i64 l1) ∧ w'.cell? ⟨g3, j * 2 + 1, none⟩ = some (.int .i64 l2)) (go_keep)
            (first | (go_at_call 44; refine (after_any _ _ _ (by omega) (by omega) (by omega) (by omega)).mono ?_; rintro e w' ⟨rfl, rfl⟩))
          have f1 : At wr (wb.alloc (.cells #[.int .i64 l1, .int .i64 l2] 49)).drew := (HX.out.2.alloc _).drewN 1
          have f2 : (wb.alloc (.cells #[.int .i64 l1, .int .i64 l2] 49)).drew.heap[wr.heap.size]? = some (.cells #[.int .i64 a, .int .i64 b] 49 (0, 0)) := At.keep ((At.start wb).alloc _) HX.out.1
          clear d1 d2 d3 d4 hfar'
          generalize (wb.alloc (.cells #[.int .i64 l1, .int .i64 l2] 49)).drew = wx at f1 f2 ⊢
          have d1 : wx.cell? ⟨wr.heap.size, 0, none⟩ = some (.int .i64 a) := by rw [cell_at f2]; rfl
          have d2 : wx.cell? ⟨wr.heap.size, 1, none⟩ = some (.int .i64 b) := by rw [cell_at f2]; rfl
          have d3 := HC3.out wx f1
          have d4 := HC4.out wx f1
          have HF := Lib.hid f1
          have HOX := Lib.hid (HO.out.2.1.on (f1.alloc (.cells #[.int .i64 a, .int .i64 b] 49)))
          have z3 : wx.frozen? ⟨g3, j * 2 + 1, none⟩ = false := ow_free (HO.out.2.1.on f1) _
          have z5 : (wx.alloc (.cells #[.int .i64 a, .int .i64 b] 49)).frozen? ⟨g3, j * 2 + 1, none⟩ = false := ow_free HOX.out _
          have z6 := HC3.out _ (f1.alloc (.cells #[.int .i64 a, .int .i64 b] 49))
          have z4 := HC4.out _ (f1.alloc (.cells #[.int .i64 a, .int .i64 b] 49))
          have y1 : IntKind.i64.wrap (a + b - l1) = a + b - l1 := IntWalk.i64_in _ (by omega)
          clear f1 f2 HX
          go_wp2_with fail
          refine wp_region_held_drew (S := (fun w' => w'.cell? ⟨wr.heap.size, 0, none⟩ = some (.int .i64 a) ∧ w'.cell? ⟨wr.heap.size, 1, none⟩ = some (.int .i64 b) ∧ w'.cell? ⟨g3, j * 2, none⟩ = some (.int .i64 l1))) (by kernel_rfl) ⟨d1, d2, d3⟩ (fun hHeld => ?_)
          refine wpAnyH_take (i := 0) (v := ?_) rfl (by kernel_rfl) (by kernel_rfl) (by kernel_rfl) (fun _ _ _ h => h) (Or.inl ⟨by rfl, ?_⟩) (by assumption) ?_
          rotate_left
          · intro w9 hSw; obtain ⟨s1, s2, s3⟩ := hSw; go_simp; try with_reducible rfl
          try go_frame
          refine wpAnyH_take (i := 1) (v := ?_) rfl (by kernel_rfl) (by kernel_rfl) (by kernel_rfl) (fun _ _ _ h => h) (Or.inl ⟨by rfl, ?_⟩) (by assumption) ?_
          rotate_left
          · intro w9 hSw; obtain ⟨s1, s2, s3⟩ := hSw; go_simp; try with_reducible rfl
          try go_frame
          refine wpAnyH_take (i := 2) (v := ?_) rfl (by kernel_rfl) (by kernel_rfl) (by kernel_rfl) (fun _ _ _ h => h) (Or.inl ⟨by rfl, ?_⟩) (by assumption) ?_
          rotate_left
          · intro w9 hSw; obtain ⟨s1, s2, s3⟩ := hSw; go_simp; try with_reducible rfl
          try go_frame
          refine wpAnyH_take (i := 3) (v := ?_) rfl (by kernel_rfl) (by kernel_rfl) (by kernel_rfl) (fun _ _ _ h => h) (Or.inl ⟨by rfl, ?_⟩) (by assumption) ?_
          rotate_left
          · intro w9 hSw; obtain ⟨s1, s2, s3⟩ := hSw; go_simp; try with_reducible rfl
          try go_frame
          refine wpAnyH_take (i := 5) (v := ?_) rfl (by kernel_rfl) (by kernel_rfl) (by kernel_rfl) (fun _ _ _ h => h) (Or.inl ⟨by rfl, ?_⟩) (by assumption) ?_
          rotate_left
          · intro w9 hSw; obtain ⟨s1, s2, s3⟩ := hSw; go_simp; try with_reducible rfl
          try go_frame
          refine wpAnyH_take (i := 7) (v := ?_) rfl (by kernel_rfl) (by kernel_rfl) (by kernel_rfl) (fun _ _ _ h => h) (Or.inl ⟨by rfl, ?_⟩) (by assumption) ?_
          rotate_left
          · intro w9 hSw; obtain ⟨s1, s2, s3⟩ := hSw; go_simp; try with_reducible rfl
          try go_frame
          refine wpAnyH_take (i := 8) (v := ?_) rfl (by kernel_rfl) (by kernel_rfl) (by kernel_rfl) (fun _ _ _ h => h) (Or.inl ⟨by rfl, ?_⟩) (by assumption) ?_
          rotate_left
          · intro w9 hSw; obtain ⟨s1, s2, s3⟩ := hSw; go_simp; try with_reducible rfl
          try go_frame
          refine wpAnyH_take (i := 9) (v := ?_) rfl (by kernel_rfl) (by kernel_rfl) (by kernel_rfl) (fun _ _ _ h => h) (Or.inl ⟨by rfl, ?_⟩) (by assumption) ?_
          rotate_left
          · intro w9 hSw; obtain ⟨s1, s2, s3⟩ := hSw; go_simp; try with_reducible rfl
          try go_frame
          refine wpAnyH_take (i := 10) (v := ?_) rfl (by kernel_rfl) (by kernel_rfl) (by kernel_rfl) (fun _ _ _ h => h) (Or.inl ⟨by rfl, ?_⟩) (by assumption) ?_
          rotate_left
          · intro w9 hSw; obtain ⟨s1, s2, s3⟩ := hSw; go_simp; try with_reducible rfl
          try go_frame
          have ng : ¬ (g3 = wr.heap.size) := by have := HO.out.2.1.lt (g := g3) rfl; omega
          have hk9 : ∀ u, ((wx.alloc (.cells #[.int .i64 a, .int .i64 b] 49)).setCell ⟨g3, j * 2 + 1, none⟩ u).cell? ⟨g3, j * 2, none⟩ = some (.int .i64 l1) := fun u => (World.cell?_setCell_other _ _ _ _ (by simp)).trans z6
          have HSA : Hid (At w2 ((wx.alloc (.cells #[.int .i64 a, .int .i64 b] 49)).setCell ⟨g3, j * 2 + 1, none⟩ (.int .i64 (max l2 (a + b - l1))))) := Lib.hid (Below.setCell (p := ⟨g3, j * 2 + 1, none⟩) ((HA.out.next HF.out).alloc _) (HO.out.2.2 g3 rfl) _)
          have HSO : Hid (m = (jn (S.take (k + 1))).length ∧ Ow ((wx.alloc (.cells #[.int .i64 a, .int .i64 b] 49)).setCell ⟨g3, j * 2 + 1, none⟩ (.int .i64 (max l2 (a + b - l1)))).drew (.slice (some ⟨g3, 0, none⟩) m cb) (jn (S.take (k + 1))) ∧ ∀ g, (Value.slice (some ⟨g3, 0, none⟩) m cb).ownBlock = some g → w2.heap.size ≤ g) := by
            have e5 : jn (S.take (k + 1)) = M' ++ [(l1, max l2 (a + b - l1))] := by rw [HJT.out]; exact st_near M' (l1, l2) (a, b) (by show ¬ l1 + l2 < a; omega)
            rw [e5, HJL.out]
            exact Lib.hid ⟨by have := HO.out.1; simpa using this, (ow_last HOX.out _).on ((At.start _).drewN 1), HO.out.2.2⟩
          refine wpAnyH_ready (rs := [4, 6]) (by kernel_rfl) (by simp) ?_
          refine AllReadyH.cons rfl (fun K hK => ?_) (AllReadyH.cons rfl (fun K hK => ?_) AllReadyH.nil)
          · go_simp
            refine hK.out _ _ hHeld (fun hHeld => ?_)
            clear hK K
            try go_frame
            refine wpAnyH_ready (rs := [6]) (by kernel_rfl) (by simp) ?_
            refine AllReadyH.cons rfl (fun K hK => ?_) AllReadyH.nil
            go_simp
            refine (after_any _ _ _ (by omega) (by omega) (by omega) (by omega)).mono ?_
            rintro e w' ⟨rfl, rfl⟩
            go_wp2_with fail
            refine hK.out _ _ ⟨by go_keep, by go_keep, by go_keep⟩ (fun hHeld => ?_)
            clear hK K
            try go_frame
            refine wpAnyH_take (i := 11) (v := ?_) rfl (by kernel_rfl) (by kernel_rfl) (by kernel_rfl) (fun _ _ _ h => h) (Or.inl ⟨by rfl, ?_⟩) (by assumption) ?_
            rotate_left
            · intro w9 hSw; obtain ⟨s1, s2, s3⟩ := hSw; go_simp; try with_reducible rfl
            try go_frame
            refine wpAnyH_ready (rs := [12]) (by kernel_rfl) (by simp) ?_
            refine AllReadyH.cons rfl (fun K hK => ?_) AllReadyH.nil
            go_simp
            refine hK.out _ _ hHeld (fun hHeld => ?_)
            clear hK K
            try go_frame
            refine wpAnyH_take (i := 13) (v := ?_) rfl (by kernel_rfl) (by kernel_rfl) (by kernel_rfl) (fun _ _ _ h => h) (Or.inl ⟨by rfl, ?_⟩) (by assumption) ?_
            rotate_left
            · intro w9 hSw; obtain ⟨s1, s2, s3⟩ := hSw; go_simp; try with_reducible rfl
            try go_frame
            refine wpAnyH_take (i := 14) (v := ?_) rfl (by kernel_rfl) (by kernel_rfl) (by kernel_rfl) (fun _ _ _ h => h) (Or.inl ⟨by rfl, ?_⟩) (by assumption) ?_
            rotate_left
            · intro w9 hSw; obtain ⟨s1, s2, s3⟩ := hSw; go_simp; try with_reducible rfl
            try go_frame
            refine wpAnyH_ready (rs := [15]) (by kernel_rfl) (by simp) ?_
            refine AllReadyH.cons rfl (fun K hK => ?_) AllReadyH.nil
            go_simp
            refine hK.out _ _ ⟨by go_keep, by go_keep, by first | go_keep | exact hk9 _⟩ (fun hHeld => ?_)
            clear hK K
            try go_frame
            refine wpAnyH_done (by kernel_rfl) ?_ _
            clear hHeld
            go_wp2
            go_roundw
            case rel =>
              exact ⟨k + 1, _, _, _, by omega, by go_num, rfl, by omega, Lib.hid (HSA.out.drewN 1), Lib.hid HSO.out⟩
            case measure => simp [RowKit.intOf]; omega
          · go_simp
            refine (after_any _ _ _ (by omega) (by omega) (by omega) (by omega)).mono ?_
            rintro e w' ⟨rfl, rfl⟩
            go_wp2_with fail
            refine hK.out _ _ ⟨by go_keep, by go_keep, by go_keep⟩ (fun hHeld => ?_)
            clear hK K
            try go_frame
            refine wpAnyH_take (i := 11) (v := ?_) rfl (by kernel_rfl) (by kernel_rfl) (by kernel_rfl) (fun _ _ _ h => h) (Or.inl ⟨by rfl, ?_⟩) (by assumption) ?_
            rotate_left
            · intro w9 hSw; obtain ⟨s1, s2, s3⟩ := hSw; go_simp; try with_reducible rfl
            try go_frame
            refine wpAnyH_ready (rs := [4]) (by kernel_rfl) (by simp) ?_
            refine AllReadyH.cons rfl (fun K hK => ?_) AllReadyH.nil
            go_simp
            refine hK.out _ _ hHeld (fun hHeld => ?_)
            clear hK K
            try go_frame
            refine wpAnyH_ready (rs := [12]) (by kernel_rfl) (by simp) ?_
            refine AllReadyH.cons rfl (fun K hK => ?_) AllReadyH.nil
            go_simp
            refine hK.out _ _ hHeld (fun hHeld => ?_)
            clear hK K
            try go_frame
            refine wpAnyH_take (i := 13) (v := ?_) rfl (by kernel_rfl) (by kernel_rfl) (by kernel_rfl) (fun _ _ _ h => h) (Or.inl ⟨by rfl, ?_⟩) (by assumption) ?_
            rotate_left
            · intro w9 hSw; obtain ⟨s1, s2, s3⟩ := hSw; go_simp; try with_reducible rfl
            try go_frame
            refine wpAnyH_take (i := 14) (v := ?_) rfl (by kernel_rfl) (by kernel_rfl) (by kernel_rfl) (fun _ _ _ h => h) (Or.inl ⟨by rfl, ?_⟩) (by assumption) ?_
            rotate_left
            · intro w9 hSw; obtain ⟨s1, s2, s3⟩ := hSw; go_simp; try with_reducible rfl
            try go_frame
            refine wpAnyH_ready (rs := [15]) (by kernel_rfl) (by simp) ?_
            refine AllReadyH.cons rfl (fun K hK => ?_) AllReadyH.nil
            go_simp
            refine hK.out _ _ ⟨by go_keep, by go_keep, by first | go_keep | exact hk9 _⟩ (fun hHeld => ?_)
            clear hK K
            try go_frame
            refine wpAnyH_done (by kernel_rfl) ?_ _
            clear hHeld
            go_wp2
            go_roundw
            case rel =>
              exact ⟨k + 1, _, _, _, by omega, by go_num, rfl, by omega, Lib.hid (HSA.out.drewN 1), Lib.hid HSO.out⟩
            case measure => simp [RowKit.intOf]; omega
    · obtain rfl : k = n := by omega
      go_wp2
      rw [Exit.noGoto_ret]
      go_ret
      have hS : S.take k = S := List.take_of_length_le (by rw [HSL.out]; omega)
      rw [hS] at HO
      obtain ⟨ho1, ho2, ho3⟩ := HO.out
      exact ⟨jn S, HJ.out.1, _, rfl, ho2, HA2.out.next HA.out, fun g hg => Nat.le_trans HA2.out.size (ho3 g hg)⟩

end Go.Proofs.Ytcffoebpgjonmaa.Iv
