/- Proved: the library's sort of extents by their beginnings: the row holds them all, in the order in which they begin. -/
import Derived.Test.YthaiddhbifakhaaShelf
import Derived.Test.YthaiddhbifakhaaICp
namespace Go.Proofs.Ythaiddhbifakhaa.Iv
open Go.RowKit Go.Sort

/-- Which of two numbers is less. -/
def cI (x y : Int) : Int := if x < y then -1 else if y < x then 1 else 0
set_option maxHeartbeats 400000 in
theorem compare_any (x y : Int) (w : World) : Calls Try.prog 58 #[.int .i64 x, .int .i64 y] w fun e w' => e = .returned (.int .i64 (cI x y)) ∧ w = w' := by
  rcases Int.lt_trichotomy x y with h | h | h
  · have hc : cI x y = -1 := by unfold cI; rw [if_pos h]
    have HC := Lib.hid hc
    clear hc
    go_enter Try.func58, Try.ntmps58
    go_wp2
    go_ret
    exact ⟨by rw [HC.out]; rfl, rfl⟩
  · subst h
    have hc : cI x x = 0 := by unfold cI; rw [if_neg (by omega), if_neg (by omega)]
    have HC := Lib.hid hc
    clear hc
    go_enter Try.func58, Try.ntmps58
    go_wp2
    go_ret
    exact ⟨by rw [HC.out]; rfl, rfl⟩
  · have hc : cI x y = 1 := by unfold cI; rw [if_neg (by omega), if_pos h]
    have HC := Lib.hid hc
    have hn : decide (x < y) = false := decide_eq_false (by omega)
    clear hc
    go_enter Try.func58, Try.ntmps58
    go_wp2
    go_ret
    exact ⟨by rw [HC.out]; rfl, rfl⟩

set_option maxHeartbeats 400000 in
theorem closure_any (x y : Int × Int) (W : World) : Calls Try.prog 57 #[.agg #[.int .i64 x.1, .int .i64 x.2], .agg #[.int .i64 y.1, .int .i64 y.2]] W fun e w' => e = .returned (.int .i64 (cI x.1 y.1)) ∧ ∃ q os', w' = grow (W.drewN q) os' := by
  go_enter Try.func57, Try.ntmps57
  go_wp2_with (go_at_call 58; refine (compare_any _ _ _).mono ?_; rintro e w' ⟨rfl, rfl⟩)
  go_ret
  exact ⟨rfl, 0, _, by rw [alloc_eq_grow, alloc_eq_grow, grow_grow]; rfl⟩
theorem lt_cI (x y : Int × Int) : ltOf (fun x y : Int × Int => cI x.1 y.1) x y = decide (x.1 < y.1) := by
  unfold ltOf cI
  by_cases h1 : x.1 < y.1
  · simp [h1]
  · by_cases h2 : y.1 < x.1 <;> simp [h1, h2]
theorem swo_cI : SWO (ltOf fun x y : Int × Int => cI x.1 y.1) where
  irrefl x := by rw [lt_cI]; simp
  trans x y z h1 h2 := by rw [lt_cI] at *; simp at *; omega
  ntrans x y z h1 h2 := by rw [lt_cI] at *; simp at *; omega

theorem flat_fl (L : List (Int × Int)) : flatK ec 2 L.toArray = (fl L).toArray := by
  refine ext_get! (by simp [fl_len]) fun t ht => ?_
  have ht' : t < L.length * 2 := by simpa using ht
  have hk : t / 2 < L.length := by omega
  rw [get_flatK _ _ _ _ (by simpa using ht')]
  have e : L.toArray[t / 2]! = L.getD (t / 2) (0, 0) := by
    rw [getElem!_pos _ _ (by simpa using hk), List.getD_eq_getElem?_getD, List.getElem?_eq_getElem hk]; rfl
  rw [e]
  have hl : t < (fl L).toArray.size := by simp [fl_len]; omega
  rw [getElem!_pos (fl L).toArray t hl]
  by_cases h2 : t % 2 = 0
  · have := fl_fst L (t / 2) hk
    rw [show t / 2 * 2 = t by omega] at this
    rw [h2]
    have e2 : (fl L).toArray[t] = .int .i64 (L.getD (t / 2) (0, 0)).1 := by
      have h3 := (List.getElem?_eq_some_iff.1 this).2
      simpa using h3
    rw [e2]; rfl
  · have h2' : t % 2 = 1 := by omega
    have := fl_snd L (t / 2) hk
    rw [show t / 2 * 2 + 1 = t by omega] at this
    rw [h2']
    have e2 : (fl L).toArray[t] = .int .i64 (L.getD (t / 2) (0, 0)).2 := by
      have h3 := (List.getElem?_eq_some_iff.1 this).2
      simpa using h3
    rw [e2]; rfl
theorem put_fl (L S : List (Int × Int)) (T : List Value) (h : S.length = L.length) : putCells id 0 (fl S).toArray (fl L ++ T).toArray = (fl S ++ T).toArray := by
  have hl : (fl L).length = (fl S).length := by rw [fl_len, fl_len, h]
  apply Array.ext (by simp [putCells, hl])
  intro k h1 h2
  simp only [putCells, Array.getElem_mapIdx, List.getElem_toArray, List.size_toArray]
  by_cases hk : k < (fl S).length
  · rw [if_pos ⟨Nat.zero_le _, by omega⟩, List.getElem_append_left hk, getElem!_pos _ _ (by simpa using hk)]; simp
  · rw [if_neg (by omega), List.getElem_append_right (by omega), List.getElem_append_right (by omega)]
    congr 1; omega

/-- A sort leaves the row so. -/
def Sorts (g : Nat) (L : List (Int × Int)) (T : List Value) (w : World) (e : Ending) (w' : World) : Prop :=
  ∃ S : List (Int × Int), S.Perm L ∧ S.Pairwise (fun a b => a.1 ≤ b.1) ∧ e = .returned (.tuple #[]) ∧ Bk w' g (fl S ++ T) ∧ Mv (fun k => k = g) w w'

theorem sort_any {w : World} {g n c : Nat} {L : List (Int × Int)} {T : List Value} (hg : Bk w g (fl L ++ T)) (hl : L.length = n) (hn : n ≤ 1000000) :
    Calls Try.prog 56 #[.slice (some ⟨g, 0, none⟩) n c, .func (.func 57) #[] #[]] w (Sorts g L T w) := by
  have eg : ∀ args w, (callFunc 57 args).run Try.prog w = .ok (.enter 57 args) w := enters_of Try.func57 (by kernel_rfl) rfl
  have hb : w.heap[g]? = some (.cells (fl L ++ T).toArray 75 (0, 0)) := hg
  have hH : HoldsK ec 2 w g 0 L.toArray := by
    intro j hj
    rw [flat_fl] at hj ⊢
    have hj' : j < (fl L).length := by simpa using hj
    refine ⟨?_, free_at hb _⟩
    rw [cell_at hb, List.getElem?_toArray, Nat.zero_add, List.getElem?_append_left hj', List.getElem?_eq_getElem hj', getElem!_pos (fl L).toArray j hj]
    simp
  have hcon := AnyQ.slices_SortFunc Try.sortE 2 Try.isAgg75 Try.sizeOf75 ec (fun _ => rfl) (fun x v hv => by simp [ec] at hv; rcases hv with rfl | rfl <;> rfl) (fun x y => cI x.1 y.1) swo_cI 57 #[] g 0 c L.toArray w eg (fun _ _ _ _ x y => closure_any x y _) hH hg.lt (by simp; omega)
  have hsz : L.toArray.size = n := by simpa using hl
  rw [hsz] at hcon
  change Calls Try.prog 56 _ _ _ at hcon
  refine hcon.mono ?_
  rintro e w' ⟨rfl, d', m, os, hp, hs, rfl⟩
  have hd : d' = d'.toList.toArray := by simp
  have hlen : d'.toList.length = L.length := by have := hp.1; simpa using this
  refine ⟨d'.toList, ?_, ?_, rfl, ?_, ?_⟩
  · have := hp.2.2
    rw [Array.toList_extract, Array.toList_extract, List.extract_eq_take_drop, List.extract_eq_take_drop, List.drop_zero, List.drop_zero, Nat.sub_zero, List.take_of_length_le (by rw [hlen, ← hl]; simp), List.take_of_length_le (by simp; omega)] at this
    exact this
  · refine List.pairwise_iff_getElem.2 fun i j hi hj hij => ?_
    have := hs i j (Nat.zero_le _) hij (by rw [← hl, ← hlen]; exact hj)
    rw [lt_cI, getElem!_pos d' j (by simpa using hj), getElem!_pos d' i (by simpa using hi)] at this
    have := of_decide_eq_false this
    simp only [Array.getElem_toList]
    omega
  · show (grow (putRowK ec 2 (Sort.ahead w m) g 0 d') os).heap[g]? = _
    have hlt : g < w.heap.size := hg.lt
    have h1 : (grow (putRowK ec 2 (Sort.ahead w m) g 0 d') os).heap[g]? = (w.heap.modify g (onCells (putCells id 0 (flatK ec 2 d'))))[g]? := by
      show ((w.heap.modify g _) ++ os)[g]? = _
      rw [Array.getElem?_append_left (by simpa using hlt)]
    rw [h1, Array.getElem?_modify, if_pos rfl, hb]
    rw [hd, flat_fl, Option.map_some]
    show some (Obj.cells (putCells id 0 (fl d'.toList).toArray (fl L ++ T).toArray) _ _) = _
    rw [put_fl L d'.toList T hlen]
  · refine ⟨rfl, rfl, rfl, ?_, fun k hk hne => ?_⟩
    · simp [sortWorldK, putRowK]
    · show ((w.heap.modify g _) ++ os)[k]? = _
      rw [Array.getElem?_append_left (by simpa using hk), Array.getElem?_modify, if_neg (fun e => hne e.symm)]

end Go.Proofs.Ythaiddhbifakhaa.Iv
