/- Proved: whether an extent may be, the landed and the document's own test; the block behind an extent; an extent between two blocks; whether all of a list may be; how two extents' beginnings compare. -/
import Derived.Test.YthaiddhbifakhaaIMe
import Derived.Test.YthaiddhbifakhaaIPu
import Derived.Laws.ResultCell
import Derived.Laws.Rows
import Derived.IntWalk
namespace Go.Proofs.Ythaiddhbifakhaa.Iv
open Go.RowKit

set_option maxHeartbeats 400000 in
/-- The block behind an extent. -/
theorem after_any (a n : Int) (w : World) (h1 : 0 ≤ a) (h2 : a ≤ 4000000) (h3 : 0 ≤ n) (h4 : n ≤ 4000000) :
    Calls Try.prog 47 #[.agg #[.int .i64 a, .int .i64 n]] w fun e w' => e = .returned (.int .i64 (a + n)) ∧ w' = w.alloc (.cells #[.int .i64 a, .int .i64 n] 75) := by
  go_enter Try.func47, Try.ntmps47
  go_wp2
  go_ret
  exact ⟨rfl, rfl⟩

/-- Whether an extent may be. -/
def vaB (a n : Int) : Bool := decide (Va (a, n))
theorem vaB_yes {a n : Int} (h : Va (a, n)) : vaB a n = true := decide_eq_true h
theorem vaB_no {a n : Int} (h : ¬ Va (a, n)) : vaB a n = false := decide_eq_false h

set_option maxHeartbeats 1000000 in
theorem valid_any (a n : Int) (w : World) : Calls Try.prog 55 #[.agg #[.int .i64 a, .int .i64 n]] w (Gives (.bool (vaB a n)) w) := by
  have HB : Hid (At w (w.alloc (.cells #[.int .i64 a, .int .i64 n] 75))) := Lib.hid ((At.start w).alloc _)
  have HC : Hid (At w ((w.alloc (.cells #[.int .i64 a, .int .i64 n] 75)).alloc (.cells #[.int .i64 a, .int .i64 n] 75))) := Lib.hid (((At.start w).alloc _).alloc _)
  by_cases h1 : 0 ≤ a
  · by_cases h2 : a ≤ 1048576
    · by_cases h3 : 1 ≤ n
      · by_cases h4 : n ≤ 1048576
        · by_cases h5 : a + n ≤ 1048577
          · rw [vaB_yes ⟨h1, h2, h3, h4, h5⟩]
            go_enter Try.func55, Try.ntmps55
            go_wp2_with (go_at_call 47; refine (after_any _ _ _ (by omega) (by omega) (by omega) (by omega)).mono ?_; rintro e w' ⟨rfl, rfl⟩)
            go_ret
            exact ⟨rfl, HC.out⟩
          · rw [vaB_no (fun h => h5 h.2.2.2.2)]
            have h5' : decide (a + n ≤ 1048577) = false := decide_eq_false h5
            go_enter Try.func55, Try.ntmps55
            go_wp2_with (go_at_call 47; refine (after_any _ _ _ (by omega) (by omega) (by omega) (by omega)).mono ?_; rintro e w' ⟨rfl, rfl⟩)
            go_ret
            exact ⟨rfl, HC.out⟩
        · rw [vaB_no (fun h => h4 h.2.2.2.1)]
          go_enter Try.func55, Try.ntmps55
          go_wp2
          go_ret
          exact ⟨rfl, HB.out⟩
      · rw [vaB_no (fun h => h3 h.2.2.1)]
        go_enter Try.func55, Try.ntmps55
        go_wp2
        go_ret
        exact ⟨rfl, HB.out⟩
    · rw [vaB_no (fun h => h2 h.2.1)]
      go_enter Try.func55, Try.ntmps55
      go_wp2
      go_ret
      exact ⟨rfl, HB.out⟩
  · rw [vaB_no (fun h => h1 h.1)]
    go_enter Try.func55, Try.ntmps55
    go_wp2
    go_ret
    exact ⟨rfl, HB.out⟩

set_option maxHeartbeats 1000000 in
theorem may_any (a n : Int) (w : World) : Calls Try.prog 49 #[.agg #[.int .i64 a, .int .i64 n]] w (Gives (.bool (vaB a n)) w) := by
  have HB : Hid (At w (w.alloc (.cells #[.int .i64 a, .int .i64 n] 75))) := Lib.hid ((At.start w).alloc _)
  by_cases h1 : 0 ≤ a
  · by_cases h2 : a ≤ 1048576
    · by_cases h3 : 1 ≤ n
      · by_cases h4 : n ≤ 1048576
        · by_cases h5 : a ≤ 1048577 - n
          · rw [vaB_yes ⟨h1, h2, h3, h4, by simp only; omega⟩]
            go_enter Try.func49, Try.ntmps49
            go_wp2
            go_ret
            exact ⟨rfl, HB.out⟩
          · rw [vaB_no (fun h => h5 (by have := h.2.2.2.2; simp only at this; omega))]
            have h5' : decide (a ≤ 1048577 - n) = false := decide_eq_false h5
            go_enter Try.func49, Try.ntmps49
            go_wp2
            go_ret
            exact ⟨rfl, HB.out⟩
        · rw [vaB_no (fun h => h4 h.2.2.2.1)]
          go_enter Try.func49, Try.ntmps49
          go_wp2
          go_ret
          exact ⟨rfl, HB.out⟩
      · rw [vaB_no (fun h => h3 h.2.2.1)]
        go_enter Try.func49, Try.ntmps49
        go_wp2
        go_ret
        exact ⟨rfl, HB.out⟩
    · rw [vaB_no (fun h => h2 h.2.1)]
      go_enter Try.func49, Try.ntmps49
      go_wp2
      go_ret
      exact ⟨rfl, HB.out⟩
  · rw [vaB_no (fun h => h1 h.1)]
    go_enter Try.func49, Try.ntmps49
    go_wp2
    go_ret
    exact ⟨rfl, HB.out⟩

/-- A struct of two numbers that is a call's result. -/
theorem results_pair {fn : Func} {p : Tmp} {ty : TypeId} (h : fn.results = #[.cell p ty]) (tmps : Array Value) (w : World) (r : Nat) (x y : Int) (fs : Array Field)
    (hu : Try.prog.underlying ty = some (.struct fs)) (hi : (Try.prog.info? ty).map (·.size) = some 2) (hp : tmps.getD p undef = .pointer (some ⟨r, 0, none⟩)) (hb : w.heap[r]? = some (.cells #[.int .i64 x, .int .i64 y] ty (0, 0))) :
    (results fn tmps).run Try.prog w = .ok (.agg #[.int .i64 x, .int .i64 y]) w := by
  have := run_loadVar_row (P := Try.prog) w r ty ty #[.int .i64 x, .int .i64 y] (0, 0) _ hb hu rfl hi
  rw [Array.getD_eq_getD_getElem?] at hp
  unfold results
  rw [h]
  simp [hp, asAddr, this]
/-- Whether all of a list may be. -/
def allB (L : List (Int × Int)) : Bool := decide (∀ e ∈ L, Va e)
theorem allB_yes {L : List (Int × Int)} (h : ∀ e ∈ L, Va e) : allB L = true := decide_eq_true h
theorem allB_no {L : List (Int × Int)} {e : Int × Int} (he : e ∈ L) (h : ¬ Va e) : allB L = false := decide_eq_false fun h' => h (h' e he)
theorem allB_iff (L : List (Int × Int)) : allB L = true ↔ ∀ e ∈ L, Va e := decide_eq_true_iff

set_option maxHeartbeats 1000000 in
set_option maxRecDepth 100000 in
theorem all_valid (A : Option Addr) (n c : Nat) (L : List (Int × Int)) (w : World) (hn : n ≤ 1000000) (hl : L.length = n) (hx : EV w A L) :
    Calls Try.prog 43 #[.slice A n c] w (Gives (.bool (allB L)) w) := by
  have HL := Lib.hid hl
  have HX := Lib.hid hx
  clear hl hx
  go_enter Try.func43, Try.ntmps43
  go_wp2
  go_loopw [7] (fun i wr => ∃ k : Nat, k ≤ n ∧ i = .int .i64 k ∧ Hid (At w wr) ∧ Hid (∀ j, j < k → Va (L.getD j (0, 0)))) (fun i _ => n - (intOf i).toNat)
  case atStart => exact ⟨0, Nat.zero_le _, rfl, Lib.hid (At.start w), Lib.hid (fun j hj => absurd hj (by omega))⟩
  case round =>
    obtain ⟨k, hk, rfl, HA, HV⟩ := hrel
    by_cases hlt : k < n
    · obtain ⟨b1, o1, rfl, hb, q1⟩ := HX.out.pos (by rw [HL.out]; omega)
      have hb1 : b1 < wr.heap.size := Nat.lt_of_lt_of_le hb HA.out.size
      have e1 : wr.cell? ⟨b1, o1 + k * 2, none⟩ = some (.int .i64 (L.getD k (0, 0)).1) := (Below.cell HA.out (p := ⟨b1, o1 + k * 2, none⟩) hb).trans (q1 k (by rw [HL.out]; exact hlt)).1
      have e2 : wr.cell? ⟨b1, o1 + k * 2 + 1, none⟩ = some (.int .i64 (L.getD k (0, 0)).2) := (Below.cell HA.out (p := ⟨b1, o1 + k * 2 + 1, none⟩) hb).trans (q1 k (by rw [HL.out]; exact hlt)).2
      have hm : Hid (L.getD k (0, 0) ∈ L) := Lib.hid (getD_mem (by rw [HL.out]; exact hlt))
      clear q1
      obtain ⟨y, hy⟩ : ∃ y, L.getD k (0, 0) = y := ⟨_, rfl⟩
      obtain ⟨a, b⟩ := y
      rw [hy] at e1 e2 hm
      have HY := Lib.hid hy
      clear hy
      have g1 : (0 : Int) ≤ (k : Int) := by omega
      have g2 : (k : Int) < (n : Int) := by omega
      have HW : Hid (∀ w', Below (wr.alloc (.cells #[.int .i64 a, .int .i64 b] 75)).heap.size (wr.alloc (.cells #[.int .i64 a, .int .i64 b] 75)) w' → At w w') := Lib.hid (fun w' h => At.next (HA.out.alloc _) h)
      by_cases hv : Va (a, b)
      · have hv' : vaB a b = true := vaB_yes hv
        go_wp2_with (go_at_call 55; refine (valid_any _ _ _).mono ?_; rintro e w' ⟨rfl, hb'⟩)
        go_roundw
        case rel => exact ⟨k + 1, by omega, by go_num, Lib.hid (HW.out _ (by assumption)), Lib.hid (fun j hj => by
          by_cases e : j = k
          · subst e; rw [HY.out]; exact hv
          · exact HV.out j (by omega))⟩
        case measure => simp [intOf]; omega
      · have hv' : vaB a b = false := vaB_no hv
        rw [allB_no hm.out hv]
        go_wp2_with (go_at_call 55; refine (valid_any _ _ _).mono ?_; rintro e w' ⟨rfl, hb'⟩)
        go_ret
        exact ⟨rfl, HW.out _ (by assumption)⟩
    · go_wp2
      go_ret
      refine ⟨?_, HA.out⟩
      have hall : allB L = true := allB_yes fun e he => by
        obtain ⟨j, hj, rfl⟩ := List.mem_iff_getElem.1 he
        have := HV.out j (by rw [HL.out] at hj; omega)
        rwa [List.getD_eq_getElem?_getD, List.getElem?_eq_getElem hj] at this
      rw [hall]; rfl

end Go.Proofs.Ythaiddhbifakhaa.Iv
