/- Proved: small contracts: whether an extent may be; how many blocks a map has, its last time, how many blocks have a version; whether an extent's blocks are the map's.
a block is read at a time: its newest version that is not later, in memory of its own; of no block nothing.
words for a list of blocks to be written; whether their numbers rise; whether one has another length.
why a transaction is refused: the first reason of the document's order, or none. -/
import Derived.Test.YtcffoebpgjonmaaEMa
import Derived.Test.YtcffoebpgjonmaaIPu
import Derived.Deep.RegionHeld3
import Derived.Deep.RegionWith
import Derived.Test.YtcffoebpgjonmaaPv
namespace Go.Proofs.Ytcffoebpgjonmaa.Em
open Go.RowKit
open Iv (Va vaB vaB_yes vaB_no valid_any after_any)


section
variable {w : World} {b : Nat} {S : St} {F : Nat → Prop} {mb : Nat} {D : DataW Value} {hd : Nat → Value}
set_option maxHeartbeats 400000 in
theorem blocks_mp (h : Mq w b S F mb D hd) : Calls Try.prog 36 #[.pointer (some ⟨b, 0, none⟩)] w fun e w' => e = .returned (.int .i64 (S.n : Int)) ∧ w = w' := by
  obtain ⟨c0, -, -⟩ := h.cells
  go_enter Try.func36, Try.ntmps36
  go_wp2
  go_ret
  exact ⟨rfl, rfl⟩
set_option maxHeartbeats 400000 in
theorem blocks_nil (w : World) : Calls Try.prog 36 #[.pointer none] w fun e w' => e = .returned (.int .i64 0) ∧ w = w' := by
  go_enter Try.func36, Try.ntmps36
  go_wp2
  go_ret
  exact ⟨rfl, rfl⟩
end

/-- An entry is looked up, at the operation. -/
theorem look_law {ops : Array Oper} {rest : List Oper} {op : Oper} {a : Act} {w : World} {Q : Exit → Act → World → Prop} (hg : op.guard = none) (m x : Operand) (hop : op.op = .lookup 62 m x false) (mv key v : Value)
    (hm : a.eval m = mv) (hx : a.eval x = key) (hrun : (Instr.lookup 62 mv key false).run Try.prog w = .ok v w) (h : wpList Try.prog ops Q rest (a.put op.dst v) w) : wpList Try.prog ops Q (op :: rest) a w :=
  wpList_plain hg fun K' hK' => by
    unfold Oper.wp
    simp [execOp, hop, hm, hx, hrun, Result.andThen]
    exact hK' _ _ h

/-- Are an extent's blocks among the first N? -/
def haB (N : Nat) (a n : Int) : Bool := vaB a n && decide (a + n ≤ (N : Int))
theorem haB_yes {N : Nat} {a n : Int} (h : Va (a, n)) (h2 : a + n ≤ (N : Int)) : haB N a n = true := by unfold haB; rw [vaB_yes h, decide_eq_true h2]; rfl
theorem haB_no {N : Nat} {a n : Int} (h : ¬ (Va (a, n) ∧ a + n ≤ (N : Int))) : haB N a n = false := by
  unfold haB
  by_cases h1 : Va (a, n)
  · rw [decide_eq_false fun h2 => h ⟨h1, h2⟩, Bool.and_false]
  · rw [vaB_no h1, Bool.false_and]
end Go.Proofs.Ytcffoebpgjonmaa.Em

namespace Go.Proofs.Ytcffoebpgjonmaa.Em
open Go.RowKit

/-- The call hands back so many bytes, in memory of its own, and a number. -/
def Reads (L : List Nat) (t : Int) (w : World) (e : Ending) (w' : World) : Prop :=
  ∃ g c, e = .returned (.tuple #[.slice (some ⟨g, 0, none⟩) 40 c, .int .i64 t]) ∧ w.heap.size ≤ g ∧ BV w' (some ⟨g, 0, none⟩) L ∧ At w w'

end Go.Proofs.Ytcffoebpgjonmaa.Em

namespace Go.Proofs.Ytcffoebpgjonmaa.Em
open Go.RowKit

noncomputable def rsB (P : List Pt) : Bool := @decide (Rs P) (Classical.propDecidable _)
theorem rsB_yes {P : List Pt} (h : Rs P) : rsB P = true := @decide_eq_true _ (Classical.propDecidable _) h
theorem rsB_no {P : List Pt} (h : ¬ Rs P) : rsB P = false := @decide_eq_false _ (Classical.propDecidable _) h
set_option maxHeartbeats 1000000 in
theorem rises_any {w : World} {A : Option Addr} {P : List Pt} (h : PV w A P) (hl : P.length ≤ 1000000) (h1 : 1 ≤ P.length) (c : Nat) :
    Calls Try.prog 37 #[.slice A P.length c] w fun e w' => e = .returned (.bool (rsB P)) ∧ ∃ m, w' = w.drewN m := by
  obtain ⟨n, hn⟩ : ∃ n, n = P.length := ⟨_, rfl⟩
  have HP := Lib.hid h
  rw [← hn] at hl h1 ⊢
  have HN := Lib.hid hn
  clear h hn
  go_enter Try.func37, Try.ntmps37
  go_wp2
  go_loopw [3] (fun k wr => ∃ j : Nat, 1 ≤ j ∧ j ≤ n ∧ k = .int .i64 (j : Int) ∧ Hid (∀ i, 1 ≤ i → i < j → (P.getD (i - 1) pz).1 < (P.getD i pz).1) ∧ ∃ m, wr = w.drewN m) (fun k _ => n - (RowKit.intOf k).toNat)
  case atStart => exact ⟨1, by omega, by omega, rfl, Lib.hid (fun i a b => absurd a (by omega)), 0, rfl⟩
  case round =>
    obtain ⟨j, j1, jn, rfl, HR, m, rfl⟩ := hrel
    by_cases hlt : j < n
    · obtain ⟨g, o, rfl, hg, hc⟩ := HP.out.pos (by rw [← HN.out]; omega)
      have c1 := (hc j (by rw [← HN.out]; exact hlt)).1
      obtain ⟨i, hi⟩ : ∃ i, i = j - 1 := ⟨_, rfl⟩
      have c2 := (hc i (by rw [← HN.out]; omega)).1
      have hij : (j : Int) - 1 = (i : Int) := by omega
      have g1 : (0 : Int) ≤ (j : Int) := by omega
      have g2 : (j : Int) < (n : Int) := by omega
      have g3 : (0 : Int) ≤ (i : Int) := by omega
      have g4 : (i : Int) < (n : Int) := by omega
      have hwr : IntKind.i64.wrap ((j : Int) - 1) = (i : Int) := by rw [hij]; exact IntWalk.i64_in _ (by omega)
      obtain ⟨x, hx⟩ : ∃ x, x = (P.getD j pz).1 := ⟨_, rfl⟩
      obtain ⟨y, hy⟩ : ∃ y, y = (P.getD i pz).1 := ⟨_, rfl⟩
      rw [← hx] at c1
      rw [← hy] at c2
      have HX := Lib.hid hx
      have HY := Lib.hid hy
      have HI := Lib.hid hi
      clear hc hx hy hi
      by_cases hxy : x ≤ y
      · have hno : rsB P = false := rsB_no fun h => by
          have := h j j1 (by rw [← HN.out]; exact hlt)
          rw [← HI.out, ← HX.out, ← HY.out] at this; omega
        have HNO := Lib.hid hno
        clear hno
        go_wp2
        go_quiet (fail)
        go_wp2
        go_ret
        exact ⟨by rw [HNO.out]; rfl, _, World.drewN_drewN _ _ _⟩
      · have hxf : decide (x ≤ y) = false := decide_eq_false hxy
        go_wp2
        go_quiet (fail)
        go_wp2
        go_roundw
        case rel => exact ⟨j + 1, by omega, by omega, by go_num, Lib.hid (fun k a b => by
          by_cases e : k = j
          · subst e; rw [← HI.out, ← HX.out, ← HY.out]; omega
          · exact HR.out k a (by omega)), _, rfl⟩
        case measure => simp [RowKit.intOf]; omega
    · have hy : rsB P = true := rsB_yes fun k a b => HR.out k a (by rw [← HN.out] at b; omega)
      have HY := Lib.hid hy
      have hlt' : decide ((j : Int) < (n : Int)) = false := decide_eq_false (by omega)
      clear hy
      go_wp2
      go_ret
      exact ⟨by rw [HY.out]; rfl, m, rfl⟩

end Go.Proofs.Ytcffoebpgjonmaa.Em

namespace Go.Proofs.Ytcffoebpgjonmaa.Em
open Go.RowKit

/-- Has one of them another length? -/
def bdB (P : List Pt) : Bool := P.any fun p => decide (p.2.length ≠ 40)
theorem bd_iff {P : List Pt} : bdB P = true ↔ ∃ p ∈ P, p.2.length ≠ 40 := by
  unfold bdB; rw [List.any_eq_true]
  constructor
  · rintro ⟨p, hp, h⟩; exact ⟨p, hp, of_decide_eq_true h⟩
  · rintro ⟨p, hp, h⟩; exact ⟨p, hp, decide_eq_true h⟩

set_option maxHeartbeats 400000 in
theorem closure_any (x : Int) (B : Option Addr) (n c : Nat) (W : World) : Calls Try.prog 39 #[.agg #[.int .i64 x, .slice B n c]] W (Gives (.bool (decide (n ≠ 40))) W) := by
  by_cases h : n = 40
  · subst h
    go_enter Try.func39, Try.ntmps39
    go_wp2
    go_ret
    exact ⟨rfl, (Below.refl _ _).alloc (Nat.le_refl _) _⟩
  · have h1 : ((n : Int) != 40) = true := by simp; omega
    have h2 : ((n : Int) == 40) = false := by simp; omega
    have hd : decide (n ≠ 40) = true := decide_eq_true h
    have HD := Lib.hid hd
    clear hd h
    go_enter Try.func39, Try.ntmps39
    go_wp2
    go_ret
    exact ⟨by rw [HD.out]; rfl, (Below.refl _ _).alloc (Nat.le_refl _) _⟩

/-- The place that IndexFunc tells. -/
def Idx (P : List Pt) (w : World) (e : Ending) (w' : World) : Prop := ∃ z : Int, e = .returned (.int .i64 z) ∧ -1 ≤ z ∧ z ≤ 1000000 ∧ (0 ≤ z ↔ bdB P = true) ∧ At w w'
set_option maxHeartbeats 1000000 in
set_option maxRecDepth 100000 in
theorem index_any {w : World} {A : Option Addr} {P : List Pt} (h : PV w A P) (n c : Nat) (hl : P.length = n) (hn : n ≤ 1000000) :
    Calls Try.prog 54 #[.slice A n c, .func (.func 39) #[] #[]] w (Idx P w) := by
  have HL := Lib.hid hl
  have HX := Lib.hid h
  clear h hl
  go_enter Try.func54, Try.ntmps54
  go_wp2
  go_loopw [8] (fun i wr => ∃ k : Nat, k ≤ n ∧ i = .int .i64 (k : Int) ∧ Hid (At w wr) ∧ Hid (∀ j, j < k → (P.getD j pz).2.length = 40)) (fun i _ => n - (RowKit.intOf i).toNat)
  case atStart => exact ⟨0, by omega, rfl, Lib.hid (At.start w), Lib.hid (fun j hj => absurd hj (by omega))⟩
  case round =>
    obtain ⟨k, hkn, rfl, HA, HF⟩ := hrel
    by_cases hlt : k < n
    · obtain ⟨g, o, rfl, hg, hc⟩ := (HX.out.on HA.out).pos (by rw [HL.out]; omega)
      obtain ⟨c1, B, cc, c2, _⟩ := hc k (by rw [HL.out]; exact hlt)
      obtain ⟨m, hm⟩ : ∃ m, m = (P.getD k pz).2.length := ⟨_, rfl⟩
      obtain ⟨x, hx⟩ : ∃ x, x = (P.getD k pz).1 := ⟨_, rfl⟩
      rw [← hx] at c1
      rw [← hm] at c2
      have HM := Lib.hid hm
      have q1 : (0 : Int) ≤ (k : Int) := by omega
      have q2 : (k : Int) < (n : Int) := by omega
      have HSH := Lib.hid (fun W => closure_any x B m cc W)
      clear hc hm hx
      by_cases hb : m = 40
      · rw [decide_eq_false (fun h : m ≠ 40 => h hb)] at HSH
        have HB := Lib.hid hb
        clear hb
        go_wp2_with fail
        refine (HSH.out _).mono ?_
        rintro e w' ⟨rfl, hA⟩
        have HA2 := Lib.hid (HA.out.next hA)
        clear hA
        go_wp2
        go_roundw
        case rel => exact ⟨k + 1, by omega, by go_num, Lib.hid HA2.out, Lib.hid (fun j hj => by
          by_cases e : j = k
          · subst e; rw [← HM.out]; exact HB.out
          · exact HF.out j (by omega))⟩
        case measure => simp [RowKit.intOf]; omega
      · rw [decide_eq_true (show m ≠ 40 from hb)] at HSH
        have HB := Lib.hid hb
        clear hb
        go_wp2_with fail
        refine (HSH.out _).mono ?_
        rintro e w' ⟨rfl, hA⟩
        have HA2 := Lib.hid (HA.out.next hA)
        clear hA
        go_wp2
        go_ret
        exact ⟨(k : Int), rfl, by omega, by omega, ⟨fun _ => bd_iff.2 ⟨_, pt_mem (show k < P.length by rw [HL.out]; exact hlt), by rw [← HM.out]; exact HB.out⟩, fun _ => by omega⟩, HA2.out⟩
    · go_wp2
      go_ret
      refine ⟨-1, rfl, by omega, by omega, ⟨fun h => absurd h (by omega), fun h => ?_⟩, HA.out⟩
      obtain ⟨p, hp, hne⟩ := bd_iff.1 h
      obtain ⟨j, hj, rfl⟩ := List.mem_iff_getElem.1 hp
      have := HF.out j (by rw [HL.out] at hj; omega)
      rw [List.getD_eq_getElem?_getD, List.getElem?_eq_getElem hj] at this
      exact absurd this hne
set_option maxHeartbeats 1000000 in
set_option maxRecDepth 100000 in
theorem contains_any {w : World} {A : Option Addr} {P : List Pt} (h : PV w A P) (n c : Nat) (hl : P.length = n) (hn : n ≤ 1000000) :
    Calls Try.prog 38 #[.slice A n c, .func (.func 39) #[] #[]] w (Gives (.bool (bdB P)) w) := by
  have HI := Lib.hid (index_any h n c hl hn)
  clear h hl hn
  go_enter Try.func38, Try.ntmps38
  go_wp2_with fail
  refine HI.out.mono ?_
  rintro e w' ⟨z, rfl, z1, z2, hz, hA⟩
  have HA := Lib.hid hA
  have HZ := Lib.hid hz
  clear hA hz
  by_cases h0 : 0 ≤ z
  · have hb := HZ.out.1 h0
    have HB := Lib.hid hb
    clear hb
    go_wp2
    go_ret
    exact ⟨by rw [HB.out]; rfl, HA.out⟩
  · have hb : bdB P = false := by
      cases hq : bdB P
      · rfl
      · exact absurd (HZ.out.2 hq) h0
    have h0' : decide (0 ≤ z) = false := decide_eq_false h0
    have HB := Lib.hid hb
    clear hb
    go_wp2
    go_ret
    exact ⟨by rw [HB.out]; rfl, HA.out⟩

set_option maxHeartbeats 1000000 in
set_option maxRecDepth 100000 in
theorem refuses_late {w : World} {b : Nat} {S : St} {F : Nat → Prop} {mb : Nat} {D : DataW Value} {hd : Nat → Value} (h : Mq w b S F mb D hd) (T : Int) (A : Option Addr) (P : List Pt) (n c : Nat) (hn : P.length = n) (hp : PV w A P) (_hl : n ≤ 1000000) (h0 : T ≤ S.last) :
    Calls Try.prog 25 #[.pointer (some ⟨b, 0, none⟩), .agg #[.int .i64 T, .slice A n c]] w (Gives (.int .i64 11) w) := by
  have hA0 : At w (w.alloc (.cells #[.int .i64 T, .slice A n c] 36)) := (At.start w).alloc _
  have HB := Lib.hid (fun W (hW : At (w.alloc (.cells #[.int .i64 T, .slice A n c] 36)) W) => blocks_mp (h.on (hA0.next hW)))
  have hH := h.on hA0
  obtain ⟨m0, -, m2⟩ := hH.cells
  have hS1 := h.ok.n1
  have hS2 := h.ok.n2
  obtain ⟨sn, hsn⟩ : ∃ sn, sn = S.n := ⟨_, rfl⟩
  obtain ⟨sl, hsl⟩ : ∃ sl, sl = S.last := ⟨_, rfl⟩
  rw [← hsn] at m0 hS1 hS2 HB
  rw [← hsl] at m2
  try rw [← hsn] at hx
  try rw [← hsl] at h1
  try rw [← hsl] at h0
  have hz1 : ((sn : Int) == 0) = false := by simp; omega
  have b0 : (w.alloc (.cells #[.int .i64 T, .slice A n c] 36)).cell? ⟨w.heap.size, 0, none⟩ = some (.int .i64 T) := (cell_at (heap_alloc_new w _) 0).trans rfl
  have b1 : (w.alloc (.cells #[.int .i64 T, .slice A n c] 36)).cell? ⟨w.heap.size, 1, none⟩ = some (.slice A n c) := (cell_at (heap_alloc_new w _) 1).trans rfl
  have HP : Hid (PV (w.alloc (.cells #[.int .i64 T, .slice A n c] 36)) A P) := Lib.hid (hp.on hA0)
  have HN := Lib.hid hn
  have HA0 := Lib.hid hA0
  clear h hp hn hA0 hH hsn hsl
  go_enter Try.func25, Try.ntmps25
  go_wp2_with fail
  generalize w.alloc (.cells #[.int .i64 T, .slice A n c] 36) = wb at m0 m2 b0 b1 HP HB HA0 ⊢
  refine (HB.out _ (At.start _)).mono ?_
  rintro e w' ⟨rfl, rfl⟩
  go_wp2_with fail
  go_quiet (fail)
  go_wp2
  go_ret
  first | exact ⟨rfl, HA0.out.drewN _⟩ | exact ⟨rfl, (HA0.out.drewN _).drewN _⟩

set_option maxHeartbeats 1000000 in
set_option maxRecDepth 100000 in
theorem refuses_over {w : World} {b : Nat} {S : St} {F : Nat → Prop} {mb : Nat} {D : DataW Value} {hd : Nat → Value} (h : Mq w b S F mb D hd) (T : Int) (A : Option Addr) (P : List Pt) (n c : Nat) (hn : P.length = n) (hp : PV w A P) (_hl : n ≤ 1000000) (h0 : ¬ T ≤ S.last) (h1 : 1099511627776 < T) :
    Calls Try.prog 25 #[.pointer (some ⟨b, 0, none⟩), .agg #[.int .i64 T, .slice A n c]] w (Gives (.int .i64 11) w) := by
  have hA0 : At w (w.alloc (.cells #[.int .i64 T, .slice A n c] 36)) := (At.start w).alloc _
  have HB := Lib.hid (fun W (hW : At (w.alloc (.cells #[.int .i64 T, .slice A n c] 36)) W) => blocks_mp (h.on (hA0.next hW)))
  have hH := h.on hA0
  obtain ⟨m0, -, m2⟩ := hH.cells
  have hS1 := h.ok.n1
  have hS2 := h.ok.n2
  obtain ⟨sn, hsn⟩ : ∃ sn, sn = S.n := ⟨_, rfl⟩
  obtain ⟨sl, hsl⟩ : ∃ sl, sl = S.last := ⟨_, rfl⟩
  rw [← hsn] at m0 hS1 hS2 HB
  rw [← hsl] at m2
  try rw [← hsn] at hx
  try rw [← hsl] at h1
  try rw [← hsl] at h0
  have hz1 : ((sn : Int) == 0) = false := by simp; omega
  have b0 : (w.alloc (.cells #[.int .i64 T, .slice A n c] 36)).cell? ⟨w.heap.size, 0, none⟩ = some (.int .i64 T) := (cell_at (heap_alloc_new w _) 0).trans rfl
  have b1 : (w.alloc (.cells #[.int .i64 T, .slice A n c] 36)).cell? ⟨w.heap.size, 1, none⟩ = some (.slice A n c) := (cell_at (heap_alloc_new w _) 1).trans rfl
  have HP : Hid (PV (w.alloc (.cells #[.int .i64 T, .slice A n c] 36)) A P) := Lib.hid (hp.on hA0)
  have HN := Lib.hid hn
  have HA0 := Lib.hid hA0
  have d0 : decide (T ≤ sl) = false := decide_eq_false h0
  clear h hp hn hA0 hH hsn hsl
  go_enter Try.func25, Try.ntmps25
  go_wp2_with fail
  generalize w.alloc (.cells #[.int .i64 T, .slice A n c] 36) = wb at m0 m2 b0 b1 HP HB HA0 ⊢
  refine (HB.out _ (At.start _)).mono ?_
  rintro e w' ⟨rfl, rfl⟩
  go_wp2_with fail
  go_quiet (fail)
  go_wp2
  go_ret
  first | exact ⟨rfl, HA0.out.drewN _⟩ | exact ⟨rfl, (HA0.out.drewN _).drewN _⟩

set_option maxHeartbeats 1000000 in
set_option maxRecDepth 100000 in
theorem refuses_none {w : World} {b : Nat} {S : St} {F : Nat → Prop} {mb : Nat} {D : DataW Value} {hd : Nat → Value} (h : Mq w b S F mb D hd) (T : Int) (A : Option Addr) (P : List Pt) (n c : Nat) (hn : P.length = n) (hp : PV w A P) (_hl : n ≤ 1000000) (h0 : ¬ T ≤ S.last) (h1 : ¬ 1099511627776 < T) (hz : n = 0) :
    Calls Try.prog 25 #[.pointer (some ⟨b, 0, none⟩), .agg #[.int .i64 T, .slice A n c]] w (Gives (.int .i64 1) w) := by
  subst hz
  have hA0 : At w (w.alloc (.cells #[.int .i64 T, .slice A 0 c] 36)) := (At.start w).alloc _
  have HB := Lib.hid (fun W (hW : At (w.alloc (.cells #[.int .i64 T, .slice A 0 c] 36)) W) => blocks_mp (h.on (hA0.next hW)))
  have hH := h.on hA0
  obtain ⟨m0, -, m2⟩ := hH.cells
  have hS1 := h.ok.n1
  have hS2 := h.ok.n2
  obtain ⟨sn, hsn⟩ : ∃ sn, sn = S.n := ⟨_, rfl⟩
  obtain ⟨sl, hsl⟩ : ∃ sl, sl = S.last := ⟨_, rfl⟩
  rw [← hsn] at m0 hS1 hS2 HB
  rw [← hsl] at m2
  try rw [← hsn] at hx
  try rw [← hsl] at h1
  try rw [← hsl] at h0
  have hz1 : ((sn : Int) == 0) = false := by simp; omega
  have b0 : (w.alloc (.cells #[.int .i64 T, .slice A 0 c] 36)).cell? ⟨w.heap.size, 0, none⟩ = some (.int .i64 T) := (cell_at (heap_alloc_new w _) 0).trans rfl
  have b1 : (w.alloc (.cells #[.int .i64 T, .slice A 0 c] 36)).cell? ⟨w.heap.size, 1, none⟩ = some (.slice A 0 c) := (cell_at (heap_alloc_new w _) 1).trans rfl
  have HP : Hid (PV (w.alloc (.cells #[.int .i64 T, .slice A 0 c] 36)) A P) := Lib.hid (hp.on hA0)
  have HN := Lib.hid hn
  have HA0 := Lib.hid hA0
  have d0 : decide (T ≤ sl) = false := decide_eq_false h0
  have d1 : decide (1099511627776 < T) = false := decide_eq_false h1
  clear h hp hn hA0 hH hsn hsl
  go_enter Try.func25, Try.ntmps25
  go_wp2_with fail
  generalize w.alloc (.cells #[.int .i64 T, .slice A 0 c] 36) = wb at m0 m2 b0 b1 HP HB HA0 ⊢
  refine (HB.out _ (At.start _)).mono ?_
  rintro e w' ⟨rfl, rfl⟩
  go_wp2_with fail
  go_quiet (fail)
  go_wp2
  go_ret
  first | exact ⟨rfl, HA0.out.drewN _⟩ | exact ⟨rfl, (HA0.out.drewN _).drewN _⟩

set_option maxHeartbeats 1000000 in
set_option maxRecDepth 100000 in
theorem refuses_fall {w : World} {b : Nat} {S : St} {F : Nat → Prop} {mb : Nat} {D : DataW Value} {hd : Nat → Value} (h : Mq w b S F mb D hd) (T : Int) (A : Option Addr) (P : List Pt) (n c : Nat) (hn : P.length = n) (hp : PV w A P) (hl : n ≤ 1000000) (h0 : ¬ T ≤ S.last) (h1 : ¬ 1099511627776 < T) (hz : 1 ≤ n) (hr : ¬ Rs P) :
    Calls Try.prog 25 #[.pointer (some ⟨b, 0, none⟩), .agg #[.int .i64 T, .slice A n c]] w (Gives (.int .i64 1) w) := by
  have hA0 : At w (w.alloc (.cells #[.int .i64 T, .slice A n c] 36)) := (At.start w).alloc _
  have HB := Lib.hid (fun W (hW : At (w.alloc (.cells #[.int .i64 T, .slice A n c] 36)) W) => blocks_mp (h.on (hA0.next hW)))
  have hH := h.on hA0
  obtain ⟨m0, -, m2⟩ := hH.cells
  have hS1 := h.ok.n1
  have hS2 := h.ok.n2
  obtain ⟨sn, hsn⟩ : ∃ sn, sn = S.n := ⟨_, rfl⟩
  obtain ⟨sl, hsl⟩ : ∃ sl, sl = S.last := ⟨_, rfl⟩
  rw [← hsn] at m0 hS1 hS2 HB
  rw [← hsl] at m2
  try rw [← hsn] at hx
  try rw [← hsl] at h1
  try rw [← hsl] at h0
  have hz1 : ((sn : Int) == 0) = false := by simp; omega
  have b0 : (w.alloc (.cells #[.int .i64 T, .slice A n c] 36)).cell? ⟨w.heap.size, 0, none⟩ = some (.int .i64 T) := (cell_at (heap_alloc_new w _) 0).trans rfl
  have b1 : (w.alloc (.cells #[.int .i64 T, .slice A n c] 36)).cell? ⟨w.heap.size, 1, none⟩ = some (.slice A n c) := (cell_at (heap_alloc_new w _) 1).trans rfl
  have HP : Hid (PV (w.alloc (.cells #[.int .i64 T, .slice A n c] 36)) A P) := Lib.hid (hp.on hA0)
  have HN := Lib.hid hn
  have HA0 := Lib.hid hA0
  have d0 : decide (T ≤ sl) = false := decide_eq_false h0
  have d1 : decide (1099511627776 < T) = false := decide_eq_false h1
  have hnb : ((n : Int) == 0) = false := by simp; omega
  have HRS := Lib.hid (fun W (hW : PV W A P) => rises_any hW (by omega) (by omega) c)
  rw [hn, rsB_no hr] at HRS
  clear h hp hn hA0 hH hsn hsl
  go_enter Try.func25, Try.ntmps25
  go_wp2_with fail
  generalize w.alloc (.cells #[.int .i64 T, .slice A n c] 36) = wb at m0 m2 b0 b1 HP HB HA0 ⊢
  refine (HB.out _ (At.start _)).mono ?_
  rintro e w' ⟨rfl, rfl⟩
  go_wp2_with fail
  go_quiet (fail)
  go_wp2_with fail
  refine (HRS.out _ (HP.out.on ((At.start _).drewN _))).mono ?_
  rintro e w' ⟨rfl, mq, rfl⟩
  go_wp2
  go_ret
  first | exact ⟨rfl, HA0.out.drewN _⟩ | exact ⟨rfl, (HA0.out.drewN _).drewN _⟩

set_option maxHeartbeats 1000000 in
set_option maxRecDepth 100000 in
theorem refuses_low {w : World} {b : Nat} {S : St} {F : Nat → Prop} {mb : Nat} {D : DataW Value} {hd : Nat → Value} (h : Mq w b S F mb D hd) (T : Int) (A : Option Addr) (P : List Pt) (n c : Nat) (hn : P.length = n) (hp : PV w A P) (hl : n ≤ 1000000) (h0 : ¬ T ≤ S.last) (h1 : ¬ 1099511627776 < T) (hz : 1 ≤ n) (hr : Rs P) (hx : (P.getD 0 pz).1 < 0) :
    Calls Try.prog 25 #[.pointer (some ⟨b, 0, none⟩), .agg #[.int .i64 T, .slice A n c]] w (Gives (.int .i64 2) w) := by
  have hA0 : At w (w.alloc (.cells #[.int .i64 T, .slice A n c] 36)) := (At.start w).alloc _
  have HB := Lib.hid (fun W (hW : At (w.alloc (.cells #[.int .i64 T, .slice A n c] 36)) W) => blocks_mp (h.on (hA0.next hW)))
  have hH := h.on hA0
  obtain ⟨m0, -, m2⟩ := hH.cells
  have hS1 := h.ok.n1
  have hS2 := h.ok.n2
  obtain ⟨sn, hsn⟩ : ∃ sn, sn = S.n := ⟨_, rfl⟩
  obtain ⟨sl, hsl⟩ : ∃ sl, sl = S.last := ⟨_, rfl⟩
  rw [← hsn] at m0 hS1 hS2 HB
  rw [← hsl] at m2
  try rw [← hsn] at hx
  try rw [← hsl] at h1
  try rw [← hsl] at h0
  have hz1 : ((sn : Int) == 0) = false := by simp; omega
  have b0 : (w.alloc (.cells #[.int .i64 T, .slice A n c] 36)).cell? ⟨w.heap.size, 0, none⟩ = some (.int .i64 T) := (cell_at (heap_alloc_new w _) 0).trans rfl
  have b1 : (w.alloc (.cells #[.int .i64 T, .slice A n c] 36)).cell? ⟨w.heap.size, 1, none⟩ = some (.slice A n c) := (cell_at (heap_alloc_new w _) 1).trans rfl
  have HP : Hid (PV (w.alloc (.cells #[.int .i64 T, .slice A n c] 36)) A P) := Lib.hid (hp.on hA0)
  have HN := Lib.hid hn
  have HA0 := Lib.hid hA0
  have d0 : decide (T ≤ sl) = false := decide_eq_false h0
  have d1 : decide (1099511627776 < T) = false := decide_eq_false h1
  have hnb : ((n : Int) == 0) = false := by simp; omega
  have HRS := Lib.hid (fun W (hW : PV W A P) => rises_any hW (by omega) (by omega) c)
  rw [hn, rsB_yes hr] at HRS
  obtain ⟨g, o, rfl, hg, hc⟩ := hp.pos (by omega)
  have p0' := (hc 0 (by omega)).1
  rw [Nat.zero_mul, Nat.add_zero] at p0'
  have p0 := (Below.cell hA0 (p := ⟨g, o, none⟩) hg).trans p0'
  obtain ⟨m, hm⟩ : ∃ m, m = P.length - 1 := ⟨_, rfl⟩
  have p1' := (hc m (by omega)).1
  have p1 := (Below.cell hA0 (p := ⟨g, o + m * 2, none⟩) hg).trans p1'
  have hnm : (n : Int) - 1 = (m : Int) := by omega
  have hwr : IntKind.i64.wrap ((n : Int) - 1) = (m : Int) := by rw [hnm]; exact IntWalk.i64_in _ (by omega)
  have g0 : 0 < n := by omega
  have g1 : (0 : Int) ≤ (m : Int) := by omega
  have g2 : (m : Int) < (n : Int) := by omega
  try rw [← hm] at hy
  obtain ⟨x, hxx⟩ : ∃ x, x = (P.getD 0 pz).1 := ⟨_, rfl⟩
  obtain ⟨y, hyy⟩ : ∃ y, y = (P.getD m pz).1 := ⟨_, rfl⟩
  rw [← hxx] at p0 hx
  rw [← hyy] at p1
  try rw [← hyy] at hy
  try rw [← hsn] at hy
  clear p0' p1' hc hm hxx hyy
  clear hr
  clear h hp hn hA0 hH hsn hsl
  go_enter Try.func25, Try.ntmps25
  go_wp2_with fail
  generalize w.alloc (.cells #[.int .i64 T, .slice (some ⟨g, o, none⟩) n c] 36) = wb at m0 m2 b0 b1 p0 p1 HP HB HA0 ⊢
  refine (HB.out _ (At.start _)).mono ?_
  rintro e w' ⟨rfl, rfl⟩
  go_wp2_with fail
  go_quiet (fail)
  go_wp2_with fail
  refine (HRS.out _ (HP.out.on ((At.start _).drewN _))).mono ?_
  rintro e w' ⟨rfl, mq, rfl⟩
  go_wp2_with fail
  go_quiet (fail)
  go_wp2
  go_ret
  first | exact ⟨rfl, HA0.out.drewN _⟩ | exact ⟨rfl, (HA0.out.drewN _).drewN _⟩
set_option maxHeartbeats 1000000 in
set_option maxRecDepth 100000 in
theorem refuses_high {w : World} {b : Nat} {S : St} {F : Nat → Prop} {mb : Nat} {D : DataW Value} {hd : Nat → Value} (h : Mq w b S F mb D hd) (T : Int) (A : Option Addr) (P : List Pt) (n c : Nat) (hn : P.length = n) (hp : PV w A P) (hl : n ≤ 1000000) (h0 : ¬ T ≤ S.last) (h1 : ¬ 1099511627776 < T) (hz : 1 ≤ n) (hr : Rs P) (hx : ¬ (P.getD 0 pz).1 < 0) (hy : (S.n : Int) ≤ (P.getD (P.length - 1) pz).1) :
    Calls Try.prog 25 #[.pointer (some ⟨b, 0, none⟩), .agg #[.int .i64 T, .slice A n c]] w (Gives (.int .i64 2) w) := by
  have hA0 : At w (w.alloc (.cells #[.int .i64 T, .slice A n c] 36)) := (At.start w).alloc _
  have HB := Lib.hid (fun W (hW : At (w.alloc (.cells #[.int .i64 T, .slice A n c] 36)) W) => blocks_mp (h.on (hA0.next hW)))
  have hH := h.on hA0
  obtain ⟨m0, -, m2⟩ := hH.cells
  have hS1 := h.ok.n1
  have hS2 := h.ok.n2
  obtain ⟨sn, hsn⟩ : ∃ sn, sn = S.n := ⟨_, rfl⟩
  obtain ⟨sl, hsl⟩ : ∃ sl, sl = S.last := ⟨_, rfl⟩
  rw [← hsn] at m0 hS1 hS2 HB
  rw [← hsl] at m2
  try rw [← hsn] at hx
  try rw [← hsl] at h1
  try rw [← hsl] at h0
  have hz1 : ((sn : Int) == 0) = false := by simp; omega
  have b0 : (w.alloc (.cells #[.int .i64 T, .slice A n c] 36)).cell? ⟨w.heap.size, 0, none⟩ = some (.int .i64 T) := (cell_at (heap_alloc_new w _) 0).trans rfl
  have b1 : (w.alloc (.cells #[.int .i64 T, .slice A n c] 36)).cell? ⟨w.heap.size, 1, none⟩ = some (.slice A n c) := (cell_at (heap_alloc_new w _) 1).trans rfl
  have HP : Hid (PV (w.alloc (.cells #[.int .i64 T, .slice A n c] 36)) A P) := Lib.hid (hp.on hA0)
  have HN := Lib.hid hn
  have HA0 := Lib.hid hA0
  have d0 : decide (T ≤ sl) = false := decide_eq_false h0
  have d1 : decide (1099511627776 < T) = false := decide_eq_false h1
  have hnb : ((n : Int) == 0) = false := by simp; omega
  have HRS := Lib.hid (fun W (hW : PV W A P) => rises_any hW (by omega) (by omega) c)
  rw [hn, rsB_yes hr] at HRS
  obtain ⟨g, o, rfl, hg, hc⟩ := hp.pos (by omega)
  have p0' := (hc 0 (by omega)).1
  rw [Nat.zero_mul, Nat.add_zero] at p0'
  have p0 := (Below.cell hA0 (p := ⟨g, o, none⟩) hg).trans p0'
  obtain ⟨m, hm⟩ : ∃ m, m = P.length - 1 := ⟨_, rfl⟩
  have p1' := (hc m (by omega)).1
  have p1 := (Below.cell hA0 (p := ⟨g, o + m * 2, none⟩) hg).trans p1'
  have hnm : (n : Int) - 1 = (m : Int) := by omega
  have hwr : IntKind.i64.wrap ((n : Int) - 1) = (m : Int) := by rw [hnm]; exact IntWalk.i64_in _ (by omega)
  have g0 : 0 < n := by omega
  have g1 : (0 : Int) ≤ (m : Int) := by omega
  have g2 : (m : Int) < (n : Int) := by omega
  try rw [← hm] at hy
  obtain ⟨x, hxx⟩ : ∃ x, x = (P.getD 0 pz).1 := ⟨_, rfl⟩
  obtain ⟨y, hyy⟩ : ∃ y, y = (P.getD m pz).1 := ⟨_, rfl⟩
  rw [← hxx] at p0 hx
  rw [← hyy] at p1
  try rw [← hyy] at hy
  try rw [← hsn] at hy
  clear p0' p1' hc hm hxx hyy
  have dx : decide (x < 0) = false := decide_eq_false hx
  clear hr
  clear h hp hn hA0 hH hsn hsl
  go_enter Try.func25, Try.ntmps25
  go_wp2_with fail
  generalize w.alloc (.cells #[.int .i64 T, .slice (some ⟨g, o, none⟩) n c] 36) = wb at m0 m2 b0 b1 p0 p1 HP HB HA0 ⊢
  refine (HB.out _ (At.start _)).mono ?_
  rintro e w' ⟨rfl, rfl⟩
  go_wp2_with fail
  go_quiet (fail)
  go_wp2_with fail
  refine (HRS.out _ (HP.out.on ((At.start _).drewN _))).mono ?_
  rintro e w' ⟨rfl, mq, rfl⟩
  go_wp2_with fail
  go_quiet (fail)
  go_wp2
  go_ret
  first | exact ⟨rfl, HA0.out.drewN _⟩ | exact ⟨rfl, (HA0.out.drewN _).drewN _⟩
set_option maxHeartbeats 1000000 in
set_option maxRecDepth 100000 in
theorem refuses_len {w : World} {b : Nat} {S : St} {F : Nat → Prop} {mb : Nat} {D : DataW Value} {hd : Nat → Value} (h : Mq w b S F mb D hd) (T : Int) (A : Option Addr) (P : List Pt) (n c : Nat) (hn : P.length = n) (hp : PV w A P) (hl : n ≤ 1000000) (h0 : ¬ T ≤ S.last) (h1 : ¬ 1099511627776 < T) (hz : 1 ≤ n) (hr : Rs P) (hx : ¬ (P.getD 0 pz).1 < 0) (hy : ¬ (S.n : Int) ≤ (P.getD (P.length - 1) pz).1) (hb : bdB P = true) :
    Calls Try.prog 25 #[.pointer (some ⟨b, 0, none⟩), .agg #[.int .i64 T, .slice A n c]] w (Gives (.int .i64 3) w) := by
  have hA0 : At w (w.alloc (.cells #[.int .i64 T, .slice A n c] 36)) := (At.start w).alloc _
  have HB := Lib.hid (fun W (hW : At (w.alloc (.cells #[.int .i64 T, .slice A n c] 36)) W) => blocks_mp (h.on (hA0.next hW)))
  have hH := h.on hA0
  obtain ⟨m0, -, m2⟩ := hH.cells
  have hS1 := h.ok.n1
  have hS2 := h.ok.n2
  obtain ⟨sn, hsn⟩ : ∃ sn, sn = S.n := ⟨_, rfl⟩
  obtain ⟨sl, hsl⟩ : ∃ sl, sl = S.last := ⟨_, rfl⟩
  rw [← hsn] at m0 hS1 hS2 HB
  rw [← hsl] at m2
  try rw [← hsn] at hx
  try rw [← hsl] at h1
  try rw [← hsl] at h0
  have hz1 : ((sn : Int) == 0) = false := by simp; omega
  have b0 : (w.alloc (.cells #[.int .i64 T, .slice A n c] 36)).cell? ⟨w.heap.size, 0, none⟩ = some (.int .i64 T) := (cell_at (heap_alloc_new w _) 0).trans rfl
  have b1 : (w.alloc (.cells #[.int .i64 T, .slice A n c] 36)).cell? ⟨w.heap.size, 1, none⟩ = some (.slice A n c) := (cell_at (heap_alloc_new w _) 1).trans rfl
  have HP : Hid (PV (w.alloc (.cells #[.int .i64 T, .slice A n c] 36)) A P) := Lib.hid (hp.on hA0)
  have HN := Lib.hid hn
  have HA0 := Lib.hid hA0
  have d0 : decide (T ≤ sl) = false := decide_eq_false h0
  have d1 : decide (1099511627776 < T) = false := decide_eq_false h1
  have hnb : ((n : Int) == 0) = false := by simp; omega
  have HRS := Lib.hid (fun W (hW : PV W A P) => rises_any hW (by omega) (by omega) c)
  rw [hn, rsB_yes hr] at HRS
  obtain ⟨g, o, rfl, hg, hc⟩ := hp.pos (by omega)
  have p0' := (hc 0 (by omega)).1
  rw [Nat.zero_mul, Nat.add_zero] at p0'
  have p0 := (Below.cell hA0 (p := ⟨g, o, none⟩) hg).trans p0'
  obtain ⟨m, hm⟩ : ∃ m, m = P.length - 1 := ⟨_, rfl⟩
  have p1' := (hc m (by omega)).1
  have p1 := (Below.cell hA0 (p := ⟨g, o + m * 2, none⟩) hg).trans p1'
  have hnm : (n : Int) - 1 = (m : Int) := by omega
  have hwr : IntKind.i64.wrap ((n : Int) - 1) = (m : Int) := by rw [hnm]; exact IntWalk.i64_in _ (by omega)
  have g0 : 0 < n := by omega
  have g1 : (0 : Int) ≤ (m : Int) := by omega
  have g2 : (m : Int) < (n : Int) := by omega
  try rw [← hm] at hy
  obtain ⟨x, hxx⟩ : ∃ x, x = (P.getD 0 pz).1 := ⟨_, rfl⟩
  obtain ⟨y, hyy⟩ : ∃ y, y = (P.getD m pz).1 := ⟨_, rfl⟩
  rw [← hxx] at p0 hx
  rw [← hyy] at p1
  try rw [← hyy] at hy
  try rw [← hsn] at hy
  clear p0' p1' hc hm hxx hyy
  have dx : decide (x < 0) = false := decide_eq_false hx
  clear hr
  have dy : decide ((sn : Int) ≤ y) = false := decide_eq_false hy
  have HCF := Lib.hid (fun W (hW : PV W (some ⟨g, o, none⟩) P) => contains_any hW n c hn hl)
  rw [hb] at HCF
  clear hb
  clear h hp hn hA0 hH hsn hsl
  go_enter Try.func25, Try.ntmps25
  go_wp2_with fail
  generalize w.alloc (.cells #[.int .i64 T, .slice (some ⟨g, o, none⟩) n c] 36) = wb at m0 m2 b0 b1 p0 p1 HP HB HA0 ⊢
  refine (HB.out _ (At.start _)).mono ?_
  rintro e w' ⟨rfl, rfl⟩
  go_wp2_with fail
  go_quiet (fail)
  go_wp2_with fail
  refine (HRS.out _ (HP.out.on ((At.start _).drewN _))).mono ?_
  rintro e w' ⟨rfl, mq, rfl⟩
  go_wp2_with fail
  go_quiet (fail)
  go_wp2_with fail
  refine (HCF.out _ (HP.out.on ((At.start _).drewN _))).mono ?_
  rintro e w' ⟨rfl, hA⟩
  have HA := Lib.hid ((HA0.out.drewN _).next hA)
  clear hA
  go_wp2
  go_ret
  exact ⟨rfl, HA.out⟩
set_option maxHeartbeats 1000000 in
set_option maxRecDepth 100000 in
theorem refuses_ok {w : World} {b : Nat} {S : St} {F : Nat → Prop} {mb : Nat} {D : DataW Value} {hd : Nat → Value} (h : Mq w b S F mb D hd) (T : Int) (A : Option Addr) (P : List Pt) (n c : Nat) (hn : P.length = n) (hp : PV w A P) (hl : n ≤ 1000000) (h0 : ¬ T ≤ S.last) (h1 : ¬ 1099511627776 < T) (hz : 1 ≤ n) (hr : Rs P) (hx : ¬ (P.getD 0 pz).1 < 0) (hy : ¬ (S.n : Int) ≤ (P.getD (P.length - 1) pz).1) (hb : bdB P = false) :
    Calls Try.prog 25 #[.pointer (some ⟨b, 0, none⟩), .agg #[.int .i64 T, .slice A n c]] w (Gives (.int .i64 0) w) := by
  have hA0 : At w (w.alloc (.cells #[.int .i64 T, .slice A n c] 36)) := (At.start w).alloc _
  have HB := Lib.hid (fun W (hW : At (w.alloc (.cells #[.int .i64 T, .slice A n c] 36)) W) => blocks_mp (h.on (hA0.next hW)))
  have hH := h.on hA0
  obtain ⟨m0, -, m2⟩ := hH.cells
  have hS1 := h.ok.n1
  have hS2 := h.ok.n2
  obtain ⟨sn, hsn⟩ : ∃ sn, sn = S.n := ⟨_, rfl⟩
  obtain ⟨sl, hsl⟩ : ∃ sl, sl = S.last := ⟨_, rfl⟩
  rw [← hsn] at m0 hS1 hS2 HB
  rw [← hsl] at m2
  try rw [← hsn] at hx
  try rw [← hsl] at h1
  try rw [← hsl] at h0
  have hz1 : ((sn : Int) == 0) = false := by simp; omega
  have b0 : (w.alloc (.cells #[.int .i64 T, .slice A n c] 36)).cell? ⟨w.heap.size, 0, none⟩ = some (.int .i64 T) := (cell_at (heap_alloc_new w _) 0).trans rfl
  have b1 : (w.alloc (.cells #[.int .i64 T, .slice A n c] 36)).cell? ⟨w.heap.size, 1, none⟩ = some (.slice A n c) := (cell_at (heap_alloc_new w _) 1).trans rfl
  have HP : Hid (PV (w.alloc (.cells #[.int .i64 T, .slice A n c] 36)) A P) := Lib.hid (hp.on hA0)
  have HN := Lib.hid hn
  have HA0 := Lib.hid hA0
  have d0 : decide (T ≤ sl) = false := decide_eq_false h0
  have d1 : decide (1099511627776 < T) = false := decide_eq_false h1
  have hnb : ((n : Int) == 0) = false := by simp; omega
  have HRS := Lib.hid (fun W (hW : PV W A P) => rises_any hW (by omega) (by omega) c)
  rw [hn, rsB_yes hr] at HRS
  obtain ⟨g, o, rfl, hg, hc⟩ := hp.pos (by omega)
  have p0' := (hc 0 (by omega)).1
  rw [Nat.zero_mul, Nat.add_zero] at p0'
  have p0 := (Below.cell hA0 (p := ⟨g, o, none⟩) hg).trans p0'
  obtain ⟨m, hm⟩ : ∃ m, m = P.length - 1 := ⟨_, rfl⟩
  have p1' := (hc m (by omega)).1
  have p1 := (Below.cell hA0 (p := ⟨g, o + m * 2, none⟩) hg).trans p1'
  have hnm : (n : Int) - 1 = (m : Int) := by omega
  have hwr : IntKind.i64.wrap ((n : Int) - 1) = (m : Int) := by rw [hnm]; exact IntWalk.i64_in _ (by omega)
  have g0 : 0 < n := by omega
  have g1 : (0 : Int) ≤ (m : Int) := by omega
  have g2 : (m : Int) < (n : Int) := by omega
  try rw [← hm] at hy
  obtain ⟨x, hxx⟩ : ∃ x, x = (P.getD 0 pz).1 := ⟨_, rfl⟩
  obtain ⟨y, hyy⟩ : ∃ y, y = (P.getD m pz).1 := ⟨_, rfl⟩
  rw [← hxx] at p0 hx
  rw [← hyy] at p1
  try rw [← hyy] at hy
  try rw [← hsn] at hy
  clear p0' p1' hc hm hxx hyy
  have dx : decide (x < 0) = false := decide_eq_false hx
  clear hr
  have dy : decide ((sn : Int) ≤ y) = false := decide_eq_false hy
  have HCF := Lib.hid (fun W (hW : PV W (some ⟨g, o, none⟩) P) => contains_any hW n c hn hl)
  rw [hb] at HCF
  clear hb
  clear h hp hn hA0 hH hsn hsl
  go_enter Try.func25, Try.ntmps25
  go_wp2_with fail
  generalize w.alloc (.cells #[.int .i64 T, .slice (some ⟨g, o, none⟩) n c] 36) = wb at m0 m2 b0 b1 p0 p1 HP HB HA0 ⊢
  refine (HB.out _ (At.start _)).mono ?_
  rintro e w' ⟨rfl, rfl⟩
  go_wp2_with fail
  go_quiet (fail)
  go_wp2_with fail
  refine (HRS.out _ (HP.out.on ((At.start _).drewN _))).mono ?_
  rintro e w' ⟨rfl, mq, rfl⟩
  go_wp2_with fail
  go_quiet (fail)
  go_wp2_with fail
  refine (HCF.out _ (HP.out.on ((At.start _).drewN _))).mono ?_
  rintro e w' ⟨rfl, hA⟩
  have HA := Lib.hid ((HA0.out.drewN _).next hA)
  clear hA
  go_wp2
  go_ret
  exact ⟨rfl, HA.out⟩

/-- Why a transaction is refused. -/
theorem refuses_any {w : World} {b : Nat} {S : St} {F : Nat → Prop} {mb : Nat} {D : DataW Value} {hd : Nat → Value} (h : Mq w b S F mb D hd) (T : Int) (A : Option Addr) (P : List Pt) (n c : Nat) (hn : P.length = n) (hp : PV w A P) (hl : n ≤ 1000000) :
    Calls Try.prog 25 #[.pointer (some ⟨b, 0, none⟩), .agg #[.int .i64 T, .slice A n c]] w (Gives (.int .i64 (rf S T P)) w) := by
  by_cases h0 : T ≤ S.last
  · rw [rf_time (Or.inl h0)]; exact refuses_late h T A P n c hn hp hl h0
  by_cases h1 : 1099511627776 < T
  · rw [rf_time (Or.inr h1)]; exact refuses_over h T A P n c hn hp hl h0 h1
  have h2 : ¬ (T ≤ S.last ∨ 1099511627776 < T) := fun h => h.elim h0 h1
  by_cases h3 : P = []
  · rw [rf_arg h2 (Or.inl h3)]; exact refuses_none h T A P n c hn hp hl h0 h1 (by rw [← hn, h3]; rfl)
  have h4 : 1 ≤ n := by rw [← hn]; exact List.length_pos_iff.2 h3
  by_cases h5 : ¬ Rs P
  · rw [rf_arg h2 (Or.inr h5)]; exact refuses_fall h T A P n c hn hp hl h0 h1 h4 h5
  have h5 : Rs P := Classical.byContradiction h5
  have h6 : ¬ (P = [] ∨ ¬ Rs P) := fun h => h.elim h3 fun h => h h5
  by_cases h7 : (P.getD 0 pz).1 < 0
  · rw [rf_range h2 h6 (Or.inl h7)]; exact refuses_low h T A P n c hn hp hl h0 h1 h4 h5 h7
  by_cases h8 : (S.n : Int) ≤ (P.getD (P.length - 1) pz).1
  · rw [rf_range h2 h6 (Or.inr h8)]; exact refuses_high h T A P n c hn hp hl h0 h1 h4 h5 h7 h8
  have h9 : ¬ ((P.getD 0 pz).1 < 0 ∨ (S.n : Int) ≤ (P.getD (P.length - 1) pz).1) := fun h => h.elim h7 h8
  cases hb : bdB P
  · rw [rf_ok h2 h6 h9 fun h => by rw [bd_iff.2 h] at hb; cases hb]; exact refuses_ok h T A P n c hn hp hl h0 h1 h4 h5 h7 h8 hb
  · rw [rf_len h2 h6 h9 (bd_iff.1 hb)]; exact refuses_len h T A P n c hn hp hl h0 h1 h4 h5 h7 h8 hb

set_option maxHeartbeats 400000 in
theorem refuses_nil (w : World) (T : Int) (A : Option Addr) (n c : Nat) : Calls Try.prog 25 #[.pointer none, .agg #[.int .i64 T, .slice A n c]] w (Gives (.int .i64 1) w) := by
  have HB := Lib.hid (fun W => blocks_nil W)
  go_enter Try.func25, Try.ntmps25
  go_wp2_with fail
  refine (HB.out _).mono ?_
  rintro e w' ⟨rfl, rfl⟩
  go_wp2
  go_ret
  exact ⟨rfl, (Below.refl _ _).alloc (Nat.le_refl _) _⟩

end Go.Proofs.Ytcffoebpgjonmaa.Em
