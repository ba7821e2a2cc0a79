/- Proved: small contracts: whether an extent may be; how many blocks a map has, its last time, how many blocks have a version; whether an extent's blocks are the map's. -/
import Derived.Test.YtjpoiijifnfjhaaMap
import Derived.Deep.RegionHeld3
import Derived.Deep.RegionWith
namespace Go.Proofs.Ytjpoiijifnfjhaa
open Go.RowKit

/-- May an extent be? -/
def Va (e : Int × Int) : Prop := 0 ≤ e.1 ∧ e.1 ≤ 1048576 ∧ 1 ≤ e.2 ∧ e.2 ≤ 1048576 ∧ e.1 + e.2 ≤ 1048577
instance (e : Int × Int) : Decidable (Va e) := by unfold Va; exact inferInstance

set_option maxHeartbeats 400000 in
/-- The block behind an extent. -/
theorem after_any (a n : Int) (w : World) (h1 : 0 ≤ a) (h2 : a ≤ 4000000) (h3 : 0 ≤ n) (h4 : n ≤ 4000000) :
    Calls Try.prog 44 #[.agg #[.int .i64 a, .int .i64 n]] w fun e w' => e = .returned (.int .i64 (a + n)) ∧ w' = w.alloc (.cells #[.int .i64 a, .int .i64 n] 48) := by
  go_enter Try.func44, Try.ntmps44
  go_wp2
  go_ret
  exact ⟨rfl, rfl⟩

/-- Whether an extent may be. -/
def vaB (a n : Int) : Bool := decide (Va (a, n))
theorem vaB_yes {a n : Int} (h : Va (a, n)) : vaB a n = true := decide_eq_true h
theorem vaB_no {a n : Int} (h : ¬ Va (a, n)) : vaB a n = false := decide_eq_false h

set_option maxHeartbeats 1000000 in
theorem valid_any (a n : Int) (w : World) : Calls Try.prog 36 #[.agg #[.int .i64 a, .int .i64 n]] w (Gives (.bool (vaB a n)) w) := by
  have HB : Hid (At w (w.alloc (.cells #[.int .i64 a, .int .i64 n] 48))) := Lib.hid ((At.start w).alloc _)
  have HC : Hid (At w ((w.alloc (.cells #[.int .i64 a, .int .i64 n] 48)).alloc (.cells #[.int .i64 a, .int .i64 n] 48))) := Lib.hid (((At.start w).alloc _).alloc _)
  by_cases h1 : 0 ≤ a
  · by_cases h2 : a ≤ 1048576
    · by_cases h3 : 1 ≤ n
      · by_cases h4 : n ≤ 1048576
        · by_cases h5 : a + n ≤ 1048577
          · rw [vaB_yes ⟨h1, h2, h3, h4, h5⟩]
            go_enter Try.func36, Try.ntmps36
            go_wp2_with (go_at_call 44; refine (after_any _ _ _ (by omega) (by omega) (by omega) (by omega)).mono ?_; rintro e w' ⟨rfl, rfl⟩)
            go_ret
            exact ⟨rfl, HC.out⟩
          · rw [vaB_no (fun h => h5 h.2.2.2.2)]
            have h5' : decide (a + n ≤ 1048577) = false := decide_eq_false h5
            go_enter Try.func36, Try.ntmps36
            go_wp2_with (go_at_call 44; refine (after_any _ _ _ (by omega) (by omega) (by omega) (by omega)).mono ?_; rintro e w' ⟨rfl, rfl⟩)
            go_ret
            exact ⟨rfl, HC.out⟩
        · rw [vaB_no (fun h => h4 h.2.2.2.1)]
          go_enter Try.func36, Try.ntmps36
          go_wp2
          go_ret
          exact ⟨rfl, HB.out⟩
      · rw [vaB_no (fun h => h3 h.2.2.1)]
        go_enter Try.func36, Try.ntmps36
        go_wp2
        go_ret
        exact ⟨rfl, HB.out⟩
    · rw [vaB_no (fun h => h2 h.2.1)]
      go_enter Try.func36, Try.ntmps36
      go_wp2
      go_ret
      exact ⟨rfl, HB.out⟩
  · rw [vaB_no (fun h => h1 h.1)]
    go_enter Try.func36, Try.ntmps36
    go_wp2
    go_ret
    exact ⟨rfl, HB.out⟩

section
variable {w : World} {b : Nat} {S : St} {F : Nat → Prop} {mb : Nat} {D : DataW Value} {hd : Nat → Value}
set_option maxHeartbeats 400000 in
theorem blocks_mp (h : Mq w b S F mb D hd) : Calls Try.prog 21 #[.pointer (some ⟨b, 0, none⟩)] w fun e w' => e = .returned (.int .i64 (S.n : Int)) ∧ w = w' := by
  obtain ⟨c0, -, -⟩ := h.cells
  go_enter Try.func21, Try.ntmps21
  go_wp2
  go_ret
  exact ⟨rfl, rfl⟩
set_option maxHeartbeats 400000 in
theorem blocks_nil (w : World) : Calls Try.prog 21 #[.pointer none] w fun e w' => e = .returned (.int .i64 0) ∧ w = w' := by
  go_enter Try.func21, Try.ntmps21
  go_wp2
  go_ret
  exact ⟨rfl, rfl⟩
set_option maxHeartbeats 400000 in
theorem last_mp (h : Mq w b S F mb D hd) : Calls Try.prog 12 #[.pointer (some ⟨b, 0, none⟩)] w fun e w' => e = .returned (.int .i64 S.last) ∧ w = w' := by
  obtain ⟨-, -, c0⟩ := h.cells
  go_enter Try.func12, Try.ntmps12
  go_wp2
  go_ret
  exact ⟨rfl, rfl⟩
set_option maxHeartbeats 400000 in
theorem last_nil (w : World) : Calls Try.prog 12 #[.pointer none] w fun e w' => e = .returned (.int .i64 0) ∧ w = w' := by
  go_enter Try.func12, Try.ntmps12
  go_wp2
  go_ret
  exact ⟨rfl, rfl⟩
set_option maxHeartbeats 400000 in
theorem all_mp (h : Mq w b S F mb D hd) : Calls Try.prog 30 #[.pointer (some ⟨b, 0, none⟩)] w fun e w' => e = .returned (.map (some mb)) ∧ w = w' := by
  obtain ⟨-, c0, -⟩ := h.cells
  go_enter Try.func30, Try.ntmps30
  go_wp2
  go_ret
  exact ⟨rfl, rfl⟩
set_option maxHeartbeats 400000 in
theorem all_nil (w : World) : Calls Try.prog 30 #[.pointer none] w fun e w' => e = .returned (.map none) ∧ w = w' := by
  go_enter Try.func30, Try.ntmps30
  go_wp2
  go_ret
  exact ⟨rfl, rfl⟩
set_option maxHeartbeats 400000 in
theorem used_mp (h : Mq w b S F mb D hd) : Calls Try.prog 17 #[.pointer (some ⟨b, 0, none⟩)] w fun e w' => e = .returned (.int .i64 ((us S).length : Int)) ∧ w = w' := by
  have HA := Lib.hid (fun W (hW : Mq W b S F mb D hd) => all_mp hW)
  have hlen := h.own.len Try.underlying60 3
  rw [h.size] at hlen
  have H := Lib.hid h
  clear h
  go_enter Try.func17, Try.ntmps17
  go_wp2_with (first | (go_at_call 30; refine (HA.out _ H.out).mono ?_; rintro e w' ⟨rfl, rfl⟩) | (at_len; refine wpList_len_own _ rfl _ 60 rfl 3 66 Try.underlying60 raw mb _ D rfl H.out.own ?_))
  try rw [H.out.size]
  go_ret
  exact ⟨rfl, rfl⟩
end

/-- An entry is looked up, at the operation. -/
theorem look_law {ops : Array Oper} {rest : List Oper} {op : Oper} {a : Act} {w : World} {Q : Exit → Act → World → Prop} (hg : op.guard = none) (m x : Operand) (hop : op.op = .lookup 60 m x false) (mv key v : Value)
    (hm : a.eval m = mv) (hx : a.eval x = key) (hrun : (Instr.lookup 60 mv key false).run Try.prog w = .ok v w) (h : wpList Try.prog ops Q rest (a.put op.dst v) w) : wpList Try.prog ops Q (op :: rest) a w :=
  wpList_plain hg fun K' hK' => by
    unfold Oper.wp
    simp [execOp, hop, hm, hx, hrun, Result.andThen]
    exact hK' _ _ h

/-- Are an extent's blocks among the first N? -/
def haB (N : Nat) (a n : Int) : Bool := vaB a n && decide (a + n ≤ (N : Int))
theorem haB_yes {N : Nat} {a n : Int} (h : Va (a, n)) (h2 : a + n ≤ (N : Int)) : haB N a n = true := by unfold haB; rw [vaB_yes h, decide_eq_true h2]; rfl
theorem haB_no {N : Nat} {a n : Int} (h : ¬ (Va (a, n) ∧ a + n ≤ (N : Int))) : haB N a n = false := by
  unfold haB
  by_cases h1 : Va (a, n)
  · rw [decide_eq_false fun h2 => h ⟨h1, h2⟩, Bool.and_false]
  · rw [vaB_no h1, Bool.false_and]
set_option maxHeartbeats 1000000 in
set_option maxRecDepth 100000 in
theorem has_gen {w : World} (p : Option Addr) (N : Nat) (hb : ∀ W, At w W → Calls Try.prog 21 #[.pointer p] W fun e w' => e = .returned (.int .i64 (N : Int)) ∧ W = w') (a n : Int) :
    Calls Try.prog 27 #[.pointer p, .agg #[.int .i64 a, .int .i64 n]] w (Gives (.bool (haB N a n)) w) := by
  have HB := Lib.hid hb
  have HC : Hid (∀ W, At (w.alloc (.cells #[.int .i64 a, .int .i64 n] 48)) W → W.cell? ⟨w.heap.size, 0, none⟩ = some (.int .i64 a) ∧ W.cell? ⟨w.heap.size, 1, none⟩ = some (.int .i64 n) ∧ At w W) := Lib.hid fun W hW =>
    ⟨(cell_at (hW.keep (heap_alloc_new w _)) 0).trans rfl, (cell_at (hW.keep (heap_alloc_new w _)) 1).trans rfl, ((At.start w).alloc _).next hW⟩
  obtain ⟨c1, c2, _⟩ := HC.out _ (At.start _)
  clear hb
  by_cases hv : Va (a, n)
  · have HV := Lib.hid (fun W => valid_any a n W)
    rw [vaB_yes hv] at HV
    obtain ⟨e1, e2, e3, e4, e5⟩ := hv
    simp only at e1 e2 e3 e4 e5
    have hs : IntKind.i64.wrap (a + n) = a + n := IntWalk.i64_in _ (by omega)
    by_cases hN : a + n ≤ (N : Int)
    · rw [haB_yes ⟨e1, e2, e3, e4, e5⟩ hN]
      go_enter Try.func27, Try.ntmps27
      go_wp2_with fail
      go_region_held3 (fun w' => w'.cell? ⟨w.heap.size, 0, none⟩ = some (.int .i64 a) ∧ w'.cell? ⟨w.heap.size, 1, none⟩ = some (.int .i64 n)) (go_keep)
        (first
          | (go_at_call 36; refine (HV.out _).mono ?_; rintro e w1 ⟨rfl, hA⟩; obtain ⟨d1, d2, d3⟩ := HC.out w1 (((At.start _).drewN 1).next hA); clear hA; have HA := Lib.hid d3; clear d3)
          | (go_at_call 21; refine (HB.out _ HA.out).mono ?_; rintro e w' ⟨rfl, rfl⟩))
      go_wp2
      go_ret
      exact ⟨rfl, HA.out⟩
    · rw [haB_no fun h => hN h.2]
      have hN' : decide (a + n ≤ (N : Int)) = false := decide_eq_false hN
      go_enter Try.func27, Try.ntmps27
      go_wp2_with fail
      go_region_held3 (fun w' => w'.cell? ⟨w.heap.size, 0, none⟩ = some (.int .i64 a) ∧ w'.cell? ⟨w.heap.size, 1, none⟩ = some (.int .i64 n)) (go_keep)
        (first
          | (go_at_call 36; refine (HV.out _).mono ?_; rintro e w1 ⟨rfl, hA⟩; obtain ⟨d1, d2, d3⟩ := HC.out w1 (((At.start _).drewN 1).next hA); clear hA; have HA := Lib.hid d3; clear d3)
          | (go_at_call 21; refine (HB.out _ HA.out).mono ?_; rintro e w' ⟨rfl, rfl⟩))
      go_wp2
      go_ret
      exact ⟨rfl, HA.out⟩
  · have HV := Lib.hid (fun W => valid_any a n W)
    rw [vaB_no hv] at HV
    rw [haB_no fun h => hv h.1]
    go_enter Try.func27, Try.ntmps27
    go_wp2_with fail
    refine wp_region_any (by kernel_rfl) ?_
    change wpAny _ _ _ _ _ _ _ (World.drew _)
    refine wpAny_ready (rs := [0]) (by kernel_rfl) (by simp) ?_
    refine AllReady.cons rfl (fun K hK => ?_) AllReady.nil
    go_simp
    refine hK _ _ ?_
    clear hK K
    refine wpAny_ready (rs := [1]) (by kernel_rfl) (by simp) ?_
    refine AllReady.cons rfl (fun K hK => ?_) AllReady.nil
    go_simp
    go_at_call 36
    refine (HV.out _).mono ?_
    rintro e w1 ⟨rfl, hA⟩
    obtain ⟨-, -, d3⟩ := HC.out w1 (((At.start _).drewN 1).next hA)
    have HA := Lib.hid d3
    clear hA d3
    refine hK _ _ ?_
    clear hK K
    refine wpAny_take (i := 2) (v := .bool false) rfl (by kernel_rfl) (by kernel_rfl) (by kernel_rfl) (fun _ _ _ h => h) (Or.inl ⟨by kernel_rfl, fun w => by kernel_rfl⟩) ?_
    refine wpAny_take (i := 3) (v := undef) rfl (by kernel_rfl) (by kernel_rfl) (by kernel_rfl) (fun _ _ _ h => h) (Or.inr ⟨by kernel_rfl, rfl⟩) ?_
    refine wpAny_take (i := 4) (v := undef) rfl (by kernel_rfl) (by kernel_rfl) (by kernel_rfl) (fun _ _ _ h => h) (Or.inr ⟨by kernel_rfl, rfl⟩) ?_
    refine wpAny_take (i := 5) (v := undef) rfl (by kernel_rfl) (by kernel_rfl) (by kernel_rfl) (fun _ _ _ h => h) (Or.inr ⟨by kernel_rfl, rfl⟩) ?_
    refine wpAny_take (i := 6) (v := undef) rfl (by kernel_rfl) (by kernel_rfl) (by kernel_rfl) (fun _ _ _ h => h) (Or.inr ⟨by kernel_rfl, rfl⟩) ?_
    refine wpAny_take (i := 7) (v := undef) rfl (by kernel_rfl) (by kernel_rfl) (by kernel_rfl) (fun _ _ _ h => h) (Or.inr ⟨by kernel_rfl, rfl⟩) ?_
    refine wpAny_take (i := 8) (v := undef) rfl (by kernel_rfl) (by kernel_rfl) (by kernel_rfl) (fun _ _ _ h => h) (Or.inr ⟨by kernel_rfl, rfl⟩) ?_
    refine wpAny_take (i := 9) (v := undef) rfl (by kernel_rfl) (by kernel_rfl) (by kernel_rfl) (fun _ _ _ h => h) (Or.inr ⟨by kernel_rfl, rfl⟩) ?_
    refine wpAny_take (i := 10) (v := undef) rfl (by kernel_rfl) (by kernel_rfl) (by kernel_rfl) (fun _ _ _ h => h) (Or.inr ⟨by kernel_rfl, rfl⟩) ?_
    refine wpAny_take (i := 11) (v := .bool false) rfl (by kernel_rfl) (by kernel_rfl) (by kernel_rfl) (fun _ _ _ h => h) (Or.inl ⟨by kernel_rfl, fun w => by kernel_rfl⟩) ?_
    refine wpAny_take (i := 12) (v := .bool false) rfl (by kernel_rfl) (by kernel_rfl) (by kernel_rfl) (fun _ _ _ h => h) (Or.inl ⟨by kernel_rfl, fun w => by kernel_rfl⟩) ?_
    refine wpAny_done (by kernel_rfl) ?_ _
    go_wp2
    go_ret
    exact ⟨by kernel_rfl, HA.out⟩

end Go.Proofs.Ytjpoiijifnfjhaa
