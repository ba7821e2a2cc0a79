/- Proved: the document's own Sort answers with a row of new memory that holds the list's numbers in order. -/
import Derived.Test.YtphhonpibmbjmaaInsert
import Derived.Test.YtphhonpibmbjmaaNums
import Derived.WalkSmall
import Derived.ProofKit
namespace Go.Proofs.Ytphhonpibmbjmaa
open Go.RowKit Fl

theorem same_first {P : Program} {f : FuncId} {args : Array Value} {w : World} {n : Nat} {v : Value} (h : Calls P f args (w.drewN n) fun e w' => e = .returned v ∧ w.drewN n = w') :
    Calls P f args (w.drewN n) fun e w'' => e = .returned v ∧ ∃ m, w'' = w.drewN m :=
  h.mono fun _ _ hr => ⟨hr.1, n, hr.2.symm⟩
theorem cmpI_neg (a b : Nat) : decide (cmpI a b < 0) = decide (kb a < kb b) := by
  unfold cmpI
  by_cases h : kb a < kb b
  · rw [if_pos h]; simp [h]
  · rw [if_neg h]; split <;> simp [h]
theorem store_float (P : Program) (w : World) (a : Addr) (m : Mode) (k : FloatKind) (b : Nat) : (store a (.float k b) m).run P w = stored P w a (.float k b) m := run_store P w a _ m rfl
theorem own_cell {w : World} {B T g cap n : Nat} {S : List Nat} (h : w.ownsRow B T 1 (.slice (some ⟨g, 0, none⟩) n cap) n (S.map (Value.float .f64))) (j : Nat) (hj : j < n) :
    w.cell? ⟨g, j, none⟩ = some (.float .f64 (S.getD j 0)) ∧ j < S.length := by
  have hl : S.length = n := by simpa using h.1
  rw [h.cellAt j (by omega), List.getElem?_map, List.getD_eq_getElem?_getD, List.getElem?_eq_getElem (by omega)]
  exact ⟨rfl, by omega⟩

theorem swap_own {w wr : World} {B T g cap n m : Nat} {S : List Nat} (q x y : Nat) (hx : x = S.getD (q + 1) 0) (hy : y = S.getD q 0) (hg : B ≤ g)
    (h : wr.ownsRow B T 1 (.slice (some ⟨g, 0, none⟩) n cap) n (S.map (Value.float .f64))) (hb : Below B w wr) :
    (((wr.drewN m).setCell ⟨g, q + 1, none⟩ (.float .f64 y)).setCell ⟨g, q, none⟩ (.float .f64 x)).ownsRow B T 1 (.slice (some ⟨g, 0, none⟩) n cap) n ((swapAt S q).map (Value.float .f64)) ∧
    Below B w (((wr.drewN m).setCell ⟨g, q + 1, none⟩ (.float .f64 y)).setCell ⟨g, q, none⟩ (.float .f64 x)) := by
  have h1 : (wr.drewN m).ownsRow B T 1 (.slice (some ⟨g, 0, none⟩) n cap) n (S.map (Value.float .f64)) := h
  have h2 := (h1.stored (q + 1) (.float .f64 y)).1
  have h3 := (h2.stored q (.float .f64 x)).1
  refine ⟨?_, ((below_drewN hb m).setCell hg _).setCell hg _⟩
  have e : ((S.map (Value.float .f64)).set (q + 1) (.float .f64 y)).set q (.float .f64 x) = (swapAt S q).map (Value.float .f64) := by
    unfold swapAt
    rw [List.map_set, List.map_set, ← hx, ← hy]
  rw [e] at h3
  exact h3

theorem info_f64 : (Try.prog.info? 25).map (fun i => (i.zero, i.size, i.bytes)) = some (some (.float .f64 0), 1, 8) := by kernel_rfl

attribute [local go_sem] store_float
set_option maxHeartbeats 2000000 in
theorem rsort_some (b off len cap : Nat) (L : List Nat) (w : World) (hl : L.length = len) (h0 : 0 < len) (hb : len ≤ 1000000) (hbW : b < w.heap.size)
    (hx : ∀ j, j < len → w.cell? ⟨b, off + j, none⟩ = some (.float .f64 (L.getD j 0))) (hf : ∀ x ∈ L, x < 18446744073709551616) :
    Calls Try.prog 27 #[.slice (some ⟨b, off, none⟩) len cap] w fun e w' => ∃ v R, e = .returned v ∧ Sorts L R ∧ w'.ownsRow w.heap.size 25 1 v len (R.map (Value.float .f64)) ∧ Below w.heap.size w w' := by
  obtain ⟨i0, hi, hz0, hz1, hz2⟩ := info_parts info_f64
  obtain ⟨B, hB⟩ : ∃ B, B = w.heap.size := ⟨_, rfl⟩
  rw [← hB]
  have HB := Lib.hid hB
  have HBW : B ≤ w.heap.size := by omega
  clear hB
  go_enter Try.func27, Try.ntmps27
  go_wp2_with (at_builtin; refine wpList_append_own _ rfl _ _ 22 rfl B 25 i0 (.float .f64 0) 1 8 Try.underlying22 hi hz0 hz1 hz2 rfl (by decide) _ 0 [] rfl ?c0 ⟨b, off, none⟩ len cap (L.map (Value.float .f64)) rfl ?c1 ?c2 ?c3 ?c4 ?c5 ?c6 ?_)
  case c0 => exact World.ownsRow_made w #[] 0 HBW (by unfold maxLen; omega) rfl
  case c1 => simpa using hl
  case c2 =>
    intro j u hj
    rw [List.getElem?_map] at hj
    by_cases h : j < L.length
    · rw [List.getElem?_eq_getElem h] at hj
      have := hx j (by omega)
      rw [List.getD_eq_getElem?_getD, List.getElem?_eq_getElem h] at this
      rw [Go.WideShapes.add_plain]
      simp only [Option.map_some, Option.some.injEq] at hj
      rw [← hj]
      exact (World.cell?_alloc_past _ _ _ hbW).trans this
    · rw [List.getElem?_eq_none (by omega)] at hj; cases hj
  case c3 => intro u hu; simp only [List.mem_map] at hu; obtain ⟨x, _, rfl⟩ := hu; rfl
  case c4 => unfold maxLen; omega
  case c5 => omega
  case c6 => simp; omega
  intro v' w1 hown hgrow _
  rcases hown.2 with ⟨_, h⟩ | ⟨g, cap2, cur, rfl, hgB, _⟩
  · omega
  have hnx : Below B w w1 := ((Below.refl _ _).alloc HBW _).grown hgrow (by simp; omega) (fun j hj => by
    simp only [Value.ownBlock, Option.some.injEq] at hj
    omega)
  clear hgrow
  have HX := Lib.hid hx
  have HF := Lib.hid hf
  have HL := Lib.hid hl
  clear hx hf hl
  go_wp2
  go_loopw [4] (fun i wr => ∃ k : Nat, 1 ≤ k ∧ k ≤ len ∧ i = .int .i64 k ∧ ∃ R : List Nat, SortedTo k R ∧ R.Perm L ∧ wr.ownsRow B 25 1 (.slice (some ⟨g, 0, none⟩) len cap2) len (R.map (Value.float .f64)) ∧ Below B w wr) (fun i _ => len - (intOf i).toNat)
  case atStart => exact ⟨1, Nat.le_refl _, h0, rfl, L, sorted_one L, List.Perm.refl _, hown, hnx⟩
  case round =>
    clear hown hnx
    obtain ⟨k, hk1, hk, rfl, R, hR, hP, hown, hnx⟩ := hrel
    have HS := Lib.hid hR
    have HP := Lib.hid hP
    clear hR hP
    by_cases hlt : k < len
    · obtain ⟨wo, hwo⟩ : ∃ wo : World, wo = wr := ⟨_, rfl⟩
      subst hwo
      go_wp2
      go_loopw [5] (fun j wr => ∃ p : Nat, p ≤ k ∧ j = .int .i64 p ∧ ∃ S : List Nat, Ins p k S ∧ S.Perm L ∧ wr.ownsRow B 25 1 (.slice (some ⟨g, 0, none⟩) len cap2) len (S.map (Value.float .f64)) ∧ Below B w wr) (fun j _ => (intOf j).toNat)
      case atStart => exact ⟨k, Nat.le_refl _, rfl, R, ins_start k R HS.out, HP.out, hown, hnx⟩
      case round =>
        clear hown hnx
        obtain ⟨p, hp, rfl, S, hI, hSP, hown, hnx⟩ := hrel
        have hlen : S.length = len := by simpa using hown.1
        have HI := Lib.hid hI
        have HSP := Lib.hid hSP
        have HLn := Lib.hid hlen
        clear hI hSP hlen
        match p, hp with
        | 0, hp =>
          go_wp2
          go_quiet (fail)
          go_wp2
          go_roundw
          case rel => exact ⟨k + 1, by omega, by omega, by go_num, S, ins_zero k S HI.out, HSP.out, hown, hnx.trans (below_drewN (Below.refl _ _) _)⟩
          case measure => simp [intOf]; omega
        | q + 1, hp =>
          obtain ⟨c1, l1⟩ := own_cell hown (q + 1) (by omega)
          obtain ⟨c2, l2⟩ := own_cell hown q (by omega)
          have f1 := hown.frozenAt (q + 1)
          have f2 := hown.frozenAt q
          have HO := Lib.hid hown
          have HN := Lib.hid hnx
          clear hown hnx
          have d1 : S.getD (q + 1) 0 < 18446744073709551616 := by
            refine HF.out _ (HSP.out.mem_iff.1 ?_)
            rw [List.getD_eq_getElem?_getD, List.getElem?_eq_getElem l1]; exact List.getElem_mem l1
          have d2 : S.getD q 0 < 18446744073709551616 := by
            refine HF.out _ (HSP.out.mem_iff.1 ?_)
            rw [List.getD_eq_getElem?_getD, List.getElem?_eq_getElem l2]; exact List.getElem_mem l2
          have cc := cmpI_neg (S.getD (q + 1) 0) (S.getD q 0)
          obtain ⟨x, hx⟩ : ∃ x, x = S.getD (q + 1) 0 := ⟨_, rfl⟩
          obtain ⟨y, hy⟩ : ∃ y, y = S.getD q 0 := ⟨_, rfl⟩
          rw [← hx] at c1 d1 cc
          rw [← hy] at c2 d2 cc
          have HXX := Lib.hid hx
          have HYY := Lib.hid hy
          clear hx hy l1 l2
          have b1 : (0 : Int) ≤ (q : Int) := by omega
          have b2 : (q : Int) + 1 < (len : Int) := by omega
          by_cases hc : kb x < kb y
          · replace cc := cc.trans (decide_eq_true hc)
            go_wp2
            go_quiet ((go_at_call 39; exact same_first (rcompare_any _ _ d1 d2 _)))
            go_wp2
            go_region
            obtain ⟨R1, R2⟩ := swap_own (m := nq + 1) q x y HXX.out HYY.out hgB HO.out HN.out
            go_wp2
            go_roundw
            case rel => exact ⟨q, by omega, rfl, swapAt S q, ins_step q k S (by omega) (by rw [HLn.out]; omega) HI.out (by unfold at'; rw [← HXX.out, ← HYY.out]; exact hc), (swap_perm S q (by rw [HLn.out]; omega)).trans HSP.out, R1, R2⟩
            case measure => simp [intOf]
          · replace cc := cc.trans (decide_eq_false hc)
            go_wp2
            go_quiet ((go_at_call 39; exact same_first (rcompare_any _ _ d1 d2 _)))
            go_wp2
            go_roundw
            case rel => exact ⟨k + 1, by omega, by omega, by go_num, S, ins_stop q k S HI.out (by unfold at'; rw [← HXX.out, ← HYY.out]; omega), HSP.out, HO.out, HN.out.trans (below_drewN (Below.refl _ _) _)⟩
            case measure => simp [intOf]; omega
    · have hk8 : k = len := by omega
      subst hk8
      go_wp2
      go_ret
      refine ⟨_, R, rfl, ⟨sorted_pairwise R ?_, HP.out.map kb, fun x hx => HF.out x (HP.out.mem_iff.1 hx)⟩, hown, hnx⟩
      have : R.length = k := by simpa using hown.1
      rw [this]; exact HS.out

end Go.Proofs.Ytphhonpibmbjmaa
