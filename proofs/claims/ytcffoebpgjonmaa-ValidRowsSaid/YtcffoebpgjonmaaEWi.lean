/- Proved: what goes through an extent's blocks that have a version hands on each of them, and its versions. -/
import Derived.Test.YtcffoebpgjonmaaESm
import Derived.RangeFuncFrom
import Derived.RangeFuncLeaves
import Derived.RangeFuncBound
import Derived.RangeFuncNested
import Derived.RangeFuncCalls
import Derived.Sort.MapsRangeIn
import Derived.Shelf.Abstract
import Derived.Shelf.RegionOpen
import Derived.OwnWalkIn
import Derived.TacticsInMore
import Derived.RegionIn
import Derived.LoopNIn
import Derived.LoopIn
import Derived.Maps.OwnIn
import Derived.Sort.BigQuietIn
import Derived.Sort.QuietTacIn
namespace Go.Proofs.Ytcffoebpgjonmaa.Em
open Go.RowKit Go.Maps Go.Sort Go.Shelf
open Iv (Va vaB vaB_yes vaB_no valid_any after_any)

set_option maxHeartbeats 400000 in
theorem within_any (p : Option Addr) (a n : Int) (w : World) : Calls Try.prog 67 #[.pointer p, .agg #[.int .i64 a, .int .i64 n]] w fun e w' =>
    e = .returned (.func (.func 73) #[] #[.pointer (some ⟨w.heap.size, 0, none⟩), .pointer (some ⟨w.heap.size + 1, 0, none⟩)]) ∧ w' = (w.alloc (.cells #[.pointer p] 26)).alloc (.cells #[.int .i64 a, .int .i64 n] 49) := by
  go_enter Try.func67, Try.ntmps67
  go_wp2
  go_ret
  exact ⟨rfl, rfl⟩

/-- An entry is looked up, inside a fence. -/
theorem look_in {f : Fence} {nf : Nat} {ops : Array Oper} {rest : List Oper} {op : Oper} {a : Act} {w : World} {Q : Exit → Act → World → Prop} (hg : op.guard = none) (m x : Operand) (hop : op.op = .lookup 62 m x false) (mv key v : Value)
    (hm : a.eval m = mv) (hx : a.eval x = key) (hrun : (Instr.lookup 62 mv key false).run Try.prog w = .ok v w) (h : wpListIn f nf Try.prog ops Q rest (a.put op.dst v) w) : wpListIn f nf Try.prog ops Q (op :: rest) a w :=
  wpListIn_plain hg fun K' hK' => by
    unfold Oper.wpIn
    refine ⟨by simp [Oper.about, hop], ?_⟩
    rw [Oper.semAt_plain f _ _ (by rw [hop]; intro c hc'; cases hc')]
    simp [execOp, hop, hm, hx, hrun, Result.andThen]
    exact hK' _ _ h

/-- A round keeps the walks, and the extent's box. -/
def Kw (B : Nat) (W W' : World) : Prop := KeepsWalks W W' ∧ W'.heap[B]? = W.heap[B]?
theorem Kw.t {B : Nat} {a b c : World} (h : Kw B a b) (k : Kw B b c) : Kw B a c := ⟨h.1.trans k.1, k.2.trans h.2⟩
theorem Kw.b {B : Nat} {w : World} (hB : B < w.heap.size) (W : World) (l : Nat) (o o' : Obj) (hl : w.heap.size ≤ l) (h : W.heap[l]? = some o) (_ : o.isCells = false) (hw : o.isWalk = false) : Kw B W (W.putObj l o') :=
  ⟨KeepsWalks.putObj _ h hw, World.putObj_heap_other (by omega)⟩

/-- The blocks that come: they have a version and lie in the extent. -/
abbrev Bk (S : St) (a n : Int) := { k : Nat // S.V k ≠ [] ∧ a ≤ (k : Int) ∧ (k : Int) < a + n }
abbrev encB (hd : Nat → Value) {S : St} {a n : Int} (x : Bk S a n) : Array Value := #[.int .i64 (x.1 : Int), hd x.1]

theorem left_hit {left : Lit → Bool} {S : St} {a n : Int} {pre : List (Bk S a n)} (h : ∀ x : Bk S a n, left (ky x.1) = true ∨ x ∈ pre) (y : Bk S a n) (x : Bk S a n) : (left (ky x.1) && !(ky x.1).sameKey (ky y.1)) = true ∨ x ∈ pre ++ [y] := by
  by_cases e : x = y
  · exact Or.inr (by rw [e]; simp)
  · have hne : ky x.1 ≠ ky y.1 := fun h => e (Subtype.ext (ky_inj h))
    rcases h x with h | h
    · left; rw [h, Maps.sameKey_ne hne]; rfl
    · exact Or.inr (List.mem_append_left _ h)
theorem left_miss {left : Lit → Bool} {S : St} {a n : Int} {pre : List (Bk S a n)} (h : ∀ x : Bk S a n, left (ky x.1) = true ∨ x ∈ pre) (k : Nat) (hk : ¬ (a ≤ (k : Int) ∧ (k : Int) < a + n)) (x : Bk S a n) : (left (ky x.1) && !(ky x.1).sameKey (ky k)) = true ∨ x ∈ pre := by
  have hne : ky x.1 ≠ ky k := fun h => hk (by have := x.2.2; rw [ky_inj h] at this; exact this)
  rcases h x with h | h
  · left; rw [h, Maps.sameKey_ne hne]; rfl
  · exact Or.inr h

set_option maxRecDepth 100000 in
set_option maxHeartbeats 2000000 in
theorem within1_in {w : World} {b : Nat} {S : St} {F : Nat → Prop} {mb : Nat} {D : DataW Value} {hd : Nat → Value} (h : Mq w b S F mb D hd) (a n : Int) (ha0 : 0 ≤ a) (ha1 : a ≤ 1048576) (hn0 : 1 ≤ n) (hn1 : n ≤ 1048576) (B1 B2 : Nat)
    (hB1 : w.heap[B1]? = some (.cells #[.pointer (some ⟨b, 0, none⟩)] 26 (0, 0))) (hB2 : w.heap[B2]? = some (.cells #[.int .i64 a, .int .i64 n] 49 (0, 0))) :
    SeqStopsK Fence.wide 7 Try.prog 73 #[.pointer (some ⟨B1, 0, none⟩), .pointer (some ⟨B2, 0, none⟩)] (encB (S := S) (a := a) (n := n) hd) (Kw B2) (fun xs => ∀ x, x ∈ xs) (fun _ => True) 2000000 w := by
  intro l J Jx W hW hJ hJx hY h0
  have hm := h.on hW
  have e1 := At.keep hW hB1
  have e2 := At.keep hW hB2
  have c1 : W.cell? ⟨B1, 0, none⟩ = some (.pointer (some ⟨b, 0, none⟩)) := (cell_at e1 0).trans rfl
  have c2 : W.cell? ⟨B2, 0, none⟩ = some (.int .i64 a) := (cell_at e2 0).trans rfl
  have c3 : W.cell? ⟨B2, 1, none⟩ = some (.int .i64 n) := (cell_at e2 1).trans rfl
  have hAll : ∀ V, At W V → CallsIn Fence.wide 6 Try.prog 74 #[.pointer (some ⟨b, 0, none⟩)] V fun e w' => e = .returned (.map (some mb)) ∧ w' = V := fun V hV => callsIn_wide.2 ((all_mp (hm.on hV)).mono fun _ _ ⟨h1, h2⟩ => ⟨h1, h2.symm⟩)
  have HAll := Lib.hid hAll
  have HM := Lib.hid hm
  have HY := Lib.hid hY
  have HJ := Lib.hid hJ
  have HJX := Lib.hid hJx
  have H0 := Lib.hid h0
  have HE2 := Lib.hid e2
  clear hAll hm hY hJ hJx h0 e1 e2 h hB1 hB2 hW
  have hfA : Fence.wide.fn 74 := trivial
  refine callsIn_of_wp Try.func73 rfl trivial ?_ rfl
  simp only [Try.ntmps73, List.size_toArray, List.length_cons, List.length_nil, Nat.reduceAdd, Nat.reduceSub, Array.replicate_succ, Array.replicate_zero, List.push_toArray, List.append_toArray, List.nil_append, List.cons_append]
  gi_wp2_with fail
  gi_big_quiet_th ((gi_at_call 74; exact CallsIn.quiet_of_same (HAll.out _ ((At.start W).drewN _))))
  obtain ⟨V, hVV⟩ : ∃ V, V = W.drewN nq := ⟨_, rfl⟩
  have HV : Hid (At W V) := Lib.hid (by rw [hVV]; exact (At.start W).drewN _)
  have HJV : Hid (J [] V) := Lib.hid (by rw [hVV]; exact HJ.out [] W _ none H0.out ⟨rfl, rfl, rfl, Nat.le_refl _, fun _ _ _ => rfl⟩ (fun r e => by cases e))
  have HVS : Hid (V.heap.size = W.heap.size) := Lib.hid (by rw [hVV]; rfl)
  rw [← hVV]
  clear hVV c1 c2 c3 H0
  have HMV := Lib.hid (HM.out.on HV.out)
  have HE2V := Lib.hid (At.keep HV.out HE2.out)
  have c2 : V.cell? ⟨B2, 0, none⟩ = some (.int .i64 a) := (cell_at HE2V.out 0).trans rfl
  have c3 : V.cell? ⟨B2, 1, none⟩ = some (.int .i64 n) := (cell_at HE2V.out 1).trans rfl
  have hul := us_len S
  have hn2 := HMV.out.ok.n2
  have hsz := HMV.out.size
  obtain ⟨sz, hszz⟩ : ∃ sz, sz = Maps.size D := ⟨_, rfl⟩
  have hsb : sz ≤ 1048576 := by omega
  have HSZ := Lib.hid hszz
  clear hul hn2 hsz hszz
  have hen : a + n ≤ 2097152 := by omega
  by_cases hbig : (sz : Int) < n
  · gi_wp2_with (first
      | (gi_at_len; refine wpListIn_len_own _ rfl _ 62 rfl 3 71 Try.underlying62 raw mb _ D rfl HMV.out.own ?_; rw [← HSZ.out])
      | (gi_at_range; refine wpListIn_range_own _ rfl _ 62 rfl 3 71 int_key Try.underlying62 raw mb _ D rfl HMV.out.own ?_; intro w0 hrg0 hg0 hs0)
      | gi_in)
    go_frame
    have HJ0 : Hid (J [] w0) := Lib.hid (HJ.out [] V w0 none HJV.out hg0 (fun r e => by cases e))
    have HE0 : Hid (w0.heap[B2]? = some (.cells #[.int .i64 a, .int .i64 n] 49 (0, 0))) := Lib.hid ((hg0.block B2 (lt_heap HE2V.out) (by simp)).trans HE2V.out)
    have HRG0 := Lib.hid hrg0
    have HS0 : Hid (W.heap.size ≤ V.heap.size) := Lib.hid (Nat.le_of_eq HVS.out.symm)
    clear hrg0 hg0 hs0 c2 c3
    gi_loopw [6, 7] (fun _ _ wr => ∃ (left : Lit → Bool) (cnt : Nat) (pre : List (Bk S a n)), wr.ranges Try.prog 3 raw mb V.heap.size (Maps.size D) D left cnt ∧ pre.length + cnt ≤ sz ∧ Hid (∀ x : Bk S a n, left (ky x.1) = true ∨ x ∈ pre) ∧ Hid (J pre wr) ∧ Hid (wr.heap[B2]? = some (.cells #[.int .i64 a, .int .i64 n] 49 (0, 0))))
      (fun _ _ wr => wr.rangeLeft mb V.heap.size)
    case atStart =>
      exact ⟨_, _, [], HRG0.out, by rw [HSZ.out]; simp, Lib.hid (fun x => Or.inl ((HMV.out.has x.1).2 x.2.1)), HJ0, HE0⟩
    case round =>
      obtain ⟨left, cnt, pre, hrg, hcs, HL, HJS, HE⟩ := hrel
      gi_wp2_with (first
        | (gi_at_next; refine wpListIn_next_ranges _ rfl _ rfl 3 int_key raw encZ id (fun key kl hk => by obtain ⟨x, hx, _⟩ := Maps.keyOf_i64 Try.underlying3 hk; exact ⟨x, hx⟩) (fun v _ _ => ⟨v, rfl⟩) mb V.heap.size (Maps.size D) _ _ _ rfl hrg ?_ ?_)
        | gi_in)
      · intro hc0 hl0
        gi_wp2
        refine bodyPost_ret (results_none rfl _ _ _) rfl ?_
        exact ⟨⟨_, rfl⟩, .inl ⟨pre, fun x => (HL.out x).elim (fun e => by rw [hl0] at e; cases e) id, HJS.out⟩⟩
      · intro x c kl yd yp w2 cnt2 hkey hlk hv hat hrg2 hlt hg2 hs2 hen
        obtain ⟨x', ex, rfl, _⟩ := Maps.keyOf_i64 Try.underlying3 hkey
        obtain rfl : x = x' := encZ_inj ex
        obtain ⟨k, hkS, hkk⟩ := HMV.out.only _ (Maps.has_true_of_atKey hat)
        have hxk : x = (k : Int) := by unfold ky at hkk; injection hkk
        subst hxk
        have hc : c = hd k := by
          have h1 := hat (.held nl)
          rw [show (Lit.int .i64 (k : Int)) = ky k from rfl, HMV.out.at_ k] at h1
          have h2 : (some (DataW.held c, ([] : List MemPlace))) = some (yd, yp) := hv
          injection h2 with h2
          injection h2 with h2 _
          rw [← h2] at h1
          injection h1 with h1
          exact h1.symm
        subst hc
        have hne : S.V k ≠ [] := (HMV.out.has k).1 (Maps.has_true_of_atKey hat)
        have HN1 := Lib.hid hne
        have hrb : some B2 ≠ some V.heap.size := fun e => by
          injection e with e
          have := lt_heap HE2V.out; omega
        have HE3 : Hid (w2.heap[B2]? = some (.cells #[.int .i64 a, .int .i64 n] 49 (0, 0))) := Lib.hid ((hg2.block B2 (lt_heap HE.out) hrb).trans HE.out)
        have c2 : w2.cell? ⟨B2, 0, none⟩ = some (.int .i64 a) := (cell_at HE3.out 0).trans rfl
        have HJ2 : Hid (J pre w2) := Lib.hid (HJ.out pre wr w2 (some V.heap.size) HJS.out hg2 (fun r e => by cases e; exact ⟨HS0.out, hrg.iter_walk⟩))
        have HLK := Lib.hid hlk
        have hkq : 0 ≤ (k : Int) := by omega
        clear hs2 hkey hkk ex hv hat hne hlk hg2 hrb
        by_cases hr1 : a ≤ (k : Int)
        · by_cases hr2 : (k : Int) < a + n
          · obtain ⟨fn, tmps, assign, body, hy, hR⟩ := HY.out pre ⟨k, HN1.out, hr1, hr2⟩ w2 HJ2.out (by omega)
            dsimp only [encB] at hy
            gi_wp2
            refine hR.mono ?_
            rintro e W3 (⟨rfl, hJ3, hk3⟩ | ⟨rfl, hJx3⟩)
            · gi_wp2
              have hrg3 := hrg2.of_walks hk3.1
              have hE3 := hk3.2.trans HE3.out
              go_roundw
              case rel => exact ⟨_, cnt2, pre ++ [⟨k, HN1.out, hr1, hr2⟩], hrg3, by simp; omega, Lib.hid (show ∀ x : Bk S a n, (left (ky x.1) && !(ky x.1).sameKey (Lit.int .i64 (k : Int))) = true ∨ x ∈ pre ++ [⟨k, HN1.out, hr1, hr2⟩] from left_hit HL.out ⟨k, HN1.out, hr1, hr2⟩), Lib.hid hJ3, Lib.hid hE3⟩
              case measure => rw [hrg3.left_eq, hrg.left_eq]; exact hlt
            · gi_wp2
              refine bodyPost_ret (results_none rfl _ _ _) rfl ?_
              exact ⟨⟨_, rfl⟩, .inr ⟨_, trivial, hJx3⟩⟩
          · have hr2' : decide ((k : Int) < a + n) = false := decide_eq_false hr2
            gi_wp2
            refine ⟨fun _ h => (by cases h), ?_⟩
            gi_wp2
            go_roundw
            case rel => exact ⟨_, cnt2, pre, hrg2, by omega, Lib.hid (show ∀ x : Bk S a n, (left (ky x.1) && !(ky x.1).sameKey (Lit.int .i64 (k : Int))) = true ∨ x ∈ pre from left_miss HL.out k fun h => by have := h.2; omega), HJ2, HE3⟩
            case measure => rw [hrg2.left_eq, hrg.left_eq]; exact hlt
        · have hr1' : decide (a ≤ (k : Int)) = false := decide_eq_false hr1
          gi_wp2
          refine ⟨fun _ h => (by cases h), ?_⟩
          gi_wp2
          go_roundw
          case rel => exact ⟨_, cnt2, pre, hrg2, by omega, Lib.hid (show ∀ x : Bk S a n, (left (ky x.1) && !(ky x.1).sameKey (Lit.int .i64 (k : Int))) = true ∨ x ∈ pre from left_miss HL.out k fun h => by have := h.1; omega), HJ2, HE3⟩
          case measure => rw [hrg2.left_eq, hrg.left_eq]; exact hlt
  · have hbig' : decide ((sz : Int) < n) = false := decide_eq_false hbig
    gi_wp2_with (first
      | (gi_at_len; refine wpListIn_len_own _ rfl _ 62 rfl 3 71 Try.underlying62 raw mb _ D rfl HMV.out.own ?_; rw [← HSZ.out])
      | gi_in)
    gi_loopw [8] (fun i wr => ∃ (k : Nat) (pre : List (Bk S a n)), a ≤ (k : Int) ∧ (k : Int) ≤ a + n ∧ i = .int .i64 (k : Int) ∧ Hid ((pre.length : Int) ≤ (k : Int) - a) ∧ Hid (∀ x : Bk S a n, (x.1 : Int) < (k : Int) → x ∈ pre) ∧ Hid (J pre wr) ∧ Hid (wr.ownsMap Try.prog 3 raw mb (Maps.size D) D) ∧ Hid (wr.heap[B2]? = some (.cells #[.int .i64 a, .int .i64 n] 49 (0, 0))))
      (fun i _ => (a + n - RowKit.intOf i).toNat)
    case atStart => exact ⟨a.toNat, [], by omega, by omega, by rw [Int.toNat_of_nonneg ha0], Lib.hid (by rw [List.length_nil]; omega), Lib.hid (fun x hx => by have := x.2.2.1; omega), HJV, Lib.hid HMV.out.own, HE2V⟩
    case round =>
      obtain ⟨k, pre, hka, hkn, rfl, HPL, HPX, HJS, HOW, HE⟩ := hrel
      by_cases hlt : (k : Int) < a + n
      · have hlk : (Instr.lookup 62 (.map (some mb)) (.int .i64 (k : Int)) false).run Try.prog wr = .ok (hd k) wr := by
          obtain ⟨v, ps, hrun, hv⟩ := HOW.out.lookup int_key Try.underlying62 (zero_slice wr) (R := raw) (zd := .held nl) (zp := []) rfl (show keyOf Try.prog 3 (.int .i64 (k : Int)) = some (ky k) from Maps.keyOf_int_mk Try.underlying3 (WalkArith.wf_i64 (by omega)))
          rw [HMV.out.at_ k] at hv
          simp only [raw, Option.some.injEq, Prod.mk.injEq] at hv
          have : v = hd k := by have := hv.1; injection this
          rw [hrun, this]
        obtain ⟨A, c, hhd, _, _, _⟩ := HMV.out.vv k
        obtain ⟨q, hq⟩ : ∃ q, q = hd k := ⟨_, rfl⟩
        obtain ⟨m, hm⟩ : ∃ m, m = (S.V k).length := ⟨_, rfl⟩
        rw [← hm] at hhd
        rw [hhd] at hlk
        have HM3 := Lib.hid hm
        have HHD := Lib.hid hhd
        have g0 : (0 : Int) ≤ (k : Int) := by omega
        have hsum : IntKind.i64.wrap ((k : Int) + 1) = (k : Int) + 1 := IntWalk.i64_in _ (by omega)
        clear hm hhd hq
        by_cases hm0 : 0 < m
        · have hne : S.V k ≠ [] := fun e => by have := HM3.out; rw [e] at this; simp at this; omega
          have HPL2 := HPL.out
          obtain ⟨fn, tmps, assign, body, hy, hR⟩ := HY.out pre ⟨k, hne, hka, hlt⟩ wr HJS.out (by omega)
          have HNE := Lib.hid hne
          dsimp only [encB] at hy
          rw [HHD.out] at hy
          clear HPL2
          gi_wp2_with (first
            | (gi_at_lookup; refine look_in rfl _ _ rfl _ _ _ rfl rfl hlk ?_)
            | gi_in)
          refine hR.mono ?_
          rintro e W3 (⟨rfl, hJ3, hk3⟩ | ⟨rfl, hJx3⟩)
          · have HJ3 := Lib.hid hJ3
            have HO3 : Hid (W3.ownsMap Try.prog 3 raw mb (Maps.size D) D) := Lib.hid (by
              obtain ⟨es, clock, hb, r⟩ := HOW.out
              exact ⟨es, clock, hk3.1.same mb _ hb rfl, r⟩)
            have HE3 := Lib.hid (hk3.2.trans HE.out)
            clear hJ3 hk3
            gi_wp2
            go_roundw
            case rel => exact ⟨k + 1, pre ++ [⟨k, HNE.out, hka, hlt⟩], by omega, by omega, by go_num, Lib.hid (by have := HPL.out; simp; omega), Lib.hid (fun x hx => by
              by_cases e : x.1 = k
              · exact List.mem_append_right _ (by rw [List.mem_singleton]; exact Subtype.ext e)
              · exact List.mem_append_left _ (HPX.out x (by omega))), HJ3, HO3, HE3⟩
            case measure => simp [RowKit.intOf]; omega
          · gi_wp2
            refine bodyPost_ret (results_none rfl _ _ _) rfl ?_
            exact ⟨⟨_, rfl⟩, .inr ⟨_, trivial, hJx3⟩⟩
        · have hm1 : m = 0 := by omega
          subst hm1
          gi_wp2_with (first
            | (gi_at_lookup; refine look_in rfl _ _ rfl _ _ _ rfl rfl hlk ?_)
            | gi_in)
          refine ⟨fun _ h => (by cases h), ?_⟩
          gi_wp2
          go_roundw
          case rel => exact ⟨k + 1, pre, by omega, by omega, by go_num, Lib.hid (by have := HPL.out; omega), Lib.hid (fun x hx => by
            by_cases e : x.1 = k
            · exact absurd (List.eq_nil_of_length_eq_zero (by rw [e]; exact HM3.out.symm)) x.2.1
            · exact HPX.out x (by omega)), HJS, HOW, HE⟩
          case measure => simp [RowKit.intOf]; omega
      · have hk' : (k : Int) = a + n := by omega
        have HKK := Lib.hid hk'
        clear hk'
        gi_wp2
        go_end0
        exact ⟨⟨_, rfl⟩, .inl ⟨pre, fun x hx => HPX.out ⟨x, hx⟩ (by have h1 := hx.2.2; have h2 := HKK.out; show (x : Int) < (k : Int); omega), HJS.out⟩⟩

end Go.Proofs.Ytcffoebpgjonmaa.Em
