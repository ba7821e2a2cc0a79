/- Proved: the law WbufParts' walk: a vector that is written at once is what its blocks are one by one, in whatever order. -/
import Derived.Test.YthaiddhbifakhaaPap
import Derived.Test.YthaiddhbifakhaaSam
import Derived.Test.YthaiddhbifakhaaPut
namespace Go.Proofs.Ythaiddhbifakhaa
open Go.RowKit

def sp : St := st0 50 16
/-- A literal row of one block. -/
theorem pv_one {w : World} {q : Nat} {a : Int} {d : List Nat} {B : Option Addr} {c : Nat} (h : w.heap[q]? = some (.cells #[.int .i64 a, .slice B 40 c] 56 (0, 0))) (hd : d.length = 40) (hb : BV w B d) : PV w (some ⟨q, 0, none⟩) [(a, d)] := by
  refine Or.inr ⟨q, 0, rfl, lt_heap h, fun j hj => ?_⟩
  have hj0 : j = 0 := by simp at hj; omega
  subst hj0
  refine ⟨(cell_at h 0).trans rfl, B, c, (cell_at h 1).trans ?_, hb⟩
  show some (Value.slice B 40 c) = some (Value.slice B d.length c)
  rw [hd]

set_option maxHeartbeats 4000000 in
set_option maxRecDepth 100000 in
theorem parts_any (g o n c : Nat) (P : List Pt) (hl : P.length = n) (hnm : n ≤ maxLen) (h0 : 0 < n) (hc : n ≤ c) (hB : AllBy P) (hf : Fine sp P) (k : Int) (w : World) (hP : PV w (some ⟨g, o, none⟩) P) :
    Calls Try.prog 7 #[.slice (some ⟨g, o, none⟩) n c, .int .i64 k] w (Gives (.bool true) w) := by
  have hpu := puts_any (some ⟨g, o, none⟩) P n c 5000 hl hnm w hP
  rw [show ((5000 : Nat) : Int) = 5000 from rfl] at hpu
  have HPU := Lib.hid hpu
  have HP := Lib.hid hP
  have HBY := Lib.hid hB
  have HF := Lib.hid hf
  have HL := Lib.hid hl
  have HNW := Lib.hid (new_ok 50 16 (by omega) (by omega) (by omega))
  rw [show ((50 : Nat) : Int) = 50 from rfl] at HNW
  have HAW := Lib.hid awake_any
  have q2 : ((n : Int) == 0) = false := by simp; omega
  clear hpu hP hB hf hl hnm
  go_enter Try.func7, Try.ntmps7
  go_wp2_with fail
  refine HPU.out.mono ?_
  rintro e w1 ⟨v, rfl, hv1, hv2, hA⟩
  have HA1 : Hid (At w w1) := Lib.hid hA
  clear hA HPU
  by_cases hv : v ≤ 5000
  rotate_left
  · have q1 : decide ((5000 : Int) < (v : Int)) = true := decide_eq_true (by omega)
    clear hv hv1 hv2
    go_wp2_with fail
    refine (HAW.out _).mono ?_
    rintro e w2 ⟨rfl, hA⟩
    have HE : Hid (At w w2) := Lib.hid (HA1.out.next hA)
    clear hA
    go_wp2
    go_ret
    exact ⟨rfl, HE.out⟩
  have q1 : decide ((5000 : Int) < (v : Int)) = false := decide_eq_false (by omega)
  have hn : n ≤ 5000 := by
    have e2 : sm 0 n = n ∨ sm 0 n = 1099511627776 := by unfold sm; split <;> omega
    omega
  clear hv1 hv2
  have hrd := fun W => round_any k (n + 1) (by omega) (by omega) W
  have hrl := rd_lt k (n + 1) (by omega)
  obtain ⟨r, hr⟩ : ∃ r, r = rd k (n + 1) := ⟨_, rfl⟩
  rw [← hr] at hrl
  simp only [← hr] at hrd
  rw [show ((n + 1 : Nat) : Int) = (n : Int) + 1 by omega] at hrd
  have HRD := Lib.hid hrd
  clear hr hrd
  go_wp2_with fail
  refine (HNW.out w1).mono ?_
  rintro e w2 hnew
  obtain ⟨ba, ma, rfl, hbo⟩ := bo_new hnew
  have HBA : Hid (Bo w w2 ba ma sp) := Lib.hid (hbo.back HA1.out)
  clear hnew hbo
  go_wp2_with fail
  refine (HNW.out w2).mono ?_
  rintro e w3 hnew
  obtain ⟨bb, mb, rfl, hbo⟩ := bo_new hnew
  have HNE1 : Hid (ma ≠ mb) := Lib.hid (by have h1 := HBA.out.bf.lt.2; have h2 := hbo.hm; omega)
  have HBA3 := Lib.hid (HBA.out.on hbo.at_)
  have HBB : Hid (Bo w w3 bb mb sp) := Lib.hid (hbo.back HBA.out.at_)
  clear hnew hbo HBA
  go_wp2_with fail
  refine (HNW.out w3).mono ?_
  rintro e w4 hnew
  obtain ⟨bc, mc, rfl, hbo⟩ := bo_new hnew
  have HNE2 : Hid (ma ≠ mc) := Lib.hid (by have h1 := HBA3.out.bf.lt.2; have h2 := hbo.hm; omega)
  have HNE3 : Hid (mb ≠ mc) := Lib.hid (by have h1 := HBB.out.bf.lt.2; have h2 := hbo.hm; omega)
  have HBC : Hid (Bo w w4 bc mc sp) := Lib.hid (hbo.back HBA3.out.at_)
  have HBA4 := Lib.hid (HBA3.out.on hbo.at_)
  have HBB4 := Lib.hid (HBB.out.on hbo.at_)
  clear hnew hbo HBA3 HBB HNW
  have HWA := Lib.hid (write_any HBA4.out.bf (some ⟨g, o, none⟩) P n c HL.out (by omega) (HP.out.on HBA4.out.at_) HBY.out)
  rw [HF.out.rf, wr_yes HF.out.rf] at HWA
  go_wp2_with fail
  refine HWA.out.mono ?_
  rintro e w5 ⟨rfl, hbf, hmv⟩
  have HBB5 := Lib.hid (HBB4.out.other HBA4.out hmv (fun e => HNE1.out e.symm))
  have HBC5 := Lib.hid (HBC.out.other HBA4.out hmv (fun e => HNE2.out e.symm))
  have HBA5 := Lib.hid (HBA4.out.wrote hbf hmv)
  clear hbf hmv HBA4 HBB4 HBC HWA
  go_wp2_with fail
  refine (HRD.out _).mono ?_
  rintro e w' ⟨rfl, rfl⟩
  rcases Nat.lt_trichotomy 0 r with hr0 | hr0 | hr0
  · rcases Nat.lt_or_ge r n with hrn | hrn
    · have e1 : (0 : Int) < (r : Int) := by omega
      have e2 : (r : Int) < (n : Int) := by omega
      have e3 : (r : Int) ≤ (c : Int) := by omega
      have e4 : (0 : Int) ≤ (r : Int) := by omega
      have e5 : (r : Int) ≤ (n : Int) := by omega
      have e6 : ¬ c = r := by omega
      have hf1 := fine_take HF.out hr0
      have hf2 := fine_drop HF.out (show r < P.length by rw [HL.out]; exact hrn)
      have HW1 := Lib.hid (write_any HBB5.out.bf (some ⟨g, o, none⟩) (P.take r) r c (by rw [List.length_take, HL.out]; omega) (by omega) ((HP.out.on HBB5.out.at_).take r) (fun p hp => HBY.out p (List.mem_of_mem_take hp)))
      rw [hf1.rf, wr_yes hf1.rf] at HW1
      have HF2 := Lib.hid hf2
      clear hf1 hf2
      go_wp2_with fail
      refine HW1.out.mono ?_
      rintro e w6 ⟨rfl, hbf, hmv⟩
      have HBA6 := Lib.hid (HBA5.out.other HBB5.out hmv HNE1.out)
      have HBC6 := Lib.hid (HBC5.out.other HBB5.out hmv (fun e => HNE3.out e.symm))
      have HBB6 := Lib.hid (HBB5.out.wrote hbf hmv)
      clear hbf hmv HBA5 HBB5 HBC5 HW1
      have HW2 := Lib.hid (write_any HBB6.out.bf (some ⟨g, o + r * 2, none⟩) (P.drop r) (n - r) (c - r) (by rw [List.length_drop, HL.out]) (by omega) ((HP.out.on HBB6.out.at_).drop r) (fun p hp => HBY.out p (List.mem_of_mem_drop hp)))
      rw [HF2.out.rf, wr_yes HF2.out.rf, ← upS_app, List.take_append_drop] at HW2
      go_wp2_with fail
      refine HW2.out.mono ?_
      rintro e w7 ⟨rfl, hbf, hmv⟩
      have HBA7 := Lib.hid (HBA6.out.other HBB6.out hmv HNE1.out)
      have HBC7 := Lib.hid (HBC6.out.other HBB6.out hmv (fun e => HNE3.out e.symm))
      have HBB7 := Lib.hid (HBB6.out.wrote hbf hmv)
      clear hbf hmv HBA6 HBB6 HBC6 HW2 HF2 e1 e2 e3 e4 e5 e6
      have HUN := Lib.hid HF.out.un
      have hin : IntKind.i64.wrap ((n : Int) - 1) = (n : Int) - 1 := IntWalk.i64_in _ (by omega)
      have HBC9 : Hid (Bo w w7 bc mc (upS sp (rv P n))) := Lib.hid (by
        have := HBC7.out
        rw [← HL.out, rv_all]; exact this)
      have HBA9 : Hid (Bo w w7 ba ma (upS sp P)) := Lib.hid HBA7.out
      have HBB9 : Hid (Bo w w7 bb mb (upS sp P)) := Lib.hid HBB7.out
      clear HBC7 HBA7 HBB7
      go_wp2
      go_loopw [11] (fun c11 wr => ∃ (j : Nat) (z : Int), Hid (z + 1 = (j : Int)) ∧ j ≤ n ∧ c11 = .int .i64 z ∧ Hid (Bo w wr bc mc (upS sp (rv P j))) ∧ Hid (Bo w wr ba ma (upS sp P)) ∧ Hid (Bo w wr bb mb (upS sp P))) (fun c11 _ => (RowKit.intOf c11 + 1).toNat)
      case atStart => exact ⟨n, (n : Int) - 1, Lib.hid (by omega), Nat.le_refl _, rfl, HBC9, HBA9, HBB9⟩
      case round =>
        obtain ⟨j, z, HJ, hj, rfl, HC, HA, HB⟩ := hrel
        by_cases hj0 : j = 0
        · have hz : z = -1 := by have := HJ.out; omega
          have HC0 : Hid (Bo w wr bc mc (upS sp P)) := Lib.hid (by have := HC.out; rw [hj0, upS_all HUN.out] at this; exact this)
          subst hz
          clear hj0 HC HJ
          have HLS : Hid ((ls (upS sp P)).length = n) := Lib.hid (by rw [show upS sp P = upS (st0 50 16) P from rfl, ls_new HF.out, HL.out])
          have HPA := Lib.hid (puts_bf HA.out.bf)
          go_wp2_with fail
          refine HPA.out.mono ?_
          rintro e wp ⟨A7, c7, rfl, hpv, hA⟩
          have HPP := Lib.hid hpv
          have HB7 := Lib.hid (HB.out.on hA)
          have HC7 := Lib.hid (HC0.out.on hA)
          rw [HLS.out]
          clear hpv hA HA HB HC0 HPA
          go_wp2
          go_loopw [13] (fun c13 wq => ∃ (i m : Nat), 1 ≤ i ∧ i ≤ n ∧ c13 = .int .i64 (i : Int) ∧ wq = wp.drewN m) (fun c13 _ => n - (RowKit.intOf c13).toNat)
          case atStart => exact ⟨1, 0, by omega, by omega, rfl, rfl⟩
          case round =>
            obtain ⟨i, m, hi1, hin2, rfl, rfl⟩ := hrel
            by_cases hlt : i < n
            · obtain ⟨g7, o7, rfl, -, hx⟩ := HPP.out.pos (by rw [HLS.out]; omega)
              obtain ⟨i', hi'⟩ : ∃ i', i' = i - 1 := ⟨_, rfl⟩
              have x1 := (hx i (by rw [HLS.out]; exact hlt)).1
              have x2 := (hx i' (by rw [HLS.out]; omega)).1
              have hup := List.pairwise_iff_getElem.1 (ls_up (upS sp P)) i' i (by rw [HLS.out]; omega) (by rw [HLS.out]; exact hlt) (by omega)
              have hg1 : (ls (upS sp P)).getD i pz = (ls (upS sp P))[i]'(by rw [HLS.out]; exact hlt) := by rw [List.getD_eq_getElem?_getD, List.getElem?_eq_getElem (by rw [HLS.out]; exact hlt)]; rfl
              have hg2 : (ls (upS sp P)).getD i' pz = (ls (upS sp P))[i']'(by rw [HLS.out]; omega) := by rw [List.getD_eq_getElem?_getD, List.getElem?_eq_getElem (by rw [HLS.out]; omega)]; rfl
              rw [← hg1, ← hg2] at hup
              obtain ⟨y1, hy1⟩ : ∃ y1, y1 = ((ls (upS sp P)).getD i pz).1 := ⟨_, rfl⟩
              obtain ⟨y2, hy2⟩ : ∃ y2, y2 = ((ls (upS sp P)).getD i' pz).1 := ⟨_, rfl⟩
              rw [← hy1] at x1 hup
              rw [← hy2] at x2 hup
              have f1 : (i : Int) - 1 = (i' : Int) := by omega
              have f2 : IntKind.i64.wrap (i' : Int) = (i' : Int) := IntWalk.i64_in _ (by omega)
              have f3 : (0 : Int) ≤ (i : Int) := by omega
              have f4 : (i : Int) < (n : Int) := by omega
              have f5 : (0 : Int) ≤ (i' : Int) := by omega
              have f6 : (i' : Int) < (n : Int) := by omega
              have f7 : decide (y1 ≤ y2) = false := decide_eq_false (by omega)
              clear hx hup hg1 hg2 hy1 hy2 hi'
              go_wp2
              go_quiet (fail)
              go_wp2
              go_roundw
              case rel => exact ⟨i + 1, _, by omega, by omega, by go_num, rfl⟩
              case measure => simp [RowKit.intOf]; omega
            · have hie : i = n := by omega
              have h40 := ls_40 HB7.out.bf.ok
              have HS := Lib.hid (fun (A8 A9 : Option Addr) (c8 c9 : Nat) (W : World) (h1 : PV W A8 (ls (upS sp P))) (h2 : PV W A9 (ls (upS sp P))) => samePuts_any A8 A9 (ls (upS sp P)) n c8 c9 HLS.out (by omega) h40 W h1 h2)
              have HB8 := Lib.hid (HB7.out.on ((At.start wp).drewN m))
              have HC8 := Lib.hid (HC7.out.on ((At.start wp).drewN m))
              have HP8 := Lib.hid (HPP.out.on ((At.start wp).drewN m))
              have HPB := Lib.hid (puts_bf HB8.out.bf)
              subst hie
              clear h40 HB7 HC7 HPP
              generalize wp.drewN m = wd at HB8 HC8 HP8 HPB ⊢
              go_wp2_with fail
              refine HPB.out.mono ?_
              rintro e w11 ⟨A8, c8, rfl, hpv, hA⟩
              rw [HLS.out]
              have HP9 := Lib.hid (HP8.out.on hA)
              have HC9 := Lib.hid (HC8.out.on hA)
              have HS1 := Lib.hid (HS.out A7 A8 c7 c8 w11 HP9.out hpv)
              clear hpv hA HB8 HC8 HP8 HPB
              go_wp2_with fail
              refine HS1.out.mono ?_
              rintro e w' ⟨rfl, m2, rfl⟩
              have HC10 := Lib.hid (HC9.out.on ((At.start w11).drewN m2))
              have HP10 := Lib.hid (HP9.out.on ((At.start w11).drewN m2))
              have HPC := Lib.hid (puts_bf HC10.out.bf)
              clear HC9 HP9 HS1
              generalize w11.drewN m2 = we at HC10 HP10 HPC ⊢
              go_wp2_with fail
              refine HPC.out.mono ?_
              rintro e w12 ⟨A9, c9, rfl, hpv, hA⟩
              rw [HLS.out]
              have HP11 := Lib.hid (HP10.out.on hA)
              have HA12 := Lib.hid (HC10.out.at_.next hA)
              have HS2 := Lib.hid (HS.out A7 A9 c7 c9 w12 HP11.out hpv)
              clear hpv hA HC10 HP10 HPC
              go_wp2_with fail
              refine HS2.out.mono ?_
              rintro e w' ⟨rfl, m3, rfl⟩
              have HA13 : Hid (At w (w12.drewN m3)) := Lib.hid (HA12.out.drewN m3)
              generalize w12.drewN m3 = wf at HA13 ⊢
              go_wp2_with fail
              refine (HAW.out _).mono ?_
              rintro e w14 ⟨rfl, hA⟩
              have HE : Hid (At w w14) := Lib.hid (HA13.out.next hA)
              clear hA
              go_wp2
              go_ret
              exact ⟨rfl, HE.out⟩
        · obtain ⟨i, hi⟩ : ∃ i, j = i + 1 := ⟨j - 1, by omega⟩
          have hz : z = (i : Int) := by have := HJ.out; omega
          subst hz
          have hiP : i < P.length := by rw [HL.out]; omega
          obtain ⟨g6, o6, he6, -, hx⟩ := (HP.out.on HA.out.at_).pos (by omega)
          injection he6 with he6
          injection he6 with he7 he8
          subst he7 he8
          obtain ⟨x1, B6, c6, x2, hb6⟩ := hx i hiP
          have hfi := fine_rv HF.out hiP
          have hst := upS_rv (S := sp) hiP
          have hby := HBY.out _ (pt_mem hiP)
          rw [hi] at HC
          obtain ⟨⟨a6, d6⟩, hp6⟩ : ∃ p6, p6 = P.getD i pz := ⟨_, rfl⟩
          rw [← hp6] at x1 x2 hb6 hfi hst hby
          simp only at x1 x2 hb6 hby
          have h40 : d6.length = 40 := hfi.len (a6, d6) (List.mem_singleton.2 rfl)
          rw [h40] at x2
          obtain ⟨q, hq⟩ : ∃ q, wr.heap.size = q := ⟨_, rfl⟩
          obtain ⟨wb, hwb⟩ : ∃ wb, wr.alloc (.cells #[.int .i64 a6, .slice B6 40 c6] 56) = wb := ⟨_, rfl⟩
          have hAb : At wr wb := by rw [← hwb]; exact (At.start wr).alloc _
          have hQ : wb.heap[q]? = some (.cells #[.int .i64 a6, .slice B6 40 c6] 56 (0, 0)) := by rw [← hwb, ← hq]; exact heap_alloc_new _ _
          have HC1 := Lib.hid (HC.out.on hAb)
          have HA1' := Lib.hid (HA.out.on hAb)
          have HB1 := Lib.hid (HB.out.on hAb)
          have HWC := Lib.hid (write_any HC1.out.bf (some ⟨q, 0, none⟩) [(a6, d6)] 1 1 rfl (by omega) (pv_one hQ h40 (hb6.below hAb)) (fun p hp => by rw [List.mem_singleton] at hp; subst hp; exact hby))
          rw [hfi.rf, wr_yes hfi.rf, hst] at HWC
          have f1 : (0 : Int) ≤ (i : Int) := by omega
          have f2 : (i : Int) < (n : Int) := by omega
          have HHI := Lib.hid hi
          clear hx hfi hst hby hp6 h40 hb6 hAb hQ hi hj0 HJ HC HA HB hiP
          go_wp2_with fail
          refine HWC.out.mono ?_
          rintro e w10 ⟨rfl, hbf, hmv⟩
          have HA2 := Lib.hid (HA1'.out.other HC1.out hmv HNE2.out)
          have HB2 := Lib.hid (HB1.out.other HC1.out hmv HNE3.out)
          have HC2 := Lib.hid (HC1.out.wrote hbf hmv)
          clear hbf hmv HC1 HA1' HB1 HWC hwb hq
          go_wp2
          go_roundw
          case rel => exact ⟨i, (i : Int) - 1, Lib.hid (by omega), by have := HHI.out; omega, rfl, HC2, HA2, HB2⟩
          case measure => simp [RowKit.intOf]
    · have hre : r = n := by omega
      have e1 : (0 : Int) < (n : Int) := by omega
      have e3 : (n : Int) ≤ (c : Int) := by omega
      have e4 : (0 : Int) ≤ (n : Int) := by omega
      rw [hre]
      clear hre hr0 hrn hrl HRD
      have HW1 := Lib.hid (write_any HBB5.out.bf (some ⟨g, o, none⟩) P n c HL.out (by omega) (HP.out.on HBB5.out.at_) HBY.out)
      rw [HF.out.rf, wr_yes HF.out.rf] at HW1
      go_wp2_with fail
      refine HW1.out.mono ?_
      rintro e w7 ⟨rfl, hbf, hmv⟩
      have HBA7 := Lib.hid (HBA5.out.other HBB5.out hmv HNE1.out)
      have HBC7 := Lib.hid (HBC5.out.other HBB5.out hmv (fun e => HNE3.out e.symm))
      have HBB7 := Lib.hid (HBB5.out.wrote hbf hmv)
      clear hbf hmv HBA5 HBB5 HBC5 HW1 e1 e3 e4
      have HUN := Lib.hid HF.out.un
      have hin : IntKind.i64.wrap ((n : Int) - 1) = (n : Int) - 1 := IntWalk.i64_in _ (by omega)
      have HBC9 : Hid (Bo w w7 bc mc (upS sp (rv P n))) := Lib.hid (by
        have := HBC7.out
        rw [← HL.out, rv_all]; exact this)
      have HBA9 : Hid (Bo w w7 ba ma (upS sp P)) := Lib.hid HBA7.out
      have HBB9 : Hid (Bo w w7 bb mb (upS sp P)) := Lib.hid HBB7.out
      clear HBC7 HBA7 HBB7
      go_wp2
      go_loopw [11] (fun c11 wr => ∃ (j : Nat) (z : Int), Hid (z + 1 = (j : Int)) ∧ j ≤ n ∧ c11 = .int .i64 z ∧ Hid (Bo w wr bc mc (upS sp (rv P j))) ∧ Hid (Bo w wr ba ma (upS sp P)) ∧ Hid (Bo w wr bb mb (upS sp P))) (fun c11 _ => (RowKit.intOf c11 + 1).toNat)
      case atStart => exact ⟨n, (n : Int) - 1, Lib.hid (by omega), Nat.le_refl _, rfl, HBC9, HBA9, HBB9⟩
      case round =>
        obtain ⟨j, z, HJ, hj, rfl, HC, HA, HB⟩ := hrel
        by_cases hj0 : j = 0
        · have hz : z = -1 := by have := HJ.out; omega
          have HC0 : Hid (Bo w wr bc mc (upS sp P)) := Lib.hid (by have := HC.out; rw [hj0, upS_all HUN.out] at this; exact this)
          subst hz
          clear hj0 HC HJ
          have HLS : Hid ((ls (upS sp P)).length = n) := Lib.hid (by rw [show upS sp P = upS (st0 50 16) P from rfl, ls_new HF.out, HL.out])
          have HPA := Lib.hid (puts_bf HA.out.bf)
          go_wp2_with fail
          refine HPA.out.mono ?_
          rintro e wp ⟨A7, c7, rfl, hpv, hA⟩
          have HPP := Lib.hid hpv
          have HB7 := Lib.hid (HB.out.on hA)
          have HC7 := Lib.hid (HC0.out.on hA)
          rw [HLS.out]
          clear hpv hA HA HB HC0 HPA
          go_wp2
          go_loopw [13] (fun c13 wq => ∃ (i m : Nat), 1 ≤ i ∧ i ≤ n ∧ c13 = .int .i64 (i : Int) ∧ wq = wp.drewN m) (fun c13 _ => n - (RowKit.intOf c13).toNat)
          case atStart => exact ⟨1, 0, by omega, by omega, rfl, rfl⟩
          case round =>
            obtain ⟨i, m, hi1, hin2, rfl, rfl⟩ := hrel
            by_cases hlt : i < n
            · obtain ⟨g7, o7, rfl, -, hx⟩ := HPP.out.pos (by rw [HLS.out]; omega)
              obtain ⟨i', hi'⟩ : ∃ i', i' = i - 1 := ⟨_, rfl⟩
              have x1 := (hx i (by rw [HLS.out]; exact hlt)).1
              have x2 := (hx i' (by rw [HLS.out]; omega)).1
              have hup := List.pairwise_iff_getElem.1 (ls_up (upS sp P)) i' i (by rw [HLS.out]; omega) (by rw [HLS.out]; exact hlt) (by omega)
              have hg1 : (ls (upS sp P)).getD i pz = (ls (upS sp P))[i]'(by rw [HLS.out]; exact hlt) := by rw [List.getD_eq_getElem?_getD, List.getElem?_eq_getElem (by rw [HLS.out]; exact hlt)]; rfl
              have hg2 : (ls (upS sp P)).getD i' pz = (ls (upS sp P))[i']'(by rw [HLS.out]; omega) := by rw [List.getD_eq_getElem?_getD, List.getElem?_eq_getElem (by rw [HLS.out]; omega)]; rfl
              rw [← hg1, ← hg2] at hup
              obtain ⟨y1, hy1⟩ : ∃ y1, y1 = ((ls (upS sp P)).getD i pz).1 := ⟨_, rfl⟩
              obtain ⟨y2, hy2⟩ : ∃ y2, y2 = ((ls (upS sp P)).getD i' pz).1 := ⟨_, rfl⟩
              rw [← hy1] at x1 hup
              rw [← hy2] at x2 hup
              have f1 : (i : Int) - 1 = (i' : Int) := by omega
              have f2 : IntKind.i64.wrap (i' : Int) = (i' : Int) := IntWalk.i64_in _ (by omega)
              have f3 : (0 : Int) ≤ (i : Int) := by omega
              have f4 : (i : Int) < (n : Int) := by omega
              have f5 : (0 : Int) ≤ (i' : Int) := by omega
              have f6 : (i' : Int) < (n : Int) := by omega
              have f7 : decide (y1 ≤ y2) = false := decide_eq_false (by omega)
              clear hx hup hg1 hg2 hy1 hy2 hi'
              go_wp2
              go_quiet (fail)
              go_wp2
              go_roundw
              case rel => exact ⟨i + 1, _, by omega, by omega, by go_num, rfl⟩
              case measure => simp [RowKit.intOf]; omega
            · have hie : i = n := by omega
              have h40 := ls_40 HB7.out.bf.ok
              have HS := Lib.hid (fun (A8 A9 : Option Addr) (c8 c9 : Nat) (W : World) (h1 : PV W A8 (ls (upS sp P))) (h2 : PV W A9 (ls (upS sp P))) => samePuts_any A8 A9 (ls (upS sp P)) n c8 c9 HLS.out (by omega) h40 W h1 h2)
              have HB8 := Lib.hid (HB7.out.on ((At.start wp).drewN m))
              have HC8 := Lib.hid (HC7.out.on ((At.start wp).drewN m))
              have HP8 := Lib.hid (HPP.out.on ((At.start wp).drewN m))
              have HPB := Lib.hid (puts_bf HB8.out.bf)
              subst hie
              clear h40 HB7 HC7 HPP
              generalize wp.drewN m = wd at HB8 HC8 HP8 HPB ⊢
              go_wp2_with fail
              refine HPB.out.mono ?_
              rintro e w11 ⟨A8, c8, rfl, hpv, hA⟩
              rw [HLS.out]
              have HP9 := Lib.hid (HP8.out.on hA)
              have HC9 := Lib.hid (HC8.out.on hA)
              have HS1 := Lib.hid (HS.out A7 A8 c7 c8 w11 HP9.out hpv)
              clear hpv hA HB8 HC8 HP8 HPB
              go_wp2_with fail
              refine HS1.out.mono ?_
              rintro e w' ⟨rfl, m2, rfl⟩
              have HC10 := Lib.hid (HC9.out.on ((At.start w11).drewN m2))
              have HP10 := Lib.hid (HP9.out.on ((At.start w11).drewN m2))
              have HPC := Lib.hid (puts_bf HC10.out.bf)
              clear HC9 HP9 HS1
              generalize w11.drewN m2 = we at HC10 HP10 HPC ⊢
              go_wp2_with fail
              refine HPC.out.mono ?_
              rintro e w12 ⟨A9, c9, rfl, hpv, hA⟩
              rw [HLS.out]
              have HP11 := Lib.hid (HP10.out.on hA)
              have HA12 := Lib.hid (HC10.out.at_.next hA)
              have HS2 := Lib.hid (HS.out A7 A9 c7 c9 w12 HP11.out hpv)
              clear hpv hA HC10 HP10 HPC
              go_wp2_with fail
              refine HS2.out.mono ?_
              rintro e w' ⟨rfl, m3, rfl⟩
              have HA13 : Hid (At w (w12.drewN m3)) := Lib.hid (HA12.out.drewN m3)
              generalize w12.drewN m3 = wf at HA13 ⊢
              go_wp2_with fail
              refine (HAW.out _).mono ?_
              rintro e w14 ⟨rfl, hA⟩
              have HE : Hid (At w w14) := Lib.hid (HA13.out.next hA)
              clear hA
              go_wp2
              go_ret
              exact ⟨rfl, HE.out⟩
        · obtain ⟨i, hi⟩ : ∃ i, j = i + 1 := ⟨j - 1, by omega⟩
          have hz : z = (i : Int) := by have := HJ.out; omega
          subst hz
          have hiP : i < P.length := by rw [HL.out]; omega
          obtain ⟨g6, o6, he6, -, hx⟩ := (HP.out.on HA.out.at_).pos (by omega)
          injection he6 with he6
          injection he6 with he7 he8
          subst he7 he8
          obtain ⟨x1, B6, c6, x2, hb6⟩ := hx i hiP
          have hfi := fine_rv HF.out hiP
          have hst := upS_rv (S := sp) hiP
          have hby := HBY.out _ (pt_mem hiP)
          rw [hi] at HC
          obtain ⟨⟨a6, d6⟩, hp6⟩ : ∃ p6, p6 = P.getD i pz := ⟨_, rfl⟩
          rw [← hp6] at x1 x2 hb6 hfi hst hby
          simp only at x1 x2 hb6 hby
          have h40 : d6.length = 40 := hfi.len (a6, d6) (List.mem_singleton.2 rfl)
          rw [h40] at x2
          obtain ⟨q, hq⟩ : ∃ q, wr.heap.size = q := ⟨_, rfl⟩
          obtain ⟨wb, hwb⟩ : ∃ wb, wr.alloc (.cells #[.int .i64 a6, .slice B6 40 c6] 56) = wb := ⟨_, rfl⟩
          have hAb : At wr wb := by rw [← hwb]; exact (At.start wr).alloc _
          have hQ : wb.heap[q]? = some (.cells #[.int .i64 a6, .slice B6 40 c6] 56 (0, 0)) := by rw [← hwb, ← hq]; exact heap_alloc_new _ _
          have HC1 := Lib.hid (HC.out.on hAb)
          have HA1' := Lib.hid (HA.out.on hAb)
          have HB1 := Lib.hid (HB.out.on hAb)
          have HWC := Lib.hid (write_any HC1.out.bf (some ⟨q, 0, none⟩) [(a6, d6)] 1 1 rfl (by omega) (pv_one hQ h40 (hb6.below hAb)) (fun p hp => by rw [List.mem_singleton] at hp; subst hp; exact hby))
          rw [hfi.rf, wr_yes hfi.rf, hst] at HWC
          have f1 : (0 : Int) ≤ (i : Int) := by omega
          have f2 : (i : Int) < (n : Int) := by omega
          have HHI := Lib.hid hi
          clear hx hfi hst hby hp6 h40 hb6 hAb hQ hi hj0 HJ HC HA HB hiP
          go_wp2_with fail
          refine HWC.out.mono ?_
          rintro e w10 ⟨rfl, hbf, hmv⟩
          have HA2 := Lib.hid (HA1'.out.other HC1.out hmv HNE2.out)
          have HB2 := Lib.hid (HB1.out.other HC1.out hmv HNE3.out)
          have HC2 := Lib.hid (HC1.out.wrote hbf hmv)
          clear hbf hmv HC1 HA1' HB1 HWC hwb hq
          go_wp2
          go_roundw
          case rel => exact ⟨i, (i : Int) - 1, Lib.hid (by omega), by have := HHI.out; omega, rfl, HC2, HA2, HB2⟩
          case measure => simp [RowKit.intOf]
  · have e1 : (0 : Int) < (n : Int) := by omega
    have e3 : ¬ c = 0 := by omega
    rw [← hr0]
    clear hr0 hrl HRD
    have HW1 := Lib.hid (write_any HBB5.out.bf (some ⟨g, o, none⟩) P n c HL.out (by omega) (HP.out.on HBB5.out.at_) HBY.out)
    rw [HF.out.rf, wr_yes HF.out.rf] at HW1
    go_wp2_with fail
    refine HW1.out.mono ?_
    rintro e w7 ⟨rfl, hbf, hmv⟩
    have HBA7 := Lib.hid (HBA5.out.other HBB5.out hmv HNE1.out)
    have HBC7 := Lib.hid (HBC5.out.other HBB5.out hmv (fun e => HNE3.out e.symm))
    have HBB7 := Lib.hid (HBB5.out.wrote hbf hmv)
    clear hbf hmv HBA5 HBB5 HBC5 HW1 e1 e3
    have HUN := Lib.hid HF.out.un
    have hin : IntKind.i64.wrap ((n : Int) - 1) = (n : Int) - 1 := IntWalk.i64_in _ (by omega)
    have HBC9 : Hid (Bo w w7 bc mc (upS sp (rv P n))) := Lib.hid (by
      have := HBC7.out
      rw [← HL.out, rv_all]; exact this)
    have HBA9 : Hid (Bo w w7 ba ma (upS sp P)) := Lib.hid HBA7.out
    have HBB9 : Hid (Bo w w7 bb mb (upS sp P)) := Lib.hid HBB7.out
    clear HBC7 HBA7 HBB7
    go_wp2
    go_loopw [11] (fun c11 wr => ∃ (j : Nat) (z : Int), Hid (z + 1 = (j : Int)) ∧ j ≤ n ∧ c11 = .int .i64 z ∧ Hid (Bo w wr bc mc (upS sp (rv P j))) ∧ Hid (Bo w wr ba ma (upS sp P)) ∧ Hid (Bo w wr bb mb (upS sp P))) (fun c11 _ => (RowKit.intOf c11 + 1).toNat)
    case atStart => exact ⟨n, (n : Int) - 1, Lib.hid (by omega), Nat.le_refl _, rfl, HBC9, HBA9, HBB9⟩
    case round =>
      obtain ⟨j, z, HJ, hj, rfl, HC, HA, HB⟩ := hrel
      by_cases hj0 : j = 0
      · have hz : z = -1 := by have := HJ.out; omega
        have HC0 : Hid (Bo w wr bc mc (upS sp P)) := Lib.hid (by have := HC.out; rw [hj0, upS_all HUN.out] at this; exact this)
        subst hz
        clear hj0 HC HJ
        have HLS : Hid ((ls (upS sp P)).length = n) := Lib.hid (by rw [show upS sp P = upS (st0 50 16) P from rfl, ls_new HF.out, HL.out])
        have HPA := Lib.hid (puts_bf HA.out.bf)
        go_wp2_with fail
        refine HPA.out.mono ?_
        rintro e wp ⟨A7, c7, rfl, hpv, hA⟩
        have HPP := Lib.hid hpv
        have HB7 := Lib.hid (HB.out.on hA)
        have HC7 := Lib.hid (HC0.out.on hA)
        rw [HLS.out]
        clear hpv hA HA HB HC0 HPA
        go_wp2
        go_loopw [13] (fun c13 wq => ∃ (i m : Nat), 1 ≤ i ∧ i ≤ n ∧ c13 = .int .i64 (i : Int) ∧ wq = wp.drewN m) (fun c13 _ => n - (RowKit.intOf c13).toNat)
        case atStart => exact ⟨1, 0, by omega, by omega, rfl, rfl⟩
        case round =>
          obtain ⟨i, m, hi1, hin2, rfl, rfl⟩ := hrel
          by_cases hlt : i < n
          · obtain ⟨g7, o7, rfl, -, hx⟩ := HPP.out.pos (by rw [HLS.out]; omega)
            obtain ⟨i', hi'⟩ : ∃ i', i' = i - 1 := ⟨_, rfl⟩
            have x1 := (hx i (by rw [HLS.out]; exact hlt)).1
            have x2 := (hx i' (by rw [HLS.out]; omega)).1
            have hup := List.pairwise_iff_getElem.1 (ls_up (upS sp P)) i' i (by rw [HLS.out]; omega) (by rw [HLS.out]; exact hlt) (by omega)
            have hg1 : (ls (upS sp P)).getD i pz = (ls (upS sp P))[i]'(by rw [HLS.out]; exact hlt) := by rw [List.getD_eq_getElem?_getD, List.getElem?_eq_getElem (by rw [HLS.out]; exact hlt)]; rfl
            have hg2 : (ls (upS sp P)).getD i' pz = (ls (upS sp P))[i']'(by rw [HLS.out]; omega) := by rw [List.getD_eq_getElem?_getD, List.getElem?_eq_getElem (by rw [HLS.out]; omega)]; rfl
            rw [← hg1, ← hg2] at hup
            obtain ⟨y1, hy1⟩ : ∃ y1, y1 = ((ls (upS sp P)).getD i pz).1 := ⟨_, rfl⟩
            obtain ⟨y2, hy2⟩ : ∃ y2, y2 = ((ls (upS sp P)).getD i' pz).1 := ⟨_, rfl⟩
            rw [← hy1] at x1 hup
            rw [← hy2] at x2 hup
            have f1 : (i : Int) - 1 = (i' : Int) := by omega
            have f2 : IntKind.i64.wrap (i' : Int) = (i' : Int) := IntWalk.i64_in _ (by omega)
            have f3 : (0 : Int) ≤ (i : Int) := by omega
            have f4 : (i : Int) < (n : Int) := by omega
            have f5 : (0 : Int) ≤ (i' : Int) := by omega
            have f6 : (i' : Int) < (n : Int) := by omega
            have f7 : decide (y1 ≤ y2) = false := decide_eq_false (by omega)
            clear hx hup hg1 hg2 hy1 hy2 hi'
            go_wp2
            go_quiet (fail)
            go_wp2
            go_roundw
            case rel => exact ⟨i + 1, _, by omega, by omega, by go_num, rfl⟩
            case measure => simp [RowKit.intOf]; omega
          · have hie : i = n := by omega
            have h40 := ls_40 HB7.out.bf.ok
            have HS := Lib.hid (fun (A8 A9 : Option Addr) (c8 c9 : Nat) (W : World) (h1 : PV W A8 (ls (upS sp P))) (h2 : PV W A9 (ls (upS sp P))) => samePuts_any A8 A9 (ls (upS sp P)) n c8 c9 HLS.out (by omega) h40 W h1 h2)
            have HB8 := Lib.hid (HB7.out.on ((At.start wp).drewN m))
            have HC8 := Lib.hid (HC7.out.on ((At.start wp).drewN m))
            have HP8 := Lib.hid (HPP.out.on ((At.start wp).drewN m))
            have HPB := Lib.hid (puts_bf HB8.out.bf)
            subst hie
            clear h40 HB7 HC7 HPP
            generalize wp.drewN m = wd at HB8 HC8 HP8 HPB ⊢
            go_wp2_with fail
            refine HPB.out.mono ?_
            rintro e w11 ⟨A8, c8, rfl, hpv, hA⟩
            rw [HLS.out]
            have HP9 := Lib.hid (HP8.out.on hA)
            have HC9 := Lib.hid (HC8.out.on hA)
            have HS1 := Lib.hid (HS.out A7 A8 c7 c8 w11 HP9.out hpv)
            clear hpv hA HB8 HC8 HP8 HPB
            go_wp2_with fail
            refine HS1.out.mono ?_
            rintro e w' ⟨rfl, m2, rfl⟩
            have HC10 := Lib.hid (HC9.out.on ((At.start w11).drewN m2))
            have HP10 := Lib.hid (HP9.out.on ((At.start w11).drewN m2))
            have HPC := Lib.hid (puts_bf HC10.out.bf)
            clear HC9 HP9 HS1
            generalize w11.drewN m2 = we at HC10 HP10 HPC ⊢
            go_wp2_with fail
            refine HPC.out.mono ?_
            rintro e w12 ⟨A9, c9, rfl, hpv, hA⟩
            rw [HLS.out]
            have HP11 := Lib.hid (HP10.out.on hA)
            have HA12 := Lib.hid (HC10.out.at_.next hA)
            have HS2 := Lib.hid (HS.out A7 A9 c7 c9 w12 HP11.out hpv)
            clear hpv hA HC10 HP10 HPC
            go_wp2_with fail
            refine HS2.out.mono ?_
            rintro e w' ⟨rfl, m3, rfl⟩
            have HA13 : Hid (At w (w12.drewN m3)) := Lib.hid (HA12.out.drewN m3)
            generalize w12.drewN m3 = wf at HA13 ⊢
            go_wp2_with fail
            refine (HAW.out _).mono ?_
            rintro e w14 ⟨rfl, hA⟩
            have HE : Hid (At w w14) := Lib.hid (HA13.out.next hA)
            clear hA
            go_wp2
            go_ret
            exact ⟨rfl, HE.out⟩
      · obtain ⟨i, hi⟩ : ∃ i, j = i + 1 := ⟨j - 1, by omega⟩
        have hz : z = (i : Int) := by have := HJ.out; omega
        subst hz
        have hiP : i < P.length := by rw [HL.out]; omega
        obtain ⟨g6, o6, he6, -, hx⟩ := (HP.out.on HA.out.at_).pos (by omega)
        injection he6 with he6
        injection he6 with he7 he8
        subst he7 he8
        obtain ⟨x1, B6, c6, x2, hb6⟩ := hx i hiP
        have hfi := fine_rv HF.out hiP
        have hst := upS_rv (S := sp) hiP
        have hby := HBY.out _ (pt_mem hiP)
        rw [hi] at HC
        obtain ⟨⟨a6, d6⟩, hp6⟩ : ∃ p6, p6 = P.getD i pz := ⟨_, rfl⟩
        rw [← hp6] at x1 x2 hb6 hfi hst hby
        simp only at x1 x2 hb6 hby
        have h40 : d6.length = 40 := hfi.len (a6, d6) (List.mem_singleton.2 rfl)
        rw [h40] at x2
        obtain ⟨q, hq⟩ : ∃ q, wr.heap.size = q := ⟨_, rfl⟩
        obtain ⟨wb, hwb⟩ : ∃ wb, wr.alloc (.cells #[.int .i64 a6, .slice B6 40 c6] 56) = wb := ⟨_, rfl⟩
        have hAb : At wr wb := by rw [← hwb]; exact (At.start wr).alloc _
        have hQ : wb.heap[q]? = some (.cells #[.int .i64 a6, .slice B6 40 c6] 56 (0, 0)) := by rw [← hwb, ← hq]; exact heap_alloc_new _ _
        have HC1 := Lib.hid (HC.out.on hAb)
        have HA1' := Lib.hid (HA.out.on hAb)
        have HB1 := Lib.hid (HB.out.on hAb)
        have HWC := Lib.hid (write_any HC1.out.bf (some ⟨q, 0, none⟩) [(a6, d6)] 1 1 rfl (by omega) (pv_one hQ h40 (hb6.below hAb)) (fun p hp => by rw [List.mem_singleton] at hp; subst hp; exact hby))
        rw [hfi.rf, wr_yes hfi.rf, hst] at HWC
        have f1 : (0 : Int) ≤ (i : Int) := by omega
        have f2 : (i : Int) < (n : Int) := by omega
        have HHI := Lib.hid hi
        clear hx hfi hst hby hp6 h40 hb6 hAb hQ hi hj0 HJ HC HA HB hiP
        go_wp2_with fail
        refine HWC.out.mono ?_
        rintro e w10 ⟨rfl, hbf, hmv⟩
        have HA2 := Lib.hid (HA1'.out.other HC1.out hmv HNE2.out)
        have HB2 := Lib.hid (HB1.out.other HC1.out hmv HNE3.out)
        have HC2 := Lib.hid (HC1.out.wrote hbf hmv)
        clear hbf hmv HC1 HA1' HB1 HWC hwb hq
        go_wp2
        go_roundw
        case rel => exact ⟨i, (i : Int) - 1, Lib.hid (by omega), by have := HHI.out; omega, rfl, HC2, HA2, HB2⟩
        case measure => simp [RowKit.intOf]
  · exact absurd hr0 (Nat.not_lt_zero _)

/-- A vector that is not looked at, or is not taken in. -/
theorem parts_none (A : Option Addr) (n c : Nat) (P : List Pt) (hl : P.length = n) (hnm : n ≤ maxLen) (hB : AllBy P) (hf : n = 0 ∨ (n ≤ 5000 → rf sp P ≠ 0)) (k : Int) (w : World) (hP : PV w A P) :
    Calls Try.prog 7 #[.slice A n c, .int .i64 k] w (Gives (.bool true) w) := by
  have hpu := puts_any A P n c 5000 hl hnm w hP
  rw [show ((5000 : Nat) : Int) = 5000 from rfl] at hpu
  have HPU := Lib.hid hpu
  have HP := Lib.hid hP
  have HBY := Lib.hid hB
  have HL := Lib.hid hl
  have HNW := Lib.hid (new_ok 50 16 (by omega) (by omega) (by omega))
  rw [show ((50 : Nat) : Int) = 50 from rfl] at HNW
  have HAW := Lib.hid awake_any
  clear hpu hP hB hl hnm
  go_enter Try.func7, Try.ntmps7
  go_wp2_with fail
  refine HPU.out.mono ?_
  rintro e w1 ⟨v, rfl, hv1, hv2, hA⟩
  have HA1 : Hid (At w w1) := Lib.hid hA
  clear hA HPU
  by_cases hv : v ≤ 5000
  rotate_left
  · have q1 : decide ((5000 : Int) < (v : Int)) = true := decide_eq_true (by omega)
    clear hv hv1 hv2 hf
    go_wp2_with fail
    refine (HAW.out _).mono ?_
    rintro e w2 ⟨rfl, hA⟩
    have HE : Hid (At w w2) := Lib.hid (HA1.out.next hA)
    clear hA
    go_wp2
    go_ret
    exact ⟨rfl, HE.out⟩
  have q1 : decide ((5000 : Int) < (v : Int)) = false := decide_eq_false (by omega)
  have hn : n ≤ 5000 := by
    have e2 : sm 0 n = n ∨ sm 0 n = 1099511627776 := by unfold sm; split <;> omega
    omega
  clear hv1 hv2
  by_cases h0 : n = 0
  · have q2 : ((n : Int) == 0) = true := by simp; omega
    clear h0 hf
    go_wp2_with fail
    refine (HAW.out _).mono ?_
    rintro e w2 ⟨rfl, hA⟩
    have HE : Hid (At w w2) := Lib.hid (HA1.out.next hA)
    clear hA
    go_wp2
    go_ret
    exact ⟨rfl, HE.out⟩
  · have q2 : ((n : Int) == 0) = false := by simp; omega
    have hz : rf sp P ≠ 0 := hf.elim (fun e => absurd e h0) fun h => h hn
    clear h0 hf
    go_wp2_with fail
    refine (HNW.out w1).mono ?_
    rintro e w2 hnew
    obtain ⟨ba, ma, rfl, hbo⟩ := bo_new hnew
    have HBA : Hid (Bo w w2 ba ma sp) := Lib.hid (hbo.back HA1.out)
    clear hnew hbo
    go_wp2_with fail
    refine (HNW.out w2).mono ?_
    rintro e w3 hnew
    obtain ⟨bb, mb, rfl, hbo⟩ := bo_new hnew
    have HBA3 := Lib.hid (HBA.out.on hbo.at_)
    clear hnew hbo HBA
    go_wp2_with fail
    refine (HNW.out w3).mono ?_
    rintro e w4 hnew
    obtain ⟨bc, mc, rfl, hbo⟩ := bo_new hnew
    have HBA4 := Lib.hid (HBA3.out.on hbo.at_)
    clear hnew hbo HBA3 HNW
    have HWA := Lib.hid (write_any HBA4.out.bf A P n c HL.out (by omega) (HP.out.on HBA4.out.at_) HBY.out)
    have q3 : (rf sp P != 0) = true := by simp; exact hz
    generalize rf sp P = z at HWA hz q3 ⊢
    go_wp2_with fail
    refine HWA.out.mono ?_
    rintro e w5 ⟨rfl, hbf, hmv⟩
    have HBA5 := Lib.hid (HBA4.out.wrote hbf hmv)
    clear hbf hmv HBA4 HWA
    go_wp2_with fail
    refine (HAW.out _).mono ?_
    rintro e w6 ⟨rfl, hA⟩
    have HE : Hid (At w w6) := Lib.hid (HBA5.out.at_.next hA)
    clear hA
    go_wp2
    go_ret
    exact ⟨rfl, HE.out⟩
theorem parts_all (A : Option Addr) (n c : Nat) (P : List Pt) (hl : P.length = n) (hnm : n ≤ maxLen) (hc : n ≤ c) (hB : PB P) (k : Int) (w : World) (hP : PV w A P) :
    Calls Try.prog 7 #[.slice A n c, .int .i64 k] w (Gives (.bool true) w) := by
  have hb : AllBy P := fun p hp => (hB p hp).1
  by_cases h0 : n = 0
  · exact parts_none A n c P hl hnm hb (Or.inl h0) k w hP
  · by_cases hz : rf sp P = 0
    · obtain ⟨g, o, rfl, -, -⟩ := hP.pos (by omega)
      exact parts_any g o n c P hl hnm (by omega) hc hb (fine_of hz) k w hP
    · exact parts_none A n c P hl hnm hb (Or.inr fun _ => hz) k w hP

end Go.Proofs.Ythaiddhbifakhaa
