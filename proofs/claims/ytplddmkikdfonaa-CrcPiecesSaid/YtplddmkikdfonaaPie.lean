/- Proved: the law CrcPieces answers true at any rows of bytes and leaves what there was as it was: added in whatever pieces it is the sum of all; two that go on do not touch each other; nothing is no sum. -/
import Derived.Test.YtplddmkikdfonaaTot
import Derived.Test.YtplddmkikdfonaaApp
import Derived.LaidEql
namespace Go.Proofs.Ytplddmkikdfonaa
open Go.RowKit

/-- Three sums of the law's own, below all that it makes later. -/
structure St (w : World) (B b1 b2 b3 v1 v2 v3 : Nat) (wr : World) : Prop where
  stands : At w wr
  size : B ≤ wr.heap.size
  one : Box wr b1 v1
  two : Box wr b2 v2
  three : Box wr b3 v3
structure Apart (w : World) (B b1 b2 b3 : Nat) : Prop where
  n1 : w.heap.size ≤ b1
  n3 : w.heap.size ≤ b3
  l0 : w.heap.size ≤ B
  l1 : b1 < B
  l2 : b2 < B
  l3 : b3 < B
  d12 : b1 ≠ b2
  d13 : b1 ≠ b3
  d23 : b2 ≠ b3
theorem St.set1 {w wr : World} {B b1 b2 b3 v1 v2 v3 : Nat} (h : St w B b1 b2 b3 v1 v2 v3 wr) (a : Apart w B b1 b2 b3) (u : Nat) : St w B b1 b2 b3 u v2 v3 (wr.setCell ⟨b1, 0, none⟩ (.int .u32 (u : Int))) :=
  ⟨Below.setCell h.stands a.n1 _, by simpa using h.size, box_set h.one u, box_other h.two (Ne.symm a.d12) _, box_other h.three (Ne.symm a.d13) _⟩
theorem St.set3 {w wr : World} {B b1 b2 b3 v1 v2 v3 : Nat} (h : St w B b1 b2 b3 v1 v2 v3 wr) (a : Apart w B b1 b2 b3) (u : Nat) : St w B b1 b2 b3 v1 v2 u (wr.setCell ⟨b3, 0, none⟩ (.int .u32 (u : Int))) :=
  ⟨Below.setCell h.stands a.n3 _, by simpa using h.size, box_other h.one a.d13 _, box_other h.two a.d23 _, box_set h.three u⟩
theorem box_below {w w' : World} {b v B : Nat} (h : Box w b v) (hl : b < B) (hb : Below B w w') : Box w' b v := by
  unfold Box at h ⊢
  rw [hb.block b hl]; exact h
theorem St.on {w wr wx : World} {B b1 b2 b3 v1 v2 v3 : Nat} (h : St w B b1 b2 b3 v1 v2 v3 wr) (a : Apart w B b1 b2 b3) (hb : Below B wr wx) : St w B b1 b2 b3 v1 v2 v3 wx :=
  ⟨h.stands.trans (hb.mono a.l0), Nat.le_trans h.size hb.size, box_below h.one a.l1 hb, box_below h.two a.l2 hb, box_below h.three a.l3 hb⟩

set_option maxHeartbeats 1000000 in
set_option maxRecDepth 100000 in
theorem pieces_long (A : Option Addr) (m c : Nat) (h : 50 < m) (w : World) :
    Calls Try.prog 4 #[.slice A m c] w (Gives (.bool true) w) := by
  have q : decide ((50 : Int) < (m : Int)) = true := decide_eq_true (by omega)
  go_enter Try.func4, Try.ntmps4
  go_wp2_with (go_at_call 8; refine (awake_any _).mono ?_; rintro e w' ⟨rfl, hb⟩)
  go_ret
  exact ⟨rfl, hb⟩

theorem info_sum : (Try.prog.info? 33).isSome = true := by kernel_rfl
theorem equal_sum (w : World) (a : Addr) (d : Nat) : (Op.equalIn (d + 1) 29 (.pointer (some a)) (.pointer (some a))).run Try.prog w = .ok true w := by
  obtain ⟨j, hj⟩ := Option.isSome_iff_exists.1 info_sum
  simp [Op.equalIn, run_underlying Try.underlying29, typeInfo, sizeOf, run_sameAddr_same, hj]
theorem same_sum (w : World) (a : Addr) : (binOp .neq 29 (.pointer (some a)) (.pointer (some a))).run Try.prog w = .ok (.bool false) w := by
  have h : (Op.equal 29 (.pointer (some a)) (.pointer (some a))).run Try.prog w = .ok true w := equal_sum w a 9999
  simp only [binOp]
  simp [h]

theorem cr_three : AllB [1, 2, 3] := by unfold AllB; decide

set_option maxHeartbeats 4000000 in
set_option maxRecDepth 100000 in
theorem pieces_some (A : Option Addr) (m c : Nat) (R : List Rw) (hm : m ≤ 50) (hR : R.length = m) (w : World) (hv : RV w A R) :
    Calls Try.prog 4 #[.slice A m c] w (Gives (.bool true) w) := by
  obtain ⟨i0, hi, hz0, hz1, hz2⟩ := info_parts info_u8
  have q : decide ((50 : Int) < (m : Int)) = false := decide_eq_false (by omega)
  have hsame := same_sum
  have HTO := Lib.hid (total_any A m c R hm hR w hv)
  have HN := Lib.hid hR
  have HV := Lib.hid hv
  clear hR hv
  go_enter Try.func4, Try.ntmps4
  go_wp2_with fail
  refine HTO.out.mono ?_
  rintro e w1 ⟨t, rfl, ht, hcat, a1⟩
  have HC := Lib.hid hcat
  have A1 : Hid (At w w1) := Lib.hid a1
  clear hcat a1
  by_cases h2 : 2000 < t
  · have qt : decide ((2000 : Int) < (t : Int)) = true := decide_eq_true (by omega)
    go_wp2_with fail
    refine (awake_any _).mono ?_
    rintro e w2 ⟨rfl, a2⟩
    have A2 : Hid (At w w2) := Lib.hid (A1.out.next a2)
    clear a2
    go_wp2
    go_ret
    exact ⟨rfl, A2.out⟩
  have qt : decide ((2000 : Int) < (t : Int)) = false := decide_eq_false (by omega)
  have hct := HC.out (by omega)
  have HCT := Lib.hid hct
  clear hct
  go_wp2_with fail
  refine (new_any _).mono ?_
  rintro e w2 ⟨rfl, h2⟩
  have HW2 := Lib.hid h2
  clear h2
  go_wp2_with fail
  refine (new_any _).mono ?_
  rintro e w3 ⟨rfl, h3⟩
  have HW3 := Lib.hid h3
  clear h3
  have B1 : Box w2 w1.heap.size 0 := by rw [HW2.out]; exact box_new w1
  have A12 : At w1 w2 := by rw [HW2.out]; exact (At.start w1).alloc _
  have B2 : Box w3 w2.heap.size 0 := by rw [HW3.out]; exact box_new w2
  have A23 : At w2 w3 := by rw [HW3.out]; exact (At.start w2).alloc _
  have L12 : w2.heap.size = w1.heap.size + 1 := by rw [HW2.out]; simp
  have L23 : w3.heap.size = w2.heap.size + 1 := by rw [HW3.out]; simp
  have A34 : At w3 (w3.alloc (.cells #[.int .u8 1, .int .u8 2, .int .u8 3] 5)) := (At.start w3).alloc _
  have ha2 := add_any (some ⟨w3.heap.size, 0, none⟩) w2.heap.size 0 3 3 [1, 2, 3] (by omega) (by omega) rfl cr_three _ (box_at B2 A34) (row_bv w3 #[.int .u8 1, .int .u8 2, .int .u8 3] (0, 0) [1, 2, 3] rfl)
  rw [show 4294967295 ^^^ rg (4294967295 ^^^ 0) [1, 2, 3] = cr [1, 2, 3] from rfl] at ha2
  obtain ⟨vo, hvo⟩ : ∃ v, v = cr [1, 2, 3] := ⟨_, rfl⟩
  rw [← hvo] at ha2
  have HVO := Lib.hid hvo
  have HA2 := Lib.hid ha2
  have X1 := box_other (box_at (box_at B1 A23) A34) (show w1.heap.size ≠ w2.heap.size by omega) (.int .u32 (vo : Int))
  have X2 := box_set (box_at B2 A34) vo
  have X3 : At w ((w3.alloc (.cells #[.int .u8 1, .int .u8 2, .int .u8 3] 5)).setCell ⟨w2.heap.size, 0, none⟩ (.int .u32 (vo : Int))) := Below.setCell (((A1.out.next A12).next A23).next A34) (by have := A1.out.size; show w.heap.size ≤ w2.heap.size; omega) _
  have X4 : ((w3.alloc (.cells #[.int .u8 1, .int .u8 2, .int .u8 3] 5)).setCell ⟨w2.heap.size, 0, none⟩ (.int .u32 (vo : Int))).heap.size = w3.heap.size + 1 := by simp
  have Y1 := Lib.hid X1
  have Y2 := Lib.hid X2
  have Y3 := Lib.hid X3
  have Y4 := Lib.hid X4
  have YL := Lib.hid (And.intro L12 L23)
  clear B1 B2 A12 A23 A34 L12 L23 hvo ha2 X1 X2 X3 X4
  go_wp2_with fail
  refine HA2.out.mono ?_
  rintro e w5 ⟨rfl, h5⟩
  rw [← h5] at Y1 Y2 Y3 Y4
  clear h5 HA2
  obtain ⟨b1, hb1⟩ : ∃ b, b = w1.heap.size := ⟨_, rfl⟩
  obtain ⟨b2, hb2⟩ : ∃ b, b = w2.heap.size := ⟨_, rfl⟩
  obtain ⟨b3, hb3⟩ : ∃ b, b = w5.heap.size := ⟨_, rfl⟩
  obtain ⟨B, hB⟩ : ∃ B, B = w5.heap.size + 1 := ⟨_, rfl⟩
  have HAP : Hid (Apart w B b1 b2 b3) := Lib.hid (by
    have := A1.out.size
    have := Y3.out.size
    have := Y4.out
    have := YL.out
    exact ⟨by omega, by omega, by omega, by omega, by omega, by omega, by omega, by omega, by omega⟩)
  have HST : Hid (St w B b1 b2 b3 0 vo 0 (w5.alloc (.cells #[.int .u32 0] 33))) := Lib.hid ⟨Y3.out.alloc _, by simp; omega, by rw [hb1]; exact box_at Y1.out ((At.start w5).alloc _), by rw [hb2]; exact box_at Y2.out ((At.start w5).alloc _), by rw [hb3]; exact box_new w5⟩
  rw [← hb1, ← hb2]
  clear hb1 hb2 hB Y1 Y2 Y3 Y4 YL
  go_wp2
  rw [← hb3]
  obtain ⟨w6, hw6⟩ : ∃ w6, w6 = w5.alloc (.cells #[.int .u32 0] 33) := ⟨_, rfl⟩
  rw [← hw6] at HST ⊢
  clear hb3 hw6
  go_loopw [7, 8] (fun c7 c8 wr => ∃ k n v : Nat, k ≤ m ∧ c8 = .int .i64 (k : Int) ∧ n ≤ 2000 ∧ v < 4294967296 ∧ Hid (n = (cat (R.take k)).length) ∧ Hid (v = cr (cat (R.take k))) ∧ Hid (AllB (cat (R.take k))) ∧ Hid (wr.ownsRow B 5 1 c7 n ((cat (R.take k)).map bt)) ∧ Hid (St w B b1 b2 b3 v vo v wr)) (fun _ c8 _ => m - (intOf c8).toNat)
  case atStart => exact ⟨0, 0, 0, Nat.zero_le _, rfl, by omega, by omega, rfl, Lib.hid cr_nil.symm, Lib.hid (fun _ h => by cases h), Lib.hid (World.ownsRow_nil _ _ _ _), HST⟩
  case round =>
    clear HST
    obtain ⟨k, n, v, hk, rfl, hn, hv32, HNL, HVE, HAB, HO, HS⟩ := hrel
    by_cases hlt : k < m
    · obtain ⟨b, o, rfl, hbl, hx⟩ := HV.out.pos (by rw [HN.out]; omega)
      obtain ⟨hc, hl⟩ := hx k (by rw [HN.out]; exact hlt)
      have hct := cat_take R k (by rw [HN.out]; exact hlt)
      have hcm := cat_len_mono R k (by rw [HN.out]; exact hlt)
      obtain ⟨r, hr⟩ : ∃ r, r = R.getD k Rw.none := ⟨_, rfl⟩
      rw [← hr] at hc hl hct hcm
      obtain ⟨ra, rc, rl⟩ := r
      unfold sl at hc
      obtain ⟨hbv, hab, _, hnil⟩ := hl
      simp only at hc hct hcm hbv hab hnil
      obtain ⟨ln, hln⟩ : ∃ x, x = rl.length := ⟨_, rfl⟩
      rw [← hln] at hc hcm
      have hlb : n + ln ≤ 2000 := by rw [HNL.out]; have := HCT.out; omega
      have HCELL := Lib.hid (fun (W : World) (h : At w W) => (Below.cell h (p := ⟨b, o + k, none⟩) hbl).trans hc)
      have HADD := Lib.hid (fun (W : World) (h : At w W) (bb u : Nat) (hu : u < 4294967296) (hbx : Box W bb u) => add_any ra bb u ln rc rl (by omega) hu hln.symm hab W hbx (h.bv hbv))
      have hcu := cr_app (cat (R.take k)) rl
      rw [← hct, ← HVE.out] at hcu
      have HAB2 : Hid (AllB (cat (R.take (k + 1)))) := Lib.hid (by rw [hct]; exact allB_app HAB.out hab)
      have HNL2 : Hid (n + ln = (cat (R.take (k + 1))).length) := Lib.hid (by rw [hct, List.length_append, ← HNL.out, ← hln])
      have u32 := cr_lt _ HAB2.out
      obtain ⟨u, hu⟩ : ∃ u, u = cr (cat (R.take (k + 1))) := ⟨_, rfl⟩
      rw [← hu] at hcu u32
      have HUE := Lib.hid hu
      have HCT2 := Lib.hid hct
      have HLN := Lib.hid hln
      have HBV := Lib.hid (fun (W : World) (h : At w W) => h.bv hbv)
      have HNIL := Lib.hid hnil
      have h1 := HADD.out wr HS.out.stands b1 v hv32 HS.out.one
      rw [hcu] at h1
      have H1 := Lib.hid h1
      have HS2 := Lib.hid (HS.out.set1 HAP.out u)
      have HO2 := Lib.hid (ownsRow_setCell_below HO.out (a := ⟨b1, 0, none⟩) HAP.out.l1 (.int .u32 (u : Int)))
      have h3 := HADD.out _ HS2.out.stands b3 v hv32 HS2.out.three
      rw [hcu] at h3
      have H3 := Lib.hid h3
      have HS3 := Lib.hid (HS2.out.set3 HAP.out u)
      have HO3 := Lib.hid (ownsRow_setCell_below HO2.out (a := ⟨b3, 0, none⟩) HAP.out.l3 (.int .u32 (u : Int)))
      have g1 : (0 : Int) ≤ (k : Int) := by omega
      have g2 : (k : Int) < (m : Int) := by omega
      have e1 := HCELL.out wr HS.out.stands
      clear hx hc hct hcm hr hbv hab hnil hln hcu hu h1 h3 HO HS HADD HVE HNL HAB
      go_wp2_with fail
      refine H1.out.mono ?_
      rintro e w2 ⟨rfl, hw2⟩
      rw [← hw2] at H3 HS2 HS3 HO2 HO3
      clear hw2 e1
      have e2 := HCELL.out w2 HS2.out.stands
      go_wp2_with fail
      refine H3.out.mono ?_
      rintro e w3 ⟨rfl, hw3⟩
      rw [← hw3] at HS3 HO3
      clear hw3 e2 HS2 HO2 H1 H3
      have e3 := HCELL.out w3 HS3.out.stands
      rcases ra with _ | ad
      · obtain ⟨hrl, hrc⟩ := HNIL.out rfl
        have hln0 : ln = 0 := by rw [HLN.out, hrl]; rfl
        subst hln0
        subst hrc
        have HCS : Hid (cat (R.take (k + 1)) = cat (R.take k)) := Lib.hid (by rw [HCT2.out, hrl, List.append_nil])
        clear hrl
        rw [← HCS.out] at HO3
        go_wp2_with (at_builtin; refine wpList_append_own_none rfl (.tmp 41) (.tmp 45) 22 rfl B 5 i0 1 Try.underlying22 hi _ n ((cat (R.take (k + 1))).map bt) rfl HO3.out rfl ?_; obtain ⟨D, cd, rfl, hdl, hdb⟩ := own_view HO3.out)
        have HVA := Lib.hid (value_any b1 u w3 HS3.out.one)
        have hcr := rcrc_any D n cd (cat (R.take (k + 1))) (by omega) hdl HAB2.out w3 hdb
        rw [← HUE.out] at hcr
        have HCR := Lib.hid hcr
        clear hcr hdl hdb e3
        refine HVA.out.mono ?_
        rintro e wz ⟨rfl, rfl⟩
        go_wp2_with fail
        refine HCR.out.mono ?_
        rintro e wz ⟨rfl, rfl⟩
        go_wp2
        go_roundw
        case rel => exact ⟨k + 1, n, u, by omega, by go_num, hn, u32, HNL2, HUE, HAB2, HO3, HS3⟩
        case measure => simp [intOf]; omega
      · go_wp2_with (at_builtin; refine wpList_append_own _ rfl (.tmp 41) (.tmp 45) 22 rfl B 5 i0 (.int .u8 0) 1 1 Try.underlying22 hi hz0 hz1 hz2 rfl (by decide) _ n ((cat (R.take k)).map bt) rfl HO3.out ad ln rc (rl.map bt) rfl (by rw [List.length_map, ← HLN.out, Nat.mul_one]) ((HBV.out w3 HS3.out.stands).src) (bt_one _) (by unfold maxLen; omega) (by omega) HS3.out.size ?_; intro v4 w4 ho hg _; have HO4 : Hid (w4.ownsRow B 5 1 v4 (n + ln) ((cat (R.take (k + 1))).map bt)) := Lib.hid (by rw [HCT2.out]; simpa using ho); have HS4 := Lib.hid (HS3.out.on HAP.out (Below.grown (Below.refl B w3) hg HS3.out.size (fun j hj => (HO3.out.lt j hj).1))); clear ho hg; obtain ⟨D, cd, rfl, hdl, hdb⟩ := own_view HO4.out)
        have HVA := Lib.hid (value_any b1 u w4 HS4.out.one)
        have hcr := rcrc_any D (n + ln) cd (cat (R.take (k + 1))) (by omega) hdl HAB2.out w4 hdb
        rw [← HUE.out] at hcr
        have HCR := Lib.hid hcr
        clear hcr hdl hdb e3
        refine HVA.out.mono ?_
        rintro e wz ⟨rfl, rfl⟩
        go_wp2_with fail
        refine HCR.out.mono ?_
        rintro e wz ⟨rfl, rfl⟩
        go_wp2
        go_roundw
        case rel => exact ⟨k + 1, n + ln, u, by omega, by go_num, hlb, u32, HNL2, HUE, HAB2, HO4, HS4⟩
        case measure => simp [intOf]; omega
    · have hkm : k = m := by omega
      subst hkm
      obtain ⟨D, cd, rfl, hdl, hdb⟩ := own_view HO.out
      have hcr := rcrc_any D n cd (cat (R.take k)) (by omega) hdl HAB.out wr hdb
      rw [← HVE.out] at hcr
      have HCR := Lib.hid hcr
      have HV3 := Lib.hid (value_any b3 v wr HS.out.three)
      have HV1 := Lib.hid (value_any b1 v wr HS.out.one)
      have HV2 := Lib.hid (value_any b2 vo wr HS.out.two)
      have h3 := fun (W : World) (A' : Option Addr) (h : BV W A' [1, 2, 3]) => rcrc_any A' 3 3 [1, 2, 3] (by omega) rfl cr_three W h
      rw [← HVO.out] at h3
      have HR3 := Lib.hid (h3 _ _ (row_bv wr #[.int .u8 1, .int .u8 2, .int .u8 3] (0, 0) [1, 2, 3] rfl))
      have HAT := Lib.hid HS.out.stands
      clear hdl hdb hcr h3 HO HS
      go_wp2_with fail
      refine HV3.out.mono ?_
      rintro e wz ⟨rfl, rfl⟩
      go_wp2_with fail
      refine HV1.out.mono ?_
      rintro e wz ⟨rfl, rfl⟩
      go_wp2_with fail
      refine HV1.out.mono ?_
      rintro e wz ⟨rfl, rfl⟩
      go_wp2_with fail
      refine HCR.out.mono ?_
      rintro e wz ⟨rfl, rfl⟩
      go_wp2_with fail
      refine HV2.out.mono ?_
      rintro e wz ⟨rfl, rfl⟩
      go_wp2_with fail
      refine HR3.out.mono ?_
      rintro e wz ⟨rfl, rfl⟩
      have A7 : Hid (At w (wr.alloc (.cells #[.int .u8 1, .int .u8 2, .int .u8 3] 5))) := Lib.hid (HAT.out.alloc _)
      go_wp2_with fail
      refine (add_nil _ _ _ _).mono ?_
      rintro e wz ⟨rfl, rfl⟩
      have A8 : Hid (At w ((wr.alloc (.cells #[.int .u8 1, .int .u8 2, .int .u8 3] 5)).alloc (.cells #[.int .u8 1] 5))) := Lib.hid (A7.out.alloc _)
      go_wp2_with fail
      refine (value_nil _).mono ?_
      rintro e wz ⟨rfl, rfl⟩
      go_wp2_with fail
      refine (awake_any _).mono ?_
      rintro e w10 ⟨rfl, a10⟩
      have A10 : Hid (At w w10) := Lib.hid (A8.out.next a10)
      clear a10
      go_wp2
      go_ret
      exact ⟨rfl, A10.out⟩

end Go.Proofs.Ytplddmkikdfonaa
