/- Proved: the law BatchBack answers true for any batch, any epoch, whatever stands behind and any two numbers, and leaves what there was as it was: a batch is written and read as it was; of its first blocks nothing is read; with one bit turned it is none. -/
import Derived.Test.YtgmekkenodiclaaBkp
import Derived.Test.YtgmekkenodiclaaSb
import Derived.Test.YtgmekkenodiclaaBrl
import Derived.RegionTactic
import Derived.ChangeAlike
import Derived.BigRegion
import Derived.IntWalk
namespace Go.Proofs.Ytgmekkenodiclaa
open Go.RowKit
attribute [local go_sem ↓] Go.wp_at_zero Go.wp_at_succ

set_option maxHeartbeats 8000000 in
set_option maxRecDepth 100000 in
theorem bback_any (s ep : Int) (A0 A1 : Option Addr) (L : List Tx) (R : List (List Nat)) (n c0 nb c1 : Nat) (cut bit : Int) (hn : L.length = n) (hk : BOk (s, L)) (hnb : R.length = nb) (hR : ∀ r ∈ R, ROk r) (hmx : nb ≤ maxLen) (hz : A1 = none → nb = 0 ∧ c1 = 0) (w : World) (hv : TV w A0 L) (hr : RV w A1 R) :
    Calls Try.prog 4 #[.agg #[.int .i64 s, .slice A0 n c0], .int .i64 ep, .slice A1 nb c1, .int .i64 cut, .int .i64 bit] w (Gives (.bool true) w) := by
  obtain ⟨q, hq⟩ : ∃ q, w.heap.size = q := ⟨_, rfl⟩
  obtain ⟨w0, hw0⟩ : ∃ w0, w.alloc (.cells #[.int .i64 s, .slice A0 n c0] 27) = w0 := ⟨_, rfl⟩
  have HA0 : Hid (At w w0) := Lib.hid (by rw [← hw0]; exact (At.start w).alloc _)
  have HQB : Hid (∀ W, At w0 W → W.cell? ⟨q, 0, none⟩ = some (.int .i64 s) ∧ W.cell? ⟨q, 1, none⟩ = some (.slice A0 n c0)) := Lib.hid fun W hW => ((show Bb w0 q s (.slice A0 n c0) by rw [← hw0, ← hq]; exact bb_new _ _ _).on hW).cells
  have HN := Lib.hid hn
  have HK := Lib.hid hk
  have HNB := Lib.hid hnb
  have HR := Lib.hid hR
  have HZ := Lib.hid hz
  have HV : Hid (∀ W, At w0 W → TV W A0 L) := Lib.hid fun W hW => hv.on (HA0.out.next hW)
  have HRV : Hid (∀ W, At w0 W → RV W A1 R) := Lib.hid fun W hW => hr.on (HA0.out.next hW)
  have HAW := Lib.hid awake_any
  have hnx : n ≤ maxLen := by rw [← hn]; exact hk.2
  have HSM := Lib.hid (small_any A0 L n c0 hn hnx hk.1 w0 (HV.out w0 (At.start w0)))
  obtain ⟨b0, b1⟩ := HQB.out w0 (At.start w0)
  have HRB := Lib.hid (rv_rl hr)
  clear hn hk hnb hR hz hv hr
  go_enter Try.func4, Try.ntmps4
  go_wp2_with fail
  refine HSM.out.mono ?_
  rintro x w1 ⟨bb, rfl, hsm, hA1⟩
  have HS1 := Lib.hid hsm
  have HA1 : Hid (At w0 w1) := Lib.hid hA1
  clear hsm hA1 b0 b1
  obtain ⟨b0, b1⟩ := HQB.out w1 HA1.out
  cases bb with
  | false =>
    go_wp2_with fail
    refine (HAW.out w1).mono ?_
    rintro x w2 ⟨rfl, hA2⟩
    have HA2 : Hid (At w w2) := Lib.hid (((HA0.out.next HA1.out)).next hA2)
    clear hA2
    go_wp2_with fail
    try rw [Exit.noGoto_ret]
    go_ret
    exact ⟨rfl, HA2.out⟩
  | true =>
  by_cases h10 : 10 < nb
  · have z1 : decide (10 < (nb : Int)) = true := decide_eq_true (by omega)
    go_wp2_with fail
    refine (HAW.out w1).mono ?_
    rintro x w2 ⟨rfl, hA2⟩
    have HA2 : Hid (At w w2) := Lib.hid (((HA0.out.next HA1.out)).next hA2)
    clear hA2
    go_wp2_with fail
    try rw [Exit.noGoto_ret]
    go_ret
    exact ⟨rfl, HA2.out⟩
  have z1 : decide (10 < (nb : Int)) = false := decide_eq_false (by omega)
  have HTO := Lib.hid (total_any A1 R nb c1 1000 HNB.out hmx w1 (HRV.out w1 HA1.out))
  go_wp2_with fail
  refine HTO.out.mono ?_
  rintro x w2 ⟨v, rfl, _, _, hA2⟩
  have HA2 : Hid (At w0 w2) := Lib.hid (HA1.out.next hA2)
  clear hA2 b0 b1
  obtain ⟨b0, b1⟩ := HQB.out w2 HA2.out
  by_cases h1000 : 1000 < v
  · have z2 : decide (1000 < (v : Int)) = true := decide_eq_true (by omega)
    go_wp2_with fail
    refine (HAW.out w2).mono ?_
    rintro x w3 ⟨rfl, hA3⟩
    have HA3 : Hid (At w w3) := Lib.hid (((HA0.out.next HA2.out)).next hA3)
    clear hA3
    go_wp2_with fail
    try rw [Exit.noGoto_ret]
    go_ret
    exact ⟨rfl, HA3.out⟩
  have z2 : decide (1000 < (v : Int)) = false := decide_eq_false (by omega)
  obtain ⟨t, ht⟩ : ∃ t, tot L + 1 = t := ⟨_, rfl⟩
  have HPB : Hid (Pb (fla L)) := Lib.hid (pb_of HK.out.1)
  have HE := Lib.hid (bencode_any s ep A0 L n c0 HN.out (by have := (HS1.out (by trivial)).2; rw [HN.out] at this; omega) (by have := (HS1.out (by trivial)).1; omega) HPB.out t ht w2 (HV.out w2 HA2.out))
  have HTT := Lib.hid ht
  clear ht
  go_wp2_with fail
  refine HE.out.mono ?_
  rintro x w3 (⟨hbk, B, d, l, rfl, hl, hm, _, ho⟩ | ⟨_, rfl, hA3⟩)
  rotate_left
  · have HA3 : Hid (At w w3) := Lib.hid ((HA0.out.next HA2.out).next hA3)
    clear hA3 b0 b1
    go_wp2_with fail
    refine (HAW.out w3).mono ?_
    rintro x w4 ⟨rfl, hA4⟩
    have HA4 : Hid (At w w4) := Lib.hid (HA3.out.next hA4)
    clear hA4
    go_wp2_with fail
    try rw [Exit.noGoto_ret]
    go_ret
    exact ⟨rfl, HA4.out⟩
  have HBK := Lib.hid hbk
  have HL := Lib.hid hl
  have HM := Lib.hid hm
  have HO := Lib.hid ho
  have HA3 : Hid (At w0 w3) := Lib.hid (HA2.out.next ho.at_)
  clear hbk hl hm ho b0 b1 HE HTO
  have ht2 : 2 ≤ t := by have := HBK.out.1.tot1; have := HTT.out; omega
  have ht33 : t ≤ 33 := by have := HBK.out.1.n32; have := HTT.out; omega
  have z3 : decide ((t : Int) < 2) = false := decide_eq_false (by omega)
  have z3b : decide (t < 2) = false := decide_eq_false (by omega)
  have n8 : n ≤ 8 := by rw [← HN.out]; exact HBK.out.1.n8
  obtain ⟨lb, hlb1, hlb2, hlb3⟩ := HRB.out
  have HLB1 : Hid (lb.length = nb) := Lib.hid (by rw [← HNB.out, ← hlb1, List.length_map])
  have HLB := Lib.hid hlb1
  have HLB2 := Lib.hid hlb2
  have HLB3 := Lib.hid hlb3
  clear hlb1 hlb2 hlb3 HRB
  have HM1 : Hid (OR w (w3.alloc (.cells #[] 39)) (.slice (some ⟨w3.heap.size, 0, none⟩) 0 0) []) := Lib.hid (Ow.made (HA0.out.next HA3.out))
  have HG1 := Lib.hid (made_gd HO.out 39)
  have HC1 := Lib.hid (or_cells HO.out ((At.start w3).alloc (.cells #[] 39)) B t d rfl)
  have HZ1 : Hid ((B = none → t = 0 ∧ d = 0) ∧ t ≤ d ∧ RV w3 B (eb ep.toNat s.toNat L)) := Lib.hid (by
    obtain ⟨A', c', he', hcc, hzz, hrv⟩ := OR.rv HO.out
    injection he' with e1 e2 e3
    subst e1 e3
    rw [HL.out] at hcc hzz
    rw [HM.out] at hrv
    exact ⟨hzz, hcc, hrv⟩)
  obtain ⟨r, hr⟩ : ∃ r, t + nb = r := ⟨_, rfl⟩
  have hr6 : r ≤ 1000000 := by omega
  go_wp2_with (first
    | (at_builtin; refine Ow.append kR rfl HM1.out (.tmp 61) (.tmp 62) rfl 0 t t rfl rfl B d l rfl HG1.out HL.out HZ1.out.1 HC1.out (Nat.zero_add t) (by omega) ?_; intro A' c' w4 HG)
    | (at_builtin; refine Ow.append kR rfl HG.out.ow (.tmp 63) (.tmp 64) rfl t nb r (by rw [List.length_append, HL.out]; exact Nat.zero_add t) rfl A1 c1 lb rfl (behind_gd HG.out.ow HLB2.out) HLB1.out HZ.out (HLB3.out w4 HG.out.ow.at_) hr hr6 ?_; intro A2 c2 w5 HG2))
  have HA5 : Hid (At w3 w5) := by
    have h1 := HG.out.below ((At.start w3).alloc (.cells #[] 39)) (fun g hg => by injection hg with hg; rw [← hg]; exact Nat.le_refl _)
    exact Lib.hid (HG2.out.below h1.1 h1.2).1
  obtain ⟨A5, c5, he5, hc5, hz5, hrv5⟩ := OR.rv HG2.out.ow
  injection he5 with e1 e2 e3
  subst e1 e3
  rw [List.map_append, List.map_append, HM.out, HLB.out] at hrv5
  have hrv6 : RV w5 A2 (eb ep.toNat s.toNat L ++ R) := hrv5
  have HD1 := Lib.hid (decode_any A2 (eb ep.toNat s.toNat L ++ R) r c2 (by rw [List.length_append, eb_len, HTT.out, HNB.out]; exact hr) (by omega) (fun x hx => (List.mem_append.1 hx).elim (eb_bytes HBK.out.1 HBK.out.2.2 HPB.out x) fun h => (HR.out x h).1) w5 hrv6)
  clear e2 hc5 hz5 hrv5 hrv6 HG HG2 HM1 HG1 HC1
  refine HD1.out.mono ?_
  rintro x w6 hd
  obtain ⟨A6, d6, hA6, htv, rfl⟩ := back_dec HBK.out.1 HBK.out.2.1 HBK.out.2.2 HPB.out HN.out HTT.out hd
  have HA6 : Hid (At w3 w6) := Lib.hid (HA5.out.next hA6)
  obtain ⟨wy, hwy⟩ : ∃ wy, w6.alloc (.cells #[.int .i64 s, .slice A6 n d6] 27) = wy := ⟨_, rfl⟩
  obtain ⟨qy, hqy⟩ : ∃ q, w6.heap.size = q := ⟨_, rfl⟩
  have hAy : At w6 wy := by rw [← hwy]; exact (At.start w6).alloc _
  have HY : Hid (Bb wy qy s (.slice A6 n d6)) := Lib.hid (by rw [← hwy, ← hqy]; exact bb_new _ _ _)
  have HA7 : Hid (At w3 wy) := Lib.hid (HA6.out.next hAy)
  have HSB := Lib.hid (sameBatch_any s A6 A0 L n d6 c0 HN.out (by omega) (fun x hx => ⟨by have := HBK.out.1.n16 x hx; omega, HBK.out.1.n40 x hx⟩) wy (htv.on hAy) (HV.out wy (HA3.out.next HA7.out)))
  obtain ⟨b0, b1⟩ := HQB.out wy (HA3.out.next HA7.out)
  obtain ⟨f0, f1⟩ := HY.out.cells
  clear hd hA6 htv hAy HD1
  go_wp2_with fail
  refine HSB.out.mono ?_
  rintro x w8 ⟨rfl, hA8⟩
  have HA8 : Hid (At w3 w8) := Lib.hid (HA7.out.next hA8)
  clear hA8 b0 b1 f0 f1 HSB
  obtain ⟨c, hc⟩ : ∃ c, c = rd cut t := ⟨_, rfl⟩
  have hct : c < t := by rw [hc]; exact rd_lt cut t (by omega)
  have HRD : Hid (∀ W, Calls Try.prog 15 #[.int .i64 cut, .int .i64 (t : Int)] W fun e w' => e = .returned (.int .i64 (c : Int)) ∧ W = w') := Lib.hid fun W => by
    rw [hc]; exact round_any cut t (by omega) (by omega) W
  have hctd : c ≤ t := by omega
  have htd : t ≤ d := HZ1.out.2.1
  have HD2 := Lib.hid (decode_any B ((eb ep.toNat s.toNat L).take c) c d (by rw [List.length_take, eb_len, HTT.out]; omega) (by omega) (fun x hx => eb_bytes HBK.out.1 HBK.out.2.2 HPB.out x (List.mem_of_mem_take hx)) w8 ((HZ1.out.2.2.on HA8.out).take c))
  have HZ2 := Lib.hid HZ1.out.1
  clear hc
  go_wp2_with fail
  refine (HRD.out _).mono ?_
  rintro x w' ⟨rfl, rfl⟩
  go_wp2_with (refine rows_to rfl (.tmp 91) (.tmp 95) rfl B t d c rfl rfl hctd htd HZ2.out ?_)
  refine HD2.out.mono ?_
  rintro x w9 hd
  obtain ⟨hA9, rfl⟩ := back_cut HBK.out.1 HBK.out.2.2 HPB.out (by rw [HTT.out]; exact hct) hd
  have HA9 : Hid (At w3 w9) := Lib.hid (HA8.out.next hA9)
  clear hd hA9 HD2
  obtain ⟨a, ha⟩ : ∃ a, a = rd bit (t * 512) := ⟨_, rfl⟩
  have hat : a < t * 512 := by rw [ha]; exact rd_lt bit (t * 512) (by omega)
  have HRE : Hid (∀ W, Calls Try.prog 15 #[.int .i64 bit, .int .i64 ((t : Int) * 512)] W fun e w' => e = .returned (.int .i64 (a : Int)) ∧ W = w') := Lib.hid fun W => by
    rw [ha, show (t : Int) * 512 = ((t * 512 : Nat) : Int) by omega]; exact round_any bit (t * 512) (by omega) (by omega) W
  clear ha
  go_wp2_with fail
  refine (HRE.out _).mono ?_
  rintro x wz ⟨rfl, hwz⟩
  have HAZ : Hid (At w3 wz) := Lib.hid (by rw [← hwz]; exact HA9.out.alloc _)
  clear hwz
  obtain ⟨gb, cb, heb, _, _, _⟩ := HO.out.pos (by rw [HL.out]; omega)
  injection heb with e1 e2 e3
  subst e1 e3
  clear e2
  have ht6 : t + 1 ≤ 1000000 := by omega
  go_wp2_with fail
  go_loopw [22, 23] (fun c22 c23 wx => ∃ (i e : Nat) (B2 : Option Addr) (l2 : List Rl), i ≤ t ∧ c23 = .int .i64 (i : Int) ∧ c22 = .slice B2 i e ∧ Hid (Tn wz wx (.slice B2 i e) (eb ep.toNat s.toNat L) i l2)) (fun _ c23 _ => t - (RowKit.intOf c23).toNat)
  case atStart => exact ⟨0, 0, none, [], Nat.zero_le _, rfl, rfl, Lib.hid (Tn.nil (At.start wz) _)⟩
  case round =>
    obtain ⟨i, e, B2, l2, hi, rfl, rfl, HT⟩ := hrel
    by_cases hlt : i < t
    · have HAW2 : Hid (At w3 wr) := Lib.hid (HAZ.out.next HT.out.o.at_)
      obtain ⟨Ap, dp, k1, k2, k3⟩ := rl_at (HO.out.on kR HAW2.out) (j := i) (by rw [HL.out]; exact hlt)
      rw [HM.out] at k1 k2 k3
      obtain ⟨h64, hby, _⟩ := eb_at HBK.out.1 HBK.out.2.2 HPB.out (b := i) (by rw [HTT.out]; exact hlt)
      obtain ⟨P, hP⟩ : ∃ P, P = (eb ep.toNat s.toNat L).getD i rz := ⟨_, rfl⟩
      rw [← hP] at k1 k2 k3 h64
      have HP : Hid ((eb ep.toNat s.toNat L)[i]? = some P) := Lib.hid (by
        rw [hP, List.getD_eq_getElem?_getD, List.getElem?_eq_getElem (by rw [eb_len, HTT.out]; exact hlt)]; rfl)
      rw [h64] at k1 k2
      obtain ⟨ga, oa, rfl, hga, _⟩ := k3.pos (by omega)
      have H64 := Lib.hid h64
      have HVP : Hid (∀ W, At wr W → BV W (some ⟨ga, oa, none⟩) P) := Lib.hid fun W hW => k3.below hW
      have HMO := Lib.hid (made_own wr)
      have hAm : At wr (wr.alloc (.cells #[] 5)) := (At.start wr).alloc _
      have HVM := Lib.hid (HVP.out _ hAm)
      have HSZ : Hid (wr.heap.size ≤ (wr.alloc (.cells #[] 5)).heap.size) := Lib.hid hAm.size
      have HAM := Lib.hid hAm
      have hi6 : i + 1 ≤ 1000000 := by omega
      have g1 : (0 : Int) ≤ (i : Int) := by omega
      have g2 : (i : Int) < (t : Int) := by omega
      have k1b : (wr.alloc (.cells #[] 5)).cell? ⟨gb, i, none⟩ = some (.slice (some ⟨ga, oa, none⟩) 64 dp) := (Below.cell hAm (p := ⟨gb, i, none⟩) (World.block_lt_of_cell? _ _ k1)).trans k1
      clear hP h64 hby k3 hga hAm
      go_wp2_with (first
        | (at_builtin; refine list_append2 rfl (.tmp 114) (.tmp 118) rfl wr.heap.size (.slice (some ⟨wr.heap.size, 0, none⟩) 0 0) 0 [] rfl HMO.out ⟨ga, oa, none⟩ 64 dp P rfl HVM.out H64.out (by omega) HSZ.out ?_; intro v4 w4 o4 t4 mv4; obtain ⟨A4, c4, hv4, _, _⟩ := own_view (show w4.ownsRow wr.heap.size 5 1 v4 64 (P.map bt) from o4); subst hv4; have HO4 : Hid (w4.ownsRow wr.heap.size 5 1 (.slice A4 64 c4) 64 (P.map bt)) := Lib.hid o4; have HA4 : Hid (At wr w4) := Lib.hid (t4 wr HAM.out (Nat.le_refl _)); clear o4 t4 mv4)
        | (at_builtin; refine Ow.append kO rfl (HT.out.o.on kO (HA4.out.next ((At.start w4).alloc (.cells #[.slice A4 64 c4] 39)))) (.tmp 113) (.tmp 120) rfl i 1 (i + 1) HT.out.len rfl (some ⟨w4.heap.size, 0, none⟩) 1 [(P, A4, c4)] rfl (fun x hx => by rw [List.mem_singleton.1 hx]; exact (own_ogd HT.out.o H64.out (by omega) HO4.out (Nat.le_refl _) ((At.start w4).alloc _)).1) rfl (fun h => by cases h) (one_laid w4 _ _ #[.slice A4 64 c4] (by show [Value.slice _ P.length _] = _; rw [H64.out])) rfl hi6 ?_; intro A' c' w' HG))
      go_roundw
      case rel =>
        obtain ⟨g, hg, hgl⟩ := (own_ogd HT.out.o H64.out (by omega) HO4.out (Nat.le_refl _) (At.start w4)).2
        exact ⟨i + 1, c', A', _, by omega, by go_num, rfl, Lib.hid (HT.out.more HP.out hg hgl HG.out)⟩
      case measure => simp [RowKit.intOf]; omega
    · have hit : i = t := by omega
      subst hit
      obtain ⟨b, j, m, z, hb, hj, hm, hz, p1, p2, p3, p4, hT⟩ := place2 a i hat
      obtain ⟨g2, e2', he2, _, _, _⟩ := HT.out.o.pos (by rw [HT.out.len]; omega)
      injection he2 with e1 e2 e3
      subst e1 e3
      clear e2
      obtain ⟨h64, hby, hgood⟩ := eb_at HBK.out.1 HBK.out.2.2 HPB.out (b := b) (by rw [HTT.out]; exact hb)
      obtain ⟨g, c9, cur, k1, k2, k3, k4, k5⟩ := HT.out.at_ (j := b) hb
      obtain ⟨P, hP⟩ : ∃ P, P = (eb ep.toNat s.toNat L).getD b rz := ⟨_, rfl⟩
      have HSET := Lib.hid (fun y => HT.out.set (by rw [eb_len, HTT.out]) hb k5 (m := m) (y := y) (by rw [h64]; exact hm))
      rw [← hP] at k1 k3 k4 h64 hby hgood HSET
      rw [h64] at k1 k3
      have c1 := k4 m (by rw [h64]; exact hm)
      have f1 : wr.frozen? ⟨g, m, none⟩ = false := free_at k2 m
      have HT2 := Lib.hid (hT P)
      have d1 := allB_at hby m
      obtain ⟨y, hy⟩ : ∃ y, y = P.getD m 0 := ⟨_, rfl⟩
      rw [← hy] at c1 d1 HT2
      have u1 := u8_xor_nat y (2 ^ z) d1 (two_byte hz)
      obtain ⟨zz, hzz⟩ : ∃ zz, zz = y ^^^ 2 ^ z := ⟨_, rfl⟩
      rw [← hzz, two_u8] at u1
      rw [← hzz] at HT2
      have u2 := two_mod hz
      have v1 : (0 : Int) ≤ (b : Int) := by omega
      have v2 : (b : Int) < (i : Int) := by omega
      have v3 : (0 : Int) ≤ (m : Int) := by omega
      have v4 : (m : Int) < 64 := by omega
      have HBAD := Lib.hid (tn_bad h64 hby hgood j hj)
      have HTL := Lib.hid (show AllB (tn P j) from tn_byte hby j)
      have HBB := Lib.hid hb
      have c1' : wr.cell? ⟨g, m, none⟩ = some (.int .u8 (y : Int)) := c1
      clear hy hzz hT k2 k3 k4 k5 hby hgood h64 hP c1
      go_wp2
      go_region
      obtain ⟨w6, hw6⟩ : ∃ w6, (wr.setCell ⟨g, m, none⟩ (.int .u8 (zz : Int))).drew = w6 := ⟨_, rfl⟩
      have HS6 : Hid (RV w6 (some ⟨g2, 0, none⟩) ((eb ep.toNat s.toNat L).set b (tn P j)) ∧ At wz w6) := Lib.hid (by
        have h1 := HSET.out zz
        rw [← HT2.out] at h1
        rw [← hw6]
        exact ⟨h1.1.on ((At.start _).drewN 1), h1.2.drewN 1⟩)
      rw [hw6]
      have HD3 := Lib.hid (decode_any (some ⟨g2, 0, none⟩) ((eb ep.toNat s.toNat L).set b (tn P j)) i e (by rw [List.length_set, eb_len, HTT.out]) (by omega) (fun x hx => (List.mem_or_eq_of_mem_set hx).elim (eb_bytes HBK.out.1 HBK.out.2.2 HPB.out x) fun h => by rw [h]; exact HTL.out) w6 HS6.out.1)
      have HA9b : Hid (At w w6) := Lib.hid (((HA0.out.next HA3.out).next HAZ.out).next HS6.out.2)
      clear hw6 HSET HT2 u1 u2 c1' f1 p1 p2 p3 p4
      go_wp2_with fail
      refine HD3.out.mono ?_
      rintro x w7 hd
      obtain ⟨hA7, rfl⟩ := back_turned HBK.out.1 HBK.out.2.2 HPB.out (by rw [HTT.out]; exact HBB.out) HBAD.out hd
      have HA10 : Hid (At w w7) := Lib.hid (HA9b.out.next hA7)
      clear hd hA7 HD3
      go_wp2_with fail
      refine (HAW.out _).mono ?_
      rintro x w8 ⟨rfl, hA8⟩
      have HA11 : Hid (At w w8) := Lib.hid ((HA10.out.alloc _).next hA8)
      clear hA8
      go_wp2_with fail
      try rw [Exit.noGoto_ret]
      go_ret
      exact ⟨rfl, HA11.out⟩

end Go.Proofs.Ytgmekkenodiclaa
