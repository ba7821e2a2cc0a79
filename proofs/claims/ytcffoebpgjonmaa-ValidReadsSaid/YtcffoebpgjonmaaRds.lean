/- Proved: the law ValidReads' walk: what only reads is never refused; what touches nothing that was written later is not either. -/
import Derived.Test.YtcffoebpgjonmaaMt
namespace Go.Proofs.Ytcffoebpgjonmaa
open Go.RowKit
open Iv (In Nm Is Vm Va Sv EV Ow allB nf)

theorem far_va : Va ((1000 : Int), (5 : Int)) := by unfold Va; simp only; omega
theorem ck_far {M : Em.St} (hM : Em.Ok M) (hn : M.n = 50) (t : Int) : ck M [] t (ex []) (ex [(1000, 5)]) = 0 := by
  rw [ex_nil, ex_one far_va]
  refine ck_no ?_
  rintro ((h | ⟨_, h, _⟩) | (h | ⟨_, h, _⟩))
  · obtain ⟨k, h, -⟩ := h; exact Iv.in_nil _ h
  · cases h
  · obtain ⟨k, hk, v, hv, -⟩ := h
    rw [Iv.in_one] at hk
    simp only at hk
    rw [hM.e k (by omega)] at hv
    cases hv
  · cases h
theorem ck_last {M : Em.St} (hM : Em.Ok M) (R W : List (Int × Int)) : ck M [] M.last R W = 0 := by
  refine ck_no ?_
  rintro ((h | ⟨_, h, _⟩) | (h | ⟨_, h, _⟩))
  · exact aw_last hM _ h
  · cases h
  · exact aw_last hM _ h
  · cases h

set_option maxHeartbeats 8000000 in
set_option maxRecDepth 100000 in
theorem reads_any (A0 : Option Addr) (L : List Tx) (n0 c0 : Nat) (hL : L.length = n0) (hn0 : n0 ≤ maxLen) (hLk : ∀ x ∈ L, TOk x) (A1 : Option Addr) (Q : List Tx) (n1 c1 : Nat) (hQ : Q.length = n1) (hn1 : n1 ≤ maxLen) (hQk : ∀ x ∈ Q, TOk x) (t : Int)
    (A3 : Option Addr) (R : List (Int × Int)) (n3 c3 : Nat) (hR : R.length = n3) (hz3 : A3 = none → n3 = 0 ∧ c3 = 0)
    (w : World) (hvL : TV w A0 L) (hvQ : TV w A1 Q) (hvR : EV w A3 R) :
    Calls Try.prog 4 #[.slice A0 n0 c0, .slice A1 n1 c1, .int .i64 t, .slice A3 n3 c3] w (Gives (.bool true) w) := by
  have HSM := Lib.hid (small_any A0 A1 L Q n0 c0 n1 c1 hL hQ hn0 hn1 hLk hQk A3 none n3 c3 0 0 w hvL hvQ)
  have HVL := Lib.hid hvL
  have HVQ := Lib.hid hvQ
  have HVR := Lib.hid hvR
  have HL := Lib.hid hL
  have HQ := Lib.hid hQ
  have HR := Lib.hid (And.intro hR hz3)
  have HLK := Lib.hid hLk
  have HNM := Lib.hid (fun W => Em.new_any 50 (by omega) (by omega) W)
  rw [show ((50 : Nat) : Int) = 50 from rfl] at HNM
  clear hvL hvQ hvR hL hQ hR hz3 hLk hQk hn0 hn1
  go_enter Try.func4, Try.ntmps4
  go_wp2_with fail
  refine HSM.out.mono ?_
  rintro e w1 ⟨bs, rfl, hsm, hA⟩
  have HA1 : Hid (At w w1) := Lib.hid hA
  have HSZ := Lib.hid hsm
  clear hA hsm HSM
  cases bs
  · go_wp2_with fail
    refine (awake_any _).mono ?_
    rintro e w2 ⟨rfl, hA⟩
    have HA2 := Lib.hid (HA1.out.next hA)
    clear hA
    go_wp2
    go_ret
    exact ⟨rfl, HA2.out⟩
  · have HS1 := Lib.hid (HSZ.out rfl)
    have hlim : n0 ≤ 10000 ∧ n1 ≤ 10000 ∧ n3 ≤ 60 := by
      obtain ⟨h1, h2, h3, h4⟩ := HS1.out
      rw [HL.out] at h1
      rw [HQ.out] at h2
      omega
    obtain ⟨hl0, hl1, hl3⟩ := hlim
    have HQP : Hid (∀ x ∈ Q, x.2.length ≤ 1000000) := Lib.hid fun x hx => by have := tot_mem hx; have := HS1.out.2.1; omega
    have HLP : Hid (∀ x ∈ L, x.2.length ≤ 1000000) := Lib.hid fun x hx => by have := tot_mem hx; have := HS1.out.1; omega
    clear HSZ HS1
    go_wp2_with fail
    refine (HNM.out _).mono ?_
    rintro e w2 ⟨b, F, rfl, hm2, hF2, hA2⟩
    have HM0 : Hid (Mt w w2 b F (Em.st0 50) 0) := Lib.hid (Mt.start hm2 (fun g hg => Nat.le_trans HA1.out.size (hF2 g hg)) (HA1.out.next hA2))
    clear hm2 hF2 hA2 HNM
    go_wp2_with fail
    go_loopw [11] (fun c11 wr => ∃ (k : Nat) (M : Em.St) (F : Nat → Prop), k ≤ n0 ∧ c11 = .int .i64 (k : Int) ∧ Hid (Mt w wr b F M k)) (fun c11 _ => n0 - (RowKit.intOf c11).toNat)
    case atStart => exact ⟨0, Em.st0 50, F, Nat.zero_le _, rfl, HM0⟩
    case round =>
      clear HM0
      obtain ⟨k, M, F, hk, rfl, HB⟩ := hrel
      by_cases hlt : k < n0
      · have hkL : k < L.length := by rw [HL.out]; exact hlt
        obtain ⟨gb, o, rfl, hg, hc⟩ := HVL.out.pos (by omega)
        obtain ⟨k1, B, cb, k2, hpv⟩ := hc k hkL
        have hok := HLK.out _ (tx_mem hkL)
        have hpl := HLP.out _ (tx_mem hkL)
        obtain ⟨x0, hx0⟩ : ∃ x, L.getD k txz = x := ⟨_, rfl⟩
        rw [hx0] at k1 k2 hpv hok hpl
        obtain ⟨T, Z⟩ := x0
        simp only at k1 k2 hpv hpl
        obtain ⟨m, hm⟩ : ∃ m, Z.length = m := ⟨_, rfl⟩
        rw [hm] at k2 hpl
        have e1 := (Below.cell HB.out.at_ (p := ⟨gb, o + k * 2, none⟩) hg).trans k1
        have e2 := (Below.cell HB.out.at_ (p := ⟨gb, o + k * 2 + 1, none⟩) hg).trans k2
        have HAP := Lib.hid (HB.out.apply T B Z m cb hm hpl hpv (pb_by hok.1) (by omega))
        have g1 : (0 : Int) ≤ (k : Int) := by omega
        have g2 : (k : Int) < (n0 : Int) := by omega
        clear hc hok hpl hx0 hm hpv hkL hg k1 k2
        go_wp2_with fail
        refine HAP.out.mono ?_
        rintro e w5 ⟨F5, rfl, hp5⟩
        have HB5 := Lib.hid hp5
        clear hp5 e1 e2
        go_wp2
        go_roundw
        case rel => exact ⟨k + 1, _, F5, by omega, by go_num, HB5⟩
        case measure => simp [RowKit.intOf]; omega
      · have z1 : decide ((k : Int) < (n0 : Int)) = false := decide_eq_false (by omega)
        have HSR := Lib.hid (sets_any A3 n3 c3 R HR.out.1 (by omega) HR.out.2 wr (HVR.out.on HB.out.at_))
        go_wp2_with fail
        refine HSR.out.mono ?_
        rintro e w6 ⟨ba, da, va, rfl, hsa, -, hA6⟩
        have H6 : Hid (Sv w6 ba va 100 (ex R) ∧ At wr w6) := Lib.hid ⟨hsa, hA6⟩
        clear hsa hA6 HSR
        have HSN := Lib.hid (sets_any none 0 0 [] rfl (by omega) (fun _ => ⟨rfl, rfl⟩) w6 (EV.nil _ _))
        go_wp2_with fail
        refine HSN.out.mono ?_
        rintro e w7 ⟨bn, dn, vn, rfl, hsn, -, hA7⟩
        have H7 : Hid (Sv w7 bn vn 100 (ex []) ∧ At w6 w7) := Lib.hid ⟨hsn, hA7⟩
        clear hsn hA7 HSN
        have HSF := Lib.hid (sets_any (some ⟨w7.heap.size, 0, none⟩) 1 1 [(1000, 5)] rfl (by omega) (fun e => by cases e) _ (ev_one w7 1000 5))
        have HA8 : Hid (At w7 (w7.alloc (.cells #[.int .i64 1000, .int .i64 5] 49))) := Lib.hid ((At.start w7).alloc _)
        go_wp2_with fail
        refine HSF.out.mono ?_
        rintro e w8 ⟨bf, df, vf, rfl, hsf, -, hA8⟩
        have hA78 : At w7 w8 := HA8.out.next hA8
        have HX : Hid (∀ V, At w8 V → Em.Mp V b M F ∧ Sv V ba va 100 (ex R) ∧ Sv V bn vn 100 (ex []) ∧ Sv V bf vf 100 (ex [(1000, 5)])) := Lib.hid fun V hV =>
          ⟨HB.out.m.on (((H6.out.2.next H7.out.2).next hA78).next hV), H6.out.1.on ((H7.out.2.next hA78).next hV), H7.out.1.on (hA78.next hV), hsf.on hV⟩
        have HAW : Hid (At w w8) := Lib.hid (HB.out.at_.next ((H6.out.2.next H7.out.2).next hA78))
        have HLN : Hid ((ex R).length ≤ 1000 ∧ (ex []).length ≤ 1000 ∧ (ex [(1000, 5)]).length ≤ 1000) := Lib.hid ⟨by have := ex_len R; have := HR.out.1; omega, Nat.le_trans (ex_len _) (by simp), Nat.le_trans (ex_len _) (by simp)⟩
        have HC1 : Hid (∀ V, At w8 V → Calls Try.prog 17 #[.pointer (some ⟨b, 0, none⟩), .slice A1 n1 c1, .int .i64 t, .pointer (some ⟨ba, 0, none⟩), .pointer (some ⟨bn, 0, none⟩)] V (Gives (.int .i64 0) V)) := Lib.hid fun V hV => by
          obtain ⟨h1, h2, h3, h4⟩ := HX.out V hV
          have := check_any h1 HB.out.up A1 Q n1 c1 HQ.out (by omega) HQP.out (HVQ.out.on (HAW.out.next hV)) t h2 h3 HLN.out.1 HLN.out.2.1
          rwa [ex_nil, ck_none] at this
        have HC2 : Hid (∀ V, At w8 V → Calls Try.prog 17 #[.pointer (some ⟨b, 0, none⟩), .slice none 0 0, .int .i64 t, .pointer (some ⟨bn, 0, none⟩), .pointer (some ⟨bf, 0, none⟩)] V (Gives (.int .i64 0) V)) := Lib.hid fun V hV => by
          obtain ⟨h1, h2, h3, h4⟩ := HX.out V hV
          have := check_any h1 HB.out.up none [] 0 0 rfl (by omega) (fun _ h => by cases h) (TV.nil _ _) t h3 h4 HLN.out.2.1 HLN.out.2.2
          rwa [ck_far h1.ok HB.out.n50] at this
        obtain ⟨tl, htl⟩ : ∃ tl, tl = M.last := ⟨_, rfl⟩
        have HLS : Hid (∀ V, At w8 V → Calls Try.prog 21 #[.pointer (some ⟨b, 0, none⟩)] V fun e w' => e = .returned (.int .i64 tl) ∧ V = w') := Lib.hid fun V hV => by
          obtain ⟨mb, D, hd, hq⟩ := (HX.out V hV).1
          rw [htl]; exact Em.last_mp hq
        have HC3 : Hid (∀ V, At w8 V → Calls Try.prog 17 #[.pointer (some ⟨b, 0, none⟩), .slice none 0 0, .int .i64 tl, .pointer (some ⟨ba, 0, none⟩), .pointer (some ⟨bf, 0, none⟩)] V (Gives (.int .i64 0) V)) := Lib.hid fun V hV => by
          obtain ⟨h1, h2, h3, h4⟩ := HX.out V hV
          have := check_any h1 HB.out.up none [] 0 0 rfl (by omega) (fun _ h => by cases h) (TV.nil _ _) M.last h2 h4 HLN.out.1 HLN.out.2.2
          rwa [ck_last h1.ok, ← htl] at this
        clear htl hsf hA8 hA78 HSF HA8 H6 H7 HX HLN HB hk HVR HVQ
        go_wp2_with fail
        refine (HC1.out _ (At.start _)).mono ?_
        rintro e w9 ⟨rfl, hA⟩
        have HA9 : Hid (At w8 w9) := Lib.hid hA
        clear hA
        go_wp2_with fail
        refine (HC2.out _ HA9.out).mono ?_
        rintro e w10 ⟨rfl, hA⟩
        have HA10 := Lib.hid (HA9.out.next hA)
        clear hA
        go_wp2_with fail
        refine (HLS.out _ HA10.out).mono ?_
        rintro e w' ⟨rfl, rfl⟩
        go_wp2_with fail
        refine (HC3.out _ HA10.out).mono ?_
        rintro e w11 ⟨rfl, hA⟩
        have HA11 := Lib.hid (HA10.out.next hA)
        clear hA
        go_wp2_with fail
        refine (awake_any _).mono ?_
        rintro e w12 ⟨rfl, hA⟩
        have HA12 := Lib.hid (HAW.out.next (HA11.out.next hA))
        clear hA
        go_wp2
        go_ret
        exact ⟨rfl, HA12.out⟩

end Go.Proofs.Ytcffoebpgjonmaa
