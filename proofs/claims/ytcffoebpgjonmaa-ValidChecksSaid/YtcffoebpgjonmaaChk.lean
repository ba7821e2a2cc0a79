/- Proved: the law ValidChecks' walk: whether any transaction may be committed is told, beside whatever was committed, and waits. -/
import Derived.Test.YtcffoebpgjonmaaPy
import Derived.Test.YtcffoebpgjonmaaRo
import Derived.Deep.CutBlock
import Derived.Deep.CutRange
import Derived.Deep.RegionHeld3
namespace Go.Proofs.Ytcffoebpgjonmaa
open Go.RowKit
open Iv (In Nm Is Vm Va Sv EV Ow allB nf)

/-- The state between two transactions. -/
structure Bt (w wr : World) (b : Nat) (F : Nat → Prop) (d : Nat) (P : Nat → Prop) (M : Em.St) (N : Nat) (L : List Tx) (k : Nat) : Prop where
  py : Py w wr b F d P M M N
  n50 : M.n = 50
  c : M.c ≤ k
  up : Up M
  N_ : N ≤ tot (L.take k)
theorem Bt.step {w wr w6 : World} {b d N m : Nat} {F P F' P' : Nat → Prop} {M : Em.St} {L : List Tx} {k : Nat} {T : Int} {Q : List Pt} (h : Bt w wr b F d P M N L k) (hk : k < L.length) (hx : L.getD k txz = (T, Q)) (hm : Q.length = m) (h6 : Py w w6 b F' d P' (Em.took M T Q) (Em.took M T Q) (N + m)) : Bt w w6 b F' d P' (Em.took M T Q) (N + m) L (k + 1) := by
  refine ⟨h6, (Em.took_n _ _ _).trans h.n50, Nat.le_trans (Em.took_c _ _ _) (by have := h.c; omega), up_took h.py.m.ok h.up T Q, ?_⟩
  have h1 := tot_take hk
  rw [hx] at h1
  have h2 := h.N_
  simp only at h1
  omega

set_option maxHeartbeats 8000000 in
set_option maxRecDepth 100000 in
theorem checks_any (A0 : Option Addr) (L : List Tx) (n0 c0 : Nat) (hL : L.length = n0) (hn0 : n0 ≤ maxLen) (hLk : ∀ x ∈ L, TOk x) (A1 : Option Addr) (Q : List Tx) (n1 c1 : Nat) (hQ : Q.length = n1) (hn1 : n1 ≤ maxLen) (hQk : ∀ x ∈ Q, TOk x) (t : Int)
    (A3 : Option Addr) (R : List (Int × Int)) (n3 c3 : Nat) (hR : R.length = n3) (hz3 : A3 = none → n3 = 0 ∧ c3 = 0) (A4 : Option Addr) (W : List (Int × Int)) (n4 c4 : Nat) (hW : W.length = n4) (hz4 : A4 = none → n4 = 0 ∧ c4 = 0)
    (w : World) (hvL : TV w A0 L) (hvQ : TV w A1 Q) (hvR : EV w A3 R) (hvW : EV w A4 W) :
    Calls Try.prog 3 #[.slice A0 n0 c0, .slice A1 n1 c1, .int .i64 t, .slice A3 n3 c3, .slice A4 n4 c4] w (Gives (.bool true) w) := by
  have HSM := Lib.hid (small_any A0 A1 L Q n0 c0 n1 c1 hL hQ hn0 hn1 hLk hQk A3 A4 n3 c3 n4 c4 w hvL hvQ)
  have HVL := Lib.hid hvL
  have HVQ := Lib.hid hvQ
  have HVR := Lib.hid hvR
  have HVW := Lib.hid hvW
  have HL := Lib.hid hL
  have HQ := Lib.hid hQ
  have HR := Lib.hid (And.intro hR hz3)
  have HW := Lib.hid (And.intro hW hz4)
  have HLK := Lib.hid hLk
  have HQK := Lib.hid hQk
  have HNM := Lib.hid (fun W => Em.new_any 50 (by omega) (by omega) W)
  rw [show ((50 : Nat) : Int) = 50 from rfl] at HNM
  have HNX := Lib.hid (fun W => rnewm_ok 50 (by omega) (by omega) W)
  rw [show ((50 : Nat) : Int) = 50 from rfl] at HNX
  clear hvL hvQ hvR hvW hL hQ hR hz3 hW hz4 hLk hQk hn0 hn1
  go_enter Try.func3, Try.ntmps3
  go_wp2_with fail
  refine HSM.out.mono ?_
  rintro e w1 ⟨bs, rfl, hsm, hA⟩
  have HA1 : Hid (At w w1) := Lib.hid hA
  have HSZ := Lib.hid hsm
  clear hA hsm HSM
  cases bs
  · go_wp2_with fail
    refine (awake_any _).mono ?_
    rintro e w2 ⟨rfl, hA⟩
    have HA2 := Lib.hid (HA1.out.next hA)
    clear hA
    go_wp2
    go_ret
    exact ⟨rfl, HA2.out⟩
  · have HS1 := Lib.hid (HSZ.out rfl)
    have hlim : n0 ≤ 10000 ∧ n1 ≤ 10000 ∧ n3 ≤ 60 ∧ n4 ≤ 60 := by
      obtain ⟨h1, h2, h3, h4⟩ := HS1.out
      rw [HL.out] at h1
      rw [HQ.out] at h2
      omega
    obtain ⟨hl0, hl1, hl3, hl4⟩ := hlim
    have HQP : Hid (∀ x ∈ Q, x.2.length ≤ 1000000) := Lib.hid fun x hx => by have := tot_mem hx; have := HS1.out.2.1; omega
    have HLP : Hid (∀ x ∈ L, x.2.length ≤ 1000000) := Lib.hid fun x hx => by have := tot_mem hx; have := HS1.out.1; omega
    clear HSZ
    go_wp2_with fail
    refine (HNM.out _).mono ?_
    rintro e w2 ⟨b, F, rfl, hm2, hF2, hA2⟩
    have H2 : Hid (Em.Mp w2 b (Em.st0 50) F ∧ (∀ g, F g → w.heap.size ≤ g) ∧ At w w2) := Lib.hid ⟨hm2, fun g hg => Nat.le_trans HA1.out.size (hF2 g hg), HA1.out.next hA2⟩
    clear hm2 hF2 hA2 HNM
    go_wp2_with fail
    refine (HNX.out _).mono ?_
    rintro e w3 ⟨rfl, rfl⟩
    have HPY0 := Lib.hid (py_new H2.out.1 H2.out.2.1 H2.out.2.2)
    rw [show ((50 : Nat) : Int) = 50 from rfl] at HPY0
    obtain ⟨d, hd⟩ : ∃ d, w2.heap.size = d := ⟨_, rfl⟩
    rw [hd] at HPY0 ⊢
    clear H2 HNX hd
    generalize w2.alloc (.cells #[.int .i64 50, .slice none 0 0, .int .i64 0] 67) = w3 at HPY0 ⊢
    go_wp2_with fail
    go_loopw [15] (fun c15 wr => ∃ (k N : Nat) (M : Em.St) (F P : Nat → Prop), k ≤ n0 ∧ c15 = .int .i64 (k : Int) ∧ Hid (Bt w wr b F d P M N L k)) (fun c15 _ => n0 - (RowKit.intOf c15).toNat)
    case atStart => exact ⟨0, 0, Em.st0 50, F, _, Nat.zero_le _, rfl, Lib.hid ⟨HPY0.out, rfl, Nat.le_refl _, up_st0 50, Nat.zero_le _⟩⟩
    case round =>
      clear HPY0
      obtain ⟨k, N, M, F, P, hk, rfl, HB⟩ := hrel
      by_cases hlt : k < n0
      · have hkL : k < L.length := by rw [HL.out]; exact hlt
        obtain ⟨gb, o, rfl, hg, hc⟩ := HVL.out.pos (by omega)
        obtain ⟨k1, B, cb, k2, hpv⟩ := hc k hkL
        have hok := HLK.out _ (tx_mem hkL)
        have hpl := HLP.out _ (tx_mem hkL)
        have hst := fun (T : Int) (Q : List Pt) (m : Nat) w6 F' P' (hx : L.getD k txz = (T, Q)) (hm : Q.length = m) (h6 : Py w w6 b F' d P' (Em.took M T Q) (Em.took M T Q) (N + m)) => HB.out.step (w6 := w6) hkL hx hm h6
        have hNN : N ≤ 50000000 := by have := HB.out.N_; have := tot_le L k; have := HS1.out.1; omega
        have hcc : M.c < 20000 := by have := HB.out.c; omega
        obtain ⟨x0, hx0⟩ : ∃ x, L.getD k txz = x := ⟨_, rfl⟩
        rw [hx0] at k1 k2 hpv hok hpl hst
        obtain ⟨T, Z⟩ := x0
        simp only at k1 k2 hpv hpl
        obtain ⟨m, hm⟩ : ∃ m, Z.length = m := ⟨_, rfl⟩
        rw [hm] at k2 hpl
        have HK : Hid (∀ V, At w V → V.cell? ⟨gb, o + k * 2, none⟩ = some (.int .i64 T) ∧ V.cell? ⟨gb, o + k * 2 + 1, none⟩ = some (.slice B m cb)) := Lib.hid fun V hV =>
          ⟨(Below.cell hV (p := ⟨gb, o + k * 2, none⟩) hg).trans k1, (Below.cell hV (p := ⟨gb, o + k * 2 + 1, none⟩) hg).trans k2⟩
        have HAP := Lib.hid (HB.out.py.apply T B Z m cb hm hpl hpv (pb_by hok.1) hcc)
        have HRP : Hid (∀ V F', Py w V b F' d P (Em.took M T Z) M N → _) := Lib.hid fun V F' (h : Py w V b F' d P (Em.took M T Z) M N) => h.rapply T B Z m cb hm hpl hpv (pb_by hok.1) hcc hNN
        have HST := Lib.hid (fun w6 F' P' => hst T Z m w6 F' P' rfl hm)
        have g1 : (0 : Int) ≤ (k : Int) := by omega
        have g2 : (k : Int) < (n0 : Int) := by omega
        obtain ⟨e1, e2⟩ := HK.out _ HB.out.py.at_
        clear hc hok hpl hst hx0 hm hpv hkL hg k1 k2 hNN hcc
        go_wp2_with fail
        refine HAP.out.mono ?_
        rintro e w5 ⟨z5, F5, rfl, hp5⟩
        have HP5 := Lib.hid hp5
        obtain ⟨f1, f2⟩ := HK.out _ hp5.at_
        clear hp5 e1 e2
        go_wp2_with fail
        refine (HRP.out _ _ HP5.out).mono ?_
        rintro e w6 ⟨z6, P6, rfl, hp6⟩
        have HB6 := Lib.hid (HST.out _ _ _ hp6)
        clear hp6 f1 f2
        go_wp2
        go_roundw
        case rel => exact ⟨k + 1, _, _, F5, P6, by omega, by go_num, HB6⟩
        case measure => simp [RowKit.intOf]; omega
      · have HPY := Lib.hid HB.out.py
        have HUP := Lib.hid HB.out.up
        have hNN : N ≤ 100000000 := by have := HB.out.N_; have := tot_le L k; have := HS1.out.1; omega
        have z1 : decide ((k : Int) < (n0 : Int)) = false := decide_eq_false (by omega)
        clear HB hk
        have HSR := Lib.hid (sets_any A3 n3 c3 R HR.out.1 (by omega) HR.out.2 wr (HVR.out.on HPY.out.at_))
        go_wp2_with fail
        refine HSR.out.mono ?_
        rintro e w6 ⟨ba, da, va, rfl, hsa, hda, hA6⟩
        have H6 : Hid (Sv w6 ba va 100 (ex R) ∧ Dv w6 da (ex R) ∧ At wr w6) := Lib.hid ⟨hsa, hda, hA6⟩
        clear hsa hda hA6 HSR
        have HSW := Lib.hid (sets_any A4 n4 c4 W HW.out.1 (by omega) HW.out.2 w6 (HVW.out.on (HPY.out.at_.next H6.out.2.2)))
        go_wp2_with fail
        refine HSW.out.mono ?_
        rintro e w7 ⟨bc, dc, vc, rfl, hsc, hdc, hA7⟩
        have HX : Hid (∀ V, At w7 V → Py w V b F d P M M N ∧ Sv V ba va 100 (ex R) ∧ Dv V da (ex R) ∧ Sv V bc vc 100 (ex W) ∧ Dv V dc (ex W)) := Lib.hid fun V hV =>
          ⟨HPY.out.on ((H6.out.2.2.next hA7).next hV), H6.out.1.on (At.next hA7 hV), H6.out.2.1.on (At.next hA7 hV), hsc.on hV, hdc.on hV⟩
        have HLN : Hid ((ex R).length ≤ 1000 ∧ (ex W).length ≤ 1000) := Lib.hid ⟨by have := ex_len R; have := HR.out.1; omega, by have := ex_len W; have := HW.out.1; omega⟩
        have HA7 : Hid (At w w7) := Lib.hid ((HPY.out.at_.next H6.out.2.2).next hA7)
        clear hsc hdc hA7 HSW H6 HPY HVR HVW
        go_wp2_with fail
        go_loopw [22] (fun c22 wr => ∃ k : Nat, k ≤ n1 ∧ c22 = .int .i64 (k : Int) ∧ Hid (At w7 wr)) (fun c22 _ => n1 - (RowKit.intOf c22).toNat)
        case atStart => exact ⟨0, Nat.zero_le _, rfl, Lib.hid (At.start w7)⟩
        case round =>
          obtain ⟨i, hi, rfl, HA⟩ := hrel
          by_cases hlt2 : i < n1
          · have hiQ : i < Q.length := by rw [HQ.out]; exact hlt2
            obtain ⟨gb, o, rfl, hg, hc⟩ := HVQ.out.pos (by omega)
            obtain ⟨k1, B, cb, k2, hpv⟩ := hc i hiQ
            have hpl := HQP.out _ (tx_mem hiQ)
            obtain ⟨x0, hx0⟩ : ∃ x, Q.getD i txz = x := ⟨_, rfl⟩
            rw [hx0] at k1 k2 hpv hpl
            obtain ⟨T, Z⟩ := x0
            simp only at k1 k2 hpv hpl
            obtain ⟨m, hm⟩ : ∃ m, Z.length = m := ⟨_, rfl⟩
            rw [hm] at k2 hpl
            have HK : Hid (∀ V, At w7 V → V.cell? ⟨gb, o + i * 2, none⟩ = some (.int .i64 T) ∧ V.cell? ⟨gb, o + i * 2 + 1, none⟩ = some (.slice B m cb)) := Lib.hid fun V hV =>
              ⟨(Below.cell (HA7.out.next hV) (p := ⟨gb, o + i * 2, none⟩) hg).trans k1, (Below.cell (HA7.out.next hV) (p := ⟨gb, o + i * 2 + 1, none⟩) hg).trans k2⟩
            obtain ⟨z, hz⟩ : ∃ z, z = agB (T, Z) (ex R) := ⟨_, rfl⟩
            have HG1 : Hid (∀ V, At w7 V → Calls Try.prog 15 #[.agg #[.int .i64 T, .slice B m cb], .pointer (some ⟨ba, 0, none⟩)] V (Gives (.bool z) V)) := Lib.hid fun V hV => by
              rw [hz]; exact against_any (HX.out V hV).2.1 (by have := HLN.out; omega) T B Z m cb hm hpl (hpv.on (HA7.out.next hV))
            have HG2 : Hid (∀ V, At w7 V → Calls Try.prog 16 #[.agg #[.int .i64 T, .slice B m cb], .pointer (some ⟨da, 0, none⟩)] V (Gives (.bool z) V)) := Lib.hid fun V hV => by
              rw [hz]; exact ragainst_any (HX.out V hV).2.2.1 (by have := HLN.out; omega) T B Z m cb hm hpl (hpv.on (HA7.out.next hV))
            have hzz : (z != z) = false := by simp
            have g1 : (0 : Int) ≤ (i : Int) := by omega
            have g2 : (i : Int) < (n1 : Int) := by omega
            obtain ⟨e1, e2⟩ := HK.out _ HA.out
            clear hc hpl hx0 hm hpv hiQ hg k1 k2 hz
            go_wp2_with fail
            go_region_held3 (fun w' => w'.cell? ⟨gb, o + i * 2, none⟩ = some (.int .i64 T) ∧ w'.cell? ⟨gb, o + i * 2 + 1, none⟩ = some (.slice B m cb)) (go_keep)
              (first
                | (go_at_call 15; refine (HG1.out _ (HA.out.drewN 1)).mono ?_; rintro e w8 ⟨rfl, hA8⟩; have HA8 : Hid (At w7 w8) := Lib.hid ((HA.out.drewN 1).next hA8); obtain ⟨f1, f2⟩ := HK.out w8 HA8.out; clear hA8)
                | (go_at_call 16; refine (HG2.out _ HA8.out).mono ?_; rintro e w9 ⟨rfl, hA9⟩; have HA9 : Hid (At w7 w9) := Lib.hid (HA8.out.next hA9); obtain ⟨y1, y2⟩ := HK.out w9 HA9.out; clear hA9))
            clear HA HA8 e1 e2 f1 f2 y1 y2
            go_wp2
            go_roundw
            case rel => exact ⟨i + 1, by omega, by go_num, HA9⟩
            case measure => simp [RowKit.intOf]; omega
          · have z2 : decide ((i : Int) < (n1 : Int)) = false := decide_eq_false (by omega)
            obtain ⟨zc, hzc⟩ : ∃ zc, zc = ck M Q t (ex R) (ex W) := ⟨_, rfl⟩
            have HC1 := Lib.hid (check_any (HX.out _ HA.out).1.m HUP.out A1 Q n1 c1 HQ.out (by omega) HQP.out (HVQ.out.on (HA7.out.next HA.out)) t (HX.out _ HA.out).2.1 (HX.out _ HA.out).2.2.2.1 HLN.out.1 HLN.out.2)
            have HC2 : Hid (∀ V, At w7 V → _) := Lib.hid fun V (hV : At w7 V) => rvalid_any (HX.out V hV).1.x hNN A1 Q n1 c1 HQ.out (by omega) HQP.out (HVQ.out.on (HA7.out.next hV)) t (HX.out V hV).2.2.1 (HX.out V hV).2.2.2.2 HLN.out.1 HLN.out.2
            rw [← hzc] at HC1 HC2
            have hcc : (zc == zc) = true := by simp
            obtain ⟨zl, hzl⟩ : ∃ zl, zl = odB L := ⟨_, rfl⟩
            have HO1 : Hid (∀ V, At w7 V → Calls Try.prog 19 #[.slice A0 n0 c0] V (Gives (.bool zl) V)) := Lib.hid fun V hV => by rw [hzl]; exact order_any A0 L n0 c0 HL.out (by omega) HLP.out V (HVL.out.on (HA7.out.next hV))
            have HO2 : Hid (∀ V, At w7 V → Calls Try.prog 20 #[.slice A0 n0 c0] V (Gives (.bool zl) V)) := Lib.hid fun V hV => by rw [hzl]; exact rorder_any A0 L n0 c0 HL.out (by omega) HLP.out V (HVL.out.on (HA7.out.next hV))
            have hll : (zl == zl) = true := by simp
            obtain ⟨zq, hzq⟩ : ∃ zq, zq = odB Q := ⟨_, rfl⟩
            have HO3 : Hid (∀ V, At w7 V → Calls Try.prog 19 #[.slice A1 n1 c1] V (Gives (.bool zq) V)) := Lib.hid fun V hV => by rw [hzq]; exact order_any A1 Q n1 c1 HQ.out (by omega) HQP.out V (HVQ.out.on (HA7.out.next hV))
            have HO4 : Hid (∀ V, At w7 V → Calls Try.prog 20 #[.slice A1 n1 c1] V (Gives (.bool zq) V)) := Lib.hid fun V hV => by rw [hzq]; exact rorder_any A1 Q n1 c1 HQ.out (by omega) HQP.out V (HVQ.out.on (HA7.out.next hV))
            have hqq : (zq == zq) = true := by simp
            clear hzc hzl hzq hi HX HUP hNN HLN HVL HVQ
            go_wp2_with fail
            refine HC1.out.mono ?_
            rintro e w8 ⟨rfl, hA8⟩
            have HA8 := Lib.hid (HA.out.next hA8)
            clear hA8 HC1
            go_wp2_with fail
            refine (HC2.out _ HA8.out).mono ?_
            rintro e w9 ⟨rfl, hA9⟩
            have HA9 := Lib.hid (HA8.out.next hA9)
            clear hA9 HC2
            go_wp2_with fail
            refine (HO1.out _ HA9.out).mono ?_
            rintro e w10 ⟨rfl, hA10⟩
            have HA10 := Lib.hid (HA9.out.next hA10)
            clear hA10 HO1
            go_wp2_with fail
            refine (HO2.out _ HA10.out).mono ?_
            rintro e w11 ⟨rfl, hA11⟩
            have HA11 := Lib.hid (HA10.out.next hA11)
            clear hA11 HO2
            go_wp2_with fail
            refine (HO3.out _ HA11.out).mono ?_
            rintro e w12 ⟨rfl, hA12⟩
            have HA12 := Lib.hid (HA11.out.next hA12)
            clear hA12 HO3
            go_wp2_with fail
            refine (HO4.out _ HA12.out).mono ?_
            rintro e w13 ⟨rfl, hA13⟩
            have HA13 := Lib.hid (HA12.out.next hA13)
            clear hA13 HO4
            go_wp2_with fail
            refine (awake_any _).mono ?_
            rintro e w14 ⟨rfl, hA14⟩
            have HA14 := Lib.hid (HA7.out.next (HA13.out.next hA14))
            clear hA14
            go_wp2
            go_ret
            exact ⟨rfl, HA14.out⟩

end Go.Proofs.Ytcffoebpgjonmaa
