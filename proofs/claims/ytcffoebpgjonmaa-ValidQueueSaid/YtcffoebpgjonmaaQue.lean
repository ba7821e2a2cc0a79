/- Proved: the law ValidQueue's walk: what waits counts as what is committed. -/
import Derived.Test.YtcffoebpgjonmaaMt
import Derived.Deep.RegionHeld3
namespace Go.Proofs.Ytcffoebpgjonmaa
open Go.RowKit
open Iv (In Nm Is Vm Va Sv EV Ow allB nf)

/-- A slice of one transaction. -/
theorem tv_one {w : World} {T : Int} {A : Option Addr} {P : List Pt} {n c : Nat} (hn : P.length = n) (hv : PV w A P) : TV (w.alloc (.cells #[.int .i64 T, .slice A n c] 36)) (some ⟨w.heap.size, 0, none⟩) [(T, P)] := by
  have hb := heap_alloc_new w (.cells #[.int .i64 T, .slice A n c] 36)
  refine Or.inr ⟨_, 0, rfl, lt_heap hb, fun j hj => ?_⟩
  obtain rfl : j = 0 := by simpa using hj
  exact ⟨(cell_at hb 0).trans rfl, A, c, (cell_at hb 1).trans (by rw [← hn]; rfl), hv.on ((At.start w).alloc _)⟩
theorem lt_st0 (n : Nat) (t : Int) (L : List (Int × Int)) : ¬ Lt_ (Em.st0 n) t L := by
  rintro ⟨k, -, v, hv, -⟩; cases hv
theorem lt_took {P : List Pt} (h : Em.rf (Em.st0 50) 9 P = 0) (L : List (Int × Int)) : Lt_ (Em.took (Em.st0 50) 9 P) 5 L ↔ Ag (9, P) L := by
  have hf := Em.fine_rf h
  rw [Em.took_ok h]
  constructor
  · rintro ⟨k, hk, v, hv, -⟩
    rcases Em.ups_at (Em.st0 50).V 9 k P hf.rs with ⟨e, -⟩ | ⟨p, hp, e1, -⟩
    · have e' : (Em.ap (Em.st0 50) 9 P).V k = [] := e
      rw [e'] at hv; cases hv
    · exact ⟨p, hp, by rw [e1]; exact hk⟩
  · rintro ⟨p, hp, hk⟩
    obtain ⟨j, hj, rfl⟩ := Em.mem_at hp
    have h0 := hf.lo j hj
    obtain ⟨k, hkk⟩ : ∃ k : Nat, (P.getD j pz).1 = (k : Int) := ⟨(P.getD j pz).1.toNat, by omega⟩
    rcases Em.ups_at (Em.st0 50).V 9 k P hf.rs with ⟨-, e⟩ | ⟨p, -, -, e⟩
    · exact absurd hkk (e _ hp)
    · have e' : (Em.ap (Em.st0 50) 9 P).V k = [(9, p.2)] := e
      exact ⟨k, by rw [← hkk]; exact hk, (9, p.2), by rw [e']; simp, by simp only; omega⟩
theorem ck_wait {P : List Pt} (h : Em.rf (Em.st0 50) 9 P = 0) (R W : List (Int × Int)) : ck (Em.took (Em.st0 50) 9 P) [] 5 R W = ck (Em.st0 50) [(9, P)] 5 R W := by
  have e : ∀ L, Cf (Em.took (Em.st0 50) 9 P) [] 5 L ↔ Cf (Em.st0 50) [(9, P)] 5 L := fun L => by
    unfold Cf
    rw [lt_took h]
    constructor
    · rintro (h1 | ⟨_, h1, _⟩)
      · exact Or.inr ⟨_, List.mem_singleton.2 rfl, h1⟩
      · cases h1
    · rintro (h1 | ⟨x, h1, h2⟩)
      · exact absurd h1 (lt_st0 _ _ _)
      · rw [List.mem_singleton.1 h1] at h2; exact Or.inl h2
  unfold ck
  rw [e, e]
theorem ck_end {M : Em.St} (hM : Em.Ok M) {t : Int} (ht : M.last = t) (R W : List (Int × Int)) : ck M [] t R W = 0 := by
  subst ht
  refine ck_no ?_
  rintro ((h | ⟨_, h, _⟩) | (h | ⟨_, h, _⟩))
  · exact aw_last hM _ h
  · cases h
  · exact aw_last hM _ h
  · cases h
theorem ck_nine {P : List Pt} (h : Em.rf (Em.st0 50) 9 P = 0) (hM : Em.Ok (Em.took (Em.st0 50) 9 P)) (R W : List (Int × Int)) : ck (Em.took (Em.st0 50) 9 P) [] 9 R W = 0 :=
  ck_end hM (by rw [Em.took_ok h]; rfl) R W

set_option maxHeartbeats 8000000 in
set_option maxRecDepth 100000 in
theorem queue_any (T : Int) (A : Option Addr) (P : List Pt) (n c : Nat) (hn : P.length = n) (hnl : n ≤ maxLen) (hB : PB P)
    (A1 : Option Addr) (R : List (Int × Int)) (n1 c1 : Nat) (hR : R.length = n1) (hz1 : A1 = none → n1 = 0 ∧ c1 = 0) (A2 : Option Addr) (W : List (Int × Int)) (n2 c2 : Nat) (hW : W.length = n2) (hz2 : A2 = none → n2 = 0 ∧ c2 = 0)
    (w : World) (hv : PV w A P) (hvR : EV w A1 R) (hvW : EV w A2 W) :
    Calls Try.prog 6 #[.agg #[.int .i64 T, .slice A n c], .slice A1 n1 c1, .slice A2 n2 c2] w (Gives (.bool true) w) := by
  have HV := Lib.hid hv
  have HN := Lib.hid hn
  have HPB := Lib.hid hB
  have HVR := Lib.hid hvR
  have HVW := Lib.hid hvW
  have HR := Lib.hid (And.intro hR hz1)
  have HW := Lib.hid (And.intro hW hz2)
  have HNM := Lib.hid (fun W => Em.new_any 50 (by omega) (by omega) W)
  rw [show ((50 : Nat) : Int) = 50 from rfl] at HNM
  obtain ⟨q, hq⟩ : ∃ q, w.heap.size = q := ⟨_, rfl⟩
  obtain ⟨wq, hwq⟩ : ∃ wq, w.alloc (.cells #[.int .i64 T, .slice A n c] 36) = wq := ⟨_, rfl⟩
  have HQ : Hid (wq.heap[q]? = some (.cells #[.int .i64 T, .slice A n c] 36 (0, 0)) ∧ At w wq ∧ w.heap.size = q) := Lib.hid ⟨by rw [← hwq, ← hq]; exact heap_alloc_new w _, by rw [← hwq]; exact (At.start w).alloc _, hq⟩
  have d0 : wq.cell? ⟨q, 0, none⟩ = some (.int .i64 T) := (cell_at HQ.out.1 0).trans rfl
  have d1 : wq.cell? ⟨q, 1, none⟩ = some (.slice A n c) := (cell_at HQ.out.1 1).trans rfl
  have HSM := Lib.hid (small_any (some ⟨wq.heap.size, 0, none⟩) none [(T, P)] [] 1 1 0 0 rfl rfl (by unfold maxLen; omega) (Nat.zero_le _) (fun x hx => by rw [List.mem_singleton.1 hx]; exact ⟨hB, by simp only; omega⟩) (fun _ h => by cases h) A1 A2 n1 c1 n2 c2 _ (tv_one (T := T) (c := c) hn (hv.on HQ.out.2.1)) (TV.nil _ _))
  have HAQ : Hid (At wq (wq.alloc (.cells #[.int .i64 T, .slice A n c] 36))) := Lib.hid ((At.start wq).alloc _)
  clear hv hvR hvW hn hR hz1 hW hz2 hB hnl
  go_enter Try.func6, Try.ntmps6
  go_wp2_with fail
  refine HSM.out.mono ?_
  rintro e w1 ⟨bs, rfl, hsm, hA⟩
  have HA1 : Hid (At wq w1) := Lib.hid (HAQ.out.next hA)
  have HSZ := Lib.hid hsm
  clear hA hsm HSM d0 d1 HAQ
  cases bs
  · go_wp2_with fail
    refine (awake_any _).mono ?_
    rintro e w2 ⟨rfl, hA⟩
    have HA2 := Lib.hid ((HQ.out.2.1.next HA1.out).next hA)
    clear hA
    go_wp2
    go_ret
    exact ⟨rfl, HA2.out⟩
  · have HS1 := Lib.hid (HSZ.out rfl)
    have hlim : n ≤ 10000 ∧ n1 ≤ 60 ∧ n2 ≤ 60 := by
      obtain ⟨h1, h2, h3, h4⟩ := HS1.out
      simp only [tot, HN.out] at h1
      omega
    obtain ⟨hl0, hl1, hl2⟩ := hlim
    clear HSZ HS1
    have hq1 := HA1.out.keep HQ.out.1
    have d0 : w1.cell? ⟨q, 0, none⟩ = some (.int .i64 T) := (cell_at hq1 0).trans rfl
    have d1 : w1.cell? ⟨q, 1, none⟩ = some (.slice A n c) := (cell_at hq1 1).trans rfl
    have f0 : w1.frozen? ⟨q, 0, none⟩ = false := free_at hq1 0
    have hA2 : At w (w1.setCell ⟨q, 0, none⟩ (.int .i64 9)) := (HQ.out.2.1.next HA1.out).setCell (p := ⟨q, 0, none⟩) (Nat.le_of_eq HQ.out.2.2) _
    have hq2 := heap_set hq1 0 (.int .i64 9)
    obtain ⟨w2, hw2⟩ : ∃ w2, w1.setCell ⟨q, 0, none⟩ (.int .i64 9) = w2 := ⟨_, rfl⟩
    rw [hw2] at hA2 hq2
    have HA2 : Hid (At w w2) := Lib.hid hA2
    have HQ2 : Hid (w2.heap[q]? = some (.cells #[.int .i64 9, .slice A n c] 36 (0, 0))) := Lib.hid hq2
    have HV2 := Lib.hid (HV.out.on hA2)
    clear hq1 hA2 hq2 HA1 HQ
    go_wp2_with fail
    refine (HNM.out _).mono ?_
    rintro e w3 ⟨b1, F1, rfl, hm3, hF3, hA3⟩
    have H3 := Lib.hid (And.intro hm3 (And.intro hF3 hA3))
    clear hm3 hF3 hA3 hw2 d0 d1 f0
    go_wp2_with fail
    refine (HNM.out _).mono ?_
    rintro e w4 ⟨b2, F2, rfl, hm4, hF4, hA4⟩
    have H4 := Lib.hid (And.intro hm4 (And.intro hF4 hA4))
    have hA24 : At w2 w4 := H3.out.2.2.next hA4
    have d0 : w4.cell? ⟨q, 0, none⟩ = some (.int .i64 9) := (cell_at (hA24.keep HQ2.out) 0).trans rfl
    have d1 : w4.cell? ⟨q, 1, none⟩ = some (.slice A n c) := (cell_at (hA24.keep HQ2.out) 1).trans rfl
    have HAP := Lib.hid (Em.apply_any (w0 := w2) (H3.out.1.on hA4) hA24 H3.out.2.1 9 A P n c HN.out (by omega) HV2.out (pb_by HPB.out) (by show 0 < 20000; omega))
    have HA24 := Lib.hid hA24
    clear hm4 hF4 hA4 hA24 HNM
    go_wp2_with fail
    refine HAP.out.mono ?_
    rintro e w5 ⟨F5, rfl, hm5, hd5⟩
    have HA5 : Hid (At w2 w5) := Lib.hid (hd5.at_ HA24.out H3.out.2.1)
    have HM5 : Hid (Em.Mp w5 b1 (Em.took (Em.st0 50) 9 P) F5 ∧ Em.Mp w5 b2 (Em.st0 50) F2) := Lib.hid ⟨hm5, H4.out.1.mv hd5.mv fun g h2 h1 => by
      have := H3.out.1.ft g h1
      have := H4.out.2.1 g h2
      omega⟩
    clear hm5 hd5 HAP H3 H4 d0 d1 HA24
    by_cases hz : Em.rf (Em.st0 50) 9 P = 0
    · rw [hz]
      have HUP : Hid (Up (Em.took (Em.st0 50) 9 P)) := Lib.hid (up_took (Em.st0_ok (by omega) (by omega)) (up_st0 50) _ _)
      have HZ := Lib.hid hz
      clear hz
      have HSR := Lib.hid (sets_any A1 n1 c1 R HR.out.1 (by omega) HR.out.2 w5 (HVR.out.on (HA2.out.next HA5.out)))
      go_wp2_with fail
      refine HSR.out.mono ?_
      rintro e w6 ⟨ba, da, va, rfl, hsa, -, hA6⟩
      have H6 : Hid (Sv w6 ba va 100 (ex R) ∧ At w5 w6) := Lib.hid ⟨hsa, hA6⟩
      clear hsa hA6 HSR
      have HSW := Lib.hid (sets_any A2 n2 c2 W HW.out.1 (by omega) HW.out.2 w6 (HVW.out.on ((HA2.out.next HA5.out).next H6.out.2)))
      go_wp2_with fail
      refine HSW.out.mono ?_
      rintro e w7 ⟨bw, dw, vw, rfl, hsw, -, hA7⟩
      have HX : Hid (∀ V, At w7 V → Em.Mp V b1 (Em.took (Em.st0 50) 9 P) F5 ∧ Em.Mp V b2 (Em.st0 50) F2 ∧ Sv V ba va 100 (ex R) ∧ Sv V bw vw 100 (ex W)) := Lib.hid fun V hV =>
        ⟨HM5.out.1.on ((H6.out.2.next hA7).next hV), HM5.out.2.on ((H6.out.2.next hA7).next hV), H6.out.1.on (At.next hA7 hV), hsw.on hV⟩
      have HA7 : Hid (At w2 w7) := Lib.hid ((HA5.out.next H6.out.2).next hA7)
      have HLN : Hid ((ex R).length ≤ 1000 ∧ (ex W).length ≤ 1000) := Lib.hid ⟨by have := ex_len R; have := HR.out.1; omega, by have := ex_len W; have := HW.out.1; omega⟩
      have HK : Hid (∀ V, At w7 V → V.cell? ⟨q, 0, none⟩ = some (.int .i64 9) ∧ V.cell? ⟨q, 1, none⟩ = some (.slice A n c)) := Lib.hid fun V hV =>
        ⟨(cell_at ((HA7.out.next hV).keep HQ2.out) 0).trans rfl, (cell_at ((HA7.out.next hV).keep HQ2.out) 1).trans rfl⟩
      obtain ⟨z, hz⟩ : ∃ z, z = ck (Em.took (Em.st0 50) 9 P) [] 5 (ex R) (ex W) := ⟨_, rfl⟩
      have HC1 : Hid (∀ V, At w7 V → Calls Try.prog 17 #[.pointer (some ⟨b1, 0, none⟩), .slice none 0 0, .int .i64 5, .pointer (some ⟨ba, 0, none⟩), .pointer (some ⟨bw, 0, none⟩)] V (Gives (.int .i64 z) V)) := Lib.hid fun V hV => by
        rw [hz]
        exact check_any (HX.out V hV).1 HUP.out none [] 0 0 rfl (by omega) (fun _ h => by cases h) (TV.nil _ _) 5 (HX.out V hV).2.2.1 (HX.out V hV).2.2.2 HLN.out.1 HLN.out.2
      have HC2 : Hid (∀ V, At w7 V → ∀ g, TV V (some ⟨g, 0, none⟩) [(9, P)] → Calls Try.prog 17 #[.pointer (some ⟨b2, 0, none⟩), .slice (some ⟨g, 0, none⟩) 1 1, .int .i64 5, .pointer (some ⟨ba, 0, none⟩), .pointer (some ⟨bw, 0, none⟩)] V fun e w' => e = .returned (.int .i64 z) ∧ At w7 w') := Lib.hid fun V hV g hg => by
        obtain ⟨-, h2, h3, h4⟩ := HX.out V hV
        rw [hz, ck_wait HZ.out]
        exact (check_any h2 (up_st0 50) _ [(9, P)] 1 1 rfl (by omega) (fun x hx => by rw [List.mem_singleton.1 hx]; simp only; rw [HN.out]; omega) hg 5 h3 h4 HLN.out.1 HLN.out.2).mono fun _ _ ⟨h1, h2⟩ => ⟨h1, hV.next h2⟩
      have HTV : Hid (∀ V, At w7 V → TV (V.alloc (.cells #[.int .i64 9, .slice A n c] 36)) (some ⟨V.heap.size, 0, none⟩) [(9, P)]) := Lib.hid fun V hV => tv_one HN.out (HV2.out.on (HA7.out.next hV))
      have HC3 : Hid (∀ V, At w7 V → Calls Try.prog 17 #[.pointer (some ⟨b1, 0, none⟩), .slice none 0 0, .int .i64 9, .pointer (some ⟨ba, 0, none⟩), .pointer (some ⟨bw, 0, none⟩)] V (Gives (.int .i64 0) V)) := Lib.hid fun V hV => by
        have := check_any (HX.out V hV).1 HUP.out none [] 0 0 rfl (by omega) (fun _ h => by cases h) (TV.nil _ _) 9 (HX.out V hV).2.2.1 (HX.out V hV).2.2.2 HLN.out.1 HLN.out.2
        rwa [ck_nine HZ.out (HX.out V hV).1.ok] at this
      have hzz : (z == z) = true := by simp
      obtain ⟨d0, d1⟩ := HK.out _ (At.start _)
      have HA0 : Hid (At w w7) := Lib.hid (HA2.out.next HA7.out)
      clear hsw hA7 HSW H6 HM5 HX hz HLN HVR HVW
      have K1 := Lib.hid (HC1.out w7.drew ((At.start w7).drewN 1))
      have hAB : At w7 (w7.alloc (.cells #[.int .i64 9, .slice A n c] 36)).drew := ((At.start w7).alloc _).drewN 1
      have HAB := Lib.hid hAB
      have K2 := Lib.hid (HC1.out _ hAB)
      have HTB := Lib.hid (HTV.out w7 (At.start w7))
      clear hAB
      go_wp2_with fail
      go_region_held3 (fun w' => w'.cell? ⟨q, 0, none⟩ = some (.int .i64 9) ∧ w'.cell? ⟨q, 1, none⟩ = some (.slice A n c)) (go_keep)
        (first
          | (go_at_call 17; (with_reducible refine K1.out.mono ?_); rintro e w8 ⟨rfl, hA8⟩; have HA8 : Hid (At w7 w8) := Lib.hid (((At.start w7).drewN 1).next hA8); have HT8 := Lib.hid (HC2.out (w8.alloc (.cells #[.int .i64 9, .slice A n c] 36)) (HA8.out.alloc _) _ (HTV.out w8 HA8.out)); obtain ⟨e0, e1⟩ := HK.out w8 HA8.out; clear hA8)
          | (go_at_call 17; (with_reducible refine K2.out.mono ?_); rintro e w8 ⟨rfl, hA8⟩; have HA8 : Hid (At w7 w8) := Lib.hid (HAB.out.next hA8); have HT8 := Lib.hid (HC2.out w8 HA8.out _ ((HTB.out.on ((At.start _).drewN 1)).on hA8)); obtain ⟨e0, e1⟩ := HK.out w8 HA8.out; clear hA8)
          | (go_at_call 17; (with_reducible refine HT8.out.mono ?_); rintro e w9 ⟨rfl, hA9⟩; have HA9 : Hid (At w7 w9) := Lib.hid hA9; obtain ⟨g0, g1⟩ := HK.out w9 hA9; clear hA9)
          | (go_at_call 17; (with_reducible refine (HC3.out _ HA9.out).mono ?_); rintro e w10 ⟨rfl, hA10⟩; have HA10 : Hid (At w7 w10) := Lib.hid (HA9.out.next hA10); obtain ⟨y0, y1⟩ := HK.out w10 HA10.out; clear hA10)
          | (go_at_call 9; (with_reducible refine (awake_any _).mono ?_); rintro e w11 ⟨rfl, hA11⟩; have HA11 : Hid (At w7 w11) := Lib.hid (HA10.out.next hA11); obtain ⟨x0, x1⟩ := HK.out w11 HA11.out; clear hA11))
      all_goals
        have HEE : Hid (At w w11) := Lib.hid (HA0.out.next HA11.out)
        go_wp2
        go_ret
        exact ⟨rfl, HEE.out⟩
    · obtain ⟨z, hzz⟩ : ∃ z, z = Em.rf (Em.st0 50) 9 P := ⟨_, rfl⟩
      rw [← hzz] at hz ⊢
      have zf : (z != 0) = true := by simpa using hz
      clear hz hzz
      go_wp2_with fail
      refine (awake_any _).mono ?_
      rintro e w6 ⟨rfl, hA⟩
      have HA6 := Lib.hid ((HA2.out.next HA5.out).next hA)
      clear hA
      go_wp2
      go_ret
      exact ⟨rfl, HA6.out⟩

end Go.Proofs.Ytcffoebpgjonmaa
