/- Proved: what the document's own Quantile gives: the same plain function as the landed one. -/
import Derived.Test.YtphhonpibmbjmaaQuan
namespace Go.Proofs.Ytphhonpibmbjmaa
open Go.RowKit Fl

set_option maxHeartbeats 2000000 in
theorem rquan_none (a : Option Addr) (cap q : Nat) (w : World) :
    Calls Try.prog 24 #[.slice a 0 cap, .float .f64 q] w (QPost [] q w) := by
  go_enter Try.func24, Try.ntmps24
  go_wp2
  go_ret2
  exact qpost_none rfl (Below.refl _ _)

set_option maxHeartbeats 2000000 in
theorem rquan_bad (a : Option Addr) (cap q : Nat) (L : List Nat) (hL : L.length ≠ 0) (hf : ∀ x ∈ L, x < 18446744073709551616) (hq : q < 18446744073709551616) (hb : Bad q) (w : World) :
    Calls Try.prog 24 #[.slice a L.length cap, .float .f64 q] w (QPost L q w) := by
  have HP := Lib.hid (qpost_bad (w := w) (w' := w) hf hL hb (Below.refl _ _))
  have hw := bad_ways q hq hb
  generalize L.length = n at hL ⊢
  have h0 : ¬ ((n : Int) = 0) := by omega
  clear hf hb
  rcases hw with ⟨_, o⟩ | ⟨o, o2⟩ | ⟨o, o2, o3⟩
  all_goals
    go_enter Try.func24, Try.ntmps24
    go_wp2
    go_ret2
    exact HP.out

set_option maxHeartbeats 4000000 in
theorem rquan_good (v : Value) (m q : Nat) (L : List Nat) (hL : L.length = m + 1) (hm : m < 1000000) (hf : ∀ x ∈ L, x < 18446744073709551616) (hq : q < 18446744073709551616) (hb : ¬ Bad q) (w : World) (hv : View w v L) :
    Calls Try.prog 24 #[v, .float .f64 q] w (QPost L q w) := by
  have hs := rsort_view v L w hv (by omega) hf
  obtain ⟨a, cap, rfl⟩ := view_len hv
  rw [hL] at hs ⊢
  have kf := k_facts q (m + 1) hq hb (by omega) (by omega)
  have e : (((m + 1 : Nat) : Int) - 1) = (m : Int) := by omega
  rw [e, Nat.add_sub_cancel] at kf
  have HKF := Lib.hid kf
  have HL := Lib.hid hL
  have HB := Lib.hid hb
  have HI2 : Hid (cb (9221120237041090560 : Int).toNat = 9221120237041090560) := Lib.hid (by decide)
  obtain ⟨o1, o2, o3⟩ := good_order q hq hb
  have h0 : ¬ ((m : Int) + 1 = 0) := by omega
  have h1 : (0 : Int) ≤ (m : Int) := by omega
  have h2 : (m : Int) < (m : Int) + 1 := by omega
  clear kf e hL hb hv hf
  go_enter Try.func24, Try.ntmps24
  go_wp2_with fail
  refine hs.mono ?_
  rintro e w1 ⟨v1, R, rfl, hR, hv1, hb1⟩
  have hRl : R.length = m + 1 := by rw [sorts_len hR, HL.out]
  obtain ⟨b, off, cap1, rfl, hbw, hc⟩ := view_pos hv1 (by omega)
  rw [hRl] at hc ⊢
  have c1 := hc m (by omega)
  have hd := getD_lt R hR.2.2 m (by omega)
  have HC := Lib.hid hc
  have HR := Lib.hid hR
  have HRL := Lib.hid hRl
  have HB1 := Lib.hid hb1
  clear hs hv1 hc hR hRl hb1
  obtain ⟨xm, hxm⟩ : ∃ x, x = R.getD m 0 := ⟨_, rfl⟩
  have HX := Lib.hid hxm
  rw [← hxm] at c1 hd
  clear hxm
  by_cases hn : isN xm = true
  · have o4 := ord_nan_l xm xm hd hn
    have HN := Lib.hid hn
    clear hn
    go_wp2_with fail
    go_quiet (fail)
    go_wp2_with (go_at_call 35; refine (rfrom_as _ 9221120237041090560 (by decide) (by decide) HI2 _).mono ?_; rintro e w' ⟨rfl, rfl⟩)
    go_ret2
    exact qpost_nan (by rw [HL.out]; omega) HB.out HR.out (by rw [HL.out, Nat.add_sub_cancel, ← HX.out]; exact HN.out) (by decide) (by decide) (below_drewN HB1.out _)
  · replace hn : isN xm = false := by simpa using hn
    have o4 := ord_self xm hd hn
    have HN := Lib.hid hn
    have HNUM : Hid (∀ j, j < m + 1 → isN (R.getD j 0) = false) := Lib.hid (fun j hj => sorts_num HR.out (by rw [HRL.out, Nat.add_sub_cancel, ← HX.out]; exact hn) j (by rw [HRL.out]; exact hj))
    clear hn
    go_wp2_with fail
    go_quiet (fail)
    obtain ⟨w2, hw2⟩ : ∃ w2, w2 = w1.drewN nq := ⟨_, rfl⟩
    rw [← hw2]
    have HC2 : Hid (∀ j, j < m + 1 → w2.cell? ⟨b, off + j, none⟩ = some (.float .f64 (R.getD j 0))) := Lib.hid (by rw [hw2]; exact HC.out)
    have HB2 : Hid (Below w.heap.size w w2) := Lib.hid (by rw [hw2]; exact below_drewN HB1.out nq)
    clear hw2 HC HB1 c1 nq
    obtain ⟨K, n1, hk, hkl, r1⟩ := run_foH0 (P := Try.prog) w2 .mul f_mul 25 q (floatOfInt .f64 (m : Int))
    have HKe : Hid (K = fo .mul q (floatOfInt .f64 (m : Int))) := Lib.hid (cb_eq_num _ _ (fin_num HKF.out.1) (by rw [hk.out, fo_can f_mul]))
    have hK : Fin' K := by rw [HKe.out]; exact HKF.out.1
    have hneg : neg' K = true → rg K = 0 := by rw [HKe.out]; exact HKF.out.2.2.1
    have hmm : mag (rg K) ≤ m * U := by rw [HKe.out]; exact HKF.out.2.1
    have hile : mag (rg K) / U ≤ m := div_le_of hmm
    obtain ⟨F, hF, hFf, hFi, hF0, hF1⟩ := floor_facts K hK hneg (by omega)
    have hfl := fun w => floor_any K F hK.1 (fin_num hK) hF w
    have hcv := fun w : World => run_convert_float_int (P := Try.prog) w 25 3 .f64 .i64 F _ (by rw [Try.underlying25]; rfl) Try.underlying3 hFi
    have HLO : Hid (cb (R.getD (mag (rg K) / U) 0) = qlo R (mag (rg K) / U)) := Lib.hid rfl
    have HH : Hid (cb (R.getD (min (mag (rg K) / U + 1) m) 0) = qhi R (mag (rg K) / U)) := Lib.hid (by unfold qhi; rw [HRL.out, Nat.add_sub_cancel])
    have hdx := getD_lt R HR.out.2.2 (mag (rg K) / U) (by have := HRL.out; omega)
    have hdy := getD_lt R HR.out.2.2 (min (mag (rg K) / U + 1) m) (by have := HRL.out; omega)
    have hcx := HC2.out (mag (rg K) / U) (by omega)
    have hcy := HC2.out (min (mag (rg K) / U + 1) m) (by omega)
    have hnx := HNUM.out (mag (rg K) / U) (by omega)
    have hny := HNUM.out (min (mag (rg K) / U + 1) m) (by omega)
    have HF0 := Lib.hid hF0
    have HF1 := Lib.hid hF1
    have HTOP := Lib.hid (div_top hmm)
    have HQP : Hid (∀ r (w' : World), cb r = qin R K → r < 18446744073709551616 → Below w.heap.size w w' → QPost L q w (.returned (.tuple #[.float .f64 r, .int .i64 0])) w') := Lib.hid (fun r w' h1 h2 h3 => qpost_in HL.out HB.out HR.out (by rw [← HX.out]; exact HN.out) (by rw [h1, HKe.out]) h2 h3)
    clear hF0 hF1 hF hFi hneg hmm
    obtain ⟨i, hi⟩ : ∃ i, i = mag (rg K) / U := ⟨_, rfl⟩
    have HI := Lib.hid hi
    rw [← hi] at hile hcv HLO HH hdx hdy hcx HF0 HF1 HTOP hcy hnx hny
    clear hi
    obtain ⟨x, hxe⟩ : ∃ x, x = R.getD i 0 := ⟨_, rfl⟩
    rw [← hxe] at hdx hcx HLO hnx
    clear hxe
    by_cases hcase : i + 1 ≤ m
    · have e : min (i + 1) m = i + 1 := by omega
      rw [e] at hdy hcy HH hny
      obtain ⟨y, hye⟩ : ∃ y, y = R.getD (i + 1) 0 := ⟨_, rfl⟩
      rw [← hye] at hdy hcy HH hny
      clear hye e
      have b1 : (0 : Int) ≤ (i : Int) := by omega
      have b2 : (i : Int) < (m : Int) + 1 := by omega
      have b3 : ¬ ((m : Int) < (i : Int) + 1) := by omega
      have b4 : (i : Int) + 1 < (m : Int) + 1 := by omega
      have b5 : (i : Int) < (m : Int) := by omega
      cases hs : smB x y
      · have HS := Lib.hid hs
        have hsame := fun w => rsame_val x y hdx hdy false HS w
        by_cases hz : mag (rg K) % U = 0
        · have o := (HF0.out hz).2
          have HQ : Hid (cb x = qin R K) := Lib.hid (qin_whole hz (by rw [← HI.out]; exact HLO.out))
          clear hs hz
          go_wp2_with (go_at_call 38; refine (hfl _).mono ?_; rintro e w' ⟨rfl, rfl⟩)
          go_quiet ((go_at_call 20; exact same_drawn (hsame _)))
          go_wp2
          go_ret2
          exact HQP.out _ _ HQ.out hdx (below_drewN HB2.out _)
        · have o := (HF1.out hz).2.1
          have HFe := Lib.hid (HF1.out hz).2.2
          have HNE : Hid (mag (rg K) % U ≠ 0) := Lib.hid hz
          obtain ⟨d2, h2'⟩ := sub_some y x hdy hdx hny hnx (fun e => by rw [e] at hs; simp [smB] at hs)
          have hd2 := (fo_num f_sub h2')
          have r2 := fun w : World => run_float_arith (P := Try.prog) w .sub 25 .f64 y x d2 h2'
          have HD2 : Hid (cb d2 = fo .sub y x) := Lib.hid (by rw [cb_num d2 hd2.1]; unfold fo; rw [h2']; rfl)
          have HSS := Lib.hid hs
          clear hs hz h2'
          go_wp2_with (go_at_call 38; refine (hfl _).mono ?_; rintro e w' ⟨rfl, rfl⟩)
          go_quiet ((go_at_call 20; exact same_drawn (hsame _)))
          obtain ⟨w3, hw3⟩ : ∃ w3, w3 = (w2.drewN n1).drewN nq := ⟨_, rfl⟩
          rw [← hw3]
          have hcx3 : w3.cell? ⟨b, off + i, none⟩ = some (.float .f64 x) := by rw [hw3]; exact hcx
          have hcy3 : w3.cell? ⟨b, off + (i + 1), none⟩ = some (.float .f64 y) := by rw [hw3]; exact hcy
          have HB3 : Hid (Below w.heap.size w w3) := Lib.hid (by rw [hw3]; exact below_drewN (below_drewN HB2.out n1) nq)
          clear hw3 HC2 HB2 hcx hcy r1 nq
          obtain ⟨d1, n2, h1', l1, r1⟩ := run_foH0 (P := Try.prog) w3 .sub f_sub 25 K (floatOfInt .f64 (i : Int))
          go_wp2
          go_quiet (fail)
          obtain ⟨w4, hw4⟩ : ∃ w4, w4 = (w3.drewN n2).drewN nq := ⟨_, rfl⟩
          rw [← hw4]
          have hcx4 : w4.cell? ⟨b, off + i, none⟩ = some (.float .f64 x) := by rw [hw4]; exact hcx3
          have HB4 : Hid (Below w.heap.size w w4) := Lib.hid (by rw [hw4]; exact below_drewN (below_drewN HB3.out n2) nq)
          clear hw4 HB3 hcx3 hcy3 r1 r2 nq
          obtain ⟨z, n3, h3, l3, r3⟩ := run_foH0 (P := Try.prog) w4 .mul f_mul 25 d1 d2
          obtain ⟨t, n4, h4, l4, r4⟩ := run_foH (P := Try.prog) w4 n3 .add f_add 25 x z
          have HT : Hid (cb t = qx (cb x) (cb y) K i) := Lib.hid (qx_read (F := floatOfInt .f64 (i : Int)) hdx hdy rfl h1'.out l1 HD2.out hd2.2 h3.out l3 h4.out)
          by_cases hnt : isN t = true
          · have o5 := ord_nan_l t t l4 hnt
            have HQ : Hid (cb x = qin R K) := Lib.hid (by rw [HI.out] at HLO HH HT; exact qin_nan HSS.out HLO.out HH.out HNE.out HT.out hnt)
            clear hnt
            go_wp2
            go_ret2
            exact HQP.out _ _ HQ.out hdx (below_drewN HB4.out _)
          · replace hnt : isN t = false := by simpa using hnt
            have o5 := ord_self t l4 hnt
            have HQ : Hid (cb t = qin R K) := Lib.hid (by rw [HI.out] at HLO HH HT; exact qin_num HSS.out HLO.out HH.out HNE.out HT.out hnt)
            clear hnt
            go_wp2
            go_ret2
            exact HQP.out _ _ HQ.out l4 (below_drewN HB4.out _)
      · have HS := Lib.hid hs
        have hsame := fun w => rsame_val x y hdx hdy true HS w
        have HQ : Hid (cb x = qin R K) := Lib.hid (by rw [HI.out] at HLO HH; exact qin_same hs HLO.out HH.out)
        clear hs
        go_wp2_with (go_at_call 38; refine (hfl _).mono ?_; rintro e w' ⟨rfl, rfl⟩)
        go_quiet ((go_at_call 20; exact same_drawn (hsame _)))
        go_wp2
        go_ret2
        exact HQP.out _ _ HQ.out hdx (below_drewN HB2.out _)
    · obtain rfl : m = i := by omega
      have hz : mag (rg K) % U = 0 := HTOP.out rfl
      have HQ : Hid (cb x = qin R K) := Lib.hid (qin_whole hz (by rw [← HI.out]; exact HLO.out))
      have hsame := fun w => rsame_val x x hdx hdx true (Lib.hid (by simp [smB])) w
      have b3 : (m : Int) < (m : Int) + 1 := by omega
      clear hdy hcy HH hcase hz
      go_wp2_with (go_at_call 38; refine (hfl _).mono ?_; rintro e w' ⟨rfl, rfl⟩)
      go_quiet ((go_at_call 20; exact same_drawn (hsame _)))
      go_wp2
      go_ret2
      exact HQP.out _ _ HQ.out hdx (below_drewN HB2.out _)

theorem rquan_any (v : Value) (L : List Nat) (q : Nat) (w : World) (hv : View w v L) (hb : L.length ≤ 1000000) (hf : ∀ x ∈ L, x < 18446744073709551616) (hq : q < 18446744073709551616) :
    Calls Try.prog 24 #[v, .float .f64 q] w (QPost L q w) := by
  by_cases h0 : L.length = 0
  · obtain rfl := List.eq_nil_of_length_eq_zero h0
    obtain ⟨a, cap, rfl⟩ := view_len hv
    exact rquan_none a cap q w
  · by_cases hbad : Bad q
    · obtain ⟨a, cap, rfl⟩ := view_len hv
      exact rquan_bad a cap q L h0 hf hq hbad w
    · exact rquan_good v (L.length - 1) q L (by omega) (by omega) hf hq hbad w hv

end Go.Proofs.Ytphhonpibmbjmaa
