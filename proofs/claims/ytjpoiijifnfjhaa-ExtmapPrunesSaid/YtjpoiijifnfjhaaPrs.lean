/- Proved: the law ExtmapPrunes answers true: pruning changes nothing that is read at the horizon or above. -/
import Derived.Test.YtjpoiijifnfjhaaRas
import Derived.Test.YtjpoiijifnfjhaaPlu
import Derived.Test.YtjpoiijifnfjhaaRu
namespace Go.Proofs.Ytjpoiijifnfjhaa
open Go.RowKit

set_option maxHeartbeats 4000000 in
set_option maxRecDepth 100000 in
theorem prunes_any (A : Option Addr) (L : List Stp) (n c : Nat) (hL : L.length = n) (hn : n ≤ maxLen) (hS : ∀ s ∈ L, SOk s) (w : World) (hv : SV w A L) (hz t : Int) :
    Calls Try.prog 4 #[.slice A n c, .int .i64 hz, .int .i64 t] w (Gives (.bool true) w) := by
  obtain ⟨i0, hi0, hz0, hz1, hz2⟩ := info_parts rows_info
  obtain ⟨i1, hi1, hy0, hy1, hy2⟩ := info_parts ints_info
  have HSM := Lib.hid (small_any A L n c hL hn hS w hv)
  have HN := Lib.hid hL
  have HSV := Lib.hid hv
  have HSO := Lib.hid hS
  have HAW := Lib.hid awake_any
  have HNW : Hid (∀ W, Calls Try.prog 10 #[.int .i64 20] W (News 20 W)) := Lib.hid fun W => new_any 20 (by omega) (by omega) W
  clear hL hn hS hv
  go_enter Try.func4, Try.ntmps4
  go_wp2_with fail
  refine HSM.out.mono ?_
  rintro e w1 ⟨r, rfl, hf, hA⟩
  have HA1 := Lib.hid hA
  have HFW := Lib.hid hf
  clear hA hf HSM
  cases r
  ·
    go_wp2_with fail
    refine (HAW.out _).mono ?_
    rintro e w9 ⟨rfl, hA9⟩
    have HE9 := Lib.hid (HA1.out.next hA9)
    clear hA9
    go_wp2
    go_ret
    exact ⟨rfl, HE9.out⟩
  · have HFE := Lib.hid (HFW.out rfl)
    have hn100 : n ≤ 100 := by rw [← HN.out]; exact HFE.out.1
    clear HFW
    go_wp2_with fail
    refine (HNW.out _).mono ?_
    rintro e w2 ⟨b, F0, rfl, hm, hF, hA⟩
    have HX : Hid (Pl w b 0 (st0 20) F0 w2) := Lib.hid ⟨hm, fun g hg => Nat.le_trans HA1.out.size (hF g hg), rfl, Nat.le_refl _, HA1.out.next hA⟩
    clear hA hm hF
    go_wp2
    go_loopw [9] (fun c9 wr => ∃ (i : Nat) (S : St) (F : Nat → Prop), i ≤ n ∧ c9 = .int .i64 (i : Int) ∧ Hid (Pl w b i S F wr)) (fun c9 _ => n - (RowKit.intOf c9).toNat)
    case atStart => exact ⟨0, st0 20, F0, Nat.zero_le _, rfl, HX⟩
    case round =>
      clear HX
      obtain ⟨i, S, F, hi, rfl, HX⟩ := hrel
      by_cases hlt : i < n
      · obtain ⟨ab, ao, rfl, hbl, hx⟩ := HSV.out.pos (by rw [HN.out]; omega)
        obtain ⟨s, hs⟩ : ∃ s, L.getD i sz = s := ⟨_, rfl⟩
        obtain ⟨B, cb, hpv, hin⟩ := step_in w ab ao L i s hs hx hbl (by rw [HN.out]; exact hlt)
        obtain ⟨d0, d1, d2⟩ := hin wr HX.out.at_
        have hso := HSO.out s (by rw [← hs]; exact step_mem (by rw [HN.out]; exact hlt))
        have hpl := HFE.out.2 i (by rw [HN.out]; exact hlt)
        rw [hs] at hpl
        obtain ⟨kd, T, P, num⟩ := s
        simp only at d0 d1 d2 hpv hpl
        have HMA := Lib.hid (apply_any HX.out.mp HX.out.at_ HX.out.far T B P P.length cb rfl (by omega) hpv hso.1 (by have := HX.out.c; omega))
        obtain ⟨m, hm⟩ : ∃ m, m = P.length := ⟨_, rfl⟩
        obtain ⟨z, hz'⟩ : ∃ z, z = rf S T P := ⟨_, rfl⟩
        rw [← hm] at d2
        rw [← hm, ← hz'] at HMA
        have g1 : (0 : Int) ≤ (i : Int) := by omega
        have g2 : (i : Int) < (n : Int) := by omega
        clear hin hx hs hso hpv hm hz' hpl
        by_cases hk : kd = 1
        · subst hk
          go_wp2_with fail
          refine HMA.out.mono ?_
          rintro e w4 ⟨F2, rfl, hm2, hd2⟩
          have HX2 := Lib.hid (HX.out.next hm2 hd2 (took_n _ _ _) (took_c _ _ _))
          clear hm2 hd2 HMA d0 d1 d2
          go_wp2
          go_roundw
          case rel => exact ⟨i + 1, _, F2, by omega, by go_num, HX2⟩
          case measure => simp [RowKit.intOf]; omega
        · have q : (kd == 1) = false := by simp [hk]
          have HX2 := Lib.hid HX.out.more
          clear HMA hk
          go_wp2
          go_roundw
          case rel => exact ⟨i + 1, S, F, by omega, by go_num, HX2⟩
          case measure => simp [RowKit.intOf]; omega
      · have hin0 : i = n := by omega
        subst hin0
        clear hi hlt
        obtain ⟨mb, D, hd, hmq⟩ := HX.out.mp
        have HVE := Lib.hid (versions_any hmq)
        have hft := hmq.ft
        have hvs := vs_le hmq.ok
        have hsn : S.n = 20 := HX.out.n
        go_wp2_with fail
        refine HVE.out.mono ?_
        rintro e w2 ⟨rfl, hA2⟩
        have hmq2 := hmq.on hA2
        have HA2 := Lib.hid (HX.out.at_.next hA2)
        have hfar : ∀ g, F g → g < w2.heap.size := fun g hg => Nat.lt_of_lt_of_le (hft g hg) hA2.size
        obtain ⟨vn, hvn⟩ : ∃ vn, vn = vs S := ⟨_, rfl⟩
        rw [← hvn] at hvs ⊢
        clear hmq hft hA2 HVE
        have HVN := Lib.hid hvn
        clear hvn
        go_upto_region 15 with fail
        obtain ⟨m, hm⟩ : ∃ m, m = max t hz := ⟨_, rfl⟩
        rw [← hm]
        have HMX : Hid (hz ≤ m) := Lib.hid (by omega)
        clear hm
        go_wp2

        go_loopw [11, 12, 13] (fun c11 c12 c13 wi => ∃ (k : Nat) (xs : List (Nat × Nat)), k ≤ 20 ∧ c13 = .int .i64 (k : Int) ∧ Hid (xs.length = k) ∧ Hid (Rt w2 wi S m c11 c12 xs) ∧ Hid (At w2 wi)) (fun _ _ c13 _ => 20 - (RowKit.intOf c13).toNat)
        case atStart => exact ⟨0, [], by omega, rfl, Lib.hid rfl, Lib.hid (Rt.start w2 w2 S m), Lib.hid (At.start w2)⟩
        case round =>
          obtain ⟨k, xs, hk, rfl, HXL, HR, HI⟩ := hrel
          by_cases hk2 : k < 20
          · have HG := Lib.hid (get_any (hmq2.on HI.out) k (by rw [hsn]; exact hk2) m)
            go_wp2_with fail
            refine HG.out.mono ?_
            rintro e w5 ⟨gb, cb2, rfl, hgb, hb5, hA5⟩
            obtain ⟨z, hz⟩ : ∃ z, z = (rdv (S.V k) m).1 := ⟨_, rfl⟩
            rw [← hz]
            have HZ : Hid (z = (rdv (S.V xs.length) m).1) := Lib.hid (by rw [HXL.out]; exact hz)
            have hAW : At wr (w5.alloc (.cells #[.slice (some ⟨gb, 0, none⟩) 40 cb2] 36)) := At.alloc hA5 _
            have HAW2 := Lib.hid hAW
            have HR5 := Lib.hid (HR.out.on hAW)
            have HBY := Lib.hid (show BV (w5.alloc (.cells #[.slice (some ⟨gb, 0, none⟩) 40 cb2] 36)) (some ⟨gb, 0, none⟩) (rdv (S.V xs.length) m).2 by rw [HXL.out]; exact hb5.below ((At.start w5).alloc _))
            have HGB := Lib.hid hgb
            have HGL : Hid (gb < (w5.alloc (.cells #[.slice (some ⟨gb, 0, none⟩) 40 cb2] 36)).heap.size) := Lib.hid (by
              obtain ⟨b', o', he, hlt', _⟩ := hb5.pos (by rw [(hmq2.on HI.out).ok.rd_len k m]; omega)
              injection he with he
              injection he with he1 he2
              have h1 : (w5.alloc (.cells #[.slice (some ⟨gb, 0, none⟩) 40 cb2] 36)).heap.size = w5.heap.size + 1 := by simp
              rw [h1]; first | exact Nat.lt_succ_of_lt hlt' | omega)
            have HN1 : Hid (∀ j v, [Value.slice (some ⟨gb, 0, none⟩) 40 cb2][j]? = some v → (w5.alloc (.cells #[.slice (some ⟨gb, 0, none⟩) 40 cb2] 36)).cell? ((⟨w5.heap.size, 0, none⟩ : Addr).add j) = some v) := Lib.hid (World.news_of_block (cs := #[Value.slice (some ⟨gb, 0, none⟩) 40 cb2]) (t := 36) (fr := (0, 0)) (heap_alloc_new w5 _))
            have HX20 : Hid (xs.length ≤ 20) := Lib.hid (by rw [HXL.out]; exact hk)
            clear hz hAW hgb hb5 hA5 HG
            go_wp2_with (first
              | (refine wpList_append_lies _ rfl (.tmp 69) (.tmp 71) 29 rfl w2.heap.size 36 i0 (.slice none 0 0) 1 24 Try.underlying29 hi0 hz0 hz1 hz2 rfl (by omega) _ xs.length _ rfl HR5.out.rows ⟨w5.heap.size, 0, none⟩ 1 1 [.slice (some ⟨gb, 0, none⟩) 40 cb2] rfl rfl HN1.out (fun v hv => by simp at hv; subst hv; rfl) (by omega) (by have := HX20.out; unfold maxLen; omega) (by have := HX20.out; omega) (Nat.le_trans HI.out.size HAW2.out.size) _ rfl ?_
                 intro g6 cap6 w6 hown6 hgrow6 hat6 hlt6
                 have HT6 := Lib.hid (HR5.out.times_on hgrow6 (.cells #[.int .i64 z] 3))
                 have HO6 := Lib.hid hown6
                 have HG6 := Lib.hid hgrow6
                 have HA6 := Lib.hid hat6
                 have HN6 : Hid (∀ j v, [Value.int .i64 z][j]? = some v → (w6.alloc (.cells #[.int .i64 z] 3)).cell? ((⟨w6.heap.size, 0, none⟩ : Addr).add j) = some v) := Lib.hid (World.news_of_block (cs := #[Value.int .i64 z]) (t := 3) (fr := (0, 0)) (heap_alloc_new w6 _))
                 have HS6 : Hid (w2.heap.size ≤ (w6.alloc (.cells #[.int .i64 z] 3)).heap.size) := Lib.hid (Nat.le_trans (Nat.le_trans (Nat.le_trans HI.out.size HAW2.out.size) hgrow6.size) (by simp))
                 clear hown6 hgrow6 hat6 hlt6)
              | (refine wpList_append_lies _ rfl (.tmp 73) (.tmp 75) 44 rfl w2.heap.size 3 i1 (.int .i64 0) 1 8 Try.underlying44 hi1 hy0 hy1 hy2 rfl (by omega) _ xs.length _ rfl HT6.out ⟨w6.heap.size, 0, none⟩ 1 1 [.int .i64 z] rfl rfl HN6.out (fun v hv => by simp at hv; subst hv; rfl) (by omega) (by have := HX20.out; unfold maxLen; omega) (by have := HX20.out; omega) HS6.out _ rfl ?_
                 intro g7 cap7 w7 hown7 hgrow7 hat7 hlt7
                 have HR7 := Lib.hid (HR.out.more HI.out HAW2.out HBY.out HGB.out HGL.out HZ.out HO6.out HG6.out HA6.out hown7 hgrow7 hat7)
                 clear hown7 hgrow7 hat7 hlt7)
              | fail)
            go_roundw
            case rel => exact ⟨k + 1, xs ++ [(gb, cb2)], by omega, by go_num, Lib.hid (by rw [List.length_append, HXL.out]; rfl), Lib.hid HR7.out.1, Lib.hid HR7.out.2⟩
            case measure => simp [RowKit.intOf]; omega
          · obtain ⟨g11, cap11, he11⟩ := Joins.ownsRow_form HR.out.rows (by rw [HXL.out]; omega)
            obtain ⟨g12, cap12, he12⟩ := Joins.ownsRow_form HR.out.times (by rw [HXL.out]; omega)
            subst he11
            subst he12
            obtain ⟨xn, hxn⟩ : ∃ xn, xn = xs.length := ⟨_, rfl⟩
            rw [← hxn] at HXL HR ⊢
            have HXN := Lib.hid hxn
            have hx20 : xn = 20 := by rw [HXL.out]; omega
            have HX20 := Lib.hid hx20
            have g20 : (20 : Int) ≤ (xn : Int) := by omega
            clear hxn hx20 HXL
            have HP := Lib.hid (prune_any (hmq2.on HI.out) (by omega) hz)
            clear hmq2
            go_wp2_with fail
            refine HP.out.mono ?_
            rintro e w6 ⟨F2, v, rfl, hvv, ⟨mb6, D6, hd6, hq6⟩, hdd⟩
            have HR6 := Lib.hid (HR.out.move (w' := w6) hdd.mv.size (fun g h1 h2 => hdd.mv.block g h2 (fun hF => by have := hfar g hF; omega)))
            have HA6 : Hid (At w w6) := Lib.hid (hdd.at_ (HA2.out.next HI.out) HX.out.far)
            have HQ6 := Lib.hid hq6
            have HV : Hid (v + vs (pru S hz) = vn) := Lib.hid (by rw [HVN.out]; exact hvv)
            have HFR : Hid (∀ x, F2 x → w.heap.size ≤ x) := Lib.hid (hdd.far (HA2.out.next HI.out).size HX.out.far)
            clear hq6 hvv hdd HP HR HI hfar
            go_wp2
            go_loopw [17] (fun c17 wi => ∃ k : Nat, k ≤ 20 ∧ c17 = .int .i64 (k : Int) ∧ Hid (At w6 wi)) (fun c17 _ => 20 - (RowKit.intOf c17).toNat)
            case atStart => exact ⟨0, by omega, rfl, Lib.hid (At.start w6)⟩
            case round =>
              obtain ⟨k, hk, rfl, HI⟩ := hrel
              by_cases hk2 : k < 20
              · have HG := Lib.hid (get_any (HQ6.out.on HI.out) k (by show k < S.n; rw [hsn]; exact hk2) m)
                rw [rd_pru S HMX.out k] at HG
                have HRL := Lib.hid ((HQ6.out.on HI.out).ok.rd_len k m)
                have HRB := Lib.hid ((HQ6.out.on HI.out).ok.rd_byte k m)
                rw [rd_pru S HMX.out k] at HRL HRB
                go_wp2_with fail
                refine HG.out.mono ?_
                rintro e w7 ⟨ga, ca, rfl, hga, hb7, hA7⟩
                have HI7 := Lib.hid (HI.out.next hA7)
                obtain ⟨x, c1, c2, hbx⟩ := (HR6.out.on HI7.out).at_ (k := k) (by rw [← HXN.out]; omega)
                have HBY : Hid (∀ W, At w7 W → Calls Try.prog 14 #[.slice (some ⟨ga, 0, none⟩) 40 ca, .slice (some ⟨x.1, 0, none⟩) 40 x.2] W fun e w' => e = .returned (.bool true) ∧ ∃ k, w' = W.drewN k) := Lib.hid (fun W hW => by
                  have := bytes_any (some ⟨ga, 0, none⟩) (some ⟨x.1, 0, none⟩) 40 ca x.2 _ _ W (by omega) HRL.out HRL.out HRB.out HRB.out (hb7.below hW) (hbx.below hW)
                  rwa [decide_eq_true rfl] at this)
                obtain ⟨z, hz⟩ : ∃ z, z = (rdv (S.V k) m).1 := ⟨_, rfl⟩
                rw [← hz] at c2 ⊢
                obtain ⟨x1, x2⟩ := x
                simp only at c1 HBY
                have g1 : (0 : Int) ≤ (k : Int) := by omega
                have g2 : (k : Int) < (xn : Int) := by omega
                clear hz hbx hga hb7 hA7 HG HRL HRB
                go_wp2_with fail
                refine (HBY.out _ (At.start w7)).mono ?_
                rintro e w' ⟨rfl, kk, rfl⟩
                have HI8 := Lib.hid (HI7.out.drewN kk)
                have d1 : (w7.drewN kk).cell? ⟨g12, k, none⟩ = some (.int .i64 z) := c2
                go_wp2
                go_roundw
                case rel => exact ⟨k + 1, by omega, by go_num, HI8⟩
                case measure => simp [RowKit.intOf]; omega
              · obtain ⟨pv, hpv⟩ : ∃ pv, pv = vs (pru S hz) := ⟨_, rfl⟩
                have hv : v + pv = vn := by rw [hpv]; exact HV.out
                have hq := HQ6.out.on HI.out
                have HVE := Lib.hid (versions_any hq)
                have hsw : IntKind.i64.wrap ((vn : Int) - (v : Int)) = (pv : Int) := by rw [IntWalk.i64_in _ (by omega)]; omega
                have HPR := Lib.hid (fun W (hW : At wr W) => prune_any (hq.on hW) (show S.n ≤ 1000 by omega) hz)
                have HAI : Hid (At w wr) := Lib.hid (HA6.out.next HI.out)
                rw [← hpv] at HVE
                have HPV := Lib.hid hpv
                clear hpv hv hq
                go_wp2_with fail
                refine HVE.out.mono ?_
                rintro e w8 ⟨rfl, hA8⟩
                have HP8 := Lib.hid (HPR.out _ hA8)
                have HA8 := Lib.hid (HAI.out.next hA8)
                clear hA8 HPR HVE
                go_wp2_with fail
                refine HP8.out.mono ?_
                rintro e w9 ⟨F3, v3, rfl, hvv, hm9, hd9⟩
                rw [pru_twice] at hvv hm9
                have hv3 : v3 = 0 := by omega
                subst hv3
                obtain ⟨mb9, D9, hd9', hq9⟩ := hm9
                have HA9 : Hid (At w w9) := Lib.hid (hd9.at_ HA8.out HFR.out)
                have HQ9 := Lib.hid hq9
                have HLA : Hid (Calls Try.prog 12 #[.pointer (some ⟨b, 0, none⟩)] w9 fun e w' => e = .returned (.int .i64 S.last) ∧ w9 = w') := Lib.hid (last_mp (S := pru S hz) hq9)
                obtain ⟨la, hla⟩ : ∃ la, la = S.last := ⟨_, rfl⟩
                rw [← hla] at HLA
                clear hvv hd9 hq9 HP8
                go_wp2_with fail
                refine HLA.out.mono ?_
                rintro e w' ⟨rfl, rfl⟩
                by_cases hlt : hz < la
                · have HA12 := HA9
                  clear hla
                  go_wp2_with fail
                  refine (HAW.out _).mono ?_
                  rintro e w13 ⟨rfl, hA13⟩
                  have HE := Lib.hid (HA12.out.next hA13)
                  clear hA13
                  go_wp2
                  go_ret
                  exact ⟨rfl, HE.out⟩
                · have hlt2 : decide (hz < la) = false := decide_eq_false hlt
                  have huv : pv = (us S).length := by rw [HPV.out]; exact vs_pru HX.out.mp.choose_spec.choose_spec.choose_spec.ok hz (by omega)
                  have HVE := Lib.hid (versions_any HQ9.out)
                  rw [← HPV.out] at HVE
                  clear hla hlt
                  go_wp2_with fail
                  refine HVE.out.mono ?_
                  rintro e w10 ⟨rfl, hA10⟩
                  have HUS := Lib.hid (used_mp (HQ9.out.on hA10))
                  rw [us_pru, ← huv] at HUS
                  have HA12 := Lib.hid (HA9.out.next hA10)
                  clear hA10 huv HVE
                  go_wp2_with fail
                  refine HUS.out.mono ?_
                  rintro e w' ⟨rfl, rfl⟩
                  go_wp2_with fail
                  refine (HAW.out _).mono ?_
                  rintro e w13 ⟨rfl, hA13⟩
                  have HE := Lib.hid (HA12.out.next hA13)
                  clear hA13
                  go_wp2
                  go_ret
                  exact ⟨rfl, HE.out⟩

end Go.Proofs.Ytjpoiijifnfjhaa
