/- Proved: the law WbufLast's walk: what is written is read again, the last one; a vector that is refused changes nothing. -/
import Derived.Test.YthaiddhbifakhaaWt
namespace Go.Proofs.Ythaiddhbifakhaa
open Go.RowKit

set_option maxHeartbeats 4000000 in
set_option maxRecDepth 100000 in
theorem last_any (A : Option Addr) (L : List (List Pt)) (n c : Nat) (hL : L.length = n) (hn : n ≤ maxLen) (hS : ∀ P ∈ L, LOk P) (w : World) (hv : LV w A L) :
    Calls Try.prog 4 #[.slice A n c] w (Gives (.bool true) w) := by
  have HSM := Lib.hid (small_any A L n c hL hn hS w hv)
  have HN := Lib.hid hL
  have HSV := Lib.hid hv
  have HSO := Lib.hid hS
  have HAW := Lib.hid awake_any
  have HNW := Lib.hid (new_ok 20 16 (by omega) (by omega) (by omega))
  rw [show ((20 : Nat) : Int) = 20 from rfl] at HNW
  clear hL hn hS hv
  go_enter Try.func4, Try.ntmps4
  go_wp2_with fail
  refine HSM.out.mono ?_
  rintro e w1 ⟨r, rfl, hf, hA⟩
  have HA1 := Lib.hid hA
  have HFW := Lib.hid hf
  clear hA hf HSM
  cases r
  · go_wp2_with fail
    refine (HAW.out _).mono ?_
    rintro e w2 ⟨rfl, hA2⟩
    have HA2 := Lib.hid (HA1.out.next hA2)
    clear hA2
    go_wp2
    go_ret
    exact ⟨rfl, HA2.out⟩
  · have HFE := Lib.hid (HFW.out rfl)
    have hn100 : n ≤ 100 := by rw [← HN.out]; exact HFE.out.1
    go_wp2_with fail
    refine (HNW.out _).mono ?_
    rintro e w2 hnew
    obtain ⟨b, mb, rfl, hbo⟩ := bo_new hnew
    have hbw : Bo w w2 b mb (st0 20 16) := hbo.back HA1.out
    have hmk := make_rows w2
    have hA3 : At w2 (w2.alloc (.cells (madeCells (Value.slice none 0 0).cells 20) 38)) := (At.start w2).alloc _
    have HX : Hid (La w b mb w2.heap.size (st0 20 16) (st0 20 16) (fun _ => []) (w2.alloc (.cells (madeCells (Value.slice none 0 0).cells 20) 38))) := Lib.hid
      ⟨hbw.on hA3, rfl, rfl, WT.made w w2, hbw.at_.size, fun k _ => rfl⟩
    obtain ⟨g, hg⟩ : ∃ g, g = w2.heap.size := ⟨_, rfl⟩
    obtain ⟨w3, hw3⟩ : ∃ w3, w3 = w2.alloc (.cells (madeCells (Value.slice none 0 0).cells 20) 38) := ⟨_, rfl⟩
    rw [← hg, ← hw3] at hmk HX
    clear hg hw3 hA3 hbw hbo hnew
    go_wp2
    go_loopw [6] (fun c6 wr => ∃ (i : Nat) (S : St) (Q : Nat → List Nat), i ≤ n ∧ c6 = .int .i64 (i : Int) ∧ Hid (La w b mb g S S Q wr)) (fun c6 _ => n - (RowKit.intOf c6).toNat)
    case atStart => exact ⟨0, st0 20 16, _, Nat.zero_le _, rfl, HX⟩
    case round =>
      clear HX hmk
      obtain ⟨i, S, Q, hi, rfl, HX⟩ := hrel
      by_cases hlt : i < n
      · have hiL : i < L.length := by rw [HN.out]; exact hlt
        obtain ⟨ab, ao, rfl, hbl, hx⟩ := HSV.out.pos (by omega)
        obtain ⟨B, cb, hpv, hin⟩ := vec_in hbl hx hiL
        have hso := HSO.out _ (vec_mem hiL)
        have hpl := HFE.out.one hiL
        obtain ⟨P, hP⟩ : ∃ P, P = L.getD i [] := ⟨_, rfl⟩
        rw [← hP] at hpv hso hpl
        simp only [← hP] at hin
        obtain ⟨m, hm⟩ : ∃ m, m = P.length := ⟨_, rfl⟩
        rw [← hm] at hpl
        simp only [← hm] at hin
        have HIN := Lib.hid hin
        have HPV := Lib.hid hpv
        have HPB := Lib.hid hso
        have HM := Lib.hid hm
        have c0 := hin wr HX.out.bo.at_
        have HW := Lib.hid (write_any HX.out.bo.bf B P m cb hm.symm (by omega) (hpv.on HX.out.bo.at_) hso.by_)
        clear hin hx hpv hso hm hP hbl hiL
        have g1 : (0 : Int) ≤ (i : Int) := by omega
        have g2 : (i : Int) < (n : Int) := by omega
        by_cases h0 : rf S P = 0
        · have HFI := Lib.hid (fine_of h0)
          rw [h0, wr_yes h0] at HW
          clear h0
          go_wp2_with fail
          refine HW.out.mono ?_
          rintro e w4 ⟨rfl, hbf, hmv⟩
          have HX2 : Hid (La w b mb g (upS S P) S Q w4) := Lib.hid (HX.out.next hbf hmv rfl rfl)
          clear hbf hmv HW c0
          have hm0 : 0 < m := by rw [HM.out]; exact List.length_pos_iff.2 HFI.out.ne
          have hsn : S.n = 20 := HX.out.n
          obtain ⟨pb, po, rfl, hpbl, hpx⟩ := HPV.out.pos (by rw [← HM.out]; exact hm0)
          have HPX := Lib.hid (fun j (hj : j < P.length) => put_in hpbl hpx hj)
          clear hpx
          go_wp2
          go_loopw [7] (fun c7 wi => ∃ (j : Nat) (Q' : Nat → List Nat), j ≤ m ∧ c7 = .int .i64 (j : Int) ∧ Hid (La w b mb g (upS S P) (upS S (P.take j)) Q' wi)) (fun c7 _ => m - (RowKit.intOf c7).toNat)
          case atStart => exact ⟨0, Q, Nat.zero_le _, rfl, HX2⟩
          case round =>
            clear HX HX2
            obtain ⟨j, Q', hj, rfl, HW⟩ := hrel
            have c0 := HIN.out wr HW.out.bo.at_
            by_cases hjm : j < m
            · have hjP : j < P.length := by rw [← HM.out]; exact hjm
              obtain ⟨DA, dc, hdb, hdx⟩ := HPX.out j hjP
              obtain ⟨p0, p1⟩ := hdx wr HW.out.bo.at_
              have hrg := HFI.out.rng _ (pt_mem hjP)
              have hlen := HFI.out.len _ (pt_mem hjP)
              have hst := upS_step S P j hjP
              obtain ⟨p, hp⟩ : ∃ p, P.getD j pz = p := ⟨_, rfl⟩
              rw [hp] at p0 p1 hrg hlen hst hdb
              obtain ⟨a, d⟩ := p
              simp only at p0 p1 hrg hlen hdb
              obtain ⟨k, rfl⟩ : ∃ k : Nat, a = (k : Int) := ⟨a.toNat, by omega⟩
              have hk20 : k < 20 := by omega
              have HPT := Lib.hid (HW.out.put hk20 hdb (c := dc))
              rw [← hst, hlen] at HPT
              obtain ⟨qa, qc, f0, f1, -⟩ := HW.out.wt.at_ k hk20
              rw [hlen] at p1
              have g3 : (0 : Int) ≤ (j : Int) := by omega
              have g4 : (j : Int) < (m : Int) := by omega
              have g5 : (0 : Int) ≤ (k : Int) := by omega
              have g6 : (k : Int) < 20 := by omega
              have HDR : Hid (La w b mb g (upS S P) (upS S (P.take (j + 1))) (fun x => if x = k then d else Q' x) (wr.setCell ⟨g, k, none⟩ (.slice DA 40 dc)).drew) := Lib.hid (HPT.out.on ((At.start _).drewN 1))
              clear hdb hdx hrg hlen hst hp HPT hjP
              go_wp2
              go_region
              go_wp2
              go_roundw
              case rel => exact ⟨j + 1, _, by omega, by go_num, HDR⟩
              case measure => simp [RowKit.intOf]; omega
            · have hjm3 : j = m := by omega
              have Y : Hid (La w b mb g (upS S P) (upS S P) Q' wr) := Lib.hid (by
                have := HW.out
                rwa [List.take_of_length_le (by rw [← HM.out]; omega)] at this)
              clear HW
              obtain ⟨S2, hS2⟩ : ∃ S2, S2 = upS S P := ⟨_, rfl⟩
              rw [← hS2] at Y
              clear hS2
              obtain ⟨w4, hw4⟩ : ∃ w4, w4 = wr := ⟨_, rfl⟩
              rw [← hw4] at Y c0 ⊢
              obtain ⟨Q2, hQ2⟩ : ∃ Q2, Q2 = Q' := ⟨_, rfl⟩
              rw [← hQ2] at Y
              clear hw4 hQ2
              subst hjm3
              go_wp2
              go_loopw [8, 9] (fun c8 c9 wi => ∃ k : Nat, k ≤ 20 ∧ c9 = .int .i64 (k : Int) ∧ c8 = .int .i64 ((nk S2 k : Nat) : Int) ∧ Hid (At w4 wi)) (fun _ c9 _ => 20 - (RowKit.intOf c9).toNat)
              case atStart => exact ⟨0, by omega, rfl, rfl, Lib.hid (At.start _)⟩
              case round =>
                obtain ⟨k, hk, rfl, rfl, HI⟩ := hrel
                have HY := Lib.hid (Y.out.on HI.out)
                have hnk := nk_le S2 k
                by_cases hk2 : k < 20
                · have hwf : (ky (k : Int)).wf = true := ky_wf (by omega) (by omega)
                  have g1 : (0 : Int) ≤ (k : Int) := by omega
                  have g2 : (k : Int) < 20 := by omega
                  obtain ⟨A', c', hcell, -, hbv⟩ := HY.out.wt.at_ k hk2
                  have hrd := HY.out.rd k hk2
                  rw [hrd] at hcell hbv
                  by_cases hg : S2.g k = []
                  · have hcell2 : wr.cell? ⟨g, k, none⟩ = some (.slice A' 0 c') := by rw [hcell, hg]; rfl
                    have HG := Lib.hid (get_no HY.out.bo.bf (k : Int) hwf (by rw [gi_nat]; exact hg))
                    have HNK := Lib.hid (nk_no hg)
                    have HCL : Hid (∀ W, At wr W → W.cell? ⟨g, k, none⟩ = some (.slice A' 0 c')) := Lib.hid fun W hW => (Below.cell hW (p := ⟨g, k, none⟩) (World.block_lt_of_cell? wr _ hcell2)).trans hcell2
                    clear hcell hbv hrd hwf hg hcell2
                    go_wp2_with fail
                    refine HG.out.mono ?_
                    rintro e w5 ⟨rfl, hA5⟩
                    have c0 := HCL.out w5 hA5
                    have HI5 := Lib.hid (HI.out.next hA5)
                    clear hA5 HG HCL
                    obtain ⟨u, hu⟩ : ∃ u, u = nk S2 k := ⟨_, rfl⟩
                    rw [← hu] at HNK
                    rw [← hu]
                    clear hu
                    go_wp2
                    go_roundw
                    case rel => exact ⟨k + 1, by omega, by go_num, by rw [HNK.out], HI5⟩
                    case measure => simp [RowKit.intOf]; omega
                  · have hl40 : (S2.g k).length = 40 := (HY.out.bo.bf.ok.v k hg).1
                    have hby : AllB (S2.g k) := (HY.out.bo.bf.ok.v k hg).2
                    have hgi : gi S2 (k : Int) ≠ [] := by rw [gi_nat]; exact hg
                    rw [hl40] at hcell
                    have HG := Lib.hid (get_yes HY.out.bo.bf (k : Int) hwf hgi)
                    rw [gi_nat] at HG
                    have HNK := Lib.hid (nk_yes hg)
                    have HCL : Hid (∀ W, At wr W → W.cell? ⟨g, k, none⟩ = some (.slice A' 40 c')) := Lib.hid fun W hW => (Below.cell hW (p := ⟨g, k, none⟩) (World.block_lt_of_cell? wr _ hcell)).trans hcell
                    have HBV := Lib.hid (hbv.below HY.out.bo.at_)
                    have HLB := Lib.hid (And.intro hl40 hby)
                    clear hcell hbv hrd hwf hg hl40 hby hgi
                    go_wp2_with fail
                    refine HG.out.mono ?_
                    rintro e w5 ⟨gb, cb2, rfl, hgb, hb5, hA5⟩
                    have c0 := HCL.out w5 hA5
                    have HI5 := Lib.hid (HI.out.next hA5)
                    have HBY := Lib.hid (bytes_any (some ⟨gb, 0, none⟩) A' 40 cb2 c' _ _ w5 (by omega) HLB.out.1 HLB.out.1 HLB.out.2 HLB.out.2 hb5 (HBV.out.below hA5))
                    rw [decide_eq_true (rfl : S2.g k = S2.g k)] at HBY
                    clear hA5 hgb hb5 HG HCL
                    obtain ⟨u, hu⟩ : ∃ u, u = nk S2 k := ⟨_, rfl⟩
                    rw [← hu] at HNK hnk
                    rw [← hu]
                    clear hu
                    go_wp2_with fail
                    refine HBY.out.mono ?_
                    rintro e w' ⟨rfl, kk, rfl⟩
                    have HI6 := Lib.hid (HI5.out.drewN kk)
                    go_wp2
                    go_roundw
                    case rel => exact ⟨k + 1, by omega, by go_num, by rw [HNK.out]; go_num, HI6⟩
                    case measure => simp [RowKit.intOf]; omega
                · have hk20 : k = 20 := by omega
                  have HL := Lib.hid (len_bf HY.out.bo.bf)
                  have hus : nk S2 k = (us S2).length := by unfold nk us; rw [hk20, HY.out.n]
                  have hc := HY.out.bo.bf.ok.c
                  rw [HY.out.m] at hc
                  rw [← hus] at HL hc
                  obtain ⟨u, hu⟩ : ∃ u, u = nk S2 k := ⟨_, rfl⟩
                  rw [← hu] at HL hc
                  rw [← hu]
                  have q9 : decide ((k : Int) < 20) = false := decide_eq_false (by omega)
                  have q8 : decide ((16 : Int) < (u : Int)) = false := decide_eq_false (by omega)
                  have q7 : ((u : Int) != (u : Int)) = false := by simp
                  clear hus hu hk20 hnk
                  go_wp2_with fail
                  refine HL.out.mono ?_
                  rintro e w' ⟨rfl, rfl⟩
                  go_wp2
                  go_roundw
                  case rel => exact ⟨i + 1, S2, Q2, by omega, by go_num, HY⟩
                  case measure => simp [RowKit.intOf]; omega
        · have q1 : (rf S P == 0) = false := by simp; exact h0
          rw [wr_no h0] at HW
          generalize rf S P = z at HW h0 q1 ⊢
          go_wp2_with fail
          refine HW.out.mono ?_
          rintro e w4 ⟨rfl, hbf, hmv⟩
          have Y : Hid (La w b mb g S S Q w4) := Lib.hid (HX.out.next hbf hmv rfl rfl)
          clear hbf hmv HW c0 HX
          obtain ⟨S2, hS2⟩ : ∃ S2, S2 = S := ⟨_, rfl⟩
          rw [← hS2] at Y
          obtain ⟨Q2, hQ2⟩ : ∃ Q2, Q2 = Q := ⟨_, rfl⟩
          rw [← hQ2] at Y
          clear hS2 hQ2
          go_wp2
          go_loopw [8, 9] (fun c8 c9 wi => ∃ k : Nat, k ≤ 20 ∧ c9 = .int .i64 (k : Int) ∧ c8 = .int .i64 ((nk S2 k : Nat) : Int) ∧ Hid (At w4 wi)) (fun _ c9 _ => 20 - (RowKit.intOf c9).toNat)
          case atStart => exact ⟨0, by omega, rfl, rfl, Lib.hid (At.start _)⟩
          case round =>
            obtain ⟨k, hk, rfl, rfl, HI⟩ := hrel
            have HY := Lib.hid (Y.out.on HI.out)
            have hnk := nk_le S2 k
            by_cases hk2 : k < 20
            · have hwf : (ky (k : Int)).wf = true := ky_wf (by omega) (by omega)
              have g1 : (0 : Int) ≤ (k : Int) := by omega
              have g2 : (k : Int) < 20 := by omega
              obtain ⟨A', c', hcell, -, hbv⟩ := HY.out.wt.at_ k hk2
              have hrd := HY.out.rd k hk2
              rw [hrd] at hcell hbv
              by_cases hg : S2.g k = []
              · have hcell2 : wr.cell? ⟨g, k, none⟩ = some (.slice A' 0 c') := by rw [hcell, hg]; rfl
                have HG := Lib.hid (get_no HY.out.bo.bf (k : Int) hwf (by rw [gi_nat]; exact hg))
                have HNK := Lib.hid (nk_no hg)
                have HCL : Hid (∀ W, At wr W → W.cell? ⟨g, k, none⟩ = some (.slice A' 0 c')) := Lib.hid fun W hW => (Below.cell hW (p := ⟨g, k, none⟩) (World.block_lt_of_cell? wr _ hcell2)).trans hcell2
                clear hcell hbv hrd hwf hg hcell2
                go_wp2_with fail
                refine HG.out.mono ?_
                rintro e w5 ⟨rfl, hA5⟩
                have c0 := HCL.out w5 hA5
                have HI5 := Lib.hid (HI.out.next hA5)
                clear hA5 HG HCL
                obtain ⟨u, hu⟩ : ∃ u, u = nk S2 k := ⟨_, rfl⟩
                rw [← hu] at HNK
                rw [← hu]
                clear hu
                go_wp2
                go_roundw
                case rel => exact ⟨k + 1, by omega, by go_num, by rw [HNK.out], HI5⟩
                case measure => simp [RowKit.intOf]; omega
              · have hl40 : (S2.g k).length = 40 := (HY.out.bo.bf.ok.v k hg).1
                have hby : AllB (S2.g k) := (HY.out.bo.bf.ok.v k hg).2
                have hgi : gi S2 (k : Int) ≠ [] := by rw [gi_nat]; exact hg
                rw [hl40] at hcell
                have HG := Lib.hid (get_yes HY.out.bo.bf (k : Int) hwf hgi)
                rw [gi_nat] at HG
                have HNK := Lib.hid (nk_yes hg)
                have HCL : Hid (∀ W, At wr W → W.cell? ⟨g, k, none⟩ = some (.slice A' 40 c')) := Lib.hid fun W hW => (Below.cell hW (p := ⟨g, k, none⟩) (World.block_lt_of_cell? wr _ hcell)).trans hcell
                have HBV := Lib.hid (hbv.below HY.out.bo.at_)
                have HLB := Lib.hid (And.intro hl40 hby)
                clear hcell hbv hrd hwf hg hl40 hby hgi
                go_wp2_with fail
                refine HG.out.mono ?_
                rintro e w5 ⟨gb, cb2, rfl, hgb, hb5, hA5⟩
                have c0 := HCL.out w5 hA5
                have HI5 := Lib.hid (HI.out.next hA5)
                have HBY := Lib.hid (bytes_any (some ⟨gb, 0, none⟩) A' 40 cb2 c' _ _ w5 (by omega) HLB.out.1 HLB.out.1 HLB.out.2 HLB.out.2 hb5 (HBV.out.below hA5))
                rw [decide_eq_true (rfl : S2.g k = S2.g k)] at HBY
                clear hA5 hgb hb5 HG HCL
                obtain ⟨u, hu⟩ : ∃ u, u = nk S2 k := ⟨_, rfl⟩
                rw [← hu] at HNK hnk
                rw [← hu]
                clear hu
                go_wp2_with fail
                refine HBY.out.mono ?_
                rintro e w' ⟨rfl, kk, rfl⟩
                have HI6 := Lib.hid (HI5.out.drewN kk)
                go_wp2
                go_roundw
                case rel => exact ⟨k + 1, by omega, by go_num, by rw [HNK.out]; go_num, HI6⟩
                case measure => simp [RowKit.intOf]; omega
            · have hk20 : k = 20 := by omega
              have HL := Lib.hid (len_bf HY.out.bo.bf)
              have hus : nk S2 k = (us S2).length := by unfold nk us; rw [hk20, HY.out.n]
              have hc := HY.out.bo.bf.ok.c
              rw [HY.out.m] at hc
              rw [← hus] at HL hc
              obtain ⟨u, hu⟩ : ∃ u, u = nk S2 k := ⟨_, rfl⟩
              rw [← hu] at HL hc
              rw [← hu]
              have q9 : decide ((k : Int) < 20) = false := decide_eq_false (by omega)
              have q8 : decide ((16 : Int) < (u : Int)) = false := decide_eq_false (by omega)
              have q7 : ((u : Int) != (u : Int)) = false := by simp
              clear hus hu hk20 hnk
              go_wp2_with fail
              refine HL.out.mono ?_
              rintro e w' ⟨rfl, rfl⟩
              go_wp2
              go_roundw
              case rel => exact ⟨i + 1, S2, Q2, by omega, by go_num, HY⟩
              case measure => simp [RowKit.intOf]; omega
      · have hie : i = n := by omega
        subst hie
        have HAA := Lib.hid HX.out.bo.at_
        go_wp2_with fail
        refine (HAW.out _).mono ?_
        rintro e w5 ⟨rfl, hA⟩
        have HE := Lib.hid (HAA.out.next hA)
        clear hA
        go_wp2
        go_ret
        exact ⟨rfl, HE.out⟩

end Go.Proofs.Ythaiddhbifakhaa
