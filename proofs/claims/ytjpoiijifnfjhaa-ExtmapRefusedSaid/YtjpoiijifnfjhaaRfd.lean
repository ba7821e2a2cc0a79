/- Proved: the law ExtmapRefused answers true: a transaction that may not be is refused, and changes nothing that is read at any time. -/
import Derived.Test.YtjpoiijifnfjhaaRas
import Derived.Test.YtjpoiijifnfjhaaDmp
import Derived.Test.YtjpoiijifnfjhaaSam
import Derived.Test.YtjpoiijifnfjhaaVrs
namespace Go.Proofs.Ytjpoiijifnfjhaa
open Go.RowKit

theorem ups_len (V : Nat → List Ver) (T : Int) (n : Nat) : ∀ (P : List Pt) (m : Nat), m ≤ P.length → (∀ j, j < P.length → 0 ≤ (P.getD j pz).1 ∧ (P.getD j pz).1 < (n : Int)) → sg (fun k => (ups V T (P.take m) k).length) n = sg (fun k => (V k).length) n + m
  | P, 0, _, _ => by simp [ups]
  | P, m + 1, hm, h => by
    have ih := ups_len V T n P m (by omega) h
    obtain ⟨h1, h2⟩ := h m (by omega)
    obtain ⟨u, hu⟩ : ∃ u : Nat, (P.getD m pz).1 = (u : Int) := ⟨(P.getD m pz).1.toNat, by omega⟩
    rw [ups_take V T P m (by omega)]
    have := sg_bump (f := fun k => (ups V T (P.take m) k).length) (g := fun k => (up1 (ups V T (P.take m)) T (P.getD m pz) k).length) u 1 n (by omega) fun k _ => by
      show (up1 (ups V T (P.take m)) T (P.getD m pz) k).length = if k = u then (ups V T (P.take m) k).length + 1 else (ups V T (P.take m) k).length
      unfold up1
      by_cases e : k = u
      · subst e; rw [if_pos hu.symm, if_pos rfl]; simp
      · rw [if_neg (by omega), if_neg e]
    rw [this, ih]; omega
theorem vs_ap {S : St} {T : Int} {P : List Pt} (h : Fine S T P) : vs (ap S T P) = vs S + P.length := by
  have := ups_len S.V T S.n P P.length (Nat.le_refl _) fun j hj => ⟨h.lo j hj, h.hi j hj⟩
  rw [List.take_length] at this
  exact this

set_option maxHeartbeats 4000000 in
set_option maxRecDepth 100000 in
theorem refused_any (A : Option Addr) (L : List Stp) (n c : Nat) (hL : L.length = n) (hn : n ≤ maxLen) (hS : ∀ s ∈ L, SOk s) (w : World) (hv : SV w A L) (T : Int) (B : Option Addr) (P : List Pt) (pn pc : Nat) (hpn : P.length = pn) (hpm : pn ≤ maxLen) (hpv : PV w B P) (hpb : PB P) (t : Int) :
    Calls Try.prog 7 #[.slice A n c, .agg #[.int .i64 T, .slice B pn pc], .int .i64 t] w (Gives (.bool true) w) := by
  have hA0 : At w (w.alloc (.cells #[.int .i64 T, .slice B pn pc] 32)) := (At.start w).alloc _
  have HC : Hid (∀ W, At (w.alloc (.cells #[.int .i64 T, .slice B pn pc] 32)) W → W.cell? ⟨w.heap.size, 0, none⟩ = some (.int .i64 T) ∧ W.cell? ⟨w.heap.size, 1, none⟩ = some (.slice B pn pc) ∧ At w W) := Lib.hid fun W hW =>
    ⟨(cell_at (hW.keep (heap_alloc_new w _)) 0).trans rfl, (cell_at (hW.keep (heap_alloc_new w _)) 1).trans rfl, ((At.start w).alloc _).next hW⟩
  have HSM := Lib.hid (small_any A L n c hL hn hS _ (hv.on hA0))
  have HN := Lib.hid hL
  have HSV := Lib.hid (hv.on hA0)
  have HSO := Lib.hid hS
  have HPV := Lib.hid (hpv.on hA0)
  have HPB := Lib.hid hpb
  have HPN := Lib.hid hpn
  have HPU := Lib.hid (fun W (hW : At (w.alloc (.cells #[.int .i64 T, .slice B pn pc] 32)) W) => puts_any B P pn pc 5000 hpn hpm W ((hpv.on hA0).on hW))
  simp only [show ((5000 : Nat) : Int) = 5000 from rfl] at HPU
  have HAW := Lib.hid awake_any
  have HNW : Hid (∀ W, Calls Try.prog 10 #[.int .i64 20] W (News 20 W)) := Lib.hid fun W => new_any 20 (by omega) (by omega) W
  clear hL hn hS hv hA0 hpv hpb hpn
  go_enter Try.func7, Try.ntmps7
  go_wp2_with fail
  obtain ⟨X, hX⟩ : ∃ X, X = w.heap.size := ⟨_, rfl⟩
  rw [← hX] at HC ⊢
  clear hX
  generalize w.alloc (.cells #[.int .i64 T, .slice B pn pc] 32) = wb at HC HSM HSV HPV HPU ⊢
  refine HSM.out.mono ?_
  rintro e w1 ⟨r, rfl, hf, hA⟩
  have HA1 := Lib.hid hA
  have HFW := Lib.hid hf
  clear hA hf HSM
  obtain ⟨c1, c2, _⟩ := HC.out w1 HA1.out
  cases r
  ·
    go_wp2_with fail
    refine (HAW.out _).mono ?_
    rintro e w9 ⟨rfl, hA9⟩
    have HE9 := Lib.hid (HC.out _ (HA1.out.next hA9)).2.2
    clear hA9
    go_wp2
    go_ret
    exact ⟨rfl, HE9.out⟩
  · have HFE := Lib.hid (HFW.out rfl)
    have hn100 : n ≤ 100 := by rw [← HN.out]; exact HFE.out.1
    clear HFW
    go_wp2_with fail
    refine (HPU.out _ HA1.out).mono ?_
    rintro e w2 ⟨pv, rfl, hp1, hp2, hA⟩
    have HA1' := Lib.hid (HA1.out.next hA)
    clear hA HA1 c1 c2
    have HA1 := HA1'
    clear HA1'
    obtain ⟨c1, c2, _⟩ := HC.out w2 HA1.out
    by_cases b1 : 5000 < pv
    · have b1' : (5000 : Int) < (pv : Int) := by omega
      go_wp2_with fail
      refine (HAW.out _).mono ?_
      rintro e w9 ⟨rfl, hA9⟩
      have HE9 := Lib.hid (HC.out _ (HA1.out.next hA9)).2.2
      clear hA9
      go_wp2
      go_ret
      exact ⟨rfl, HE9.out⟩
    have b1' : decide ((5000 : Int) < (pv : Int)) = false := decide_eq_false (by omega)
    have hp1 : pn ≤ 1000000 := by
      have h1 := sm_get 0 pn (by omega)
      omega
    go_wp2_with fail
    refine (HNW.out _).mono ?_
    rintro e w2' ⟨b, F0, rfl, hm, hF, hA⟩
    have HX : Hid (Pl wb b 0 (st0 20) F0 w2') := Lib.hid ⟨hm, fun g hg => Nat.le_trans HA1.out.size (hF g hg), rfl, Nat.le_refl _, HA1.out.next hA⟩
    clear hA hm hF c1 c2 b1'
    go_wp2
    go_loopw [9] (fun c9 wr => ∃ (i : Nat) (S : St) (F : Nat → Prop), i ≤ n ∧ c9 = .int .i64 (i : Int) ∧ Hid (Pl wb b i S F wr)) (fun c9 _ => n - (RowKit.intOf c9).toNat)
    case atStart => exact ⟨0, st0 20, F0, Nat.zero_le _, rfl, HX⟩
    case round =>
      clear HX
      obtain ⟨i, S, F, hi, rfl, HX⟩ := hrel
      by_cases hlt : i < n
      · obtain ⟨ab, ao, rfl, hbl, hx⟩ := HSV.out.pos (by rw [HN.out]; omega)
        obtain ⟨s, hs⟩ : ∃ s, L.getD i sz = s := ⟨_, rfl⟩
        obtain ⟨B', cb, hpv, hin⟩ := step_in wb ab ao L i s hs hx hbl (by rw [HN.out]; exact hlt)
        obtain ⟨d0, d1, d2⟩ := hin wr HX.out.at_
        have hso := HSO.out s (by rw [← hs]; exact step_mem (by rw [HN.out]; exact hlt))
        have hpl := HFE.out.2 i (by rw [HN.out]; exact hlt)
        rw [hs] at hpl
        obtain ⟨kd, T', P', num'⟩ := s
        simp only at d0 d1 d2 hpv hpl
        have HMA := Lib.hid (apply_any HX.out.mp HX.out.at_ HX.out.far T' B' P' P'.length cb rfl (by omega) hpv hso.1 (by have := HX.out.c; omega))
        obtain ⟨m, hm⟩ : ∃ m, m = P'.length := ⟨_, rfl⟩
        obtain ⟨z, hz⟩ : ∃ z, z = rf S T' P' := ⟨_, rfl⟩
        rw [← hm] at d2
        rw [← hm, ← hz] at HMA
        have g1 : (0 : Int) ≤ (i : Int) := by omega
        have g2 : (i : Int) < (n : Int) := by omega
        clear hin hx hs hso hpv hm hz hpl
        by_cases hk : kd = 1
        · subst hk
          go_wp2_with fail
          refine HMA.out.mono ?_
          rintro e w4 ⟨F2, rfl, hm2, hd2⟩
          have HX2 := Lib.hid (HX.out.next hm2 hd2 (took_n _ _ _) (took_c _ _ _))
          clear hm2 hd2 HMA d0 d1 d2
          go_wp2
          go_roundw
          case rel => exact ⟨i + 1, _, F2, by omega, by go_num, HX2⟩
          case measure => simp [RowKit.intOf]; omega
        · have q : (kd == 1) = false := by simp [hk]
          have HX2 := Lib.hid HX.out.more
          clear HMA hk
          go_wp2
          go_roundw
          case rel => exact ⟨i + 1, S, F, by omega, by go_num, HX2⟩
          case measure => simp [RowKit.intOf]; omega
      · have hin0 : i = n := by omega
        subst hin0
        clear hi hlt
        obtain ⟨mb, D, hd, hmq⟩ := HX.out.mp
        have HDU := Lib.hid (fun W (hW : At wr W) => dump_any (hmq.on hW) (by rw [HX.out.n]; omega))
        have HVE := Lib.hid (fun W (hW : At wr W) => versions_any (hmq.on hW))
        have HLA := Lib.hid (fun W (hW : At wr W) => last_mp (hmq.on hW))
        have HRA : Hid (∀ W, At wr W → Calls Try.prog 18 #[.pointer (some ⟨b, 0, none⟩), .agg #[.int .i64 0, .int .i64 20], .int .i64 t] W (Ranged S 0 20 t W)) := Lib.hid (fun W hW => range_any (hmq.on hW) 0 20 t (by omega) (by omega) (by rw [HX.out.n]; omega))
        have HAP := Lib.hid (fun W (hW : At wr W) => apply_any ⟨mb, D, hd, hmq.on hW⟩ (HX.out.at_.next hW) HX.out.far T B P pn pc HPN.out hp1 HPV.out HPB.out (by have := HX.out.c; omega))
        have HAN := Lib.hid (fun W (hW : At wr W) (h0 : ¬ rf S T P = 0) => apply_no (w := W) (some ⟨b, 0, none⟩) T B pn pc (rf S T P) h0 (fun V hV => refuses_any (hmq.on (hW.next hV)) T B P pn pc HPN.out (HPV.out.on (HX.out.at_.next (hW.next hV))) hp1))
        have HOK : Hid (Ok S) := Lib.hid hmq.ok
        have hvs := vs_le hmq.ok
        clear hmq
        go_wp2_with fail
        refine (HDU.out _ (At.start wr)).mono ?_
        rintro e w3 ⟨dA, dc, rfl, hdv, hA3⟩
        have HDV := Lib.hid hdv
        have HA3 := Lib.hid hA3
        clear hdv hA3
        go_wp2_with fail
        refine (HVE.out _ HA3.out).mono ?_
        rintro e w4 ⟨rfl, hA4⟩
        have HA4 := Lib.hid (HA3.out.next hA4)
        have HDV4 := Lib.hid (HDV.out.on hA4)
        clear hA4
        obtain ⟨vn, hvn⟩ : ∃ vn, vn = vs S := ⟨_, rfl⟩
        rw [← hvn] at hvs ⊢
        have HVN := Lib.hid hvn
        clear hvn
        go_wp2_with fail
        refine (HLA.out _ HA4.out).mono ?_
        rintro e w' ⟨rfl, rfl⟩
        obtain ⟨la, hla⟩ : ∃ la, la = S.last := ⟨_, rfl⟩
        rw [← hla]
        have HLN := Lib.hid hla
        clear hla
        go_wp2_with fail
        refine (HRA.out _ HA4.out).mono ?_
        rintro e w5 ⟨gr, LR, rfl, hrg, hbv, hA5⟩
        have HRG := Lib.hid hrg
        have HBV := Lib.hid hbv
        have HA5 := Lib.hid (HA4.out.next hA5)
        have HDV5 := Lib.hid (HDV4.out.on hA5)
        clear hrg hbv hA5
        obtain ⟨c1, c2, _⟩ := HC.out w5 (HX.out.at_.next HA5.out)
        have HAP5 := Lib.hid (HAP.out _ HA5.out)
        by_cases h0 : rf S T P = 0
        · have HFI := Lib.hid (fine_rf h0)
          rw [h0, took_ok h0] at HAP5
          clear h0
          go_wp2_with fail
          refine HAP5.out.mono ?_
          rintro e w6 ⟨F2, rfl, ⟨mb2, D2, hd2, hm2⟩, hdid⟩
          have HA6 : Hid (At wb w6) := Lib.hid (hdid.at_ (HX.out.at_.next HA5.out) HX.out.far)
          have HL2 := Lib.hid (fun W (hW : At w6 W) => last_mp (hm2.on hW))
          have HV2 := Lib.hid (fun W (hW : At w6 W) => versions_any (hm2.on hW))
          have hvs2 : vs (ap S T P) = vn + pn := by rw [HVN.out, ← HPN.out]; exact vs_ap HFI.out
          rw [hvs2] at HV2
          have hlast : (ap S T P).last = T := rfl
          rw [hlast] at HL2
          clear hm2 hdid hvs2 hlast c1 c2 HAP5
          obtain ⟨c1, c2, _⟩ := HC.out w6 HA6.out
          have w1 : IntKind.i64.wrap ((vn : Int) + (pn : Int)) = (vn : Int) + (pn : Int) := IntWalk.i64_in _ (by omega)
          simp only [Int.natCast_add] at HV2
          go_wp2_with fail
          go_region_held3 (fun w' => w'.cell? ⟨X, 0, none⟩ = some (.int .i64 T) ∧ w'.cell? ⟨X, 1, none⟩ = some (.slice B pn pc)) (go_keep)
            (first
              | (go_at_call 12; refine (HL2.out _ ((At.start w6).drewN 1)).mono ?_; rintro e w' ⟨rfl, rfl⟩)
              | (go_at_call 15; refine (HV2.out _ ((At.start w6).drewN 1)).mono ?_; rintro e w7 ⟨rfl, hA7⟩; have HA7 := Lib.hid ((HA6.out.drewN 1).next hA7); clear hA7; obtain ⟨d1, d2, _⟩ := HC.out w7 HA7.out)
              | (go_at_call 9; refine (HAW.out _).mono ?_; rintro e w8 ⟨rfl, hA8⟩; have HA8 := Lib.hid (HA7.out.next hA8); clear hA8; obtain ⟨d3, d4, _⟩ := HC.out w8 HA8.out))
          have HE := Lib.hid (HC.out _ HA8.out).2.2
          go_wp2
          go_ret
          exact ⟨rfl, HE.out⟩
        · have HAN5 := Lib.hid (HAN.out _ HA5.out h0)
          obtain ⟨z, hz⟩ : ∃ z, z = rf S T P := ⟨_, rfl⟩
          have q : (z == 0) = false := by rw [hz]; simp [h0]
          rw [← hz] at HAN5
          clear hz h0 HAP5
          go_wp2_with fail
          refine HAN5.out.mono ?_
          rintro e w6 ⟨rfl, hA6⟩
          have HA56 := Lib.hid hA6
          have HA6 := Lib.hid (HA5.out.next hA6)
          clear hA6 c1 c2
          go_wp2_with fail
          refine (HRA.out _ HA6.out).mono ?_
          rintro e w7 ⟨gq, LQ, rfl, hrg, hbv, hA7⟩
          have HLE : Hid (LR = LQ) := Lib.hid (HRG.out.one hrg fun _ _ => rfl)
          have HA7 := Lib.hid (HA6.out.next hA7)
          have hlr := HRG.out.len
          have HBY := Lib.hid (bytes_any (some ⟨gr, 0, none⟩) (some ⟨gq, 0, none⟩) 800 800 800 LR LQ w7 (by omega) hlr hrg.len HRG.out.byte hrg.byte (HBV.out.below (At.next HA56.out hA7)) hbv)
          rw [decide_eq_true HLE.out] at HBY
          have HDV7 := Lib.hid (HDV5.out.on (At.next HA56.out hA7))
          have h40 : ∀ p ∈ dl S, p.2.length = 40 := fun p hp => by
            unfold dl at hp
            obtain ⟨u, hu, rfl⟩ := List.mem_map.1 hp
            exact (HOK.out.v u _ (nw_mem _ (mem_us.1 hu).2)).2.2.1
          have hdl : (dl S).length ≤ 1000000 := by
            unfold dl
            rw [List.length_map]
            have h1 := us_len S
            have h2 := HX.out.n
            omega
          have HSP := Lib.hid (fun W (h1 : At w7 W) A1 c1 (hv : PV W A1 (dl S)) => samePuts_any A1 dA (dl S) _ c1 dc rfl hdl h40 W hv (HDV7.out.on h1))
          have HVE7 := Lib.hid (fun W (hW : At w7 W) => HVE.out W (HA7.out.next hW))
          rw [← HVN.out] at HVE7
          have HLA7 := Lib.hid (fun W (hW : At w7 W) => HLA.out W (HA7.out.next hW))
          rw [← HLN.out] at HLA7
          have HDU7 := Lib.hid (fun W (hW : At w7 W) => HDU.out W (HA7.out.next hW))
          obtain ⟨dn, hdn⟩ : ∃ dn, dn = (dl S).length := ⟨_, rfl⟩
          unfold Dumps at HDU7
          rw [← hdn] at HSP HDU7 ⊢
          have HA7b : Hid (At wb w7) := Lib.hid (HX.out.at_.next HA7.out)
          clear hrg hbv hA7 hlr h40 hdl hdn HDU HVE HLA HRA HAP HAN HAN5
          go_wp2_with fail
          refine HBY.out.mono ?_
          rintro e w' ⟨rfl, k1, rfl⟩
          have HB1 : Hid (At w7 (w7.drewN k1)) := Lib.hid ((At.start w7).drewN k1)
          go_wp2_with fail
          refine (HVE7.out _ HB1.out).mono ?_
          rintro e w8 ⟨rfl, hA8⟩
          have HB2 := Lib.hid (HB1.out.next hA8)
          clear hA8
          go_wp2_with fail
          refine (HLA7.out _ HB2.out).mono ?_
          rintro e w' ⟨rfl, rfl⟩
          go_wp2_with fail
          refine (HDU7.out _ HB2.out).mono ?_
          rintro e w9 ⟨A9, c9, rfl, hv9, hA9⟩
          have HB3 := Lib.hid (HB2.out.next hA9)
          have HS9 := Lib.hid (HSP.out _ HB3.out A9 c9 hv9)
          clear hA9 hv9
          go_wp2_with fail
          refine HS9.out.mono ?_
          rintro e w' ⟨rfl, k2, rfl⟩
          have HB4 := Lib.hid (HB3.out.drewN k2)
          go_wp2_with fail
          refine (HAW.out _).mono ?_
          rintro e w10 ⟨rfl, hA10⟩
          have HE := Lib.hid (HC.out _ (HA7b.out.next (HB4.out.next hA10))).2.2
          clear hA10
          go_wp2
          go_ret
          exact ⟨rfl, HE.out⟩

end Go.Proofs.Ytjpoiijifnfjhaa
