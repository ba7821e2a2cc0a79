/- Proved: the law ExtmapSnaps answers true: what is read at a time is what was applied up to it. -/
import Derived.Test.YtjpoiijifnfjhaaPly
import Derived.BigRegion
namespace Go.Proofs.Ytjpoiijifnfjhaa
open Go.RowKit

/-- Between two steps: the map at b, the rows at g, and what is read at t. -/
structure Sn (w : World) (b g : Nat) (t : Int) (i : Nat) (S : St) (F : Nat → Prop) (Q : Nat → List Nat) (V : Nat → List Ver) (wr : World) : Prop where
  mp : Mp wr b S F
  far : ∀ x, F x → w.heap.size ≤ x
  n : S.n = 20
  c : S.c ≤ i
  gF : ¬ F g
  gw : w.heap.size ≤ g
  wt : WT w wr g Q
  at_ : At w wr
  rd : ∀ k, k < 20 → wb (Q k) = (rdv (V k) t).2 ∧ AllB (Q k)
theorem Sn.on {w : World} {b g : Nat} {t : Int} {i : Nat} {S : St} {F : Nat → Prop} {Q : Nat → List Nat} {V : Nat → List Ver} {wr wr' : World} (h : Sn w b g t i S F Q V wr) (hA : At wr wr') : Sn w b g t i S F Q V wr' := by
  obtain ⟨mb, D, hd, hm⟩ := h.mp
  exact ⟨⟨mb, D, hd, hm.on hA⟩, h.far, h.n, h.c, h.gF, h.gw, h.wt.on hA, h.at_.next hA, h.rd⟩
theorem Sn.more {w : World} {b g : Nat} {t : Int} {i : Nat} {S : St} {F : Nat → Prop} {Q : Nat → List Nat} {V : Nat → List Ver} {wr : World} (h : Sn w b g t i S F Q V wr) : Sn w b g t (i + 1) S F Q V wr :=
  ⟨h.mp, h.far, h.n, Nat.le_succ_of_le h.c, h.gF, h.gw, h.wt, h.at_, h.rd⟩
theorem Sn.next {w : World} {b g : Nat} {t : Int} {i : Nat} {S S' : St} {F F' : Nat → Prop} {Q : Nat → List Nat} {V : Nat → List Ver} {wr wr' : World} (h : Sn w b g t i S F Q V wr) (hm : Mp wr' b S' F') (hd : Did F wr F' wr') (hn : S'.n = S.n) (hc : S'.c ≤ S.c + 1) : Sn w b g t (i + 1) S' F' Q V wr' := by
  have h1 := h.c
  obtain ⟨cs, hcs, _⟩ := h.wt
  exact ⟨hm, hd.far h.at_.size h.far, hn.trans h.n, by omega, (hd.keep hcs h.gF).2, h.gw, h.wt.keep hd.mv h.gF, hd.at_ h.at_ h.far, h.rd⟩
theorem Sn.put {w : World} {b g : Nat} {t : Int} {i : Nat} {S S0 : St} {F : Nat → Prop} {Q : Nat → List Nat} {T : Int} {P : List Pt} {j : Nat} {wr : World} (h : Sn w b g t i S F Q (apm S0 T P j).V wr) (hj : j < P.length) {k : Nat} (hk : (P.getD j pz).1 = (k : Int)) (hk2 : k < 20) (hT : T ≤ t) (hl : (P.getD j pz).2.length = 40)
    (hB : AllB (P.getD j pz).2) {A : Option Addr} {c : Nat} (hb : BV w A (P.getD j pz).2) : Sn w b g t i S F (fun x => if x = k then (P.getD j pz).2 else Q x) (apm S0 T P (j + 1)).V (wr.setCell ⟨g, k, none⟩ (.slice A (P.getD j pz).2.length c)) := by
  have hmv : Mv (fun x => x = g) wr (wr.setCell ⟨g, k, none⟩ (.slice A (P.getD j pz).2.length c)) := Mv.set (F := fun x => x = g) (Mv.refl _ wr) (p := ⟨g, k, none⟩) (Or.inl rfl) _
  obtain ⟨mb, D, hd, hm⟩ := h.mp
  refine ⟨⟨mb, D, hd, hm.mv hmv fun x hx e => h.gF (by rw [← e]; exact hx)⟩, h.far, h.n, h.c, h.gF, h.gw, h.wt.set k hk2 A _ c hb, hmv.at_ h.at_ (fun x hx => by rw [hx]; exact h.gw), fun x hx => ?_⟩
  have e := apm_step (S := S0) (T := T) hj hk x
  by_cases hxk : x = k
  · rw [if_pos hxk] at e ⊢
    rw [e, rdv_app_now _ _ _ hT, wb_of (by intro h0; rw [h0] at hl; cases hl)]
    exact ⟨rfl, hB⟩
  · rw [if_neg hxk] at e ⊢
    rw [e]; exact h.rd x hx
theorem step_in (w : World) (ab ao : Nat) (L : List Stp) (i : Nat) (s : Stp) (hs : L.getD i sz = s) (hx : ∀ j, j < L.length → w.cell? ⟨ab, ao + j * 4, none⟩ = some (.int .i64 (L.getD j sz).kind) ∧ w.cell? ⟨ab, ao + j * 4 + 1, none⟩ = some (.int .i64 (L.getD j sz).time) ∧
    (∃ B c, w.cell? ⟨ab, ao + j * 4 + 2, none⟩ = some (.slice B (L.getD j sz).puts.length c) ∧ PV w B (L.getD j sz).puts) ∧ w.cell? ⟨ab, ao + j * 4 + 3, none⟩ = some (.int .i64 (L.getD j sz).num)) (hl : ab < w.heap.size) (hi : i < L.length) :
    ∃ B c, PV w B s.puts ∧ ∀ W, At w W → W.cell? ⟨ab, ao + i * 4, none⟩ = some (.int .i64 s.kind) ∧ W.cell? ⟨ab, ao + i * 4 + 1, none⟩ = some (.int .i64 s.time) ∧ W.cell? ⟨ab, ao + i * 4 + 2, none⟩ = some (.slice B s.puts.length c) := by
  obtain ⟨h1, h2, ⟨B, c, h3, h4⟩, _⟩ := hx i hi
  rw [hs] at h1 h2 h3 h4
  exact ⟨B, c, h4, fun W hW => ⟨(Below.cell hW (p := ⟨ab, ao + i * 4, none⟩) hl).trans h1, (Below.cell hW (p := ⟨ab, ao + i * 4 + 1, none⟩) hl).trans h2, (Below.cell hW (p := ⟨ab, ao + i * 4 + 2, none⟩) hl).trans h3⟩⟩
theorem put_in {w : World} {pb po : Nat} {P : List Pt} {j : Nat} (hl : pb < w.heap.size) (hx : ∀ j, j < P.length → w.cell? ⟨pb, po + j * 2, none⟩ = some (.int .i64 (P.getD j pz).1) ∧ ∃ B c, w.cell? ⟨pb, po + j * 2 + 1, none⟩ = some (.slice B (P.getD j pz).2.length c) ∧ BV w B (P.getD j pz).2) (hj : j < P.length) :
    ∃ B c, BV w B (P.getD j pz).2 ∧ ∀ W, At w W → W.cell? ⟨pb, po + j * 2, none⟩ = some (.int .i64 (P.getD j pz).1) ∧ W.cell? ⟨pb, po + j * 2 + 1, none⟩ = some (.slice B (P.getD j pz).2.length c) := by
  obtain ⟨h1, B, c, h2, h3⟩ := hx j hj
  exact ⟨B, c, h3, fun W hW => ⟨(Below.cell hW (p := ⟨pb, po + j * 2, none⟩) hl).trans h1, (Below.cell hW (p := ⟨pb, po + j * 2 + 1, none⟩) hl).trans h2⟩⟩

set_option maxHeartbeats 4000000 in
set_option maxRecDepth 100000 in
theorem snaps_any (A : Option Addr) (L : List Stp) (n c : Nat) (hL : L.length = n) (hn : n ≤ maxLen) (hS : ∀ s ∈ L, SOk s) (w : World) (hv : SV w A L) (t : Int) :
    Calls Try.prog 3 #[.slice A n c, .int .i64 t] w (Gives (.bool true) w) := by
  have HSM := Lib.hid (small_any A L n c hL hn hS w hv)
  have HN := Lib.hid hL
  have HSV := Lib.hid hv
  have HSO := Lib.hid hS
  have HAW := Lib.hid awake_any
  have HNW : Hid (∀ W, Calls Try.prog 10 #[.int .i64 20] W (News 20 W)) := Lib.hid fun W => new_any 20 (by omega) (by omega) W
  clear hL hn hS hv
  go_enter Try.func3, Try.ntmps3
  go_wp2_with fail
  refine HSM.out.mono ?_
  rintro e w1 ⟨r, rfl, hf, hA⟩
  have HA1 := Lib.hid hA
  have HFW := Lib.hid hf
  clear hA hf HSM
  cases r
  · go_wp2_with fail
    refine (HAW.out _).mono ?_
    rintro e w2 ⟨rfl, hA2⟩
    have HA2 := Lib.hid (HA1.out.next hA2)
    clear hA2
    go_wp2
    go_ret
    exact ⟨rfl, HA2.out⟩
  · have HFE := Lib.hid (HFW.out rfl)
    have hn100 : n ≤ 100 := by rw [← HN.out]; exact HFE.out.1
    go_wp2_with fail
    refine (HNW.out _).mono ?_
    rintro e w2 ⟨b, F0, rfl, hm, hF, hA⟩
    have hfar : ∀ g, F0 g → w.heap.size ≤ g := fun g hg => Nat.le_trans HA1.out.size (hF g hg)
    have hat := HA1.out.next hA
    have hmk := make_rows w2
    have hwt := WT.made w w2
    have hA3 : At w2 (w2.alloc (.cells (madeCells (Value.slice none 0 0).cells 20) 36)) := (At.start w2).alloc _
    obtain ⟨mb, D, hd, hmq⟩ := hm
    have HX : Hid (Sn w b w2.heap.size t 0 (st0 20) F0 (fun _ => []) (st0 20).V (w2.alloc (.cells (madeCells (Value.slice none 0 0).cells 20) 36))) := Lib.hid
      ⟨⟨mb, D, hd, hmq.on hA3⟩, hfar, rfl, Nat.le_refl _, (fun h => by have := hmq.ft _ h; omega), hat.size, hwt, hat.next hA3, fun k _ => ⟨by rw [wb_nil]; show zv.2 = (rdv [] t).2; rw [rdv_nil], fun _ h => (by cases h)⟩⟩
    obtain ⟨g, hg⟩ : ∃ g, g = w2.heap.size := ⟨_, rfl⟩
    obtain ⟨w3, hw3⟩ : ∃ w3, w3 = w2.alloc (.cells (madeCells (Value.slice none 0 0).cells 20) 36) := ⟨_, rfl⟩
    rw [← hg, ← hw3] at hmk HX
    clear hg hw3 hmq hA3 hwt hat hfar hA hF
    go_wp2
    go_loopw [8] (fun c8 wr => ∃ (i : Nat) (S : St) (F : Nat → Prop) (Q : Nat → List Nat), i ≤ n ∧ c8 = .int .i64 (i : Int) ∧ Hid (Sn w b g t i S F Q S.V wr)) (fun c8 _ => n - (RowKit.intOf c8).toNat)
    case atStart => exact ⟨0, st0 20, F0, _, Nat.zero_le _, rfl, HX⟩
    case round =>
      clear HX hmk
      obtain ⟨i, S, F, Q, hi, rfl, HX⟩ := hrel
      by_cases hlt : i < n
      · obtain ⟨ab, ao, rfl, hbl, hx⟩ := HSV.out.pos (by rw [HN.out]; omega)
        obtain ⟨s, hs⟩ : ∃ s, L.getD i sz = s := ⟨_, rfl⟩
        obtain ⟨B, cb, hpv, hin⟩ := step_in w ab ao L i s hs hx hbl (by rw [HN.out]; exact hlt)
        have HIN := Lib.hid hin
        obtain ⟨c0, c1, c2⟩ := hin wr HX.out.at_
        have hso := HSO.out s (by rw [← hs]; exact step_mem (by rw [HN.out]; exact hlt))
        have hpl := HFE.out.2 i (by rw [HN.out]; exact hlt)
        rw [hs] at hpl
        obtain ⟨kd, T, P, num⟩ := s
        simp only at HIN c0 c1 c2 hpv hpl
        have HPV := Lib.hid hpv
        have HPB : Hid (PB P) := Lib.hid hso.1
        have HMA := Lib.hid (fun (W : World) (S' : St) (F' : Nat → Prop) (hm' : Mp W b S' F') (hA' : At w W) (hF' : ∀ x, F' x → w.heap.size ≤ x) (hc' : S'.c < 1000) => apply_any hm' hA' hF' T B P P.length cb rfl (by omega) hpv hso.1 hc')
        obtain ⟨m, hm⟩ : ∃ m, m = P.length := ⟨_, rfl⟩
        rw [← hm] at c2 HMA hpl
        simp only [← hm] at HIN
        have HM := Lib.hid hm
        clear hin hx hs hso hpv hm
        have g1 : (0 : Int) ≤ (i : Int) := by omega
        have g2 : (i : Int) < (n : Int) := by omega
        by_cases hk : kd = 1
        · subst hk
          have HAP := Lib.hid (HMA.out wr S F HX.out.mp HX.out.at_ HX.out.far (by have := HX.out.c; omega))
          clear HMA
          by_cases h0 : rf S T P = 0
          · rw [h0, took_ok h0] at HAP
            have HFI := Lib.hid (fine_rf h0)
            clear h0
            go_wp2_with fail
            refine HAP.out.mono ?_
            rintro e w4 ⟨F2, rfl, hm2, hd2⟩
            have HX2 := Lib.hid (HX.out.next hm2 hd2 (S' := ap S T P) rfl (Nat.le_refl _))
            clear hm2 hd2 HAP c0 c1 c2
            obtain ⟨c0, c1, c2⟩ := HIN.out w4 HX2.out.at_
            have hm0 : 0 < m := by rw [HM.out]; exact List.length_pos_iff.2 HFI.out.ne
            have hsn : S.n = 20 := HX.out.n
            obtain ⟨pb, po, rfl, hpbl, hpx⟩ := HPV.out.pos (by rw [← HM.out]; exact hm0)
            have HPX := Lib.hid (fun j (hj : j < P.length) => put_in hpbl hpx hj)
            clear hpx
            by_cases hT : T ≤ t
            · have qT : decide (T ≤ t) = true := decide_eq_true hT
              go_wp2
              go_loopw [9] (fun c9 wi => ∃ (j : Nat) (Q' : Nat → List Nat), j ≤ m ∧ c9 = .int .i64 (j : Int) ∧ Hid (Sn w b g t (i + 1) (ap S T P) F2 Q' (apm S T P j).V wi)) (fun c9 _ => m - (RowKit.intOf c9).toNat)
              case atStart => exact ⟨0, Q, Nat.zero_le _, rfl, HX2⟩
              case round =>
                clear c0 c1 c2 HX HX2
                obtain ⟨j, Q', hj, rfl, HW⟩ := hrel
                obtain ⟨c0, c1, c2⟩ := HIN.out wr HW.out.at_
                by_cases hjm : j < m
                · obtain ⟨DA, dc, hdb, hdx⟩ := HPX.out j (by rw [← HM.out]; exact hjm)
                  obtain ⟨p0, p1⟩ := hdx wr HW.out.at_
                  have hlo := HFI.out.lo j (by rw [← HM.out]; exact hjm)
                  have hhi := HFI.out.hi j (by rw [← HM.out]; exact hjm)
                  have hlen := HFI.out.len j (by rw [← HM.out]; exact hjm)
                  have hall := (HPB.out _ (pt_mem (show j < P.length by rw [← HM.out]; exact hjm))).1
                  obtain ⟨k, hk⟩ : ∃ k : Nat, (P.getD j pz).1 = (k : Int) := ⟨(P.getD j pz).1.toNat, by omega⟩
                  have hk20 : k < 20 := by omega
                  have HPT := Lib.hid (HW.out.put (by rw [← HM.out]; exact hjm) hk hk20 hT hlen hall hdb (c := dc))
                  obtain ⟨qa, qc, f0, f1, -⟩ := HW.out.wt.at_ k hk20
                  rw [hk] at p0
                  rw [hlen] at p1 HPT
                  have g3 : (0 : Int) ≤ (j : Int) := by omega
                  have g4 : (j : Int) < (m : Int) := by omega
                  have g5 : (0 : Int) ≤ (k : Int) := by omega
                  have g6 : (k : Int) < 20 := by omega
                  have HDR : Hid (∀ W, Sn w b g t (i + 1) (ap S T P) F2 (fun x => if x = k then (P.getD j pz).2 else Q' x) (apm S T P (j + 1)).V W → Sn w b g t (i + 1) (ap S T P) F2 (fun x => if x = k then (P.getD j pz).2 else Q' x) (apm S T P (j + 1)).V W.drew) := Lib.hid fun W hW => hW.on ((At.start W).drewN 1)
                  clear hdb hdx hlo hhi hlen hall hk
                  go_wp2
                  go_region
                  go_wp2
                  go_roundw
                  case rel => exact ⟨j + 1, _, by omega, by go_num, Lib.hid (HDR.out _ HPT.out)⟩
                  case measure => simp [RowKit.intOf]; omega
                · have hjm2 : j = P.length := by rw [← HM.out]; omega
                  have hjm3 : j = m := by omega
                  rw [hjm2, apm_all] at HW
                  subst hjm3
                  clear hjm2
                  have Y : Hid (Sn w b g t (i + 1) (ap S T P) F2 Q' (ap S T P).V wr) := HW
                  clear HW
                  obtain ⟨S2, hS2⟩ : ∃ S2, S2 = ap S T P := ⟨_, rfl⟩
                  rw [← hS2] at Y
                  clear hS2
                  obtain ⟨w4, hw4⟩ : ∃ w4, w4 = wr := ⟨_, rfl⟩
                  rw [← hw4] at Y c0 c1 c2 ⊢
                  clear hw4
                  go_wp2
                  go_loopw [10] (fun c10 wi => ∃ k : Nat, k ≤ 20 ∧ c10 = .int .i64 (k : Int) ∧ Hid (At w4 wi)) (fun c10 _ => 20 - (RowKit.intOf c10).toNat)
                  case atStart => exact ⟨0, by omega, rfl, Lib.hid (At.start _)⟩
                  case round =>
                    obtain ⟨k, hk, rfl, HI⟩ := hrel
                    have HY := Lib.hid (Y.out.on HI.out)
                    obtain ⟨mb, D, hd, hmq⟩ := HY.out.mp
                    have HL := Lib.hid (last_mp hmq)
                    by_cases hk2 : k < 20
                    · have HG := Lib.hid (get_any hmq k (by rw [HY.out.n]; exact hk2) t)
                      have HRL := Lib.hid (hmq.ok.rd_len k t)
                      have HRB := Lib.hid (hmq.ok.rd_byte k t)
                      clear hmq
                      have g1 : (0 : Int) ≤ (k : Int) := by omega
                      have g2 : (k : Int) < 20 := by omega
                      obtain ⟨z, hz⟩ : ∃ z, z = S2.last := ⟨_, rfl⟩
                      rw [← hz] at HL
                      clear hz
                      by_cases hc1 : t ≤ z
                      · have q1 : decide (t ≤ z) = true := decide_eq_true hc1
                        go_wp2_with fail
                        refine HL.out.mono ?_
                        rintro e w' ⟨rfl, rfl⟩
                        go_wp2_with fail
                        refine HG.out.mono ?_
                        rintro e w5 ⟨gb, cb2, rfl, hgb, hb5, hA5⟩
                        obtain ⟨A', c', hcell, -, hbv⟩ := (HY.out.wt.on hA5).at_ k hk2
                        have hat5 := HY.out.at_.next hA5
                        obtain ⟨hrd, hall⟩ := HY.out.rd k hk2
                        have HB5 := Lib.hid hb5
                        have HI5 := Lib.hid (HI.out.next hA5)
                        have HBV := Lib.hid (hbv.below hat5)
                        have HRD := Lib.hid hrd
                        have HALL := Lib.hid hall
                        clear hgb hb5 hA5 hbv hat5 hrd hall HL HG
                        by_cases hQ : Q' k = []
                        · have hcell2 : w5.cell? ⟨g, k, none⟩ = some (.slice A' 0 c') := by rw [hcell, hQ]; rfl
                          have hmk := make_u8 40 (by omega) w5
                          rw [made_zn] at hmk
                          rw [show ((40 : Nat) : Int) = 40 from rfl] at hmk
                          have HR6 := Lib.hid (row_new w5 _ (zr 40) rfl)
                          have HA6 := Lib.hid ((At.start w5).alloc (.cells ((zr 40).map bt).toArray 5))
                          obtain ⟨g6, hg6⟩ : ∃ g6, g6 = w5.heap.size := ⟨_, rfl⟩
                          obtain ⟨w6, hw6⟩ : ∃ w6, w6 = w5.alloc (.cells ((zr 40).map bt).toArray 5) := ⟨_, rfl⟩
                          rw [← hg6, ← hw6] at hmk HR6
                          rw [← hw6] at HA6
                          have HBY := Lib.hid (bytes_any (some ⟨gb, 0, none⟩) (some ⟨g6, 0, none⟩) 40 cb2 40 _ _ w6 (by omega) HRL.out (zr_len 40) HRB.out (allB_zr 40) (HB5.out.below HA6.out) HR6.out.bv)
                          rw [decide_eq_true (show (rdv (S2.V k) t).2 = zr 40 by rw [← HRD.out, hQ]; rfl)] at HBY
                          clear hcell hg6 hw6
                          go_wp2_with fail
                          refine HBY.out.mono ?_
                          rintro e w' ⟨rfl, kk, rfl⟩
                          have HI6 := Lib.hid ((HI5.out.next HA6.out).drewN kk)
                          go_wp2
                          go_roundw
                          case rel => exact ⟨k + 1, by omega, by go_num, HI6⟩
                          case measure => simp [RowKit.intOf]; omega

                        · have hl40 : (Q' k).length = 40 := by rw [← wb_of hQ, HRD.out]; exact HRL.out
                          rw [hl40] at hcell
                          have HBY := Lib.hid (bytes_any (some ⟨gb, 0, none⟩) A' 40 cb2 c' _ _ w5 (by omega) HRL.out hl40 HRB.out HALL.out HB5.out HBV.out)
                          rw [decide_eq_true (show (rdv (S2.V k) t).2 = Q' k by rw [← HRD.out, wb_of hQ])] at HBY
                          clear hl40
                          go_wp2_with fail
                          refine HBY.out.mono ?_
                          rintro e w' ⟨rfl, kk, rfl⟩
                          have HI6 := Lib.hid (HI5.out.drewN kk)
                          go_wp2
                          go_roundw
                          case rel => exact ⟨k + 1, by omega, by go_num, HI6⟩
                          case measure => simp [RowKit.intOf]; omega

                      · have q1 : decide (t ≤ z) = false := decide_eq_false hc1
                        by_cases hc2 : i = n - 1
                        · have q2 : ((i : Int) == (n : Int) - 1) = true := by simp; omega
                          clear hc2
                          go_wp2_with fail
                          refine HL.out.mono ?_
                          rintro e w' ⟨rfl, rfl⟩
                          go_wp2_with fail
                          refine HG.out.mono ?_
                          rintro e w5 ⟨gb, cb2, rfl, hgb, hb5, hA5⟩
                          obtain ⟨A', c', hcell, -, hbv⟩ := (HY.out.wt.on hA5).at_ k hk2
                          have hat5 := HY.out.at_.next hA5
                          obtain ⟨hrd, hall⟩ := HY.out.rd k hk2
                          have HB5 := Lib.hid hb5
                          have HI5 := Lib.hid (HI.out.next hA5)
                          have HBV := Lib.hid (hbv.below hat5)
                          have HRD := Lib.hid hrd
                          have HALL := Lib.hid hall
                          clear hgb hb5 hA5 hbv hat5 hrd hall HL HG
                          by_cases hQ : Q' k = []
                          · have hcell2 : w5.cell? ⟨g, k, none⟩ = some (.slice A' 0 c') := by rw [hcell, hQ]; rfl
                            have hmk := make_u8 40 (by omega) w5
                            rw [made_zn] at hmk
                            rw [show ((40 : Nat) : Int) = 40 from rfl] at hmk
                            have HR6 := Lib.hid (row_new w5 _ (zr 40) rfl)
                            have HA6 := Lib.hid ((At.start w5).alloc (.cells ((zr 40).map bt).toArray 5))
                            obtain ⟨g6, hg6⟩ : ∃ g6, g6 = w5.heap.size := ⟨_, rfl⟩
                            obtain ⟨w6, hw6⟩ : ∃ w6, w6 = w5.alloc (.cells ((zr 40).map bt).toArray 5) := ⟨_, rfl⟩
                            rw [← hg6, ← hw6] at hmk HR6
                            rw [← hw6] at HA6
                            have HBY := Lib.hid (bytes_any (some ⟨gb, 0, none⟩) (some ⟨g6, 0, none⟩) 40 cb2 40 _ _ w6 (by omega) HRL.out (zr_len 40) HRB.out (allB_zr 40) (HB5.out.below HA6.out) HR6.out.bv)
                            rw [decide_eq_true (show (rdv (S2.V k) t).2 = zr 40 by rw [← HRD.out, hQ]; rfl)] at HBY
                            clear hcell hg6 hw6
                            go_wp2_with fail
                            refine HBY.out.mono ?_
                            rintro e w' ⟨rfl, kk, rfl⟩
                            have HI6 := Lib.hid ((HI5.out.next HA6.out).drewN kk)
                            go_wp2
                            go_roundw
                            case rel => exact ⟨k + 1, by omega, by go_num, HI6⟩
                            case measure => simp [RowKit.intOf]; omega

                          · have hl40 : (Q' k).length = 40 := by rw [← wb_of hQ, HRD.out]; exact HRL.out
                            rw [hl40] at hcell
                            have HBY := Lib.hid (bytes_any (some ⟨gb, 0, none⟩) A' 40 cb2 c' _ _ w5 (by omega) HRL.out hl40 HRB.out HALL.out HB5.out HBV.out)
                            rw [decide_eq_true (show (rdv (S2.V k) t).2 = Q' k by rw [← HRD.out, wb_of hQ])] at HBY
                            clear hl40
                            go_wp2_with fail
                            refine HBY.out.mono ?_
                            rintro e w' ⟨rfl, kk, rfl⟩
                            have HI6 := Lib.hid (HI5.out.drewN kk)
                            go_wp2
                            go_roundw
                            case rel => exact ⟨k + 1, by omega, by go_num, HI6⟩
                            case measure => simp [RowKit.intOf]; omega

                        · have q2 : ((i : Int) == (n : Int) - 1) = false := by simp; omega
                          clear hc2
                          go_wp2_with fail
                          refine HL.out.mono ?_
                          rintro e w' ⟨rfl, rfl⟩

                          go_wp2
                          go_roundw
                          case rel => exact ⟨i + 1, S2, F2, Q', by omega, by go_num, HY⟩
                          case measure => simp [RowKit.intOf]; omega

                    · have hk20 : k = 20 := by omega
                      subst hk20
                      clear hmq
                      go_wp2
                      go_roundw
                      case rel => exact ⟨i + 1, S2, F2, Q', by omega, by go_num, HY⟩
                      case measure => simp [RowKit.intOf]; omega
            · have qT : decide (T ≤ t) = false := decide_eq_false hT
              have Y : Hid (Sn w b g t (i + 1) (ap S T P) F2 Q (ap S T P).V w4) := Lib.hid ⟨HX2.out.mp, HX2.out.far, HX2.out.n, HX2.out.c, HX2.out.gF, HX2.out.gw, HX2.out.wt, HX2.out.at_, fun k hk => by rw [rd_late HFI.out t (by omega) k]; exact HX2.out.rd k hk⟩
              clear HX2 HX
              obtain ⟨S2, hS2⟩ : ∃ S2, S2 = ap S T P := ⟨_, rfl⟩
              rw [← hS2] at Y
              clear hS2
              obtain ⟨Q', hQ'⟩ : ∃ Q', Q' = Q := ⟨_, rfl⟩
              rw [← hQ'] at Y
              clear hQ'
              have g3 : (0 : Int) < (m : Int) := by omega
              go_wp2
              refine wp_loop_rounds 1 ?_
              rw [rounds_succ]
              go_wp2
              go_loopw [10] (fun c10 wi => ∃ k : Nat, k ≤ 20 ∧ c10 = .int .i64 (k : Int) ∧ Hid (At w4 wi)) (fun c10 _ => 20 - (RowKit.intOf c10).toNat)
              case atStart => exact ⟨0, by omega, rfl, Lib.hid (At.start _)⟩
              case round =>
                obtain ⟨k, hk, rfl, HI⟩ := hrel
                have HY := Lib.hid (Y.out.on HI.out)
                obtain ⟨mb, D, hd, hmq⟩ := HY.out.mp
                have HL := Lib.hid (last_mp hmq)
                by_cases hk2 : k < 20
                · have HG := Lib.hid (get_any hmq k (by rw [HY.out.n]; exact hk2) t)
                  have HRL := Lib.hid (hmq.ok.rd_len k t)
                  have HRB := Lib.hid (hmq.ok.rd_byte k t)
                  clear hmq
                  have g1 : (0 : Int) ≤ (k : Int) := by omega
                  have g2 : (k : Int) < 20 := by omega
                  obtain ⟨z, hz⟩ : ∃ z, z = S2.last := ⟨_, rfl⟩
                  rw [← hz] at HL
                  clear hz
                  by_cases hc1 : t ≤ z
                  · have q1 : decide (t ≤ z) = true := decide_eq_true hc1
                    go_wp2_with fail
                    refine HL.out.mono ?_
                    rintro e w' ⟨rfl, rfl⟩
                    go_wp2_with fail
                    refine HG.out.mono ?_
                    rintro e w5 ⟨gb, cb2, rfl, hgb, hb5, hA5⟩
                    obtain ⟨A', c', hcell, -, hbv⟩ := (HY.out.wt.on hA5).at_ k hk2
                    have hat5 := HY.out.at_.next hA5
                    obtain ⟨hrd, hall⟩ := HY.out.rd k hk2
                    have HB5 := Lib.hid hb5
                    have HI5 := Lib.hid (HI.out.next hA5)
                    have HBV := Lib.hid (hbv.below hat5)
                    have HRD := Lib.hid hrd
                    have HALL := Lib.hid hall
                    clear hgb hb5 hA5 hbv hat5 hrd hall HL HG
                    by_cases hQ : Q' k = []
                    · have hcell2 : w5.cell? ⟨g, k, none⟩ = some (.slice A' 0 c') := by rw [hcell, hQ]; rfl
                      have hmk := make_u8 40 (by omega) w5
                      rw [made_zn] at hmk
                      rw [show ((40 : Nat) : Int) = 40 from rfl] at hmk
                      have HR6 := Lib.hid (row_new w5 _ (zr 40) rfl)
                      have HA6 := Lib.hid ((At.start w5).alloc (.cells ((zr 40).map bt).toArray 5))
                      obtain ⟨g6, hg6⟩ : ∃ g6, g6 = w5.heap.size := ⟨_, rfl⟩
                      obtain ⟨w6, hw6⟩ : ∃ w6, w6 = w5.alloc (.cells ((zr 40).map bt).toArray 5) := ⟨_, rfl⟩
                      rw [← hg6, ← hw6] at hmk HR6
                      rw [← hw6] at HA6
                      have HBY := Lib.hid (bytes_any (some ⟨gb, 0, none⟩) (some ⟨g6, 0, none⟩) 40 cb2 40 _ _ w6 (by omega) HRL.out (zr_len 40) HRB.out (allB_zr 40) (HB5.out.below HA6.out) HR6.out.bv)
                      rw [decide_eq_true (show (rdv (S2.V k) t).2 = zr 40 by rw [← HRD.out, hQ]; rfl)] at HBY
                      clear hcell hg6 hw6
                      go_wp2_with fail
                      refine HBY.out.mono ?_
                      rintro e w' ⟨rfl, kk, rfl⟩
                      have HI6 := Lib.hid ((HI5.out.next HA6.out).drewN kk)
                      go_wp2
                      go_roundw
                      case rel => exact ⟨k + 1, by omega, by go_num, HI6⟩
                      case measure => simp [RowKit.intOf]; omega

                    · have hl40 : (Q' k).length = 40 := by rw [← wb_of hQ, HRD.out]; exact HRL.out
                      rw [hl40] at hcell
                      have HBY := Lib.hid (bytes_any (some ⟨gb, 0, none⟩) A' 40 cb2 c' _ _ w5 (by omega) HRL.out hl40 HRB.out HALL.out HB5.out HBV.out)
                      rw [decide_eq_true (show (rdv (S2.V k) t).2 = Q' k by rw [← HRD.out, wb_of hQ])] at HBY
                      clear hl40
                      go_wp2_with fail
                      refine HBY.out.mono ?_
                      rintro e w' ⟨rfl, kk, rfl⟩
                      have HI6 := Lib.hid (HI5.out.drewN kk)
                      go_wp2
                      go_roundw
                      case rel => exact ⟨k + 1, by omega, by go_num, HI6⟩
                      case measure => simp [RowKit.intOf]; omega

                  · have q1 : decide (t ≤ z) = false := decide_eq_false hc1
                    by_cases hc2 : i = n - 1
                    · have q2 : ((i : Int) == (n : Int) - 1) = true := by simp; omega
                      clear hc2
                      go_wp2_with fail
                      refine HL.out.mono ?_
                      rintro e w' ⟨rfl, rfl⟩
                      go_wp2_with fail
                      refine HG.out.mono ?_
                      rintro e w5 ⟨gb, cb2, rfl, hgb, hb5, hA5⟩
                      obtain ⟨A', c', hcell, -, hbv⟩ := (HY.out.wt.on hA5).at_ k hk2
                      have hat5 := HY.out.at_.next hA5
                      obtain ⟨hrd, hall⟩ := HY.out.rd k hk2
                      have HB5 := Lib.hid hb5
                      have HI5 := Lib.hid (HI.out.next hA5)
                      have HBV := Lib.hid (hbv.below hat5)
                      have HRD := Lib.hid hrd
                      have HALL := Lib.hid hall
                      clear hgb hb5 hA5 hbv hat5 hrd hall HL HG
                      by_cases hQ : Q' k = []
                      · have hcell2 : w5.cell? ⟨g, k, none⟩ = some (.slice A' 0 c') := by rw [hcell, hQ]; rfl
                        have hmk := make_u8 40 (by omega) w5
                        rw [made_zn] at hmk
                        rw [show ((40 : Nat) : Int) = 40 from rfl] at hmk
                        have HR6 := Lib.hid (row_new w5 _ (zr 40) rfl)
                        have HA6 := Lib.hid ((At.start w5).alloc (.cells ((zr 40).map bt).toArray 5))
                        obtain ⟨g6, hg6⟩ : ∃ g6, g6 = w5.heap.size := ⟨_, rfl⟩
                        obtain ⟨w6, hw6⟩ : ∃ w6, w6 = w5.alloc (.cells ((zr 40).map bt).toArray 5) := ⟨_, rfl⟩
                        rw [← hg6, ← hw6] at hmk HR6
                        rw [← hw6] at HA6
                        have HBY := Lib.hid (bytes_any (some ⟨gb, 0, none⟩) (some ⟨g6, 0, none⟩) 40 cb2 40 _ _ w6 (by omega) HRL.out (zr_len 40) HRB.out (allB_zr 40) (HB5.out.below HA6.out) HR6.out.bv)
                        rw [decide_eq_true (show (rdv (S2.V k) t).2 = zr 40 by rw [← HRD.out, hQ]; rfl)] at HBY
                        clear hcell hg6 hw6
                        go_wp2_with fail
                        refine HBY.out.mono ?_
                        rintro e w' ⟨rfl, kk, rfl⟩
                        have HI6 := Lib.hid ((HI5.out.next HA6.out).drewN kk)
                        go_wp2
                        go_roundw
                        case rel => exact ⟨k + 1, by omega, by go_num, HI6⟩
                        case measure => simp [RowKit.intOf]; omega

                      · have hl40 : (Q' k).length = 40 := by rw [← wb_of hQ, HRD.out]; exact HRL.out
                        rw [hl40] at hcell
                        have HBY := Lib.hid (bytes_any (some ⟨gb, 0, none⟩) A' 40 cb2 c' _ _ w5 (by omega) HRL.out hl40 HRB.out HALL.out HB5.out HBV.out)
                        rw [decide_eq_true (show (rdv (S2.V k) t).2 = Q' k by rw [← HRD.out, wb_of hQ])] at HBY
                        clear hl40
                        go_wp2_with fail
                        refine HBY.out.mono ?_
                        rintro e w' ⟨rfl, kk, rfl⟩
                        have HI6 := Lib.hid (HI5.out.drewN kk)
                        go_wp2
                        go_roundw
                        case rel => exact ⟨k + 1, by omega, by go_num, HI6⟩
                        case measure => simp [RowKit.intOf]; omega

                    · have q2 : ((i : Int) == (n : Int) - 1) = false := by simp; omega
                      clear hc2
                      go_wp2_with fail
                      refine HL.out.mono ?_
                      rintro e w' ⟨rfl, rfl⟩

                      go_wp2
                      go_roundw
                      case rel => exact ⟨i + 1, S2, F2, Q', by omega, by go_num, HY⟩
                      case measure => simp [RowKit.intOf]; omega

                · have hk20 : k = 20 := by omega
                  subst hk20
                  clear hmq
                  go_wp2
                  go_roundw
                  case rel => exact ⟨i + 1, S2, F2, Q', by omega, by go_num, HY⟩
                  case measure => simp [RowKit.intOf]; omega
          · have q : (rf S T P != 0) = true := by simp [h0]
            rw [took_no h0] at HAP
            obtain ⟨z, hz⟩ : ∃ z, z = rf S T P := ⟨_, rfl⟩
            rw [← hz] at HAP q
            clear hz h0
            go_wp2_with fail
            refine HAP.out.mono ?_
            rintro e w4 ⟨F2, rfl, hm2, hd2⟩
            have HX2 := Lib.hid (HX.out.next hm2 hd2 rfl (Nat.le_succ _))
            clear hm2 hd2 HAP c0 c1 c2
            go_wp2
            go_roundw
            case rel => exact ⟨i + 1, S, F2, Q, by omega, by go_num, HX2⟩
            case measure => simp [RowKit.intOf]; omega
        · have q : (kd != 1) = true := by simp [hk]
          have HX2 := Lib.hid HX.out.more
          clear HMA hk
          go_wp2
          go_roundw
          case rel => exact ⟨i + 1, S, F, Q, by omega, by go_num, HX2⟩
          case measure => simp [RowKit.intOf]; omega
      · have hin : i = n := by omega
        subst hin
        go_wp2_with fail
        refine (HAW.out _).mono ?_
        rintro e w9 ⟨rfl, hA9⟩
        have HA9 := Lib.hid (HX.out.at_.next hA9)
        clear hA9
        go_wp2
        go_ret
        exact ⟨rfl, HA9.out⟩

end Go.Proofs.Ytjpoiijifnfjhaa
