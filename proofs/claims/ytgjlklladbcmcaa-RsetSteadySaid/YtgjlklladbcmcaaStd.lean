/- Proved: the law RsetSteady's walk: read again, a block is the same, whatever was applied above the time meanwhile. -/
import Derived.Test.YtgjlklladbcmcaaTot
import Derived.Test.YtgjlklladbcmcaaLim
import Derived.Deep.CutBlock
import Derived.Deep.CutRange
namespace Go.Proofs.Ytgjlklladbcmcaa
open Go.RowKit
open Iv (Nm Is Vm nf nf_is is_one is_len)

/-- The read set of the law: nothing, or the one block. -/
def Lo (x : Nat) (L : List (Int × Int)) : Prop := L = [] ∨ L = [((x : Int), (1 : Int))]
theorem lo_nf {x : Nat} {L : List (Int × Int)} (h : Lo x L) (hx : x < 20) : nf (L ++ [((x : Int), (1 : Int))]) = [((x : Int), (1 : Int))] := by
  have hv : Vm ((x : Int), (1 : Int)) := by unfold Vm; simp only; omega
  have hM : Is (L ++ [((x : Int), (1 : Int))]) [((x : Int), (1 : Int))] := by
    refine ⟨Nm.one hv, fun y => ?_⟩
    rcases h with rfl | rfl
    · rfl
    · rw [Iv.in_app]; exact ⟨Or.inl, fun h => h.elim id id⟩
  have hvl : ∀ e ∈ L ++ [((x : Int), (1 : Int))], Vm e := fun e he => by
    rcases List.mem_append.1 he with he | he
    · rcases h with rfl | rfl
      · cases he
      · rw [List.mem_singleton] at he; subst he; exact hv
    · rw [List.mem_singleton] at he; subst he; exact hv
  exact is_one (nf_is hvl) hM
theorem lo_code {x n : Nat} {L : List (Int × Int)} (h : Lo x L) (hx : x < 20) (hn : n = 20) : rcode n L (x : Int) 1 = 0 :=
  rcode_ok (by omega) (by omega) (by rw [lo_nf h hx]; simp)
theorem lo_more {x n : Nat} {L : List (Int × Int)} (h : Lo x L) (hx : x < 20) (hn : n = 20) : Lo x (rdL n L (x : Int) 1) := by
  unfold rdL; rw [if_pos (lo_code h hx hn), lo_nf h hx]; exact Or.inr rfl
theorem std_bytes {x : Nat} {M : Em.St} {L : List (Int × Int)} {D : List Nat} (hM : M.n = 20) (hl : Lo x L) (hx : x < 20) (hD : (Em.rdv (M.V x) 5).2 = D) : rdB M (st0 20 16) 5 L (x : Int) 1 = D := by
  unfold rdB
  rw [if_pos (lo_code hl hx hM), Int.toNat_natCast, show (1 : Int).toNat = 1 from rfl]
  show byt [see M (st0 20 16) 5 x] = D
  rw [see_map rfl, byt_one]
  exact hD
/-- A step's cells, where only new memory has been written. -/
theorem step_cells {w : World} {b o : Nat} {L : List Stp} (h : SV w (some ⟨b, o, none⟩) L) {k : Nat} (hk : k < L.length) : ∀ W, At w W → W.cell? ⟨b, o + k * 5, none⟩ = some (.int .i64 (L.getD k sz).kind) ∧ W.cell? ⟨b, o + k * 5 + 4, none⟩ = some (.int .i64 (L.getD k sz).num) := fun W hW => by
  obtain ⟨b', o', he, _, hx⟩ := (h.on hW).pos (by omega)
  injection he with he
  injection he with h1 h2
  subst h1 h2
  exact ⟨(hx k hk).1, (hx k hk).2.2.2.2⟩

set_option maxHeartbeats 4000000 in
set_option maxRecDepth 100000 in
theorem steady_any (X : Option Addr) (L : List Stp) (n c : Nat) (hL : L.length = n) (hn : n ≤ maxLen) (hS : ∀ s ∈ L, SOk s) (a : Int) (w : World) (hv : SV w X L) :
    Calls Try.prog 4 #[.slice X n c, .int .i64 a] w (Gives (.bool true) w) := by
  have HSM := Lib.hid (small_any X L n c hL hn hS w hv)
  have HN := Lib.hid hL
  have HSV := Lib.hid hv
  have HSO := Lib.hid hS
  have HAW := Lib.hid awake_any
  have HNW := Lib.hid (fresh_any 20 (by omega) (by omega) 5)
  rw [show ((20 : Nat) : Int) = 20 from rfl] at HNW
  have HRN := Lib.hid (fun W => round_any a 20 (by omega) (by omega) W)
  rw [show ((20 : Nat) : Int) = 20 from rfl] at HRN
  have hx := rd_lt a 20 (by omega)
  obtain ⟨x, hxe⟩ : ∃ x, x = rd a 20 := ⟨_, rfl⟩
  rw [← hxe] at HRN hx
  clear hxe hL hn hS hv
  go_enter Try.func4, Try.ntmps4
  go_wp2_with fail
  refine HSM.out.mono ?_
  rintro e w1 ⟨r, rfl, hf, hA⟩
  have HA1 : Hid (At w w1) := Lib.hid hA
  have HFW := Lib.hid hf
  clear hA hf HSM
  cases r
  · go_wp2_with fail
    refine (HAW.out _).mono ?_
    rintro e w2 ⟨rfl, hA2⟩
    have HA2 := Lib.hid (HA1.out.next hA2)
    clear hA2
    go_wp2
    go_ret
    exact ⟨rfl, HA2.out⟩
  · have HFE := Lib.hid (HFW.out rfl)
    have hn120 : n ≤ 120 := by rw [← HN.out]; exact HFE.out.1
    go_wp2_with fail
    refine (HNW.out _).mono ?_
    rintro e w2 ⟨A, F, rfl, hW, -, -⟩
    have HW2 : Hid (Ww w w2 F A (Em.st0 20) (st0 20 16) 5 [] []) := Lib.hid (hW.back HA1.out)
    clear hW HFW
    go_wp2_with fail
    refine (HRN.out _).mono ?_
    rintro e w' ⟨rfl, rfl⟩
    go_upto_block 0 with fail
    go_cut [7] from 25 to 62 (fun c7 wx => ∃ (i : Nat) (M : Em.St) (F : Nat → Nat → Prop), c7 = .int .i64 (i : Int) ∧ Hid (Ww w wx F A M (st0 20 16) 5 [] [] ∧ M.n = 20 ∧ M.c ≤ n))
    case first =>
      go_wp2_with fail
      go_loopw [7] (fun c7 wr => ∃ (i : Nat) (M : Em.St) (F : Nat → Nat → Prop), i ≤ n ∧ c7 = .int .i64 (i : Int) ∧ Hid (Ww w wr F A M (st0 20 16) 5 [] [] ∧ M.n = 20 ∧ M.c ≤ i)) (fun c7 _ => n - (RowKit.intOf c7).toNat)
      case atStart => exact ⟨0, Em.st0 20, F, Nat.zero_le _, rfl, Lib.hid ⟨HW2.out, rfl, Nat.le_refl _⟩⟩
      case round =>
        obtain ⟨i, M, F, hi, rfl, HX⟩ := hrel
        have HEX : Hid (Ww w wr F A M (st0 20 16) 5 [] [] ∧ M.n = 20 ∧ M.c ≤ n) := Lib.hid ⟨HX.out.1, HX.out.2.1, Nat.le_trans HX.out.2.2 hi⟩
        by_cases hlt : i < n
        · have hkL : i < L.length := by rw [HN.out]; exact hlt
          obtain ⟨b, o, rfl, hbl, hcx⟩ := HSV.out.pos (by omega)
          obtain ⟨s0, -, -, ⟨B, cb, s3, hpv⟩, s4⟩ := hcx i hkL
          have hso := HSO.out _ (step_mem hkL)
          have hfew := HFE.out.2 i hkL
          obtain ⟨s, hs⟩ : ∃ s, s = L.getD i sz := ⟨_, rfl⟩
          rw [← hs] at s0 s3 hpv s4 hso hfew
          obtain ⟨kd, ea, em, P, nm⟩ := s
          simp only at s0 s3 hpv s4 hfew
          obtain ⟨m, hm⟩ : ∃ m, m = P.length := ⟨_, rfl⟩
          rw [← hm] at s3 hfew
          have HC : Hid (∀ W, At w W → W.cell? ⟨b, o + i * 5, none⟩ = some (.int .i64 kd) ∧ W.cell? ⟨b, o + i * 5 + 3, none⟩ = some (.slice B m cb) ∧ W.cell? ⟨b, o + i * 5 + 4, none⟩ = some (.int .i64 nm)) := Lib.hid fun W hW => ⟨(Below.cell hW (p := ⟨b, o + i * 5, none⟩) hbl).trans s0, (Below.cell hW (p := ⟨b, o + i * 5 + 3, none⟩) hbl).trans s3, (Below.cell hW (p := ⟨b, o + i * 5 + 4, none⟩) hbl).trans s4⟩
          have HPV : Hid (P.length = m ∧ PV w B P ∧ AllBy P) := Lib.hid ⟨hm.symm, hpv, fun p hp => (hso.1 p hp).1⟩
          have g1 : (0 : Int) ≤ (i : Int) := by omega
          have g2 : (i : Int) < (n : Int) := by omega
          clear hcx hs s0 s3 s4 hm hpv hso hkL hbl
          obtain ⟨d0, d3, d4⟩ := HC.out wr HX.out.1.at_
          by_cases hk3 : kd = 3
          · have q1 : (kd == 3) = true := by rw [hk3]; rfl
            by_cases h5 : nm ≤ 5
            · have q2 : decide (nm ≤ 5) = true := decide_eq_true h5
              have HCB : Hid (∀ W, At wr W → W.cell? ⟨A.bw, 0, none⟩ = some (.pointer (some ⟨A.bm, 0, none⟩))) := Lib.hid fun W hA => (HX.out.1.on hA).cells.1
              have d1 := HCB.out wr (At.start _)
              have HAP : Hid (∀ W, At wr W → Calls Try.prog 16 #[.pointer (some ⟨A.bm, 0, none⟩), .agg #[.int .i64 nm, .slice B m cb]] W fun e w' => ∃ z F', e = .returned (.int .i64 z) ∧ Ww w w' F' A (Em.took M nm P) (st0 20 16) 5 [] [] ∧ Fo F 0 F' W ∧ Mv (F 0) W w') := Lib.hid fun W hW => (HX.out.1.on hW).applyz nm B P m cb HPV.out.1 (by omega) HPV.out.2.1 HPV.out.2.2 (by have := HX.out.2.2; omega)
              clear hk3 h5
              go_wp2_with fail
              go_region_held3 (fun w' => w'.cell? ⟨A.bw, 0, none⟩ = some (.pointer (some ⟨A.bm, 0, none⟩)) ∧ w'.cell? ⟨b, o + i * 5 + 3, none⟩ = some (.slice B m cb) ∧ w'.cell? ⟨b, o + i * 5 + 4, none⟩ = some (.int .i64 nm)) (go_keep)
                ((go_at_call 16; refine (HAP.out _ ((At.start wr).drewN 1)).mono ?_; rintro e w5 ⟨z5, F5, rfl, hW5, -, -⟩; have HW5 := Lib.hid hW5; obtain ⟨e0, e3, e4⟩ := HC.out w5 hW5.at_; have e1 := hW5.cells.1; clear hW5))
              go_wp2
              go_roundw
              case rel => exact ⟨i + 1, _, F5, by omega, by go_num, Lib.hid ⟨HW5.out, (Em.took_n _ _ _).trans HX.out.2.1, Nat.le_trans (Em.took_c _ _ _) (by have := HX.out.2.2; omega)⟩⟩
              case measure => simp [RowKit.intOf]; omega
            · have q2 : decide (nm ≤ 5) = false := decide_eq_false h5
              clear hk3 h5
              go_wp2_with fail
              go_meet
              case rel => exact ⟨i, M, F, rfl, HEX⟩
          · have q1 : (kd == 3) = false := by simpa using hk3
            clear hk3
            go_wp2_with fail
            go_meet
            case rel => exact ⟨i, M, F, rfl, HEX⟩
        · go_wp2_with fail
          go_meet
          case rel => exact ⟨i, M, F, rfl, HEX⟩
    obtain ⟨i0, M1, F1, rfl, HX1⟩ := hcut
    clear HW2
    have c2 := HX1.out.1.cells.2.2.1
    have HDL0 : Hid ((Em.rdv (M1.V x) 5).2.length = 40 ∧ AllB (Em.rdv (M1.V x) 5).2) := Lib.hid ⟨HX1.out.1.m.ok.rd_len x 5, HX1.out.1.m.ok.rd_byte x 5⟩
    obtain ⟨D, hDe⟩ : ∃ D, D = (Em.rdv (M1.V x) 5).2 := ⟨_, rfl⟩
    rw [← hDe] at HDL0
    have HDL := HDL0
    have HDE := Lib.hid hDe
    clear hDe HDL0
    have HRD := Lib.hid (HX1.out.1.read_ok (by simp) (x : Int) 1 (lo_code (Or.inl rfl) hx HX1.out.2.1) (std_bytes HX1.out.2.1 (Or.inl rfl) hx HDE.out.symm) HDL.out.1)
    have HRL : Hid ((rdR M1 (st0 20 16) 5 [] [] (x : Int) 1).length ≤ 1) := Lib.hid (by
      unfold rdR
      rw [if_pos (lo_code (Or.inl rfl) hx HX1.out.2.1), List.length_append, sees_len]; simp)
    go_wp2_with fail
    refine HRD.out.mono ?_
    rintro e w3 ⟨g, cw, F3, rfl, hb3, -, hW3, -, -, hfre⟩
    have HX3 : Hid (Ww w w3 F3 A M1 (st0 20 16) 5 (rdL M1.n [] (x : Int) 1) (rdR M1 (st0 20 16) 5 [] [] (x : Int) 1) ∧ M1.n = 20 ∧ M1.c ≤ n + 0 ∧ Lo x (rdL M1.n [] (x : Int) 1) ∧ (rdR M1 (st0 20 16) 5 [] [] (x : Int) 1).length ≤ 1 + 0 ∧ (Em.rdv (M1.V x) 5).2 = D ∧ BV w3 (some ⟨g, 0, none⟩) D ∧ Fre F3 w3 g) := Lib.hid ⟨hW3, HX1.out.2.1, HX1.out.2.2, lo_more (Or.inl rfl) hx HX1.out.2.1, HRL.out, HDE.out.symm, hb3, hfre⟩
    clear hb3 hW3 hfre c2 HRD HRL HX1 HDE
    go_wp2_with fail
    go_loopw [10] (fun c10 wr => ∃ (i : Nat) (M : Em.St) (F : Nat → Nat → Prop) (L' : List (Int × Int)) (R' : List Rd), i ≤ n ∧ c10 = .int .i64 (i : Int) ∧ Hid (Ww w wr F A M (st0 20 16) 5 L' R' ∧ M.n = 20 ∧ M.c ≤ n + i ∧ Lo x L' ∧ R'.length ≤ 1 + i ∧ (Em.rdv (M.V x) 5).2 = D ∧ BV wr (some ⟨g, 0, none⟩) D ∧ Fre F wr g)) (fun c10 _ => n - (RowKit.intOf c10).toNat)
    case atStart => exact ⟨0, M1, F3, _, _, Nat.zero_le _, rfl, HX3⟩
    case round =>
      clear HX3
      obtain ⟨i, M, F, L', R', hi, rfl, HX⟩ := hrel
      by_cases hlt : i < n
      · have hkL : i < L.length := by rw [HN.out]; exact hlt
        obtain ⟨b, o, rfl, hbl, hcx⟩ := HSV.out.pos (by omega)
        obtain ⟨s0, -, -, ⟨B, cb, s3, hpv⟩, s4⟩ := hcx i hkL
        have hso := HSO.out _ (step_mem hkL)
        have hfew := HFE.out.2 i hkL
        obtain ⟨s, hs⟩ : ∃ s, s = L.getD i sz := ⟨_, rfl⟩
        rw [← hs] at s0 s3 hpv s4 hso hfew
        obtain ⟨kd, ea, em, P, nm⟩ := s
        simp only at s0 s3 hpv s4 hfew
        obtain ⟨m, hm⟩ : ∃ m, m = P.length := ⟨_, rfl⟩
        rw [← hm] at s3 hfew
        have HC : Hid (∀ W, At w W → W.cell? ⟨b, o + i * 5, none⟩ = some (.int .i64 kd) ∧ W.cell? ⟨b, o + i * 5 + 3, none⟩ = some (.slice B m cb) ∧ W.cell? ⟨b, o + i * 5 + 4, none⟩ = some (.int .i64 nm)) := Lib.hid fun W hW => ⟨(Below.cell hW (p := ⟨b, o + i * 5, none⟩) hbl).trans s0, (Below.cell hW (p := ⟨b, o + i * 5 + 3, none⟩) hbl).trans s3, (Below.cell hW (p := ⟨b, o + i * 5 + 4, none⟩) hbl).trans s4⟩
        have HPV : Hid (P.length = m ∧ PV w B P ∧ AllBy P) := Lib.hid ⟨hm.symm, hpv, fun p hp => (hso.1 p hp).1⟩
        have g1 : (0 : Int) ≤ (i : Int) := by omega
        have g2 : (i : Int) < (n : Int) := by omega
        clear hcx hs s0 s3 s4 hm hpv hso hkL hbl
        obtain ⟨d0, d3, d4⟩ := HC.out wr HX.out.1.at_
        have HLO : Hid (Lo x L' ∧ R'.length ≤ 1 + i) := Lib.hid ⟨HX.out.2.2.2.1, HX.out.2.2.2.2.1⟩
        by_cases hgo : kd = 3 ∧ 5 < nm
        · obtain ⟨hk3, h5⟩ := hgo
          have q1 : (kd == 3) = true := by rw [hk3]; rfl
          have q2 : decide ((5 : Int) < nm) = true := decide_eq_true h5
          have HLT := Lib.hid h5
          have HCB : Hid (∀ W, At wr W → W.cell? ⟨A.bw, 0, none⟩ = some (.pointer (some ⟨A.bm, 0, none⟩))) := Lib.hid fun W hA => (HX.out.1.on hA).cells.1
          have d1 := HCB.out wr (At.start _)
          have HAP : Hid (∀ W, At wr W → Calls Try.prog 16 #[.pointer (some ⟨A.bm, 0, none⟩), .agg #[.int .i64 nm, .slice B m cb]] W fun e w' => ∃ z F', e = .returned (.int .i64 z) ∧ Ww w w' F' A (Em.took M nm P) (st0 20 16) 5 L' R' ∧ Fo F 0 F' W ∧ Mv (F 0) W w') := Lib.hid fun W hW => (HX.out.1.on hW).applyz nm B P m cb HPV.out.1 (by omega) HPV.out.2.1 HPV.out.2.2 (by have := HX.out.2.2.1; omega)
          clear hk3 h5
          go_wp2_with fail
          go_region_held3 (fun w' => w'.cell? ⟨A.bw, 0, none⟩ = some (.pointer (some ⟨A.bm, 0, none⟩)) ∧ w'.cell? ⟨b, o + i * 5 + 3, none⟩ = some (.slice B m cb) ∧ w'.cell? ⟨b, o + i * 5 + 4, none⟩ = some (.int .i64 nm)) (go_keep)
            ((go_at_call 16; refine (HAP.out _ ((At.start wr).drewN 1)).mono ?_; rintro e w5 ⟨z5, F5, rfl, hW5, hfo5, hmv5⟩; have HW5 := Lib.hid hW5; have HF5 := Lib.hid (And.intro hfo5 hmv5); obtain ⟨e0, e3, e4⟩ := HC.out w5 hW5.at_; have e1 := hW5.cells.1; clear hW5 hfo5 hmv5))
          have HX2 : Hid (Ww w w5 F5 A (Em.took M nm P) (st0 20 16) 5 L' R' ∧ (Em.took M nm P).n = 20 ∧ (Em.took M nm P).c ≤ n + (i + 1) ∧ (Em.rdv ((Em.took M nm P).V x) 5).2 = D ∧ BV w5 (some ⟨g, 0, none⟩) D ∧ Fre F5 w5 g) := Lib.hid ⟨HW5.out, (Em.took_n _ _ _).trans HX.out.2.1, Nat.le_trans (Em.took_c _ _ _) (by have := HX.out.2.2.1; omega), by rw [Em.rd_took 5 HLT.out x]; exact HX.out.2.2.2.2.2.1, bv_mv (HX.out.2.2.2.2.2.2.1.drewN 1) HF5.out.2 (HX.out.2.2.2.2.2.2.2.1 0), HX.out.2.2.2.2.2.2.2.turn HF5.out.1 HF5.out.2.size⟩
          clear HW5 HF5 HX d0 d1 d3 d4 e0 e1 e3 e4 HAP HCB HC HPV HLT
          obtain ⟨M5, hM5⟩ : ∃ M5, M5 = Em.took M nm P := ⟨_, rfl⟩
          rw [← hM5] at HX2
          clear hM5
          have c2 := HX2.out.1.cells.2.2.1
          have HRD := Lib.hid (HX2.out.1.read_ok (by have := HLO.out.2; omega) (x : Int) 1 (lo_code HLO.out.1 hx HX2.out.2.1) (std_bytes HX2.out.2.1 HLO.out.1 hx HX2.out.2.2.2.1) HDL.out.1)
          have HRL : Hid ((rdR M5 (st0 20 16) 5 L' R' (x : Int) 1).length ≤ 1 + (i + 1)) := Lib.hid (by
            unfold rdR
            rw [if_pos (lo_code HLO.out.1 hx HX2.out.2.1), List.length_append, sees_len]
            have := HLO.out.2
            rw [show (1 : Int).toNat = 1 from rfl]; omega)
          go_wp2_with fail
          refine HRD.out.mono ?_
          rintro e w7 ⟨g7, c7, F7, rfl, hb7, -, hW7, hfo, hmv, -⟩
          have hwas : BV w7 (some ⟨g, 0, none⟩) D := bv_mv HX2.out.2.2.2.2.1 hmv (HX2.out.2.2.2.2.2.1 2)
          have hfre := HX2.out.2.2.2.2.2.turn hfo hmv.size
          have HX7 : Hid (∀ W, At w7 W → Ww w W F7 A M5 (st0 20 16) 5 (rdL M5.n L' (x : Int) 1) (rdR M5 (st0 20 16) 5 L' R' (x : Int) 1) ∧ M5.n = 20 ∧ M5.c ≤ n + (i + 1) ∧ Lo x (rdL M5.n L' (x : Int) 1) ∧ (rdR M5 (st0 20 16) 5 L' R' (x : Int) 1).length ≤ 1 + (i + 1) ∧ (Em.rdv (M5.V x) 5).2 = D ∧ BV W (some ⟨g, 0, none⟩) D ∧ Fre F7 W g) := Lib.hid fun W hW => ⟨hW7.on hW, HX2.out.2.1, HX2.out.2.2.1, lo_more HLO.out.1 hx HX2.out.2.1, HRL.out, HX2.out.2.2.2.1, hwas.below hW, hfre.1, Nat.lt_of_lt_of_le hfre.2 hW.size⟩
          have HBY := Lib.hid (bytes_any (some ⟨g7, 0, none⟩) (some ⟨g, 0, none⟩) 40 c7 cw D D w7 (by omega) HDL.out.1 HDL.out.1 HDL.out.2 HDL.out.2 hb7 hwas)
          rw [decide_eq_true (rfl : D = D)] at HBY
          clear hb7 hW7 hfo hmv hwas hfre c2 HRD HRL HX2
          go_wp2_with fail
          refine HBY.out.mono ?_
          rintro e w8 ⟨rfl, kk, rfl⟩
          have HX8 := Lib.hid (HX7.out _ ((At.start w7).drewN kk))
          go_wp2
          go_roundw
          case rel => exact ⟨i + 1, M5, F7, _, _, by omega, by go_num, HX8⟩
          case measure => simp [RowKit.intOf]; omega
        · have HX2 : Hid (Ww w wr F A M (st0 20 16) 5 L' R' ∧ M.n = 20 ∧ M.c ≤ n + (i + 1) ∧ (Em.rdv (M.V x) 5).2 = D ∧ BV wr (some ⟨g, 0, none⟩) D ∧ Fre F wr g) := Lib.hid ⟨HX.out.1, HX.out.2.1, by have := HX.out.2.2.1; omega, HX.out.2.2.2.2.2.1, HX.out.2.2.2.2.2.2.1, HX.out.2.2.2.2.2.2.2⟩
          obtain ⟨M5, hM5⟩ : ∃ M5, M5 = M := ⟨_, rfl⟩
          rw [← hM5] at HX2
          clear hM5 HX d3 HC HPV
          by_cases hk3 : kd = 3
          · have q1 : (kd == 3) = true := by rw [hk3]; rfl
            have q2 : decide ((5 : Int) < nm) = false := decide_eq_false fun h => hgo ⟨hk3, h⟩
            clear hk3 hgo
            have c2 := HX2.out.1.cells.2.2.1
            have HRD := Lib.hid (HX2.out.1.read_ok (by have := HLO.out.2; omega) (x : Int) 1 (lo_code HLO.out.1 hx HX2.out.2.1) (std_bytes HX2.out.2.1 HLO.out.1 hx HX2.out.2.2.2.1) HDL.out.1)
            have HRL : Hid ((rdR M5 (st0 20 16) 5 L' R' (x : Int) 1).length ≤ 1 + (i + 1)) := Lib.hid (by
              unfold rdR
              rw [if_pos (lo_code HLO.out.1 hx HX2.out.2.1), List.length_append, sees_len]
              have := HLO.out.2
              rw [show (1 : Int).toNat = 1 from rfl]; omega)
            go_wp2_with fail
            refine HRD.out.mono ?_
            rintro e w7 ⟨g7, c7, F7, rfl, hb7, -, hW7, hfo, hmv, -⟩
            have hwas : BV w7 (some ⟨g, 0, none⟩) D := bv_mv HX2.out.2.2.2.2.1 hmv (HX2.out.2.2.2.2.2.1 2)
            have hfre := HX2.out.2.2.2.2.2.turn hfo hmv.size
            have HX7 : Hid (∀ W, At w7 W → Ww w W F7 A M5 (st0 20 16) 5 (rdL M5.n L' (x : Int) 1) (rdR M5 (st0 20 16) 5 L' R' (x : Int) 1) ∧ M5.n = 20 ∧ M5.c ≤ n + (i + 1) ∧ Lo x (rdL M5.n L' (x : Int) 1) ∧ (rdR M5 (st0 20 16) 5 L' R' (x : Int) 1).length ≤ 1 + (i + 1) ∧ (Em.rdv (M5.V x) 5).2 = D ∧ BV W (some ⟨g, 0, none⟩) D ∧ Fre F7 W g) := Lib.hid fun W hW => ⟨hW7.on hW, HX2.out.2.1, HX2.out.2.2.1, lo_more HLO.out.1 hx HX2.out.2.1, HRL.out, HX2.out.2.2.2.1, hwas.below hW, hfre.1, Nat.lt_of_lt_of_le hfre.2 hW.size⟩
            have HBY := Lib.hid (bytes_any (some ⟨g7, 0, none⟩) (some ⟨g, 0, none⟩) 40 c7 cw D D w7 (by omega) HDL.out.1 HDL.out.1 HDL.out.2 HDL.out.2 hb7 hwas)
            rw [decide_eq_true (rfl : D = D)] at HBY
            clear hb7 hW7 hfo hmv hwas hfre c2 HRD HRL HX2
            go_wp2_with fail
            refine HBY.out.mono ?_
            rintro e w8 ⟨rfl, kk, rfl⟩
            have HX8 := Lib.hid (HX7.out _ ((At.start w7).drewN kk))
            go_wp2
            go_roundw
            case rel => exact ⟨i + 1, M5, F7, _, _, by omega, by go_num, HX8⟩
            case measure => simp [RowKit.intOf]; omega
          · have q1 : (kd == 3) = false := by simpa using hk3
            clear hk3 hgo
            have c2 := HX2.out.1.cells.2.2.1
            have HRD := Lib.hid (HX2.out.1.read_ok (by have := HLO.out.2; omega) (x : Int) 1 (lo_code HLO.out.1 hx HX2.out.2.1) (std_bytes HX2.out.2.1 HLO.out.1 hx HX2.out.2.2.2.1) HDL.out.1)
            have HRL : Hid ((rdR M5 (st0 20 16) 5 L' R' (x : Int) 1).length ≤ 1 + (i + 1)) := Lib.hid (by
              unfold rdR
              rw [if_pos (lo_code HLO.out.1 hx HX2.out.2.1), List.length_append, sees_len]
              have := HLO.out.2
              rw [show (1 : Int).toNat = 1 from rfl]; omega)
            go_wp2_with fail
            refine HRD.out.mono ?_
            rintro e w7 ⟨g7, c7, F7, rfl, hb7, -, hW7, hfo, hmv, -⟩
            have hwas : BV w7 (some ⟨g, 0, none⟩) D := bv_mv HX2.out.2.2.2.2.1 hmv (HX2.out.2.2.2.2.2.1 2)
            have hfre := HX2.out.2.2.2.2.2.turn hfo hmv.size
            have HX7 : Hid (∀ W, At w7 W → Ww w W F7 A M5 (st0 20 16) 5 (rdL M5.n L' (x : Int) 1) (rdR M5 (st0 20 16) 5 L' R' (x : Int) 1) ∧ M5.n = 20 ∧ M5.c ≤ n + (i + 1) ∧ Lo x (rdL M5.n L' (x : Int) 1) ∧ (rdR M5 (st0 20 16) 5 L' R' (x : Int) 1).length ≤ 1 + (i + 1) ∧ (Em.rdv (M5.V x) 5).2 = D ∧ BV W (some ⟨g, 0, none⟩) D ∧ Fre F7 W g) := Lib.hid fun W hW => ⟨hW7.on hW, HX2.out.2.1, HX2.out.2.2.1, lo_more HLO.out.1 hx HX2.out.2.1, HRL.out, HX2.out.2.2.2.1, hwas.below hW, hfre.1, Nat.lt_of_lt_of_le hfre.2 hW.size⟩
            have HBY := Lib.hid (bytes_any (some ⟨g7, 0, none⟩) (some ⟨g, 0, none⟩) 40 c7 cw D D w7 (by omega) HDL.out.1 HDL.out.1 HDL.out.2 HDL.out.2 hb7 hwas)
            rw [decide_eq_true (rfl : D = D)] at HBY
            clear hb7 hW7 hfo hmv hwas hfre c2 HRD HRL HX2
            go_wp2_with fail
            refine HBY.out.mono ?_
            rintro e w8 ⟨rfl, kk, rfl⟩
            have HX8 := Lib.hid (HX7.out _ ((At.start w7).drewN kk))
            go_wp2
            go_roundw
            case rel => exact ⟨i + 1, M5, F7, _, _, by omega, by go_num, HX8⟩
            case measure => simp [RowKit.intOf]; omega
      · have HAT := Lib.hid HX.out.1.at_
        clear HX
        go_wp2_with fail
        refine (HAW.out _).mono ?_
        rintro e w9 ⟨rfl, hA⟩
        have HE := Lib.hid (HAT.out.next hA)
        clear hA
        go_wp2
        go_ret
        exact ⟨rfl, HE.out⟩

end Go.Proofs.Ytgjlklladbcmcaa
