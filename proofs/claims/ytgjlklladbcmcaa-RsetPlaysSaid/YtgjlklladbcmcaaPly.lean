/- Proved: the law RsetPlays' walk: whatever is read, written and applied in turns, both sides answer alike. -/
import Derived.Test.YtgjlklladbcmcaaPa
import Derived.Deep.RegionHeld3
import Derived.Deep.CutBlock
import Derived.Deep.CutRange
namespace Go.Proofs.Ytgjlklladbcmcaa
open Go.RowKit
open Iv (Nm Is Vm nf nf_is is_one is_len)

set_option maxHeartbeats 4000000 in
set_option maxRecDepth 100000 in
theorem plays_any (a0 t : Int) (X : Option Addr) (L : List Stp) (n c : Nat) (hL : L.length = n) (hn : n ≤ maxLen) (hS : ∀ s ∈ L, SOk s) (w : World) (hv : SV w X L) :
    Calls Try.prog 3 #[.int .i64 a0, .int .i64 t, .slice X n c] w (Gives (.bool true) w) := by
  have HSM := Lib.hid (small_any X L n c hL hn hS w hv)
  have HN := Lib.hid hL
  have HSV := Lib.hid hv
  have HSO := Lib.hid hS
  have HAW := Lib.hid awake_any
  clear hL hn hS hv
  go_enter Try.func3, Try.ntmps3
  go_wp2_with fail
  refine HSM.out.mono ?_
  rintro e w1 ⟨r, rfl, hf, hA⟩
  have HA1 : Hid (At w w1) := Lib.hid hA
  have HFW := Lib.hid hf
  clear hA hf HSM
  by_cases hgo : r = true ∧ 1 ≤ a0 ∧ a0 ≤ 100
  case neg =>
    have hno : (r = false) ∨ (r = true ∧ a0 < 1) ∨ (r = true ∧ ¬ a0 < 1 ∧ 100 < a0) := by
      cases r
      · exact Or.inl rfl
      · by_cases h1 : a0 < 1
        · exact Or.inr (Or.inl ⟨rfl, h1⟩)
        · exact Or.inr (Or.inr ⟨rfl, h1, by have : ¬ (1 ≤ a0 ∧ a0 ≤ 100) := fun h => hgo ⟨rfl, h⟩; omega⟩)
    rcases hno with rfl | ⟨rfl, h1⟩ | ⟨rfl, h1, h2⟩
    · clear hgo
      go_wp2_with fail
      refine (HAW.out _).mono ?_
      rintro e w2 ⟨rfl, hA2⟩
      have HA2 := Lib.hid (HA1.out.next hA2)
      clear hA2
      go_wp2
      go_ret
      exact ⟨rfl, HA2.out⟩
    · have q1 : decide (a0 < 1) = true := decide_eq_true h1
      clear hgo h1
      go_wp2_with fail
      refine (HAW.out _).mono ?_
      rintro e w2 ⟨rfl, hA2⟩
      have HA2 := Lib.hid (HA1.out.next hA2)
      clear hA2
      go_wp2
      go_ret
      exact ⟨rfl, HA2.out⟩
    · have q1 : decide (a0 < 1) = false := decide_eq_false h1
      have q2 : decide ((100 : Int) < a0) = true := decide_eq_true h2
      clear hgo h1 h2
      go_wp2_with fail
      refine (HAW.out _).mono ?_
      rintro e w2 ⟨rfl, hA2⟩
      have HA2 := Lib.hid (HA1.out.next hA2)
      clear hA2
      go_wp2
      go_ret
      exact ⟨rfl, HA2.out⟩
  case pos =>
    obtain ⟨rfl, h1, h2⟩ := hgo
    have HFE := Lib.hid (HFW.out rfl)
    have hn120 : n ≤ 120 := by rw [← HN.out]; exact HFE.out.1
    obtain ⟨nb, rfl⟩ : ∃ nb : Nat, a0 = (nb : Int) := ⟨a0.toNat, by omega⟩
    have q1 : decide ((nb : Int) < 1) = false := decide_eq_false (by omega)
    have q2 : decide ((100 : Int) < (nb : Int)) = false := decide_eq_false (by omega)
    have HNW := Lib.hid (fresh_any nb (by omega) (by omega) t)
    have HNB : Hid (nb ≤ 100) := Lib.hid (by omega)
    clear h1 h2 HFW
    go_wp2_with fail
    refine (HNW.out _).mono ?_
    rintro e w2 ⟨A, F, rfl, hW, hD, f3, f4, f5⟩
    have HP0 : Hid (Lp w w2 F A t nb 0 (Em.st0 nb) (st0 nb 16) [] [] 0) := Lib.hid ⟨(py_new hW hD f3 f4 f5).back HA1.out, rfl, Nat.le_refl _, Nat.zero_le _, Nat.zero_le _, fun x hx => by cases hx⟩
    clear hW hD f3 f4 f5 HNW q1 q2
    go_wp2_with fail
    go_loopw [9] (fun c9 wr => ∃ (i : Nat) (F : Nat → Nat → Prop) (M : Em.St) (B : St) (L' : List (Int × Int)) (R' : List Rd) (N : Nat), i ≤ n ∧ c9 = .int .i64 (i : Int) ∧ Hid (Lp w wr F A t nb i M B L' R' N)) (fun c9 _ => n - (RowKit.intOf c9).toNat)
    case atStart => exact ⟨0, F, _, _, _, _, _, Nat.zero_le _, rfl, HP0⟩
    case round =>
      clear HP0
      obtain ⟨i, F, M, B, L', R', N, hi, rfl, HP⟩ := hrel
      by_cases hlt : i < n
      · obtain ⟨b, o, kd, ea, em, nm, P, B3, m, cb, rfl, hPm, hm2, hpv, hpb, hcx⟩ := step_take HSV.out HN.out hlt HSO.out HFE.out
        obtain ⟨s0, s1, s2, s3, s4⟩ := hcx wr HP.out.py.at_
        have HPV : Hid (P.length = m ∧ m ≤ 20000 ∧ PV w B3 P ∧ AllBy P) := Lib.hid ⟨hPm, hm2, hpv, hpb⟩
        have HAL : Hid (i < 120 ∧ M.n ≤ 1048576) := Lib.hid ⟨by omega, HP.out.py.ww.m.ok.n2⟩
        have g1 : (0 : Int) ≤ (i : Int) := by omega
        have g2 : (i : Int) < (n : Int) := by omega
        obtain ⟨q, hq⟩ : ∃ q, q = wr.heap.size := ⟨_, rfl⟩
        obtain ⟨wa, hwa⟩ : ∃ wa, wa = wr.alloc (.cells #[.int .i64 kd, .int .i64 ea, .int .i64 em, .slice B3 m cb, .int .i64 nm] 32) := ⟨_, rfl⟩
        have hAa : At wr wa := by rw [hwa]; exact (At.start _).alloc _
        have HPA := Lib.hid (HP.out.on hAa)
        have HBQ : Hid (wa.heap[q]? = some (.cells #[.int .i64 kd, .int .i64 ea, .int .i64 em, .slice B3 m cb, .int .i64 nm] 32 (0, 0))) := Lib.hid (by rw [hwa, hq]; exact heap_alloc_new wr _)
        have HFQ : Hid (Fre F wa q) := Lib.hid ⟨fun j hj => by have := HP.out.py.ww.al.lt j q hj; omega, lt_heap HBQ.out⟩
        have HSE := Lib.hid hq
        have HWA := Lib.hid hwa
        have HC : Hid (∀ W, At wa W → W.cell? ⟨q, 0, none⟩ = some (.int .i64 kd) ∧ W.cell? ⟨q, 1, none⟩ = some (.int .i64 ea) ∧ W.cell? ⟨q, 2, none⟩ = some (.int .i64 em) ∧ W.cell? ⟨q, 3, none⟩ = some (.slice B3 m cb) ∧ W.cell? ⟨q, 4, none⟩ = some (.int .i64 nm)) := Lib.hid fun W hW => stc_cells (hW.keep HBQ.out)
        have HCW : Hid (∀ W, At wa W → W.cell? ⟨A.bw, 0, none⟩ = some (.pointer (some ⟨A.bm, 0, none⟩)) ∧ W.cell? ⟨A.bw, 1, none⟩ = some (.pointer (some ⟨A.bb, 0, none⟩)) ∧ W.cell? ⟨A.bw, 2, none⟩ = some (.pointer (some ⟨A.bv, 0, none⟩)) ∧ W.cell? ⟨A.bw, 3, none⟩ = some (.pointer (some ⟨A.dx, 0, none⟩)) ∧ W.cell? ⟨A.bw, 4, none⟩ = some (.pointer (some ⟨A.dy, 0, none⟩)) ∧ W.cell? ⟨A.bw, 5, none⟩ = some (.pointer (some ⟨A.dz, 0, none⟩))) := Lib.hid fun W hW => (HPA.out.py.ww.on hW).cells
        obtain ⟨d0, d1, d2, d3, d4⟩ := HC.out wa (At.start _)
        obtain ⟨c0, c1, c2, c3, c4, c5⟩ := HCW.out wa (At.start _)
        clear hcx hPm hm2 hpv hpb hq hwa hAa HP
        go_upto_block 2 with fail
        rw [← HWA.out, ← HSE.out]
        clear s0 s1 s2 s3 s4 HSE HWA
        by_cases hk1 : kd = 1
        · have q1 : (kd == 1) = true := by rw [hk1]; rfl
          obtain ⟨D, hD⟩ : ∃ D, rdB M B t L' ea em = D := ⟨_, rfl⟩
          obtain ⟨u, hu⟩ : ∃ u, D.length = u := ⟨_, rfl⟩
          obtain ⟨z, hz⟩ : ∃ z, rcode M.n L' ea em = z := ⟨_, rfl⟩
          have hby := rdB_by HPA.out.py.ww.m.ok HPA.out.py.ww.b.ok t L' ea em
          rw [hD, hu] at hby
          have HDY : Hid (D.length = u ∧ AllB D ∧ u ≤ 640) := Lib.hid ⟨hu, hby⟩
          have nz : (z != z) = false := by simp
          have HR1 := Lib.hid (And.intro HPA.out.R_ (And.intro HPA.out.N_ HAL.out))
          have HRD : Hid (∀ W, At wa W → Calls Try.prog 11 #[.pointer (some ⟨A.bv, 0, none⟩), .agg #[.int .i64 ea, .int .i64 em]] W fun e w' => ∃ Y cy F', e = .returned (.tuple #[.slice Y u cy, .int .i64 z]) ∧ Py w w' F' A t M B (rdL M.n L' ea em) (rdR M B t L' R' ea em) M N B L' R' ∧ (Fre F' w' q ∧ w'.heap[q]? = some (.cells #[.int .i64 kd, .int .i64 ea, .int .i64 em, .slice B3 m cb, .int .i64 nm] 32 (0, 0))) ∧ ∀ W1 W', At w' W1 → Mv (fun g => F' 5 g ∨ W1.heap.size ≤ g) W1 W' → BV W' Y D) := Lib.hid fun W hW =>
            ((HPA.out.py.on hW).read (by have := HR1.out; omega) ea em hD hu hz).mono fun _ _ ⟨Y, cy, F', he, hp, hk, hb⟩ => ⟨Y, cy, F', he, hp, hk.step hW HFQ.out HBQ.out, hb⟩
          have HDZ := Lib.hid (And.intro hD (And.intro hu hz))
          clear hk1 hD hu hz hby c0 c1 c3 c4 c5 d3 d4
          go_wp2_with fail
          go_region_held3 (fun w' => w'.cell? ⟨A.bw, 2, none⟩ = some (.pointer (some ⟨A.bv, 0, none⟩)) ∧ w'.cell? ⟨q, 1, none⟩ = some (.int .i64 ea) ∧ w'.cell? ⟨q, 2, none⟩ = some (.int .i64 em)) (go_keep)
            ((go_at_call 11; refine (HRD.out _ ((At.start wa).drewN 1)).mono ?_; rintro e w5 ⟨Y5, cy5, F5, rfl, hp5, hq5, hb5⟩; have HP5 := Lib.hid hp5; have HQ5 := Lib.hid hq5; have HB5 := Lib.hid hb5; obtain ⟨-, -, e2, -, -, -⟩ := hp5.ww.cells; obtain ⟨d0, d1, d2, -, -⟩ := stc_cells hq5.2; clear hp5 hq5 hb5))
          obtain ⟨-, -, e2, -, -, e5⟩ := HP5.out.ww.cells
          obtain ⟨d0, d1, d2, -, -⟩ := stc_cells HQ5.out.2
          have HRR : Hid (∀ W, At w5 W → Calls Try.prog 12 #[.pointer (some ⟨A.dz, 0, none⟩), .agg #[.int .i64 ea, .int .i64 em]] W fun e w' => ∃ Y cy F', e = .returned (.tuple #[.slice Y u cy, .int .i64 z]) ∧ Py w w' F' A t M B (rdL M.n L' ea em) (rdR M B t L' R' ea em) M N B (rdL M.n L' ea em) (rdR M B t L' R' ea em) ∧ BV w' Y D ∧ Mv (fun g => F5 5 g ∨ W.heap.size ≤ g) W w' ∧ w'.heap[q]? = some (.cells #[.int .i64 kd, .int .i64 ea, .int .i64 em, .slice B3 m cb, .int .i64 nm] 32 (0, 0))) := Lib.hid fun W hW =>
            ((HP5.out.on hW).rread (by have := HR1.out; omega) (by have := HR1.out; omega) ea em HDZ.out.1 HDZ.out.2.1 HDZ.out.2.2).mono fun _ _ ⟨Y, cy, F', he, hp, hb, hm, hk⟩ => ⟨Y, cy, F', he, hp, hb, hm, (hk.step hW HQ5.out.1 HQ5.out.2).2⟩
          clear HRD HDZ
          go_wp2_with fail
          go_region_held3 (fun w' => w'.cell? ⟨A.bw, 5, none⟩ = some (.pointer (some ⟨A.dz, 0, none⟩)) ∧ w'.cell? ⟨q, 1, none⟩ = some (.int .i64 ea) ∧ w'.cell? ⟨q, 2, none⟩ = some (.int .i64 em)) (go_keep)
            ((go_at_call 12; refine (HRR.out _ ((At.start w5).drewN 1)).mono ?_; rintro e w6 ⟨Y6, cy6, F6, rfl, hp6, hb6, hm6, hq6⟩; have HP6 := Lib.hid hp6; have HB6 := Lib.hid (And.intro (HB5.out _ _ ((At.start w5).drewN 1) hm6) hb6); have f5 := hp6.ww.cells.2.2.2.2.2; obtain ⟨-, f1, f2, -, -⟩ := stc_cells hq6; clear hp6 hb6 hm6 hq6))
          have HBY := Lib.hid (bytes_any Y5 Y6 u cy5 cy6 D D w6 (by have := HDY.out; omega) HDY.out.1 HDY.out.1 HDY.out.2.1 HDY.out.2.1 HB6.out.1 HB6.out.2)
          rw [decide_eq_true (rfl : D = D)] at HBY
          have HLP : Hid (∀ W, At w6 W → Lp w W F6 A t nb (i + 1) M B (rdL M.n L' ea em) (rdR M B t L' R' ea em) N) := Lib.hid fun W hW => HPA.out.did1 ea em (HP6.out.on hW)
          clear HRR HB5 HB6 HP5 HP6 HQ5 HR1 e2 e5 f5 f1 f2
          go_wp2_with fail
          refine HBY.out.mono ?_
          rintro e w7 ⟨rfl, kk, rfl⟩
          have HL7 := Lib.hid (HLP.out _ ((At.start w6).drewN kk))
          go_wp2
          go_roundw
          case rel => exact ⟨i + 1, F6, M, B, _, _, N, by omega, by go_num, HL7⟩
          case measure => simp [RowKit.intOf]; omega
        have q1 : (kd == 1) = false := by simpa using hk1
        clear hk1
        by_cases hk2 : kd = 2
        · have q2 : (kd == 2) = true := by rw [hk2]; rfl
          have HWR : Hid (∀ W, At wa W → Calls Try.prog 14 #[.pointer (some ⟨A.bb, 0, none⟩), .slice B3 m cb] W fun e w' => ∃ z, e = .returned (.int .i64 z) ∧ Py w w' F A t M (_root_.Go.Proofs.Ytgjlklladbcmcaa.wr B P) L' R' M N B L' R' ∧ (Fre F w' q ∧ w'.heap[q]? = some (.cells #[.int .i64 kd, .int .i64 ea, .int .i64 em, .slice B3 m cb, .int .i64 nm] 32 (0, 0)))) := Lib.hid fun W hW =>
            ((HPA.out.py.on hW).write B3 P m cb HPV.out.1 (by have := HPV.out.2.1; omega) HPV.out.2.2.1 HPV.out.2.2.2).mono fun _ _ ⟨z, he, hp, hk⟩ => ⟨z, he, hp, hk.step hW HFQ.out HBQ.out⟩
          clear hk2 c0 c2 c3 c4 c5 d1 d2 d4
          go_wp2_with fail
          go_region_held3 (fun w' => w'.cell? ⟨A.bw, 1, none⟩ = some (.pointer (some ⟨A.bb, 0, none⟩)) ∧ w'.cell? ⟨q, 3, none⟩ = some (.slice B3 m cb)) (go_keep)
            ((go_at_call 14; refine (HWR.out _ ((At.start wa).drewN 1)).mono ?_; rintro e w5 ⟨z5, rfl, hp5, hq5⟩; have HP5 := Lib.hid hp5; have HQ5 := Lib.hid hq5; have e1 := hp5.ww.cells.2.1; have e3 := (stc_cells hq5.2).2.2.2.1; clear hp5 hq5))
          have e4 := HP5.out.ww.cells.2.2.2.2.1
          have HRR : Hid (∀ W, At w5 W → Calls Try.prog 15 #[.pointer (some ⟨A.dy, 0, none⟩), .slice B3 m cb] W fun e w' => ∃ z F', e = .returned (.int .i64 z) ∧ Py w w' F' A t M (_root_.Go.Proofs.Ytgjlklladbcmcaa.wr B P) L' R' M N (_root_.Go.Proofs.Ytgjlklladbcmcaa.wr B P) L' R' ∧ w'.heap[q]? = some (.cells #[.int .i64 kd, .int .i64 ea, .int .i64 em, .slice B3 m cb, .int .i64 nm] 32 (0, 0))) := Lib.hid fun W hW =>
            ((HP5.out.on hW).rwrite B3 P m cb HPV.out.1 (by have := HPV.out.2.1; omega) HPV.out.2.2.1 HPV.out.2.2.2).mono fun _ _ ⟨z, F', he, hp, hk⟩ => ⟨z, F', he, hp, (hk.step hW HQ5.out.1 HQ5.out.2).2⟩
          clear HWR
          go_wp2_with fail
          go_region_held3 (fun w' => w'.cell? ⟨A.bw, 4, none⟩ = some (.pointer (some ⟨A.dy, 0, none⟩)) ∧ w'.cell? ⟨q, 3, none⟩ = some (.slice B3 m cb)) (go_keep)
            ((go_at_call 15; refine (HRR.out _ ((At.start w5).drewN 1)).mono ?_; rintro e w6 ⟨z6, F6, rfl, hp6, hq6⟩; have HP6 := Lib.hid hp6; have f4 := hp6.ww.cells.2.2.2.2.1; have f3 := (stc_cells hq6).2.2.2.1; clear hp6 hq6))
          have HL7 := Lib.hid (HPA.out.did2 P HP6.out)
          clear HRR HP5 HP6 HQ5 e1 e3 e4 f4 f3
          go_wp2
          go_roundw
          case rel => exact ⟨i + 1, F6, M, _, _, _, N, by omega, by go_num, HL7⟩
          case measure => simp [RowKit.intOf]; omega
        have q2 : (kd == 2) = false := by simpa using hk2
        clear hk2
        by_cases hk3 : kd = 3
        · have q3 : (kd == 3) = true := by rw [hk3]; rfl
          have HCC : Hid (M.c < 1000 ∧ N ≤ 50000000) := Lib.hid ⟨by have := HPA.out.c; have := HAL.out; omega, by have := HPA.out.N_; have := HAL.out; omega⟩
          have HWR : Hid (∀ W, At wa W → Calls Try.prog 16 #[.pointer (some ⟨A.bm, 0, none⟩), .agg #[.int .i64 nm, .slice B3 m cb]] W fun e w' => ∃ z F', e = .returned (.int .i64 z) ∧ Py w w' F' A t (Em.took M nm P) B L' R' M N B L' R' ∧ (Fre F' w' q ∧ w'.heap[q]? = some (.cells #[.int .i64 kd, .int .i64 ea, .int .i64 em, .slice B3 m cb, .int .i64 nm] 32 (0, 0)))) := Lib.hid fun W hW =>
            ((HPA.out.py.on hW).apply nm B3 P m cb HPV.out.1 (by have := HPV.out.2.1; omega) HPV.out.2.2.1 HPV.out.2.2.2 HCC.out.1).mono fun _ _ ⟨z, F', he, hp, hk⟩ => ⟨z, F', he, hp, hk.step hW HFQ.out HBQ.out⟩
          clear hk3 c1 c2 c3 c4 c5 d1 d2
          go_wp2_with fail
          go_region_held3 (fun w' => w'.cell? ⟨A.bw, 0, none⟩ = some (.pointer (some ⟨A.bm, 0, none⟩)) ∧ w'.cell? ⟨q, 3, none⟩ = some (.slice B3 m cb) ∧ w'.cell? ⟨q, 4, none⟩ = some (.int .i64 nm)) (go_keep)
            ((go_at_call 16; refine (HWR.out _ ((At.start wa).drewN 1)).mono ?_; rintro e w5 ⟨z5, F5, rfl, hp5, hq5⟩; have HP5 := Lib.hid hp5; have HQ5 := Lib.hid hq5; have e0 := hp5.ww.cells.1; obtain ⟨-, -, -, e3, e4⟩ := stc_cells hq5.2; clear hp5 hq5))
          have e5 := HP5.out.ww.cells.2.2.2.1
          have HRR : Hid (∀ W, At w5 W → Calls Try.prog 17 #[.pointer (some ⟨A.dx, 0, none⟩), .agg #[.int .i64 nm, .slice B3 m cb]] W fun e w' => ∃ z F', e = .returned (.int .i64 z) ∧ Py w w' F' A t (Em.took M nm P) B L' R' (Em.took M nm P) (N + m) B L' R' ∧ w'.heap[q]? = some (.cells #[.int .i64 kd, .int .i64 ea, .int .i64 em, .slice B3 m cb, .int .i64 nm] 32 (0, 0))) := Lib.hid fun W hW =>
            ((HP5.out.on hW).rapply nm B3 P m cb HPV.out.1 (by have := HPV.out.2.1; omega) HPV.out.2.2.1 HPV.out.2.2.2 HCC.out.1 HCC.out.2).mono fun _ _ ⟨z, F', he, hp, hk⟩ => ⟨z, F', he, hp, (hk.step hW HQ5.out.1 HQ5.out.2).2⟩
          clear HWR
          go_wp2_with fail
          go_region_held3 (fun w' => w'.cell? ⟨A.bw, 3, none⟩ = some (.pointer (some ⟨A.dx, 0, none⟩)) ∧ w'.cell? ⟨q, 3, none⟩ = some (.slice B3 m cb) ∧ w'.cell? ⟨q, 4, none⟩ = some (.int .i64 nm)) (go_keep)
            ((go_at_call 17; refine (HRR.out _ ((At.start w5).drewN 1)).mono ?_; rintro e w6 ⟨z6, F6, rfl, hp6, hq6⟩; have HP6 := Lib.hid hp6; have f0 := hp6.ww.cells.2.2.2.1; obtain ⟨-, -, -, f3, f4⟩ := stc_cells hq6; clear hp6 hq6))
          have HL7 := Lib.hid (HPA.out.did3 nm P m HPV.out.2.1 HP6.out)
          clear HRR HP5 HP6 HQ5 e0 e3 e4 e5 f0 f3 f4
          go_wp2
          go_roundw
          case rel => exact ⟨i + 1, F6, _, B, _, _, _, by omega, by go_num, HL7⟩
          case measure => simp [RowKit.intOf]; omega
        · have q3 : (kd == 3) = false := by simpa using hk3
          have HL7 := Lib.hid HPA.out.idle
          clear hk3
          go_wp2_with fail
          go_roundw
          case rel => exact ⟨i + 1, F, M, B, L', R', N, by omega, by go_num, HL7⟩
          case measure => simp [RowKit.intOf]; omega
      · obtain ⟨u, ns, cS, cR, AS, AR, lz, hu, HRS, HST, HAT, HCW, HRW⟩ := plays_tail HP.out.py (nb := nb) (by have := HNB.out; omega) (by have := HP.out.R_; omega) HP.out.L_
        have HAR := Lib.hid HP.out.py.at_
        obtain ⟨c2, c5, z4, z5⟩ := HCW.out wr (At.start _)
        have nu : ((u : Int) != (u : Int)) = false := by simp
        have nt : (t != t) = false := by simp
        clear HP HSV HSO HFE HNB HN hn120
        go_wp2_with fail
        refine HRS.out.mono ?_
        rintro e w4 ⟨A4, c4, l4, rfl, hrw4, hl4, hu4, hA4⟩
        have HA4 : Hid (At wr w4) := Lib.hid hA4
        have HR4 := Lib.hid (And.intro hrw4 (And.intro hl4 hu4))
        have d2 := (HCW.out w4 hA4).1
        clear hrw4 hl4 hu4 hA4 HRS c2 c5 z4 z5
        go_wp2_with fail
        refine (HST.out _ HA4.out).mono ?_
        rintro e w5 ⟨b5, rfl, hA5, HEX⟩
        have HA5 : Hid (At w4 w5) := Lib.hid hA5
        have HAE : Hid (At wr w5) := Lib.hid (HA4.out.next hA5)
        obtain ⟨c2, c5, z4, z5⟩ := HCW.out w5 HAE.out
        clear hA5 d2 HST
        go_wp2_with fail
        go_region_held3 (fun w' => w'.cell? ⟨A.bw, 2, none⟩ = some (.pointer (some ⟨A.bv, 0, none⟩)) ∧ w'.cell? ⟨A.bw, 5, none⟩ = some (.pointer (some ⟨A.dz, 0, none⟩)) ∧ w'.cell? ⟨A.dz, 4, none⟩ = some (.slice AS ns cS) ∧ w'.cell? ⟨A.dz, 5, none⟩ = some (.slice AR u cR)) (go_keep)
          (first
            | (go_at_call 21; refine (HEX.out _ ((At.start w5).drewN 1)).mono ?_; rintro e w6 ⟨A6, c6, rfl, hA6, HES⟩; have HA6 : Hid (At w5 w6) := Lib.hid (((At.start w5).drewN 1).next hA6); obtain ⟨e2, e5, y4, y5⟩ := HCW.out w6 (HAE.out.next HA6.out); clear hA6)
            | (go_at_call 20; refine (HES.out _ (At.start _)).mono ?_; rintro e w7 ⟨rfl, hA7⟩; have HA7 : Hid (At w6 w7) := Lib.hid hA7; obtain ⟨f2, f5, x4, x5⟩ := HCW.out w7 (HAE.out.next (HA6.out.next hA7)); clear hA7)
            | (go_at_call 22; refine (HAT.out _ (HAE.out.next (HA6.out.next HA7.out))).mono ?_; rintro e w8 ⟨rfl, rfl⟩))
        have HA8 : Hid (At w5 w7) := Lib.hid (HA6.out.next HA7.out)
        have HRR : Hid (Rw w5 (.slice A4 u c4) l4 ∧ Rw w5 (.slice AR u cR) lz ∧ l4.map (·.1) = lz.map (·.1) ∧ l4.length = u) := Lib.hid ⟨HR4.out.1.on HA5.out, HRW.out.on HAE.out, HR4.out.2.1, HR4.out.2.2⟩
        clear HEX HES HA6 HA7 HA5 HR4 HRW c2 c5 z4 z5 e2 e5 y4 y5 f2 f5 x4 x5 HAT
        go_wp2_with fail
        go_loopw [17] (fun c17 wx => ∃ k : Nat, k ≤ u ∧ c17 = .int .i64 (k : Int) ∧ Hid (At w5 wx)) (fun c17 _ => u - (RowKit.intOf c17).toNat)
        case atStart => exact ⟨0, Nat.zero_le _, rfl, HA8⟩
        case round =>
          clear HA8
          obtain ⟨k, hk, rfl, HX⟩ := hrel
          by_cases hlt2 : k < u
          · obtain ⟨g, g', p, q, p', q', x, d, o, rfl, rfl, hd1, hd2, hW⟩ := rows_at HRR.out.1 HRR.out.2.1 HRR.out.2.2.1 HRR.out.2.2.2 hlt2
            obtain ⟨c2, c5, -, z5⟩ := HCW.out _ (HAE.out.next HX.out)
            obtain ⟨k1, k2, k3, m1, m2, m3, hb, hb'⟩ := hW _ HX.out
            have HBY : Hid (∀ z, Calls Try.prog 13 #[.slice (some ⟨p, 0, none⟩) 40 q, .slice (some ⟨p', 0, none⟩) 40 q'] (wr.drewN z) fun e w' => e = .returned (.bool true) ∧ ∃ m, w' = (wr.drewN z).drewN m) := Lib.hid fun z => by
              have := bytes_any (some ⟨p, 0, none⟩) (some ⟨p', 0, none⟩) 40 q q' d d (wr.drewN z) (by omega) hd1 hd1 hd2 hd2 (hb.drewN z) (hb'.drewN z)
              rwa [decide_eq_true (rfl : d = d)] at this
            have nx : (x != x) = false := by simp
            have no : (o != o) = false := by cases o <;> rfl
            have g1 : (0 : Int) ≤ (k : Int) := by omega
            have g2 : (k : Int) < (u : Int) := by omega
            have HXD : Hid (∀ z, At w5 (wr.drewN z)) := Lib.hid fun z => HX.out.drewN z
            clear hW hb hb' hd1 hd2
            go_wp2_with fail
            go_quiet ((go_at_call 13; exact Calls.quiet_of (HBY.out _)))
            go_wp2
            go_roundw
            case rel => exact ⟨k + 1, by omega, by go_num, Lib.hid (HXD.out _)⟩
            case measure => simp [RowKit.intOf]; omega
          · have HEN := Lib.hid ((HAR.out.next HAE.out).next HX.out)
            clear HX
            go_wp2_with fail
            refine (HAW.out _).mono ?_
            rintro e w9 ⟨rfl, hA⟩
            have HE9 := Lib.hid (HEN.out.next hA)
            clear hA
            go_wp2
            go_ret
            exact ⟨rfl, HE9.out⟩

end Go.Proofs.Ytgjlklladbcmcaa
