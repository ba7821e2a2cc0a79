/- Proved: the document's own Write: why a vector is refused; what it leaves. -/
import Derived.Test.YtgjlklladbcmcaaRv
namespace Go.Proofs.Ytgjlklladbcmcaa
open Go.RowKit

/-- What it told, and what it left of the buffer. -/
def Wr (z : Int) (d : Nat) (S' : St) (Z : Nat → Prop) (w : World) (e : Ending) (w' : World) : Prop := e = .returned (.int .i64 z) ∧ Rb w' d S' Z ∧ Mv (fun g => g = d) w w'
/-- The cells of a vector. -/
theorem pv_cells {w : World} {g o : Nat} {P : List Pt} (h : PV w (some ⟨g, o, none⟩) P) {k : Nat} (hk : k < P.length) : w.cell? ⟨g, o + k * 2, none⟩ = some (.int .i64 (P.getD k pz).1) ∧ ∃ B c, w.cell? ⟨g, o + k * 2 + 1, none⟩ = some (.slice B (P.getD k pz).2.length c) ∧ BV w B (P.getD k pz).2 := by
  obtain ⟨g', o', e, _, hc⟩ := h.pos (by omega)
  injection e with e
  injection e with e1 e2
  subst e1 e2
  exact hc k hk

set_option maxHeartbeats 4000000 in
set_option maxRecDepth 100000 in
theorem rwrite_any {w : World} {d : Nat} {S : St} {Z : Nat → Prop} (h : Rb w d S Z) (hZ : ∀ g, w.heap.size ≤ g → Z g) (A : Option Addr) (P : List Pt) (n c : Nat) (hn : P.length = n) (hl : n ≤ 1000000) (hP : ∀ W, Mv (fun g => g = d) w W → PV W A P) (hB : AllBy P) :
    Calls Try.prog 15 #[.pointer (some ⟨d, 0, none⟩), .slice A n c] w (Wr (rf S P) d (wr S P) Z w) := by
  have H := Lib.hid h
  have HZZ := Lib.hid hZ
  clear hZ
  have HP := Lib.hid hP
  have HN := Lib.hid hn
  have HBY := Lib.hid hB
  by_cases hn0 : n = 0
  · have hp : P = [] := List.eq_nil_of_length_eq_zero (by omega)
    have HE : Hid (Wr (rf S P) d (wr S P) Z w (.returned (.int .i64 1)) w) := Lib.hid (by
      rw [hp, rf_none, wr_no (by rw [rf_none]; decide)]; exact ⟨rfl, h, Mv.refl _ _⟩)
    subst hn0
    clear h hP hn hB hp
    go_enter Try.func15, Try.ntmps15
    go_wp2
    go_ret
    exact HE.out
  have q0 : ((n : Int) == 0) = false := by simp; omega
  obtain ⟨g, o, rfl, -, -⟩ := (hP w (Mv.refl _ _)).pos (by omega)
  obtain ⟨v0, l0, hq⟩ := h
  obtain ⟨c0, c1, c2⟩ := hq.cells
  have hPne : P ≠ [] := fun e => by rw [e] at hn; exact hn0 hn.symm
  have HPN := Lib.hid hPne
  have hPW : PV w (some ⟨g, o, none⟩) P := hP _ (Mv.refl _ w)
  have HPW := Lib.hid hPW
  have HQ := Lib.hid hq
  have hn2 := hq.ok.n2
  clear hP hn hB hq hPne hn0 hPW
  go_enter Try.func15, Try.ntmps15
  go_wp2
  go_loopw [5] (fun c5 wr => ∃ (k m : Nat), k ≤ n ∧ c5 = .int .i64 (k : Int) ∧ Hid (∀ j, j < k → 0 ≤ (P.getD j pz).1 ∧ (P.getD j pz).1 < (S.n : Int)) ∧ wr = w.drewN m) (fun c5 _ => n - (RowKit.intOf c5).toNat)
  case atStart => exact ⟨0, 0, Nat.zero_le _, rfl, Lib.hid fun j h => absurd h (Nat.not_lt_zero j), rfl⟩
  case round =>
    obtain ⟨k, m, hk, rfl, HR, rfl⟩ := hrel
    by_cases hlt : k < n
    · have hkP : k < P.length := by rw [HN.out]; exact hlt
      have p0 := (pv_cells HPW.out hkP).1
      have hm := pt_mem hkP
      obtain ⟨x, hx⟩ : ∃ x, x = (P.getD k pz).1 := ⟨_, rfl⟩
      rw [← hx] at p0
      have HX := Lib.hid hx
      have HM := Lib.hid hm
      have g1 : (0 : Int) ≤ (k : Int) := by omega
      have g2 : (k : Int) < (n : Int) := by omega
      clear hx hm hkP
      by_cases h0 : x < 0
      · have q1 : decide (x < 0) = true := decide_eq_true h0
        have HE : Hid (∀ W, At w W → Wr (rf S P) d (Proofs.Ytgjlklladbcmcaa.wr S P) Z w (.returned (.int .i64 2)) W) := Lib.hid fun W hW => by
          have hr : rf S P = 2 := rf_range HPN.out ⟨_, HM.out, by rw [← HX.out]; omega⟩
          rw [wr_no (by rw [hr]; decide), hr]
          exact ⟨rfl, H.out.on hW, Mv.of_below _ hW⟩
        go_wp2
        go_quiet (fail)
        go_wp2
        go_ret
        exact HE.out _ (((At.start w).drewN _).drewN _)
      · have q1 : decide (x < 0) = false := decide_eq_false h0
        by_cases h1 : (S.n : Int) ≤ x
        · have q2 : decide ((S.n : Int) ≤ x) = true := decide_eq_true h1
          have HE : Hid (∀ W, At w W → Wr (rf S P) d (Proofs.Ytgjlklladbcmcaa.wr S P) Z w (.returned (.int .i64 2)) W) := Lib.hid fun W hW => by
            have hr : rf S P = 2 := rf_range HPN.out ⟨_, HM.out, by rw [← HX.out]; omega⟩
            rw [wr_no (by rw [hr]; decide), hr]
            exact ⟨rfl, H.out.on hW, Mv.of_below _ hW⟩
          go_wp2
          go_quiet (fail)
          go_wp2
          go_ret
          exact HE.out _ (((At.start w).drewN _).drewN _)
        · have q2 : decide ((S.n : Int) ≤ x) = false := decide_eq_false h1
          have HRR : Hid (∀ j, j < k + 1 → 0 ≤ (P.getD j pz).1 ∧ (P.getD j pz).1 < (S.n : Int)) := Lib.hid fun j hj => by
            by_cases e : j = k
            · rw [e, ← HX.out]; omega
            · exact HR.out j (by omega)
          go_wp2
          go_quiet (fail)
          go_wp2
          go_roundw
          case rel => exact ⟨k + 1, _, by omega, by go_num, HRR, rfl⟩
          case measure => simp [RowKit.intOf]; omega
    · have HRA : Hid (∀ p ∈ P, 0 ≤ p.1 ∧ p.1 < (S.n : Int)) := Lib.hid fun p hp => by
        obtain ⟨j, hj, rfl⟩ := List.mem_iff_getElem.1 hp
        have := HR.out j (by rw [HN.out] at hj; omega)
        rwa [List.getD_eq_getElem?_getD, List.getElem?_eq_getElem hj] at this
      have hkn : k = n := by omega
      subst hkn
      clear HR
      obtain ⟨w1, hw1⟩ : ∃ w1, w1 = w.drewN m := ⟨_, rfl⟩
      have HA1 : Hid (At w w1) := Lib.hid (by rw [hw1]; exact (At.start w).drewN m)
      have HP1 : Hid (PV w1 (some ⟨g, o, none⟩) P) := Lib.hid (HPW.out.on HA1.out)
      have d1 : w1.cell? ⟨d, 1, none⟩ = some (.int .i64 S.most) := by rw [hw1]; exact c1
      have d2 : w1.cell? ⟨d, 2, none⟩ = some v0 := by rw [hw1]; exact c2
      rw [← hw1]
      clear hw1 c0 c1 c2 HPW
      go_wp2
      go_loopw [6] (fun c6 wr => ∃ i : Nat, i ≤ k ∧ c6 = .int .i64 (i : Int) ∧ Hid (∀ j, j < i → (P.getD j pz).2.length = 40) ∧ wr = w1) (fun c6 _ => k - (RowKit.intOf c6).toNat)
      case atStart => exact ⟨0, Nat.zero_le _, rfl, Lib.hid fun j h => absurd h (Nat.not_lt_zero j), rfl⟩
      case round =>
        obtain ⟨i, hi, rfl, HL, hwr⟩ := hrel
        have hwr' := hwr.symm
        subst hwr'
        by_cases hit : i < k
        · have hiP : i < P.length := by rw [HN.out]; exact hit
          obtain ⟨-, B, cb, p1, -⟩ := pv_cells HP1.out hiP
          have hm := pt_mem hiP
          obtain ⟨y, hy⟩ : ∃ y, y = (P.getD i pz).2.length := ⟨_, rfl⟩
          rw [← hy] at p1
          have HY := Lib.hid hy
          have HM := Lib.hid hm
          have g1 : (0 : Int) ≤ (i : Int) := by omega
          have g2 : (i : Int) < (k : Int) := by omega
          clear hy hm hiP
          by_cases h4 : y = 40
          · have q3 : ((y : Int) != 40) = false := by simp; omega
            have HLL : Hid (∀ j, j < i + 1 → (P.getD j pz).2.length = 40) := Lib.hid fun j hj => by
              by_cases e : j = i
              · rw [e, ← HY.out]; exact h4
              · exact HL.out j (by omega)
            clear h4
            go_wp2
            go_roundw
            case rel => exact ⟨i + 1, by omega, by go_num, HLL, by first | rfl | trivial⟩
            case measure => simp [RowKit.intOf]; omega
          · have q3 : ((y : Int) != 40) = true := by simp; omega
            have HE : Hid (Wr (rf S P) d (Proofs.Ytgjlklladbcmcaa.wr S P) Z w (.returned (.int .i64 3)) w1) := Lib.hid (by
              have hr : rf S P = 3 := rf_len HPN.out (fun ⟨p, hp, e⟩ => e (HRA.out p hp)) ⟨_, HM.out, by rw [← HY.out]; exact h4⟩
              rw [wr_no (by rw [hr]; decide), hr]
              exact ⟨rfl, H.out.on HA1.out, Mv.of_below _ HA1.out⟩)
            clear h4
            go_wp2
            go_ret
            exact HE.out
        · have HEA : Hid (Each S P) := Lib.hid (each_of HPN.out (fun ⟨p, hp, e⟩ => e (HRA.out p hp)) fun ⟨p, hp, e⟩ => e (by
            obtain ⟨j, hj, rfl⟩ := List.mem_iff_getElem.1 hp
            have := HL.out j (by rw [HN.out] at hj; omega)
            rwa [List.getD_eq_getElem?_getD, List.getElem?_eq_getElem hj] at this))
          have hik : i = k := by omega
          subst hik
          clear HL HRA
          have HQ1 := Lib.hid (HQ.out.on HA1.out)
          go_wp2
          go_loopw [7, 8] (fun c7 c8 wr => ∃ (j f m : Nat), j ≤ i ∧ f ≤ j ∧ c8 = .int .i64 (j : Int) ∧ c7 = .int .i64 (f : Int) ∧ Hid (f = fr S (P.take j)) ∧ Hid (Un (P.take j)) ∧ wr = w1.drewN m) (fun _ c8 _ => i - (RowKit.intOf c8).toNat)
          case atStart => exact ⟨0, 0, 0, Nat.zero_le _, Nat.le_refl _, rfl, rfl, Lib.hid rfl, Lib.hid List.nodup_nil, rfl⟩
          case round =>
            obtain ⟨j, f, m, hj, hfj, rfl, rfl, HF, HU, rfl⟩ := hrel
            by_cases hji : j < i
            · have hjP : j < P.length := by rw [HN.out]; exact hji
              have pj := (pv_cells HP1.out hjP).1
              have hrg := HEA.out.rng _ (pt_mem hjP)
              have hft := fr_take S P j hjP
              obtain ⟨x, hx⟩ : ∃ x : Nat, (P.getD j pz).1 = (x : Int) := ⟨(P.getD j pz).1.toNat, by omega⟩
              rw [hx] at pj hft
              rw [Int.toNat_natCast] at hft
              have HX := Lib.hid hx
              have HFT := Lib.hid hft
              have HJP := Lib.hid hjP
              have g1 : (0 : Int) ≤ (j : Int) := by omega
              have g2 : (j : Int) < (i : Int) := by omega
              clear hx hft hjP hrg
              go_wp2
              go_loopw [9] (fun c9 wi => ∃ (k m2 : Nat), k ≤ j ∧ c9 = .int .i64 (k : Int) ∧ Hid (∀ u, u < k → (P.getD u pz).1 ≠ (x : Int)) ∧ wi = w1.drewN m2) (fun c9 _ => j - (RowKit.intOf c9).toNat)
              case atStart => exact ⟨0, m, Nat.zero_le _, rfl, Lib.hid fun u h => absurd h (Nat.not_lt_zero u), rfl⟩
              case round =>
                obtain ⟨k, m2, hk, rfl, HK, rfl⟩ := hrel
                by_cases hkj : k < j
                · have hkP : k < P.length := by have := HJP.out; omega
                  have pk := (pv_cells HP1.out hkP).1
                  obtain ⟨y, hy⟩ : ∃ y, y = (P.getD k pz).1 := ⟨_, rfl⟩
                  rw [← hy] at pk
                  have HY := Lib.hid hy
                  have HKP := Lib.hid hkP
                  have g3 : (0 : Int) ≤ (k : Int) := by omega
                  have g4 : (k : Int) < (i : Int) := by omega
                  have g5 : (k : Int) < (j : Int) := by omega
                  clear hy hkP
                  by_cases hyx : y = (x : Int)
                  · have q4 : (y == (x : Int)) = true := by rw [hyx]; simp
                    have HE : Hid (∀ W, At w1 W → Wr (rf S P) d (Proofs.Ytgjlklladbcmcaa.wr S P) Z w (.returned (.int .i64 4)) W) := Lib.hid fun W hW => by
                      have hin : (P.getD j pz).1 ∈ kz (P.take j) := by
                        rw [HX.out, ← hyx, HY.out]
                        refine List.mem_map.2 ⟨P.getD k pz, ?_, rfl⟩
                        rw [List.getD_eq_getElem?_getD, List.getElem?_eq_getElem HKP.out]
                        exact List.mem_take_iff_getElem.2 ⟨k, by have := HJP.out; omega, rfl⟩
                      have hr : rf S P = 4 := rf_over HEA.out (un_not HJP.out hin)
                      rw [wr_no (by rw [hr]; decide), hr]
                      exact ⟨rfl, H.out.on (HA1.out.next hW), Mv.of_below _ (HA1.out.next hW)⟩
                    clear hyx
                    go_wp2
                    go_quiet (fail)
                    go_wp2
                    go_ret
                    exact HE.out _ (((At.start w1).drewN _).drewN _)
                  · have q4 : (y == (x : Int)) = false := by simpa using hyx
                    have HKK : Hid (∀ u, u < k + 1 → (P.getD u pz).1 ≠ (x : Int)) := Lib.hid fun u hu => by
                      by_cases e : u = k
                      · rw [e, ← HY.out]; exact hyx
                      · exact HK.out u (by omega)
                    clear hyx
                    go_wp2
                    go_quiet (fail)
                    go_wp2
                    go_roundw
                    case rel => exact ⟨k + 1, _, by omega, by go_num, HKK, rfl⟩
                    case measure => simp [RowKit.intOf]; omega
                · have hkk : k = j := by omega
                  have HUU : Hid (Un (P.take (j + 1))) := Lib.hid (un_more HJP.out HU.out fun hin => by
                    obtain ⟨p, hp, e⟩ := List.mem_map.1 hin
                    obtain ⟨u, hu, rfl⟩ := List.mem_take_iff_getElem.1 hp
                    refine HK.out u (by omega) ?_
                    rw [List.getD_eq_getElem?_getD, List.getElem?_eq_getElem (by omega)]
                    rw [HX.out] at e; exact e)
                  have HGT := Lib.hid (rget_rb (H.out.on (HA1.out.next ((At.start w1).drewN m2))) (x : Int))
                  subst hkk
                  clear HK
                  by_cases hg : S.g x = []
                  · have HFF : Hid (f + 1 = fr S (P.take (k + 1))) := Lib.hid (by rw [HFT.out, if_pos (by rw [hg]; rfl), HF.out])
                    have HGI : Hid (gi S (x : Int) = []) := Lib.hid (by rw [gi_nat]; exact hg)
                    clear hg
                    go_wp2_with fail
                    refine HGT.out.mono ?_
                    rintro e w' ⟨rfl, ⟨-, rfl⟩ | ⟨h9, -⟩⟩
                    rotate_left
                    · exact absurd HGI.out h9
                    go_wp2
                    go_roundw
                    case rel => exact ⟨k + 1, f + 1, m2, by omega, by omega, by go_num, by go_num, HFF, HUU, rfl⟩
                    case measure => simp [RowKit.intOf]; omega
                  · have HFF : Hid (f = fr S (P.take (k + 1))) := Lib.hid (by rw [HFT.out, if_neg (by simpa using hg)]; exact HF.out)
                    have HGI : Hid (gi S (x : Int) ≠ []) := Lib.hid (by rw [gi_nat]; exact hg)
                    clear hg
                    go_wp2_with fail
                    refine HGT.out.mono ?_
                    rintro e w' ⟨rfl, ⟨h9, -⟩ | ⟨-, ga, ca, rfl, -⟩⟩
                    · exact absurd h9 HGI.out
                    go_wp2
                    go_roundw
                    case rel => exact ⟨k + 1, f, m2, by omega, by omega, by go_num, rfl, HFF, HUU, rfl⟩
                    case measure => simp [RowKit.intOf]; omega
            · have hjj : j = i := by omega
              have ht : P.take j = P := List.take_of_length_le (by rw [HN.out]; omega)
              rw [ht] at HF HU
              obtain ⟨A0, cc0, rfl, -⟩ := HQ1.out.od.form
              have hul := HQ1.out.len
              have hus := us_len S
              rw [← hul] at hus
              have HUL := Lib.hid hul
              subst hjj
              clear ht hul
              by_cases hb : S.most < (((us S).length + f : Nat) : Int)
              · have HE : Hid (∀ W, At w1 W → Wr (rf S P) d (Proofs.Ytgjlklladbcmcaa.wr S P) Z w (.returned (.int .i64 7)) W) := Lib.hid fun W hW => by
                  have hr : rf S P = 7 := by
                    rw [rf_tz HEA.out]; unfold tz
                    rw [if_neg (not_not_intro HU.out), ← HF.out, if_pos hb]
                  rw [wr_no (by rw [hr]; decide), hr]
                  exact ⟨rfl, H.out.on (HA1.out.next hW), Mv.of_below _ (HA1.out.next hW)⟩
                rw [← HUL.out] at hb
                have q5 : decide (S.most < (l0.length : Int) + (f : Int)) = true := decide_eq_true (by omega)
                clear hb
                go_wp2
                go_quiet (fail)
                go_wp2
                go_ret
                exact HE.out _ (((At.start w1).drewN _).drewN _)
              · have hr : rf S P = 0 := by
                  rw [rf_tz HEA.out]; unfold tz
                  rw [if_neg (not_not_intro HU.out), ← HF.out, if_neg hb]
                have HR0 := Lib.hid hr
                have HFI := Lib.hid (fine_of hr)
                rw [← HUL.out] at hb
                have q5 : decide (S.most < (l0.length : Int) + (f : Int)) = false := decide_eq_false (by omega)
                clear hb hr
                go_wp2
                go_quiet (fail)
                go_wp2
                -- LOOP5
                obtain ⟨i0, z0, hi0, hz0, hz1, hz2, hz3⟩ := put_parts
                have hA2 : At w1 ((w1.drewN m).drewN nq) := ((At.start w1).drewN m).drewN nq
                generalize (w1.drewN m).drewN nq = w2 at hA2 ⊢
                have HB0 : Hid (Rb w2 d (upS S (P.take 0)) Z) := Lib.hid (H.out.on (HA1.out.next hA2))
                have HM0 : Hid (Mv (fun g => g = d) w w2) := Lib.hid (Mv.of_below _ (HA1.out.next hA2))
                have hul2 := us_len S
                clear hA2 d1 d2 HQ HQ1 HP1 HA1 HF HU hus q5
                go_loopw [12] (fun c12 wr => ∃ k : Nat, k ≤ j ∧ c12 = .int .i64 (k : Int) ∧ Hid (Rb wr d (upS S (P.take k)) Z) ∧ Hid (Mv (fun g => g = d) w wr)) (fun c12 _ => j - (RowKit.intOf c12).toNat)
                case atStart => exact ⟨0, Nat.zero_le _, rfl, HB0, HM0⟩
                case round =>
                  clear HB0 HM0
                  obtain ⟨k, hk, rfl, HB, HM⟩ := hrel
                  by_cases hlt : k < j
                  · have hkP : k < P.length := by rw [HN.out]; exact hlt
                    have hpv := HP.out wr HM.out
                    obtain ⟨p0, B, cb, p1, hbv⟩ := pv_cells hpv hkP
                    have hrg := HEA.out.rng _ (pt_mem hkP)
                    have hlen := HEA.out.len _ (pt_mem hkP)
                    have hst := upS_step S P k hkP
                    obtain ⟨p, hp⟩ : ∃ p, P.getD k pz = p := ⟨_, rfl⟩
                    rw [hp] at p0 p1 hbv hrg hlen hst
                    obtain ⟨xz, dd⟩ := p
                    simp only at p0 p1 hbv hrg hlen
                    obtain ⟨x, rfl⟩ : ∃ x : Nat, xz = (x : Int) := ⟨xz.toNat, by omega⟩
                    rw [hlen] at p1
                    obtain ⟨pb, po, rfl, -, -⟩ := hbv.pos (by omega)
                    have HLN := Lib.hid hlen
                    have HST := Lib.hid hst
                    have HRG := Lib.hid hrg
                    have g1 : (0 : Int) ≤ (k : Int) := by omega
                    have g2 : (k : Int) < (j : Int) := by omega
                    have HP0 : Hid (∀ W, At wr W → W.cell? ⟨g, o + k * 2, none⟩ = some (.int .i64 (x : Int)) ∧ W.cell? ⟨g, o + k * 2 + 1, none⟩ = some (.slice (some ⟨pb, po, none⟩) 40 cb)) := Lib.hid fun W hW => ⟨(Below.cell hW (p := ⟨g, o + k * 2, none⟩) (World.block_lt_of_cell? wr _ p0)).trans p0, (Below.cell hW (p := ⟨g, o + k * 2 + 1, none⟩) (World.block_lt_of_cell? wr _ p1)).trans p1⟩
                    have HBV := Lib.hid hbv
                    have M1 : Hid (Ey (wr.alloc (.cells #[] 5)).drew wr.heap.size) := Lib.hid ((em_new wr).on ((At.start _).drewN 1))
                    have M2 : Hid (Ey ((wr.alloc (.cells #[] 5)).alloc (.cells #[.int .i64 0, .slice none 0 0] 76)).drew wr.heap.size) := Lib.hid ((em_new wr).on (((At.start _).alloc _).drewN 1))
                    have M3 : Hid (Ey ((wr.alloc (.cells #[.int .i64 0, .slice none 0 0] 76)).alloc (.cells #[] 5)).drew (wr.heap.size + 1)) := Lib.hid (by
                      have := (em_new (wr.alloc (.cells #[.int .i64 0, .slice none 0 0] 76))).on ((At.start _).drewN 1)
                      rwa [World.size_alloc] at this)
                    have D1 : Hid (At wr (wr.alloc (.cells #[] 5)).drew) := Lib.hid (((At.start wr).alloc _).drewN 1)
                    have D2 : Hid (At wr ((wr.alloc (.cells #[] 5)).alloc (.cells #[.int .i64 0, .slice none 0 0] 76)).drew) := Lib.hid ((((At.start wr).alloc _).alloc _).drewN 1)
                    have D3 : Hid (At wr ((wr.alloc (.cells #[.int .i64 0, .slice none 0 0] 76)).alloc (.cells #[] 5)).drew) := Lib.hid ((((At.start wr).alloc _).alloc _).drewN 1)
                    have Z2 : Hid (((wr.alloc (.cells #[] 5)).alloc (.cells #[.int .i64 0, .slice none 0 0] 76)).drew.heap[wr.heap.size + 1]? = some (.cells #[.int .i64 0, .slice none 0 0] 76 (0, 0))) := Lib.hid (by
                      have := heap_alloc_new (wr.alloc (.cells #[] 5)) (.cells #[.int .i64 0, .slice none 0 0] 76)
                      rw [World.size_alloc] at this; exact this)
                    have Z3 : Hid (((wr.alloc (.cells #[.int .i64 0, .slice none 0 0] 76)).alloc (.cells #[] 5)).drew.heap[wr.heap.size]? = some (.cells #[.int .i64 0, .slice none 0 0] 76 (0, 0))) := Lib.hid (((At.start (wr.alloc (.cells #[.int .i64 0, .slice none 0 0] 76))).alloc _).keep (heap_alloc_new wr _))
                    clear hpv hbv hrg hlen hst hp hkP
                    go_wp2_with fail
                    go_cut [13] from 105 to 182 (fun s13 wx => ∃ (q gd cd : Nat), s13 = .pointer (some ⟨q, 0, none⟩) ∧ Hid (Xb wr wx (x : Int) dd q gd cd))
                    case first =>
                      go_region_held3 (fun w' => w'.cell? ⟨g, o + k * 2, none⟩ = some (.int .i64 (x : Int)) ∧ w'.cell? ⟨g, o + k * 2 + 1, none⟩ = some (.slice (some ⟨pb, po, none⟩) 40 cb)) (first | go_keep | exact HP0.out _ (a7.alloc _) | exact HP0.out _ a7 | exact HP0.out _ (xb_first D2.out X7.out Z2.out (by omega) (by omega) (by omega)).at_ | exact HP0.out _ (xb_first D3.out X7.out Z3.out (by omega) (by omega) (by omega)).at_)
                        (first
                          | ((with_reducible refine at_world (wr.alloc (.cells #[] 5)).drew ?_); refine step_forty (by rfl) (.tmp 116) (.tmp 121) (by rfl) _ M1.out (by rfl) pb po cb dd (by rfl) (HBV.out.below D1.out) HLN.out ?_; intro gd cd w7 X7; have a7 : At wr w7 := X7.out.mv.at_ D1.out (fun j hj => by rw [hj]; exact Nat.le_refl _))
                          | ((with_reducible refine at_world ((wr.alloc (.cells #[] 5)).alloc (.cells #[.int .i64 0, .slice none 0 0] 76)).drew ?_); refine step_forty (by rfl) (.tmp 116) (.tmp 121) (by rfl) _ M2.out (by rfl) pb po cb dd (by rfl) (HBV.out.below D2.out) HLN.out ?_; intro gd cd w7 X7; have a7 : At wr w7 := X7.out.mv.at_ D2.out (fun j hj => by rw [hj]; exact Nat.le_refl _); have x7 := xb_kept X7.out Z2.out (by omega); have k0 := (cell_at x7 0).trans rfl; have k1 := (cell_at x7 1).trans rfl; have f0 := free_at x7 0; have f1 := free_at x7 1)
                          | ((with_reducible refine at_world ((wr.alloc (.cells #[.int .i64 0, .slice none 0 0] 76)).alloc (.cells #[] 5)).drew ?_); refine step_forty (by rfl) (.tmp 116) (.tmp 121) (by rfl) _ M3.out (by rfl) pb po cb dd (by rfl) (HBV.out.below D3.out) HLN.out ?_; intro gd cd w7 X7; have a7 : At wr w7 := X7.out.mv.at_ D3.out (fun j hj => by rw [hj]; omega); have x7 := xb_kept X7.out Z3.out (by omega); have k0 := (cell_at x7 0).trans rfl; have k1 := (cell_at x7 1).trans rfl; have f0 := free_at x7 0; have f1 := free_at x7 1))
                      · have HXB := Lib.hid (xb_last (x := (x : Int)) (cd := cd) D1.out X7.out (Nat.le_refl _))
                        first | go_meet | (go_wp2_with fail; go_meet)
                        case rel => exact ⟨_, gd, cd, rfl, HXB⟩
                      · have HXB := Lib.hid (xb_first (x := (x : Int)) (cd := cd) D2.out X7.out Z2.out (by omega) (by omega) (by omega))
                        first | go_meet | (go_wp2_with fail; go_meet)
                        case rel => exact ⟨_, gd, cd, rfl, HXB⟩
                      · have HXB := Lib.hid (xb_first (x := (x : Int)) (cd := cd) D3.out X7.out Z3.out (by omega) (by omega) (by omega))
                        first | go_meet | (go_wp2_with fail; go_meet)
                        case rel => exact ⟨_, gd, cd, rfl, HXB⟩
                    obtain ⟨q, gd, cd, rfl, HXB⟩ := hcut
                    clear M1 M2 M3 D1 D2 D3 Z2 Z3 HP0 HBV p0 p1
                    have HZX2 : Hid ((∀ g, wc.heap.size ≤ g → Z g) ∧ Z gd) := Lib.hid ⟨fun g hg => HZZ.out g (Nat.le_trans (HM.out.next HXB.out.at_).size hg), HZZ.out gd (Nat.le_trans HM.out.size HXB.out.ge)⟩
                    have HBX := Lib.hid (HB.out.on HXB.out.at_)
                    have HMX := Lib.hid (HM.out.next HXB.out.at_)
                    clear HB HM
                    obtain ⟨wx, hwx⟩ : ∃ wx, wx = wc := ⟨_, rfl⟩
                    rw [← hwx] at HBX HMX HXB HZX2 ⊢
                    clear hwx
                    obtain ⟨v, l, hrq⟩ := HBX.out
                    obtain ⟨A4, c4, rfl, hform⟩ := hrq.od.form
                    have hlen4 := hrq.len
                    have hus4 := us_len (upS S (P.take k))
                    have HRQ := Lib.hid hrq
                    have HFM := Lib.hid hform
                    obtain ⟨N, hNN⟩ : ∃ N, N = l.length := ⟨_, rfl⟩
                    have hN2 : N ≤ 1048576 := by
                      have : (upS S (P.take k)).n = S.n := rfl
                      omega
                    have HCC : Hid (∀ W, At wx W → W.cell? ⟨d, 2, none⟩ = some (.slice A4 N c4) ∧ W.cell? ⟨q, 0, none⟩ = some (.int .i64 (x : Int)) ∧ W.cell? ⟨q, 1, none⟩ = some (.slice (some ⟨gd, 0, none⟩) 40 cd)) := Lib.hid fun W hW => ⟨by
                      have := (hrq.on hW).cells.2.2; rwa [← hNN] at this, (cell_at (hW.keep HXB.out.box) 0).trans rfl, (cell_at (hW.keep HXB.out.box) 1).trans rfl⟩
                    have HGD : Hid (gd < wx.heap.size) := Lib.hid HXB.out.lt
                    have HBD := Lib.hid HXB.out.bv
                    have HLNN := Lib.hid hNN
                    have HUP := Lib.hid hrq.up
                    obtain ⟨z, hz⟩ : ∃ z : Lt, z = ((((x : Int), dd) : Pt), gd, cd) := ⟨_, rfl⟩
                    have HZ := Lib.hid hz
                    clear hrq hform hlen4 hus4 hNN hz HBX HXB
                    go_wp2
                    go_loopw [14, 15, 16] (fun c14 c15 c16 wr => ∃ (i : Nat) (dn : Bool), i ≤ N ∧ c16 = .int .i64 (i : Int) ∧ c15 = .bool dn ∧ Hid (Dn (l.take i) z dn) ∧ Hid (Dm wx wr c14 (ins (l.take i) z dn))) (fun _ _ c16 _ => N - (RowKit.intOf c16).toNat)
                    case atStart => exact ⟨0, false, Nat.zero_le _, rfl, rfl, Lib.hid (by rw [List.take_zero]; exact dn_nil z), Lib.hid ⟨World.ownsRow_nil _ _ _ _, fun x hx => (by cases hx), At.start _⟩⟩
                    case round =>
                      obtain ⟨i, dn, hi, rfl, rfl, HDN, HD⟩ := hrel
                      obtain ⟨b2, b3, b4⟩ := HCC.out wr HD.out.at_
                      by_cases hit : i < N
                      · have hil : i < l.length := by rw [← HLNN.out]; exact hit
                        obtain ⟨g0, rfl, hcl⟩ := HFM.out (by omega)
                        obtain ⟨k1, k2⟩ := hcl i hil
                        obtain ⟨u, hu1, hu2, hu3⟩ := HRQ.out.at_ hil
                        have hbvy := HRQ.out.od.bv (l.getD i lq) (by rw [List.getD_eq_getElem?_getD, List.getElem?_eq_getElem hil]; exact List.getElem_mem _)
                        have hy40 : (l.getD i lq).1.2.length = 40 := by rw [hu1]; exact (HRQ.out.ok.v u hu3).1
                        have htk := lt_take l i hil
                        have hup := fun y hy => lt_up HUP.out hil (y := y) hy
                        have hzx : z.1.1 = (x : Int) := by rw [HZ.out]
                        obtain ⟨y0, hye⟩ : ∃ y : Lt, y = l.getD i lq := ⟨_, rfl⟩
                        rw [← hye] at k1 k2 hbvy hy40 htk
                        simp only [← hye] at hup
                        obtain ⟨⟨y, yd⟩, yg, yc⟩ := y0
                        simp only at k1 k2 hbvy hy40 hup
                        rw [hy40] at k2
                        have HCY : Hid (∀ W, At wx W → W.cell? ⟨g0, i * 2, none⟩ = some (.int .i64 y) ∧ W.cell? ⟨g0, i * 2 + 1, none⟩ = some (.slice (some ⟨yg, 0, none⟩) 40 yc)) := Lib.hid fun W hW => ⟨(Below.cell hW (p := ⟨g0, i * 2, none⟩) (World.block_lt_of_cell? wx _ k1)).trans k1, (Below.cell hW (p := ⟨g0, i * 2 + 1, none⟩) (World.block_lt_of_cell? wx _ k2)).trans k2⟩
                        have HBY2 := Lib.hid hbvy
                        have HY40 := Lib.hid hy40
                        have HTK := Lib.hid htk
                        have HUPY := Lib.hid hup
                        have HZX := Lib.hid hzx
                        have HIL : Hid (i ≤ N ∧ (l.take i).length = i) := Lib.hid ⟨by omega, by rw [List.length_take]; omega⟩
                        obtain ⟨y1, y2⟩ := HCY.out wr HD.out.at_
                        have g3 : (0 : Int) ≤ (i : Int) := by omega
                        have g4 : (i : Int) < (N : Int) := by omega
                        clear hcl k1 k2 hu1 hu2 hu3 hbvy hy40 htk hup hzx hye hil
                        cases dn with
                        | true =>
                          have hlt2 : (x : Int) < y := by
                            obtain ⟨u2, hu2, hu3⟩ := HDN.out.1 rfl
                            have := HUPY.out u2 hu2
                            rw [HZX.out] at hu3; omega
                          have e2 : (y != (x : Int)) = true := by simp; omega
                          have HL1 := Lib.hid (ins_len (l.take i) z true)
                          have HLEN : Hid ((ins (l.take i) z true).length ≤ 2097160) := Lib.hid (by have := HL1.out; have := HIL.out.2; omega)
                          go_wp2
                          go_quiet (fail)
                          have hAq : At wr (wr.drewN nq) := (At.start wr).drewN nq
                          generalize wr.drewN nq = w21 at hAq ⊢
                          have HQ1 := Lib.hid hAq
                          clear hAq
                          have HD1 := Lib.hid (HD.out.on HQ1.out)
                          clear b2 b3 b4 y1 y2
                          obtain ⟨b2, b3, b4⟩ := HCC.out w21 HD1.out.at_
                          obtain ⟨y1, y2⟩ := HCY.out w21 HD1.out.at_
                          go_wp2
                          go_quiet (fail)
                          have hAq : At w21 (w21.drewN nq) := (At.start w21).drewN nq
                          generalize w21.drewN nq = w22 at hAq ⊢
                          have HQ2 := Lib.hid hAq
                          clear hAq
                          have HD2 := Lib.hid (HD1.out.on HQ2.out)
                          clear b2 b3 b4 y1 y2
                          obtain ⟨b2, b3, b4⟩ := HCC.out w22 HD2.out.at_
                          obtain ⟨y1, y2⟩ := HCY.out w22 HD2.out.at_
                          have HAWy : Hid (At w22 (w22.alloc (.cells #[.int .i64 y, .slice (some ⟨yg, 0, none⟩) 40 yc] 76))) := Lib.hid ((At.start w22).alloc _)
                          have HRWy := Lib.hid (row_on HD2.out.row HAWy.out)
                          have HNSy : Hid (∀ j v, [.int .i64 y, .slice (some ⟨yg, 0, none⟩) 40 yc][j]? = some v → (w22.alloc (.cells #[.int .i64 y, .slice (some ⟨yg, 0, none⟩) 40 yc] 76)).cell? ((⟨w22.heap.size, 0, none⟩ : Addr).add j) = some v) := Lib.hid (World.news_of_block (cs := #[.int .i64 y, .slice (some ⟨yg, 0, none⟩) 40 yc]) (t := 76) (fr := (0, 0)) (heap_alloc_new w22 _))
                          have HSZy : Hid (wx.heap.size ≤ (w22.alloc (.cells #[.int .i64 y, .slice (some ⟨yg, 0, none⟩) 40 yc] 76)).heap.size) := Lib.hid (Nat.le_trans HD2.out.at_.size HAWy.out.size)
                          go_wp2_with (first | (refine wpList_append_lies _ rfl (.tmp 163) (.tmp 171) 30 rfl wx.heap.size 76 i0 z0 2 32 Try.underlying30 hi0 hz0 hz1 hz2 hz3 (by omega) _ (ins (l.take i) z true).length (pcs (ins (l.take i) z true)) rfl HRWy.out ⟨w22.heap.size, 0, none⟩ 1 1 [.int .i64 y, .slice (some ⟨yg, 0, none⟩) 40 yc] rfl rfl HNSy.out (fun v hv => by simp at hv; rcases hv with rfl | rfl <;> rfl) (by omega) (by have := HLEN.out; unfold maxLen; omega) (by have := HLEN.out; omega) HSZy.out _ rfl ?_; intro gh cap3 w9 hown hgrow hat hlt4; have HY9 := Lib.hid (HD2.out.put (a := y) (d := yd) HAWy.out (HBY2.out.1.below (HD2.out.at_.next HAWy.out)) (Nat.lt_of_lt_of_le HBY2.out.2 HSZy.out) (HD2.out.old HBY2.out.2) (by rw [HY40.out]; exact hown) hgrow hat); clear hown hgrow hat hlt4) | fail)
                          go_roundw
                          case rel => exact ⟨i + 1, true, by omega, by go_num, rfl, Lib.hid (by rw [HTK.out]; exact dn_a HDN.out), Lib.hid (by rw [HTK.out, ins_a (by rw [HZX.out]; exact hlt2)]; exact HY9.out)⟩
                          case measure => simp [RowKit.intOf]; omega
                        | false =>
                          by_cases hyx : (x : Int) ≤ y
                          · have e1 : decide ((x : Int) ≤ y) = true := decide_eq_true hyx
                            by_cases hye : y = (x : Int)
                            · have e2 : (y != (x : Int)) = false := by rw [hye]; simp
                              have HYX := Lib.hid hye
                              clear hye hyx
                              have HL1 := Lib.hid (ins_len (l.take i) z false)
                              have HLEN : Hid ((ins (l.take i) z false).length ≤ 2097160) := Lib.hid (by have := HL1.out; have := HIL.out.2; omega)
                              go_wp2
                              go_quiet (fail)
                              have hAq : At wr (wr.drewN nq) := (At.start wr).drewN nq
                              generalize wr.drewN nq = w21 at hAq ⊢
                              have HQ1 := Lib.hid hAq
                              clear hAq
                              have HD1 := Lib.hid (HD.out.on HQ1.out)
                              clear b2 b3 b4 y1 y2
                              obtain ⟨b2, b3, b4⟩ := HCC.out w21 HD1.out.at_
                              obtain ⟨y1, y2⟩ := HCY.out w21 HD1.out.at_
                              have HAWx : Hid (At w21 (w21.alloc (.cells #[.int .i64 (x : Int), .slice (some ⟨gd, 0, none⟩) 40 cd] 76))) := Lib.hid ((At.start w21).alloc _)
                              have HRWx := Lib.hid (row_on HD1.out.row HAWx.out)
                              have HNSx : Hid (∀ j v, [.int .i64 (x : Int), .slice (some ⟨gd, 0, none⟩) 40 cd][j]? = some v → (w21.alloc (.cells #[.int .i64 (x : Int), .slice (some ⟨gd, 0, none⟩) 40 cd] 76)).cell? ((⟨w21.heap.size, 0, none⟩ : Addr).add j) = some v) := Lib.hid (World.news_of_block (cs := #[.int .i64 (x : Int), .slice (some ⟨gd, 0, none⟩) 40 cd]) (t := 76) (fr := (0, 0)) (heap_alloc_new w21 _))
                              have HSZx : Hid (wx.heap.size ≤ (w21.alloc (.cells #[.int .i64 (x : Int), .slice (some ⟨gd, 0, none⟩) 40 cd] 76)).heap.size) := Lib.hid (Nat.le_trans HD1.out.at_.size HAWx.out.size)
                              go_wp2_with (first | (refine wpList_append_lies _ rfl (.tmp 148) (.tmp 150) 30 rfl wx.heap.size 76 i0 z0 2 32 Try.underlying30 hi0 hz0 hz1 hz2 hz3 (by omega) _ (ins (l.take i) z false).length (pcs (ins (l.take i) z false)) rfl HRWx.out ⟨w21.heap.size, 0, none⟩ 1 1 [.int .i64 (x : Int), .slice (some ⟨gd, 0, none⟩) 40 cd] rfl rfl HNSx.out (fun v hv => by simp at hv; rcases hv with rfl | rfl <;> rfl) (by omega) (by have := HLEN.out; unfold maxLen; omega) (by have := HLEN.out; omega) HSZx.out _ rfl ?_; intro gg cap2 w8 hown hgrow hat hlt4; have HY8 := Lib.hid (HD1.out.put (a := (x : Int)) (d := dd) HAWx.out (HBD.out.below (HD1.out.at_.next HAWx.out)) (Nat.lt_of_lt_of_le HGD.out HSZx.out) (HD1.out.old HGD.out) (by rw [HLN.out]; exact hown) hgrow hat); clear hown hgrow hat hlt4; clear b2 b3 b4 y1 y2; obtain ⟨b2, b3, b4⟩ := HCC.out w8 HY8.out.at_; obtain ⟨y1, y2⟩ := HCY.out w8 HY8.out.at_) | fail)
                              go_quiet (fail)
                              have hAq : At w8 (w8.drewN nq) := (At.start w8).drewN nq
                              generalize w8.drewN nq = w23 at hAq ⊢
                              have HQ2 := Lib.hid hAq
                              clear hAq
                              have HD2 := Lib.hid (HY8.out.on HQ2.out)
                              go_wp2
                              go_roundw
                              case rel => exact ⟨i + 1, true, by omega, by go_num, rfl, Lib.hid (by rw [HTK.out]; exact dn_c (by rw [HZX.out]; simp only; rw [HYX.out]; exact Int.le_refl _)), Lib.hid (by rw [HTK.out, ins_c (fun u hu => HDN.out.2 rfl u hu) (by rw [HZX.out]; exact HYX.out)]; have := HD2.out; rw [← HZ.out] at this; exact this)⟩
                              case measure => simp [RowKit.intOf]; omega
                            · have e2 : (y != (x : Int)) = true := by simpa using hye
                              have HYX : Hid ((x : Int) < y) := Lib.hid (by omega)
                              clear hye hyx
                              have HL1 := Lib.hid (ins_len (l.take i) z false)
                              have HLEN : Hid ((ins (l.take i) z false).length ≤ 2097160) := Lib.hid (by have := HL1.out; have := HIL.out.2; omega)
                              go_wp2
                              go_quiet (fail)
                              have hAq : At wr (wr.drewN nq) := (At.start wr).drewN nq
                              generalize wr.drewN nq = w21 at hAq ⊢
                              have HQ1 := Lib.hid hAq
                              clear hAq
                              have HD1 := Lib.hid (HD.out.on HQ1.out)
                              clear b2 b3 b4 y1 y2
                              obtain ⟨b2, b3, b4⟩ := HCC.out w21 HD1.out.at_
                              obtain ⟨y1, y2⟩ := HCY.out w21 HD1.out.at_
                              have HAWx : Hid (At w21 (w21.alloc (.cells #[.int .i64 (x : Int), .slice (some ⟨gd, 0, none⟩) 40 cd] 76))) := Lib.hid ((At.start w21).alloc _)
                              have HRWx := Lib.hid (row_on HD1.out.row HAWx.out)
                              have HNSx : Hid (∀ j v, [.int .i64 (x : Int), .slice (some ⟨gd, 0, none⟩) 40 cd][j]? = some v → (w21.alloc (.cells #[.int .i64 (x : Int), .slice (some ⟨gd, 0, none⟩) 40 cd] 76)).cell? ((⟨w21.heap.size, 0, none⟩ : Addr).add j) = some v) := Lib.hid (World.news_of_block (cs := #[.int .i64 (x : Int), .slice (some ⟨gd, 0, none⟩) 40 cd]) (t := 76) (fr := (0, 0)) (heap_alloc_new w21 _))
                              have HSZx : Hid (wx.heap.size ≤ (w21.alloc (.cells #[.int .i64 (x : Int), .slice (some ⟨gd, 0, none⟩) 40 cd] 76)).heap.size) := Lib.hid (Nat.le_trans HD1.out.at_.size HAWx.out.size)
                              go_wp2_with (first | (refine wpList_append_lies _ rfl (.tmp 148) (.tmp 150) 30 rfl wx.heap.size 76 i0 z0 2 32 Try.underlying30 hi0 hz0 hz1 hz2 hz3 (by omega) _ (ins (l.take i) z false).length (pcs (ins (l.take i) z false)) rfl HRWx.out ⟨w21.heap.size, 0, none⟩ 1 1 [.int .i64 (x : Int), .slice (some ⟨gd, 0, none⟩) 40 cd] rfl rfl HNSx.out (fun v hv => by simp at hv; rcases hv with rfl | rfl <;> rfl) (by omega) (by have := HLEN.out; unfold maxLen; omega) (by have := HLEN.out; omega) HSZx.out _ rfl ?_; intro gg cap2 w8 hown hgrow hat hlt4; have HY8 := Lib.hid (HD1.out.put (a := (x : Int)) (d := dd) HAWx.out (HBD.out.below (HD1.out.at_.next HAWx.out)) (Nat.lt_of_lt_of_le HGD.out HSZx.out) (HD1.out.old HGD.out) (by rw [HLN.out]; exact hown) hgrow hat); clear hown hgrow hat hlt4; clear b2 b3 b4 y1 y2; obtain ⟨b2, b3, b4⟩ := HCC.out w8 HY8.out.at_; obtain ⟨y1, y2⟩ := HCY.out w8 HY8.out.at_) | fail)
                              go_quiet (fail)
                              have hAq : At w8 (w8.drewN nq) := (At.start w8).drewN nq
                              generalize w8.drewN nq = w23 at hAq ⊢
                              have HQ2 := Lib.hid hAq
                              clear hAq
                              have HD2 := Lib.hid (HY8.out.on HQ2.out)
                              clear b2 b3 b4 y1 y2
                              obtain ⟨b2, b3, b4⟩ := HCC.out w23 HD2.out.at_
                              obtain ⟨y1, y2⟩ := HCY.out w23 HD2.out.at_
                              clear HLEN
                              have HLEN : Hid (((ins (l.take i) z false) ++ [((((x : Int), dd) : Pt), gd, cd)]).length ≤ 2097160) := Lib.hid (by rw [List.length_append, List.length_singleton]; have := HL1.out; have := HIL.out.2; omega)
                              have hln2 : ((ins (l.take i) z false)).length + 1 = ((ins (l.take i) z false) ++ [((((x : Int), dd) : Pt), gd, cd)]).length := by rw [List.length_append]; rfl
                              rw [hln2] at HD2 ⊢
                              clear hln2
                              have HAWy : Hid (At w23 (w23.alloc (.cells #[.int .i64 y, .slice (some ⟨yg, 0, none⟩) 40 yc] 76))) := Lib.hid ((At.start w23).alloc _)
                              have HRWy := Lib.hid (row_on HD2.out.row HAWy.out)
                              have HNSy : Hid (∀ j v, [.int .i64 y, .slice (some ⟨yg, 0, none⟩) 40 yc][j]? = some v → (w23.alloc (.cells #[.int .i64 y, .slice (some ⟨yg, 0, none⟩) 40 yc] 76)).cell? ((⟨w23.heap.size, 0, none⟩ : Addr).add j) = some v) := Lib.hid (World.news_of_block (cs := #[.int .i64 y, .slice (some ⟨yg, 0, none⟩) 40 yc]) (t := 76) (fr := (0, 0)) (heap_alloc_new w23 _))
                              have HSZy : Hid (wx.heap.size ≤ (w23.alloc (.cells #[.int .i64 y, .slice (some ⟨yg, 0, none⟩) 40 yc] 76)).heap.size) := Lib.hid (Nat.le_trans HD2.out.at_.size HAWy.out.size)
                              go_wp2_with (first | (refine wpList_append_lies _ rfl (.tmp 163) (.tmp 171) 30 rfl wx.heap.size 76 i0 z0 2 32 Try.underlying30 hi0 hz0 hz1 hz2 hz3 (by omega) _ ((ins (l.take i) z false) ++ [((((x : Int), dd) : Pt), gd, cd)]).length (pcs ((ins (l.take i) z false) ++ [((((x : Int), dd) : Pt), gd, cd)])) rfl HRWy.out ⟨w23.heap.size, 0, none⟩ 1 1 [.int .i64 y, .slice (some ⟨yg, 0, none⟩) 40 yc] rfl rfl HNSy.out (fun v hv => by simp at hv; rcases hv with rfl | rfl <;> rfl) (by omega) (by have := HLEN.out; unfold maxLen; omega) (by have := HLEN.out; omega) HSZy.out _ rfl ?_; intro gh cap3 w9 hown hgrow hat hlt4; have HY9 := Lib.hid (HD2.out.put (a := y) (d := yd) HAWy.out (HBY2.out.1.below (HD2.out.at_.next HAWy.out)) (Nat.lt_of_lt_of_le HBY2.out.2 HSZy.out) (HD2.out.old HBY2.out.2) (by rw [HY40.out]; exact hown) hgrow hat); clear hown hgrow hat hlt4) | fail)
                              go_roundw
                              case rel => exact ⟨i + 1, true, by omega, by go_num, rfl, Lib.hid (by rw [HTK.out]; exact dn_c (by rw [HZX.out]; have := HYX.out; simp only; omega)), Lib.hid (by rw [HTK.out, ins_d (fun u hu => HDN.out.2 rfl u hu) (by rw [HZX.out]; exact HYX.out)]; have := HY9.out; rw [← HZ.out, show (ins (l.take i) z false ++ [z]).length = (ins (l.take i) z false).length + 1 by rw [List.length_append]; rfl] at this; exact this)⟩
                              case measure => simp [RowKit.intOf]; omega
                          · have e1 : decide ((x : Int) ≤ y) = false := decide_eq_false hyx
                            have e2 : (y != (x : Int)) = true := by simp; omega
                            have HL1 := Lib.hid (ins_len (l.take i) z false)
                            have HLEN : Hid ((ins (l.take i) z false).length ≤ 2097160) := Lib.hid (by have := HL1.out; have := HIL.out.2; omega)
                            go_wp2
                            go_quiet (fail)
                            have hAq : At wr (wr.drewN nq) := (At.start wr).drewN nq
                            generalize wr.drewN nq = w21 at hAq ⊢
                            have HQ1 := Lib.hid hAq
                            clear hAq
                            have HD1 := Lib.hid (HD.out.on HQ1.out)
                            clear b2 b3 b4 y1 y2
                            obtain ⟨b2, b3, b4⟩ := HCC.out w21 HD1.out.at_
                            obtain ⟨y1, y2⟩ := HCY.out w21 HD1.out.at_
                            go_wp2
                            go_quiet (fail)
                            have hAq : At w21 (w21.drewN nq) := (At.start w21).drewN nq
                            generalize w21.drewN nq = w22 at hAq ⊢
                            have HQ2 := Lib.hid hAq
                            clear hAq
                            have HD2 := Lib.hid (HD1.out.on HQ2.out)
                            clear b2 b3 b4 y1 y2
                            obtain ⟨b2, b3, b4⟩ := HCC.out w22 HD2.out.at_
                            obtain ⟨y1, y2⟩ := HCY.out w22 HD2.out.at_
                            have HAWy : Hid (At w22 (w22.alloc (.cells #[.int .i64 y, .slice (some ⟨yg, 0, none⟩) 40 yc] 76))) := Lib.hid ((At.start w22).alloc _)
                            have HRWy := Lib.hid (row_on HD2.out.row HAWy.out)
                            have HNSy : Hid (∀ j v, [.int .i64 y, .slice (some ⟨yg, 0, none⟩) 40 yc][j]? = some v → (w22.alloc (.cells #[.int .i64 y, .slice (some ⟨yg, 0, none⟩) 40 yc] 76)).cell? ((⟨w22.heap.size, 0, none⟩ : Addr).add j) = some v) := Lib.hid (World.news_of_block (cs := #[.int .i64 y, .slice (some ⟨yg, 0, none⟩) 40 yc]) (t := 76) (fr := (0, 0)) (heap_alloc_new w22 _))
                            have HSZy : Hid (wx.heap.size ≤ (w22.alloc (.cells #[.int .i64 y, .slice (some ⟨yg, 0, none⟩) 40 yc] 76)).heap.size) := Lib.hid (Nat.le_trans HD2.out.at_.size HAWy.out.size)
                            go_wp2_with (first | (refine wpList_append_lies _ rfl (.tmp 163) (.tmp 171) 30 rfl wx.heap.size 76 i0 z0 2 32 Try.underlying30 hi0 hz0 hz1 hz2 hz3 (by omega) _ (ins (l.take i) z false).length (pcs (ins (l.take i) z false)) rfl HRWy.out ⟨w22.heap.size, 0, none⟩ 1 1 [.int .i64 y, .slice (some ⟨yg, 0, none⟩) 40 yc] rfl rfl HNSy.out (fun v hv => by simp at hv; rcases hv with rfl | rfl <;> rfl) (by omega) (by have := HLEN.out; unfold maxLen; omega) (by have := HLEN.out; omega) HSZy.out _ rfl ?_; intro gh cap3 w9 hown hgrow hat hlt4; have HY9 := Lib.hid (HD2.out.put (a := y) (d := yd) HAWy.out (HBY2.out.1.below (HD2.out.at_.next HAWy.out)) (Nat.lt_of_lt_of_le HBY2.out.2 HSZy.out) (HD2.out.old HBY2.out.2) (by rw [HY40.out]; exact hown) hgrow hat); clear hown hgrow hat hlt4) | fail)
                            go_roundw
                            case rel => exact ⟨i + 1, false, by omega, by go_num, rfl, Lib.hid (by rw [HTK.out]; exact dn_b HDN.out (by rw [HZX.out]; simp only; omega)), Lib.hid (by rw [HTK.out, ins_b]; exact HY9.out)⟩
                            case measure => simp [RowKit.intOf]; omega
                      · have hie : i = N := by omega
                        have htk : l.take i = l := List.take_of_length_le (by rw [← HLNN.out]; omega)
                        rw [htk] at HDN HD
                        have HIL : Hid ((ins l z dn).length ≤ 2 * N + 1) := Lib.hid (by rw [HLNN.out]; exact ins_len l z dn)
                        have hfin := ins_is HRQ.out.is (z := z) (by rw [HZ.out]; exact HRG.out.1) (by rw [HZ.out]; exact HRG.out.2) (by
                          rw [HZ.out]; intro e; have := HLN.out; simp only at e; rw [e] at this; cases this)
                        have hzp : z.1 = ((x : Int), dd) := by rw [HZ.out]
                        rw [hzp, ← HST.out] at hfin
                        have HFIN := Lib.hid hfin
                        have HOKK := Lib.hid (HFI.out.okm H.out.ok HBY.out (k + 1))
                        have hie2 : decide ((i : Int) < (N : Int)) = false := decide_eq_false (by omega)
                        clear htk hfin hzp hie
                        cases dn with
                        | true =>
                          obtain ⟨A7, c7, rfl, -⟩ := HD.out.pv
                          have b5 : wr.frozen? ⟨d, 2, none⟩ = false := free_at (HD.out.at_.keep HRQ.out.box) 2
                          have HR2 : Hid (Rb (wr.setCell ⟨d, 2, none⟩ (.slice A7 (ins l z true).length c7)) d (upS S (P.take (k + 1))) Z) := Lib.hid ⟨_, _, rq_turn HRQ.out HD.out HOKK.out HFIN.out rfl rfl HZX2.out.1 (fun y hy => (ins_mem hy).elim (HRQ.out.px y) fun e => by rw [e, HZ.out]; exact HZX2.out.2)⟩
                          have HM2 : Hid (Mv (fun g => g = d) w (wr.setCell ⟨d, 2, none⟩ (.slice A7 (ins l z true).length c7))) := Lib.hid (Mv.set (F := fun g => g = d) (HMX.out.next HD.out.at_) (p := ⟨d, 2, none⟩) (Or.inl rfl) _)
                          go_wp2
                          go_roundw
                          case rel => exact ⟨k + 1, by omega, by go_num, HR2, HM2⟩
                          case measure => simp [RowKit.intOf]; omega
                        | false =>
                          have HLEN : Hid ((ins l z false).length ≤ 2097160) := Lib.hid (by have := HIL.out; omega)
                          have HAWx : Hid (At wr (wr.alloc (.cells #[.int .i64 (x : Int), .slice (some ⟨gd, 0, none⟩) 40 cd] 76))) := Lib.hid ((At.start wr).alloc _)
                          have HRWx := Lib.hid (row_on HD.out.row HAWx.out)
                          have HNSx : Hid (∀ j v, [.int .i64 (x : Int), .slice (some ⟨gd, 0, none⟩) 40 cd][j]? = some v → (wr.alloc (.cells #[.int .i64 (x : Int), .slice (some ⟨gd, 0, none⟩) 40 cd] 76)).cell? ((⟨wr.heap.size, 0, none⟩ : Addr).add j) = some v) := Lib.hid (World.news_of_block (cs := #[.int .i64 (x : Int), .slice (some ⟨gd, 0, none⟩) 40 cd]) (t := 76) (fr := (0, 0)) (heap_alloc_new wr _))
                          have HSZx : Hid (wx.heap.size ≤ (wr.alloc (.cells #[.int .i64 (x : Int), .slice (some ⟨gd, 0, none⟩) 40 cd] 76)).heap.size) := Lib.hid (Nat.le_trans HD.out.at_.size HAWx.out.size)
                          go_wp2_with (first | (refine wpList_append_lies _ rfl (.tmp 175) (.tmp 177) 30 rfl wx.heap.size 76 i0 z0 2 32 Try.underlying30 hi0 hz0 hz1 hz2 hz3 (by omega) _ (ins l z false).length (pcs (ins l z false)) rfl HRWx.out ⟨wr.heap.size, 0, none⟩ 1 1 [.int .i64 (x : Int), .slice (some ⟨gd, 0, none⟩) 40 cd] rfl rfl HNSx.out (fun v hv => by simp at hv; rcases hv with rfl | rfl <;> rfl) (by omega) (by have := HLEN.out; unfold maxLen; omega) (by have := HLEN.out; omega) HSZx.out _ rfl ?_; intro gg cap2 w8 hown hgrow hat hlt4; have HY8 := Lib.hid (HD.out.put (a := (x : Int)) (d := dd) HAWx.out (HBD.out.below (HD.out.at_.next HAWx.out)) (Nat.lt_of_lt_of_le HGD.out HSZx.out) (HD.out.old HGD.out) (by rw [HLN.out]; exact hown) hgrow hat); clear hown hgrow hat hlt4; have b2 := (HCC.out w8 HY8.out.at_).1; have b5 : w8.frozen? ⟨d, 2, none⟩ = false := free_at (HY8.out.at_.keep HRQ.out.box) 2; have HR2 : Hid (Rb (w8.setCell ⟨d, 2, none⟩ (.slice (some ⟨gg, 0, none⟩) ((ins l z false).length + 1) cap2)) d (upS S (P.take (k + 1))) Z) := Lib.hid ⟨_, _, rq_turn HRQ.out HY8.out HOKK.out (by rw [← HZ.out, ins_end HDN.out]; exact HFIN.out) rfl rfl HZX2.out.1 (fun y hy => (List.mem_append.1 hy).elim (fun hy => (ins_mem hy).elim (HRQ.out.px y) fun e => by rw [e, HZ.out]; exact HZX2.out.2) fun hy => by rw [List.mem_singleton] at hy; rw [hy]; exact HZX2.out.2)⟩; have HM2 : Hid (Mv (fun g => g = d) w (w8.setCell ⟨d, 2, none⟩ (.slice (some ⟨gg, 0, none⟩) ((ins l z false).length + 1) cap2))) := Lib.hid (Mv.set (F := fun g => g = d) (HMX.out.next HY8.out.at_) (p := ⟨d, 2, none⟩) (Or.inl rfl) _)) | fail)
                          go_roundw
                          case rel => exact ⟨k + 1, by omega, by go_num, HR2, HM2⟩
                          case measure => simp [RowKit.intOf]; omega
                  · have hkn : k = j := by omega
                    have ht : P.take k = P := List.take_of_length_le (by rw [HN.out]; omega)
                    rw [ht] at HB
                    have HE : Hid (Wr (rf S P) d (Proofs.Ytgjlklladbcmcaa.wr S P) Z w (.returned (.int .i64 0)) wr) := Lib.hid (by
                      rw [wr_yes HR0.out, HR0.out]; exact ⟨rfl, HB.out, HM.out⟩)
                    subst hkn
                    clear ht
                    go_wp2
                    go_ret
                    exact HE.out

end Go.Proofs.Ytgjlklladbcmcaa
