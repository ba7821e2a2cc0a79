/- Proved: whether transactions stand in order: the document's own Order. -/
import Derived.Test.YtgmekkenodiclaaOr
namespace Go.Proofs.Ytgmekkenodiclaa
open Go.RowKit

set_option maxHeartbeats 4000000 in
set_option maxRecDepth 100000 in
theorem rorder_any (A : Option Addr) (L : List Tx) (n c : Nat) (hn : L.length = n) (hn2 : n ≤ 1000000) (hP : ∀ x ∈ L, x.2.length ≤ 1000000) (w : World) (hv : TV w A L) :
    Calls Try.prog 52 #[.slice A n c] w (Gives (.bool (odB L)) w) := by
  have HN := Lib.hid hn
  have HV := Lib.hid hv
  have HPL := Lib.hid hP
  clear hn hv hP
  go_enter Try.func52, Try.ntmps52
  go_wp2
  go_loopw [3, 4] (fun c3 c4 wr => ∃ (k : Nat) (t : Int), k ≤ n ∧ c4 = .int .i64 (k : Int) ∧ c3 = .int .i64 t ∧ Hid (t = la L k) ∧ Hid (∀ j, j < k → O1 (la L j) (L.getD j txz)) ∧ Hid (At w wr)) (fun _ c4 _ => n - (RowKit.intOf c4).toNat)
  case atStart => exact ⟨0, 0, Nat.zero_le _, rfl, rfl, Lib.hid rfl, Lib.hid (fun j h => absurd h (Nat.not_lt_zero j)), Lib.hid (At.start w)⟩
  case round =>
    obtain ⟨k, t, hk, rfl, rfl, HT, HO, HA⟩ := hrel
    by_cases hlt : k < n
    · have hkL : k < L.length := by rw [HN.out]; exact hlt
      obtain ⟨gb, o, rfl, hg, hc⟩ := (HV.out.on HA.out).pos (by omega)
      obtain ⟨k1, B, cb, k2, hpv⟩ := hc k hkL
      have hpl := HPL.out _ (tx_mem hkL)
      have hno : ¬ O1 (la L k) (L.getD k txz) → odB L = false := odB_at hkL
      have hok : O1 (la L k) (L.getD k txz) → _ := od_more HO.out
      have hnt : la L (k + 1) = (L.getD k txz).1 := rfl
      rw [← HT.out] at hno hok
      obtain ⟨x0, hx0⟩ : ∃ x, L.getD k txz = x := ⟨_, rfl⟩
      rw [hx0] at k1 k2 hpv hpl hno hok hnt
      obtain ⟨T, P⟩ := x0
      simp only at k1 k2 hpv hpl hnt
      obtain ⟨m, hm⟩ : ∃ m, P.length = m := ⟨_, rfl⟩
      rw [hm] at k2 hpl
      have HM := Lib.hid hm
      have HNO := Lib.hid hno
      have HOK := Lib.hid hok
      have HNT := Lib.hid hnt
      have g1 : (0 : Int) ≤ (k : Int) := by omega
      have g2 : (k : Int) < (n : Int) := by omega
      have HPV := Lib.hid hpv
      have HK : Hid (∀ W, At wr W → W.cell? ⟨gb, o + k * 2, none⟩ = some (.int .i64 T) ∧ W.cell? ⟨gb, o + k * 2 + 1, none⟩ = some (.slice B m cb)) := Lib.hid fun W hW =>
        ⟨(Below.cell hW (p := ⟨gb, o + k * 2, none⟩) hg).trans k1, (Below.cell hW (p := ⟨gb, o + k * 2 + 1, none⟩) hg).trans k2⟩
      clear hc hno hok hnt hx0 hkL hg hm hpv
      by_cases e1 : T ≤ t
      · have z1 : decide (T ≤ t) = true := decide_eq_true e1
        have HR := Lib.hid (HNO.out fun h => by have := h.lo; simp only at this; omega)
        clear e1
        go_wp2
        go_ret
        exact ⟨by rw [HR.out]; rfl, HA.out⟩
      · have z1 : decide (T ≤ t) = false := decide_eq_false e1
        by_cases e2 : 1099511627776 < T
        · have z2 : decide (1099511627776 < T) = true := decide_eq_true e2
          have HR := Lib.hid (HNO.out fun h => by have := h.hi; simp only at this; omega)
          clear e1 e2
          go_wp2
          go_ret
          exact ⟨by rw [HR.out]; rfl, HA.out⟩
        · have z2 : decide (1099511627776 < T) = false := decide_eq_false e2
          by_cases e3 : m = 0
          · have z3 : ((m : Int) == 0) = true := by rw [e3]; rfl
            have HR := Lib.hid (HNO.out fun h => h.ne (List.eq_nil_of_length_eq_zero (by simp only; rw [HM.out]; exact e3)))
            clear e1 e2 e3
            go_wp2
            go_ret
            exact ⟨by rw [HR.out]; rfl, HA.out⟩
          · have z3 : ((m : Int) == 0) = false := by simp; omega
            have HLO : Hid (t < T ∧ T ≤ 1099511627776 ∧ P ≠ []) := Lib.hid ⟨by omega, by omega, fun e => e3 (by rw [← HM.out, e]; rfl)⟩
            have hm1 : 1 ≤ m := by omega
            obtain ⟨gp, op, rfl, hgp, hcp⟩ := HPV.out.pos (by rw [HM.out]; omega)
            have HC : Hid (∀ W, At wr W → ∀ j, j < P.length → W.cell? ⟨gp, op + j * 2, none⟩ = some (.int .i64 (P.getD j pz).1)) := Lib.hid fun W hW j hj => (Below.cell hW (p := ⟨gp, op + j * 2, none⟩) hgp).trans (hcp j hj).1
            have HS : Hid (∀ W, At wr W → At w W) := Lib.hid fun W hW => HA.out.next hW
            obtain ⟨wb, hwb⟩ : ∃ wb, wb = wr := ⟨_, rfl⟩
            have HWB : Hid (At wb wr) := Lib.hid (by rw [hwb]; exact At.start _)
            rw [← hwb] at HC HK HS
            clear e1 e2 e3 hgp hcp hwb
            go_wp2_with fail
            go_loopw [5] (fun c5 wx => ∃ i : Nat, 1 ≤ i ∧ i ≤ m ∧ c5 = .int .i64 (i : Int) ∧ Hid (∀ j, 1 ≤ j → j < i → (P.getD (j - 1) pz).1 < (P.getD j pz).1) ∧ Hid (At wb wx)) (fun c5 _ => m - (RowKit.intOf c5).toNat)
            case atStart => exact ⟨1, Nat.le_refl _, hm1, rfl, Lib.hid (fun j a b => absurd a (by omega)), HWB⟩
            case round =>
              clear k1 k2 z1 z2 z3 HWB
              obtain ⟨i, i1, im, rfl, HR, HX⟩ := hrel
              have hcp := HC.out _ HX.out
              obtain ⟨k1, k2⟩ := HK.out _ HX.out
              by_cases hlt2 : i < m
              · obtain ⟨p, hp⟩ : ∃ p, p = i - 1 := ⟨_, rfl⟩
                have c1 := hcp i (by rw [HM.out]; exact hlt2)
                have c2 := hcp p (by rw [HM.out]; omega)
                have hij : (i : Int) - 1 = (p : Int) := by omega
                have f1 : (0 : Int) ≤ (i : Int) := by omega
                have f2 : (i : Int) < (m : Int) := by omega
                have f3 : (0 : Int) ≤ (p : Int) := by omega
                have f4 : (p : Int) < (m : Int) := by omega
                have hwr : IntKind.i64.wrap ((i : Int) - 1) = (p : Int) := by rw [hij]; exact IntWalk.i64_in _ (by omega)
                obtain ⟨x, hx⟩ : ∃ x, x = (P.getD i pz).1 := ⟨_, rfl⟩
                obtain ⟨y, hy⟩ : ∃ y, y = (P.getD p pz).1 := ⟨_, rfl⟩
                rw [← hx] at c1
                rw [← hy] at c2
                have HXX := Lib.hid hx
                have HYY := Lib.hid hy
                have HI := Lib.hid hp
                clear hcp hx hy hp
                by_cases hxy : x ≤ y
                · have z5 : decide (x ≤ y) = true := decide_eq_true hxy
                  have HRR := Lib.hid (HNO.out fun h => by
                    have := h.rs i i1 (by simp only; rw [HM.out]; exact hlt2)
                    simp only at this
                    rw [← HI.out, ← HXX.out, ← HYY.out] at this; omega)
                  have HNX : Hid (∀ m', At w (wr.drewN m')) := Lib.hid (fun m' => (HS.out _ HX.out).drewN m')
                  clear hxy
                  go_wp2_with fail
                  go_quiet (fail)
                  go_wp2
                  go_ret
                  exact ⟨by rw [HRR.out]; rfl, HNX.out _⟩
                · have z5 : decide (x ≤ y) = false := decide_eq_false hxy
                  have HNX : Hid (∀ m', At wb (wr.drewN m')) := Lib.hid (fun m' => HX.out.drewN m')
                  go_wp2_with fail
                  go_quiet (fail)
                  go_wp2
                  go_roundw
                  case rel => exact ⟨i + 1, by omega, by omega, by go_num, Lib.hid (fun k a b => by
                    by_cases e : k = i
                    · subst e; rw [← HI.out, ← HXX.out, ← HYY.out]; omega
                    · exact HR.out k a (by omega)), Lib.hid (HNX.out _)⟩
                  case measure => simp [RowKit.intOf]; omega
              · have him : i = m := by omega
                have HO2 := Lib.hid (HOK.out ⟨HLO.out.1, HLO.out.2.1, HLO.out.2.2, fun j a b => HR.out j a (by simp only at b; rw [HM.out] at b; omega)⟩)
                have z5 : decide ((i : Int) < (m : Int)) = false := decide_eq_false (by omega)
                clear him
                go_wp2_with fail
                go_roundw
                case rel => exact ⟨k + 1, T, by omega, by go_num, rfl, Lib.hid HNT.out.symm, HO2, Lib.hid (HS.out _ HX.out)⟩
                case measure => simp [RowKit.intOf]; omega
    · have hkn : k = n := by omega
      have HR : Hid (odB L = true) := Lib.hid (odB_yes fun j hj => HO.out j (by rw [HN.out] at hj; omega))
      subst hkn
      go_wp2
      go_ret
      exact ⟨by rw [HR.out]; rfl, HA.out⟩

end Go.Proofs.Ytgmekkenodiclaa
