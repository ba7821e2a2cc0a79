/- Proved: what the library's symMerge gives at a row of ints where the stretch behind has one element: it is put where it belongs. -/
import Derived.Test.YtefpaagbopmmlaaSyl
namespace Go.Proofs.Ytefpaagbopmmlaa
open Go.RowKit Go.Sort

set_option maxHeartbeats 4000000 in
set_option maxRecDepth 100000 in
theorem sym_right (F : Nat → Int) (cf : Nat → Nat → Int) (T : Nat → Nat → Prop) (hT : Ord T) (w : World) (blk off n cap sb : Nat) (H : Rw F w blk off n) (hC : CmpOk F cf w blk off n sb) (hn : n ≤ 1000000) (p A s : List Nat) (y m : Nat) (a c b : Int) (h2 : 2 ≤ A.length)
    (hA : A.Pairwise T) (hX : ∀ x ∈ A, Cross T cf x y) (hlen : (p ++ A ++ [y] ++ s).length = n) (ha : a = p.length) (hc : c = (p.length + A.length : Nat)) (hb : b = (p.length + A.length + 1 : Nat)) :
    Calls Try.prog 41 #[.slice (some ⟨blk, off, none⟩) n cap, .int .i64 a, .int .i64 c, .int .i64 b, cv sb] (RW F w blk off (p ++ A ++ [y] ++ s) m) fun e w' =>
      e = .returned (.tuple #[]) ∧ ∃ m' C, w' = RW F w blk off (p ++ C ++ s) m' ∧ C.Perm (y :: A) ∧ C.Pairwise T := by
  have hlen' : p.length + A.length + 1 + s.length = n := by simp at hlen; omega
  obtain ⟨Z, hZ⟩ : ∃ Z, Z = p.length := ⟨_, rfl⟩
  obtain ⟨N, hN⟩ : ∃ N, N = A.length := ⟨_, rfl⟩
  rw [← hZ] at ha; rw [← hZ, ← hN] at hb hc
  subst ha
  replace hc : c = (Z : Int) + (N : Int) := by omega
  replace hb : b = (Z : Int) + (N : Int) + 1 := by omega
  subst hb hc
  have b1 : Z + N + 1 ≤ n := by omega
  have b2 : 2 ≤ N := by omega
  have HZ := Lib.hid hZ
  have HNN := Lib.hid hN
  have HN := Lib.hid hlen'
  have HH := Lib.hid H
  have HC := Lib.hid hC
  have HT := Lib.hid hT
  have HA := Lib.hid hA
  have HX := Lib.hid hX
  clear hZ hN hlen hlen' H hC hT hA hX h2
  have HXL : Hid ((p ++ A ++ [y] ++ s).length = n) := Lib.hid (by have := HN.out; simp; omega)
  obtain ⟨wx, hwx⟩ : ∃ wx, wx = RW F w blk off (p ++ A ++ [y] ++ s) m := ⟨_, rfl⟩
  rw [← hwx]
  have HWX := Lib.hid hwx
  clear hwx
  unfold cv
  have t0 : ((Z : Int) + (N : Int) - (Z : Int) == 1) = false := by rw [beq_eq_false_iff_ne]; omega
  have t1 : ((Z : Int) + (N : Int) + 1 - ((Z : Int) + (N : Int)) == 1) = true := by rw [beq_iff_eq]; omega
  go_enter Try.func41, Try.ntmps41
  go_wp2
  go_loopw [14, 15] (fun i j wr => ∃ (g h m' : Nat), g ≤ h ∧ h ≤ N ∧ i = .int .i64 ((Z : Int) + (g : Int)) ∧ j = .int .i64 ((Z : Int) + (h : Int)) ∧ Hid ((∀ t, t < g → T (A.getD t 0) y) ∧ (∀ t, h ≤ t → t < N → T y (A.getD t 0)) ∧ wr = RW F w blk off (p ++ A ++ [y] ++ s) m')) (fun i j _ => (intOf j).toNat - (intOf i).toNat)
  case atStart => exact ⟨0, N, m, Nat.zero_le _, Nat.le_refl _, by go_num, rfl, Lib.hid ⟨fun t h => absurd h (Nat.not_lt_zero t), fun t h1 h2 => by omega, HWX.out⟩⟩
  case round =>
    clear HWX
    obtain ⟨g, h, m', hgh, hhN, rfl, rfl, HR⟩ := hrel
    by_cases hlt : g < h
    · obtain ⟨k, hk⟩ : ∃ k, k = (g + h) / 2 := ⟨_, rfl⟩
      have kN : k < N := by omega
      obtain ⟨x, hx⟩ : ∃ x, x = A.getD k 0 := ⟨_, rfl⟩
      have hcr : Cross T cf x y := HX.out x (by rw [hx]; exact at_mem (by rw [← HNN.out]; exact kN))
      have e1 : (p ++ A ++ [y] ++ s).getD (Z + k) 0 = x := by
        rw [HZ.out, List.append_assoc (p ++ A), List.append_assoc p, getD_right, getD_left _ _ _ (by rw [← HNN.out]; exact kN), hx]
      have e2 : (p ++ A ++ [y] ++ s).getD (Z + N) 0 = y := by
        have := getD_mid (p ++ A) s y
        rw [List.length_append, ← HZ.out, ← HNN.out] at this
        simpa using this
      have c1 := rw_cell HH.out HXL.out m' (Z + k) (by omega)
      have c2 := rw_cell HH.out HXL.out m' (Z + N) (by omega)
      have hc := cmp_at HC.out HXL.out m' y x
      rw [e1] at c1
      rw [e2] at c2
      rw [← HR.out.2.2] at c1 c2 hc
      have HY : Hid (x = A.getD k 0) := Lib.hid hx
      have HK : Hid (k = (g + h) / 2) := Lib.hid hk
      have ev : (((Z : Int) + (g : Int) + ((Z : Int) + (h : Int))) / 2) = (Z : Int) + (k : Int) := by omega
      have ba : (0 : Int) ≤ (Z : Int) + (k : Int) := by omega
      have ca : (Z : Int) + (k : Int) < (n : Int) := by omega
      have bb : (0 : Int) ≤ (Z : Int) + (N : Int) := by omega
      have cb : (Z : Int) + (N : Int) < (n : Int) := by omega
      have HW : Hid (∀ q, wr.drewN q = RW F w blk off (p ++ A ++ [y] ++ s) (m' + q)) := Lib.hid (fun q => by rw [HR.out.2.2, rw_drewN])
      by_cases hlv : cf y x < 0
      · have hTyx : T y x := by
          rcases hcr with ⟨_, q⟩ | ⟨q, _⟩
          · exact q
          · exact absurd hlv q
        have HREL : Hid (∀ t, k ≤ t → t < N → T y (A.getD t 0)) := Lib.hid (fun t ht ht2 => by
          by_cases e : t = k
          · rw [e, ← hx]; exact hTyx
          · have := pair_at HA.out (show k < t by omega) (by rw [← HNN.out]; exact ht2)
            rw [← hx] at this
            exact HT.out.1 _ _ _ hTyx this)
        have HR2 := Lib.hid HR.out.1
        have hnd : (!decide (cf y x < 0)) = false := by rw [decide_eq_true hlv]; rfl
        clear e1 e2 hx hk hTyx hcr HR
        go_wp2
        go_quiet ((go_at_call 29; exact Calls.quiet_of (hc _)))
        go_wp2
        have := HK.out
        go_roundw
        case rel => exact ⟨g, k, _, by omega, by omega, rfl, by go_num, Lib.hid ⟨HR2.out, HREL.out, HW.out _⟩⟩
        case measure => simp [intOf]; omega
      · have hTxy : T x y := by
          rcases hcr with ⟨q, _⟩ | ⟨_, q⟩
          · exact absurd q hlv
          · exact q
        have HREL : Hid (∀ t, t < k + 1 → T (A.getD t 0) y) := Lib.hid (fun t ht => by
          by_cases e : t = k
          · rw [e, ← hx]; exact hTxy
          · have := pair_at HA.out (show t < k by omega) (by rw [← HNN.out]; exact kN)
            rw [← hx] at this
            exact HT.out.1 _ _ _ this hTxy)
        have HR2 := Lib.hid HR.out.2.1
        have hnd : (!decide (cf y x < 0)) = true := by rw [decide_eq_false hlv]; rfl
        clear e1 e2 hx hk hTxy hcr HR
        go_wp2
        go_quiet ((go_at_call 29; exact Calls.quiet_of (hc _)))
        go_wp2
        have := HK.out
        go_roundw
        case rel => exact ⟨k + 1, h, _, by omega, hhN, by go_num, rfl, Lib.hid ⟨HREL.out, HR2.out, HW.out _⟩⟩
        case measure => simp [intOf]; omega
    · obtain rfl : g = h := by omega
      obtain ⟨A1, A2, e1, e2, e3⟩ := split_len A g (by rw [← HNN.out]; exact hhN)
      have k1 : ∀ x ∈ A1, T x y := fun x hx => by
        obtain ⟨t, ht, rfl⟩ := mem_at hx
        have := HR.out.1 t (by omega)
        rwa [e1, getD_left _ _ _ ht] at this
      have k2 : ∀ x ∈ A2, T y x := fun x hx => by
        obtain ⟨t, ht, rfl⟩ := mem_at hx
        have := HR.out.2.1 (g + t) (by omega) (by rw [HNN.out]; omega)
        rw [e1, ← e2, getD_right] at this
        exact this
      have HFIN := Lib.hid (put_in HA.out e1 k1 k2)
      have HW : Hid (wr = RW F w blk off (p ++ A1 ++ A2 ++ y :: [] ++ s) m') := Lib.hid (by rw [HR.out.2.2, e1]; simp)
      have HA1 := Lib.hid e2
      have HAL : Hid (A1.length + A2.length = N) := Lib.hid (by have := HNN.out; omega)
      have HA2 : Hid (A2.length = N - g) := Lib.hid (by have := HNN.out; omega)
      clear k1 k2 e1 e2 e3 HR
      have hge : ¬ ((Z : Int) + (g : Int) < (Z : Int) + (g : Int)) := by omega
      go_wp2
      go_loopw [17] (fun i wr => ∃ (d m2 : Nat) (C1 C2 : List Nat), g ≤ d ∧ d ≤ N ∧ i = .int .i64 ((Z : Int) + (d : Int)) ∧ Hid (A2 = C1 ++ C2 ∧ g + C1.length = d ∧ wr = RW F w blk off (p ++ A1 ++ C1 ++ y :: C2 ++ s) m2)) (fun i _ => (intOf i).toNat)
      case atStart => exact ⟨N, m', A2, [], hhN, Nat.le_refl _, rfl, Lib.hid ⟨by simp, by have := HA2.out; omega, HW.out⟩⟩
      case round =>
        clear HW
        obtain ⟨d, m2, C1, C2, hgd, hd, rfl, HR⟩ := hrel
        by_cases hlt : g < d
        · obtain ⟨e, rfl⟩ : ∃ e, d = e + 1 := ⟨d - 1, by omega⟩
          obtain ⟨C3, z, hx⟩ : ∃ C3 z, C1 = C3 ++ [z] := by
            rcases List.eq_nil_or_concat C1 with h | ⟨D', y, h⟩
            · exfalso; have := HR.out.2.1; rw [h] at this; simp at this; omega
            · exact ⟨D', y, by rw [h, List.concat_eq_append]⟩
          subst hx
          obtain ⟨h1, h2, h3⟩ := HR.out
          have h1l := congrArg List.length h1
          simp at h1l h2
          have hZv := HZ.out
          have hN2 := HN.out
          have hNN2 := HNN.out
          have hA12 := HA1.out
          have hAL2 := HAL.out
          have e0 : p ++ A1 ++ (C3 ++ [z]) ++ y :: C2 ++ s = (p ++ A1 ++ C3) ++ z :: ([] ++ y :: (C2 ++ s)) := by simp
          rw [e0] at h3
          obtain ⟨X, hX⟩ : ∃ X, X = (p ++ A1 ++ C3) ++ z :: ([] ++ y :: (C2 ++ s)) := ⟨_, rfl⟩
          rw [← hX] at h3
          have hXl : X.length = n := by rw [hX]; simp; omega
          obtain ⟨iN, hiN⟩ : ∃ t, t = Z + (e + 1) := ⟨_, rfl⟩
          obtain ⟨jN, hjN⟩ : ∃ t, t = Z + e := ⟨_, rfl⟩
          have p1 : jN = (p ++ A1 ++ C3).length := by simp; omega
          have p2 : iN = (p ++ A1 ++ C3).length + 1 + ([] : List Nat).length := by simp; omega
          have c1 := rw_cell HH.out hXl m2 iN (by omega)
          have c2 := rw_cell HH.out hXl m2 jN (by omega)
          have f1 := rw_frozen HH.out hXl m2 iN (by omega)
          have f2 := rw_frozen HH.out hXl m2 jN (by omega)
          have g1 : X.getD iN 0 = y := by rw [hX, p2]; exact getD_mid2 _ _ _ _ _
          have g2 : X.getD jN 0 = z := by rw [hX, p1]; exact getD_mid _ _ _
          have S2 := rw_swap F w blk off X m2 iN jN (by omega) (by omega)
          have g3 : sw X iN jN = p ++ A1 ++ C3 ++ y :: (z :: C2) ++ s := by rw [hX, p1, p2, sw_split']; simp
          obtain ⟨uu, c3⟩ := rw_second HH.out hXl m2 iN jN (by omega) (by omega) (.int .i64 (F z))
          rw [g1] at c1 S2
          rw [g2] at c2 S2
          rw [g3] at S2
          rw [← h3] at c1 c2 c3 f1 f2 S2
          have HS2 := Lib.hid S2
          have HREL : Hid (A2 = C3 ++ (z :: C2) ∧ g + C3.length = e) := Lib.hid ⟨by rw [h1]; simp, by omega⟩
          have ea : ((Z : Int) + ((e : Int) + 1)).toNat = iN := by omega
          have eb : ((Z : Int) + (e : Int)).toNat = jN := by omega
          have eb' : (Z : Int) + ((e : Int) + 1) - 1 = (Z : Int) + (e : Int) := by omega
          have ba : (0 : Int) ≤ (Z : Int) + ((e : Int) + 1) := by omega
          have bb : (0 : Int) ≤ (Z : Int) + (e : Int) := by omega
          have ca : (Z : Int) + ((e : Int) + 1) < (n : Int) := by omega
          have cb : (Z : Int) + (e : Int) < (n : Int) := by omega
          have gt : (Z : Int) + (g : Int) < (Z : Int) + ((e : Int) + 1) := by omega
          clear S2 h1 h2 h3 h1l hZv hN2 hNN2 hA12 hAL2 e0 hX hXl p1 p2 hiN hjN g1 g2 g3 HR
          go_wp2
          go_region
          all_goals
            go_wp2
            go_roundw
            case rel => exact ⟨e, _, _, _, by omega, by omega, by first | rfl | go_num, Lib.hid ⟨HREL.out.1, HREL.out.2, HS2.out⟩⟩
            case measure => simp [intOf]; omega
        · obtain rfl : d = g := by omega
          have HEND : Hid (wr = RW F w blk off (p ++ (A1 ++ y :: A2) ++ s) m2) := Lib.hid (by
            obtain ⟨h1, h2, h3⟩ := HR.out
            obtain rfl : C1 = [] := List.eq_nil_of_length_eq_zero (by omega)
            rw [h3, h1]; simp)
          have lt1 : ¬ ((Z : Int) + (d : Int) < (Z : Int) + (d : Int)) := by omega
          clear HR
          go_wp2
          refine bodyPost_ret (results_none rfl _ _ _) rfl ?_
          exact ⟨rfl, m2, _, by rw [HEND.out]; simp, HFIN.out.1, HFIN.out.2⟩

end Go.Proofs.Ytefpaagbopmmlaa
