/- Proved: what the library's symMerge gives at a row of ints where the stretch ahead has one element: it is put where it belongs. -/
import Derived.Test.YtefpaagbopmmlaaIns
namespace Go.Proofs.Ytefpaagbopmmlaa
open Go.RowKit Go.Sort

theorem mem_at {B : List Nat} {y : Nat} (h : y ∈ B) : ∃ t, t < B.length ∧ B.getD t 0 = y := by
  obtain ⟨j, hj, rfl⟩ := List.mem_iff_getElem.1 h
  exact ⟨j, hj, by rw [List.getD_eq_getElem?_getD, List.getElem?_eq_getElem hj]; rfl⟩
theorem at_mem {B : List Nat} {t : Nat} (h : t < B.length) : B.getD t 0 ∈ B := by
  rw [List.getD_eq_getElem?_getD, List.getElem?_eq_getElem h]
  exact List.getElem_mem h
theorem pair_at {T : Nat → Nat → Prop} {B : List Nat} (h : B.Pairwise T) {i j : Nat} (hij : i < j) (hj : j < B.length) : T (B.getD i 0) (B.getD j 0) := by
  have := List.pairwise_iff_getElem.1 h i j (by omega) hj hij
  rw [List.getD_eq_getElem?_getD, List.getElem?_eq_getElem (by omega), List.getD_eq_getElem?_getD, List.getElem?_eq_getElem hj]
  exact this
theorem getD_right (P Q : List Nat) (t : Nat) : (P ++ Q).getD (P.length + t) 0 = Q.getD t 0 := by
  rw [List.getD_eq_getElem?_getD, List.getD_eq_getElem?_getD, List.getElem?_append_right (by omega), show P.length + t - P.length = t by omega]
theorem getD_left (P Q : List Nat) (t : Nat) (h : t < P.length) : (P ++ Q).getD t 0 = P.getD t 0 := by
  rw [List.getD_eq_getElem?_getD, List.getD_eq_getElem?_getD, List.getElem?_append_left h]

/-- x put between B1 and B2. -/
theorem put_in {T : Nat → Nat → Prop} {B B1 B2 : List Nat} {x : Nat} (hB : B.Pairwise T) (e : B = B1 ++ B2) (h1 : ∀ y ∈ B1, T y x) (h2 : ∀ y ∈ B2, T x y) : (B1 ++ x :: B2).Perm (x :: B) ∧ (B1 ++ x :: B2).Pairwise T := by
  subst e
  refine ⟨List.perm_middle, ?_⟩
  rw [List.pairwise_append] at hB ⊢
  obtain ⟨a, b, c⟩ := hB
  refine ⟨a, List.pairwise_cons.2 ⟨h2, b⟩, ?_⟩
  intro d hd y hy
  rcases List.mem_cons.1 hy with rfl | hy
  · exact h1 d hd
  · exact c d hd y hy

set_option maxHeartbeats 4000000 in
set_option maxRecDepth 100000 in
theorem sym_left (F : Nat → Int) (cf : Nat → Nat → Int) (T : Nat → Nat → Prop) (hT : Ord T) (w : World) (blk off n cap sb : Nat) (H : Rw F w blk off n) (hC : CmpOk F cf w blk off n sb) (hn : n ≤ 1000000) (p B s : List Nat) (x m : Nat) (a c b : Int)
    (hB : B.Pairwise T) (hX : ∀ y ∈ B, Cross T cf x y) (hlen : (p ++ [x] ++ B ++ s).length = n) (ha : a = p.length) (hc : c = (p.length + 1 : Nat)) (hb : b = (p.length + 1 + B.length : Nat)) :
    Calls Try.prog 41 #[.slice (some ⟨blk, off, none⟩) n cap, .int .i64 a, .int .i64 c, .int .i64 b, cv sb] (RW F w blk off (p ++ [x] ++ B ++ s) m) fun e w' =>
      e = .returned (.tuple #[]) ∧ ∃ m' C, w' = RW F w blk off (p ++ C ++ s) m' ∧ C.Perm (x :: B) ∧ C.Pairwise T := by
  have hlen' : p.length + 1 + B.length + s.length = n := by simp at hlen; omega
  obtain ⟨Z, hZ⟩ : ∃ Z, Z = p.length := ⟨_, rfl⟩
  obtain ⟨N, hN⟩ : ∃ N, N = B.length := ⟨_, rfl⟩
  rw [← hZ] at ha hc; rw [← hZ, ← hN] at hb
  subst ha
  replace hc : c = (Z : Int) + 1 := by omega
  replace hb : b = (Z : Int) + 1 + (N : Int) := by omega
  subst hb hc
  have b1 : Z + 1 + N ≤ n := by omega
  have HZ := Lib.hid hZ
  have HNN := Lib.hid hN
  have HN := Lib.hid hlen'
  have HH := Lib.hid H
  have HC := Lib.hid hC
  have HT := Lib.hid hT
  have HB := Lib.hid hB
  have HX := Lib.hid hX
  clear hZ hN hlen hlen' H hC hT hB hX
  have HXL : Hid ((p ++ [x] ++ B ++ s).length = n) := Lib.hid (by have := HN.out; simp; omega)
  obtain ⟨wx, hwx⟩ : ∃ wx, wx = RW F w blk off (p ++ [x] ++ B ++ s) m := ⟨_, rfl⟩
  rw [← hwx]
  have HWX := Lib.hid hwx
  clear hwx
  unfold cv
  have t0 : ((Z : Int) + 1 - (Z : Int) == 1) = true := by rw [beq_iff_eq]; omega
  go_enter Try.func41, Try.ntmps41
  go_wp2
  go_loopw [10, 11] (fun i j wr => ∃ (g h m' : Nat), g ≤ h ∧ h ≤ N ∧ i = .int .i64 ((Z : Int) + 1 + (g : Int)) ∧ j = .int .i64 ((Z : Int) + 1 + (h : Int)) ∧ Hid ((∀ t, t < g → T (B.getD t 0) x) ∧ (∀ t, h ≤ t → t < N → T x (B.getD t 0)) ∧ wr = RW F w blk off (p ++ [x] ++ B ++ s) m')) (fun i j _ => (intOf j).toNat - (intOf i).toNat)
  case atStart => exact ⟨0, N, m, Nat.zero_le _, Nat.le_refl _, by go_num, rfl, Lib.hid ⟨fun t h => absurd h (Nat.not_lt_zero t), fun t h1 h2 => by omega, HWX.out⟩⟩
  case round =>
    clear HWX
    obtain ⟨g, h, m', hgh, hhN, rfl, rfl, HR⟩ := hrel
    by_cases hlt : g < h
    · obtain ⟨k, hk⟩ : ∃ k, k = (g + h) / 2 := ⟨_, rfl⟩
      have kN : k < N := by omega
      obtain ⟨iN, hiN⟩ : ∃ t, t = Z + 1 + k := ⟨_, rfl⟩
      obtain ⟨y, hy⟩ : ∃ y, y = B.getD k 0 := ⟨_, rfl⟩
      have hcr : Cross T cf x y := HX.out y (by rw [hy]; exact at_mem (by rw [← HNN.out]; exact kN))
      have e1 : (p ++ [x] ++ B ++ s).getD iN 0 = y := by
        have e : iN = (p ++ [x]).length + k := by have := HZ.out; simp; omega
        rw [e, List.append_assoc (p ++ [x]), getD_right, getD_left _ _ _ (by rw [← HNN.out]; exact kN), hy]
      have e2 : (p ++ [x] ++ B ++ s).getD Z 0 = x := by
        have := getD_mid p (B ++ s) x
        rw [← HZ.out] at this
        simpa using this
      have c1 := rw_cell HH.out HXL.out m' iN (by omega)
      have c2 := rw_cell HH.out HXL.out m' Z (by omega)
      have hc := cmp_at HC.out HXL.out m' y x
      rw [e1] at c1
      rw [e2] at c2
      rw [← HR.out.2.2] at c1 c2 hc
      rw [hiN] at c1
      have HY : Hid (y = B.getD k 0) := Lib.hid hy
      have HK : Hid (k = (g + h) / 2) := Lib.hid hk
      have ev : (((Z : Int) + 1 + (g : Int) + ((Z : Int) + 1 + (h : Int))) / 2) = (Z : Int) + 1 + (k : Int) := by omega
      have ba : (0 : Int) ≤ (Z : Int) + 1 + (k : Int) := by omega
      have ca : (Z : Int) + 1 + (k : Int) < (n : Int) := by omega
      have bb : (0 : Int) ≤ (Z : Int) := by omega
      have cb : (Z : Int) < (n : Int) := by omega
      by_cases hlv : cf y x < 0
      · have hTyx : T y x := by
          rcases hcr with ⟨_, q⟩ | ⟨q, _⟩
          · exact q
          · exact absurd hlv q
        have HREL : Hid ((∀ t, t < k + 1 → T (B.getD t 0) x)) := Lib.hid (fun t ht => by
          by_cases e : t = k
          · rw [e, ← hy]; exact hTyx
          · have := pair_at HB.out (show t < k by omega) (by rw [← HNN.out]; exact kN)
            rw [← hy] at this
            exact HT.out.1 _ _ _ this hTyx)
        clear e1 e2 hy hk hTyx hcr
        have HW : Hid (∀ q, wr.drewN q = RW F w blk off (p ++ [x] ++ B ++ s) (m' + q)) := Lib.hid (fun q => by rw [HR.out.2.2, rw_drewN])
        have HR2 := Lib.hid HR.out.2.1
        clear HR
        go_wp2
        go_quiet ((go_at_call 29; exact Calls.quiet_of (hc _)))
        go_wp2
        have := HK.out
        go_roundw
        case rel => exact ⟨k + 1, h, _, by omega, hhN, by go_num, rfl, Lib.hid ⟨HREL.out, HR2.out, HW.out _⟩⟩
        case measure => simp [intOf]; omega
      · have hTxy : T x y := by
          rcases hcr with ⟨q, _⟩ | ⟨_, q⟩
          · exact absurd q hlv
          · exact q
        have HREL : Hid ((∀ t, k ≤ t → t < N → T x (B.getD t 0))) := Lib.hid (fun t ht ht2 => by
          by_cases e : t = k
          · rw [e, ← hy]; exact hTxy
          · have := pair_at HB.out (show k < t by omega) (by rw [← HNN.out]; exact ht2)
            rw [← hy] at this
            exact HT.out.1 _ _ _ hTxy this)
        clear e1 e2 hy hk hTxy hcr
        have HW : Hid (∀ q, wr.drewN q = RW F w blk off (p ++ [x] ++ B ++ s) (m' + q)) := Lib.hid (fun q => by rw [HR.out.2.2, rw_drewN])
        have HR2 := Lib.hid HR.out.1
        clear HR
        go_wp2
        go_quiet ((go_at_call 29; exact Calls.quiet_of (hc _)))
        go_wp2
        have := HK.out
        go_roundw
        case rel => exact ⟨g, k, _, by omega, by omega, rfl, by go_num, Lib.hid ⟨HR2.out, HREL.out, HW.out _⟩⟩
        case measure => simp [intOf]; omega
    · obtain rfl : g = h := by omega
      obtain ⟨B1, B2, e1, e2, e3⟩ := split_len B g (by rw [← HNN.out]; exact hhN)
      have k1 : ∀ y ∈ B1, T y x := fun y hy => by
        obtain ⟨t, ht, rfl⟩ := mem_at hy
        have := HR.out.1 t (by omega)
        rwa [e1, getD_left _ _ _ ht] at this
      have k2 : ∀ y ∈ B2, T x y := fun y hy => by
        obtain ⟨t, ht, rfl⟩ := mem_at hy
        have := HR.out.2.1 (g + t) (by omega) (by rw [HNN.out]; omega)
        rw [e1, ← e2, getD_right] at this
        exact this
      have HFIN := Lib.hid (put_in HB.out e1 k1 k2)
      have HW : Hid (wr = RW F w blk off (p ++ [] ++ x :: B1 ++ B2 ++ s) m') := Lib.hid (by rw [HR.out.2.2, e1]; simp)
      have HB1 := Lib.hid e2
      have HBL : Hid (B1.length + B2.length = N) := Lib.hid (by have := HNN.out; omega)
      clear k1 k2 e1 e2 e3 HR
      have hge : ¬ ((Z : Int) + 1 + (g : Int) < (Z : Int) + 1 + (g : Int)) := by omega
      go_wp2
      go_loopw [13] (fun i wr => ∃ (d m2 : Nat) (C1 C2 : List Nat), d ≤ g ∧ i = .int .i64 ((Z : Int) + (d : Int)) ∧ Hid (B1 = C1 ++ C2 ∧ C1.length = d ∧ wr = RW F w blk off (p ++ C1 ++ x :: C2 ++ B2 ++ s) m2)) (fun i _ => (Z + g) - (intOf i).toNat)
      case atStart => exact ⟨0, m', [], B1, Nat.zero_le _, by go_num, Lib.hid ⟨rfl, rfl, HW.out⟩⟩
      case round =>
        clear HW
        obtain ⟨d, m2, C1, C2, hd, rfl, HR⟩ := hrel
        by_cases hlt : d < g
        · obtain ⟨y, C3, hx⟩ : ∃ y C3, C2 = y :: C3 := by
            cases h : C2 with
            | nil => exfalso; have h2 := congrArg List.length HR.out.1; have := HR.out.2.1; have := HB1.out; rw [h] at h2; simp at h2; omega
            | cons x t => exact ⟨x, t, rfl⟩
          subst hx
          obtain ⟨h1, h2, h3⟩ := HR.out
          have h1l := congrArg List.length h1
          simp at h1l
          have hZv := HZ.out
          have hN2 := HN.out
          have hNN2 := HNN.out
          have hB12 := HB1.out
          have hBL2 := HBL.out
          have e0 : p ++ C1 ++ x :: (y :: C3) ++ B2 ++ s = (p ++ C1) ++ x :: ([] ++ y :: (C3 ++ B2 ++ s)) := by simp
          rw [e0] at h3
          obtain ⟨X, hX⟩ : ∃ X, X = (p ++ C1) ++ x :: ([] ++ y :: (C3 ++ B2 ++ s)) := ⟨_, rfl⟩
          rw [← hX] at h3
          have hXl : X.length = n := by rw [hX]; simp; omega
          obtain ⟨iN, hiN⟩ : ∃ t, t = Z + d := ⟨_, rfl⟩
          obtain ⟨jN, hjN⟩ : ∃ t, t = Z + d + 1 := ⟨_, rfl⟩
          have p1 : iN = (p ++ C1).length := by simp; omega
          have p2 : jN = (p ++ C1).length + 1 + ([] : List Nat).length := by simp; omega
          have c1 := rw_cell HH.out hXl m2 iN (by omega)
          have c2 := rw_cell HH.out hXl m2 jN (by omega)
          have f1 := rw_frozen HH.out hXl m2 iN (by omega)
          have f2 := rw_frozen HH.out hXl m2 jN (by omega)
          have g1 : X.getD iN 0 = x := by rw [hX, p1]; exact getD_mid _ _ _
          have g2 : X.getD jN 0 = y := by rw [hX, p2]; exact getD_mid2 _ _ _ _ _
          have S2 := rw_swap F w blk off X m2 iN jN (by omega) (by omega)
          have g3 : sw X iN jN = p ++ (C1 ++ [y]) ++ x :: C3 ++ B2 ++ s := by rw [hX, p1, p2, sw_split]; simp
          obtain ⟨uu, c3⟩ := rw_second HH.out hXl m2 iN jN (by omega) (by omega) (.int .i64 (F y))
          rw [g1] at c1 S2
          rw [g2] at c2 S2
          rw [g3] at S2
          rw [← h3] at c1 c2 c3 f1 f2 S2
          have HS2 := Lib.hid S2
          have HREL : Hid (B1 = (C1 ++ [y]) ++ C3 ∧ (C1 ++ [y]).length = d + 1) := Lib.hid ⟨by rw [h1]; simp, by simp [h2]⟩
          have ea : ((Z : Int) + (d : Int)).toNat = iN := by omega
          have eb : ((Z : Int) + (d : Int) + 1).toNat = jN := by omega
          have ba : (0 : Int) ≤ (Z : Int) + (d : Int) := by omega
          have bb : (0 : Int) ≤ (Z : Int) + (d : Int) + 1 := by omega
          have ca : (Z : Int) + (d : Int) < (n : Int) := by omega
          have cb : (Z : Int) + (d : Int) + 1 < (n : Int) := by omega
          have lt1 : (Z : Int) + (d : Int) < (Z : Int) + 1 + (g : Int) - 1 := by omega
          clear S2 h1 h2 h3 h1l hZv hN2 hNN2 hB12 hBL2 e0 hX hXl p1 p2 hiN hjN g1 g2 g3 HR
          go_wp2
          go_region
          all_goals
            go_wp2
            go_roundw
            case rel => exact ⟨d + 1, _, _, _, by omega, by go_num, Lib.hid ⟨HREL.out.1, HREL.out.2, HS2.out⟩⟩
            case measure => simp [intOf]; omega
        · obtain rfl : d = g := by omega
          have HEND : Hid (wr = RW F w blk off (p ++ (B1 ++ x :: B2) ++ s) m2) := Lib.hid (by
            obtain ⟨h1, h2, h3⟩ := HR.out
            have h1l := congrArg List.length h1
            have := HB1.out
            simp at h1l
            obtain rfl : C2 = [] := List.eq_nil_of_length_eq_zero (by omega)
            rw [h3, h1]; simp)
          have lt1 : ¬ ((Z : Int) + (d : Int) < (Z : Int) + 1 + (d : Int) - 1) := by omega
          clear HR
          go_wp2
          refine bodyPost_ret (results_none rfl _ _ _) rfl ?_
          exact ⟨rfl, m2, _, by rw [HEND.out]; simp, HFIN.out.1, HFIN.out.2⟩

end Go.Proofs.Ytefpaagbopmmlaa
