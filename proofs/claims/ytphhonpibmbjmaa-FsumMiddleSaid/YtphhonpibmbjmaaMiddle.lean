/- Proved: the law FsumMiddle answers true at any list of ints, and leaves what there was as it was. -/
import Derived.Test.YtphhonpibmbjmaaSprd
import Derived.Test.YtphhonpibmbjmaaQuarter
namespace Go.Proofs.Ytphhonpibmbjmaa
open Go.RowKit Fl

theorem zs_between (low high : Int) (A : List Int) (h : ∀ z ∈ A, low ≤ z ∧ z ≤ high) : low * (A.length : Int) ≤ zs A ∧ zs A ≤ high * (A.length : Int) := by
  induction A with
  | nil => simp [zs]
  | cons a A ih =>
    have h1 := h a (by simp)
    have h2 := ih (fun z hz => h z (by simp [hz]))
    have e : ∀ b : Int, b * ((A.length + 1 : Nat) : Int) = b * A.length + b := fun b => by rw [Int.natCast_add, Int.mul_add]; simp
    simp only [zs, List.length_cons]
    rw [e, e]
    omega
/-- What a spread's last quotient is. -/
theorem spread_quo (s n : Nat) (h1 : 1 ≤ n) (h2 : n ≤ 256) : (s = 0 → FloatKind.f64.format.order (fo .quo s (iw (n : Int))) 0 = some .eq) ∧
    (4062246863888187392 ≤ s → s < 9218868437227405312 → FloatKind.f64.format.order (fo .quo s (iw (n : Int))) 0 = some .gt) := by
  obtain ⟨b1, b2, b3, b4, b5⟩ := n_rung n h1 h2
  have hsn := sig_log (rg (iw (n : Int))) (by omega)
  have hnb := sig_bound (rg (iw (n : Int))) (by omega)
  constructor
  · intro h0
    subst h0
    have hz : rg 0 = 0 := rfl
    have hs0 : sig 0 = 0 := by decide
    have hq := quo_fin 0 (iw (n : Int)) ⟨by decide, by decide⟩ b5 (by omega)
    rw [hz, hs0] at hq
    have hqd : ∀ m nn, qd 0 nn m = 0 := fun m nn => by unfold qd; rw [Nat.zero_mul, Nat.zero_div, Nat.zero_mod]; rfl
    simp only [hqd, Nat.zero_mul] at hq
    rw [rk_nought, b4] at hq
    have hn0 : neg' 0 = false := by decide
    rw [hn0, Bool.xor_false, wordf] at hq
    rw [hq]
    exact ord_self 0 (by decide) (by decide)
  · intro hlo hhi
    obtain ⟨p1, _, p3⟩ := pos_facts (x := s) (by omega)
    have hq := quo_fin s (iw (n : Int)) ⟨by omega, by omega⟩ b5 (by omega)
    rw [p1, p3, b4, Bool.xor_false, wordf] at hq
    have hss := sig_log s (by omega)
    have hsb := sig_bound s (by omega)
    rw [hsn, hss] at hq
    have hqd2 : 2 * 1 ≤ qd (sig s) (sig (rg (iw (n : Int)))) (54 + 52 - 52) := by
      refine le_qd _ _ _ 1 (by omega) ?_
      rw [Nat.one_mul]
      have : sig s * 1 ≤ sig s * 2 ^ (54 + 52 - 52) := Nat.mul_le_mul_left _ (Nat.two_pow_pos _)
      have h54 : sig s * 2 ^ 1 ≤ sig s * 2 ^ (54 + 52 - 52) := Nat.mul_le_mul_left _ (Nat.pow_le_pow_right (by decide) (by decide))
      omega
    have hT : 1 ≤ fo .quo s (iw (n : Int)) := by
      rw [hq]
      refine le_rk _ _ 1 (by omega) ?_
      have m1 : mag 1 = 1 := mag_small 1 (by omega)
      rw [m1, Nat.one_mul]
      have e1 : rg (iw (n : Int)) / 4503599627370496 - 1 + (54 + 52 - 52) + 1 ≤ 1 + (s / 4503599627370496 - 1) + eU := by rw [eU_eq]; omega
      have e2 : (2 : Nat) ^ (rg (iw (n : Int)) / 4503599627370496 - 1 + (54 + 52 - 52) + 1) ≤ 2 ^ (1 + (s / 4503599627370496 - 1) + eU) := Nat.pow_le_pow_right (by decide) e1
      refine Nat.le_trans e2 ?_
      rw [Nat.pow_add, Nat.pow_add, Nat.pow_one]
      show 2 * 2 ^ (s / 4503599627370496 - 1) * U ≤ _
      exact Nat.mul_le_mul_right _ (Nat.mul_le_mul_right _ (by omega))
    have hTi : fo .quo s (iw (n : Int)) ≤ 9218868437227405312 := by rw [hq]; exact rk_inf _ _
    generalize fo .quo s (iw (n : Int)) = y at *
    have hn : isN y = false := by unfold isN; exact decide_eq_false (by omega)
    exact ord_gt y 0 (by omega) (by decide) hn (by decide) (by rw [sr_pos y (by omega)]; show (0 : Int) < y; omega)
theorem mean_div (e r : Nat) (he : e = 1014) (h : r = 0 ∨ 4571153621781053440 ≤ r) : 2 ^ e ∣ mag r := by
  rcases h with h | h
  · rw [h, mag_zero]; exact Nat.dvd_zero _
  · rw [mag_eq]
    exact Nat.dvd_trans (Nat.pow_dvd_pow 2 (by omega)) (Nat.dvd_mul_left _ _)

/-- The mean and the spread of whole numbers. -/
theorem middle_facts (Z : List Int) (low high : Int) (h1 : 1 ≤ Z.length) (h2 : Z.length ≤ 200) (hb : ∀ z ∈ Z, low ≤ z ∧ z ≤ high) (hlo : low ∈ Z) (hhi : high ∈ Z) (hl : -1000000 ≤ low) (hh : high ≤ 1000000) :
    (FloatKind.f64.format.order (meanW (Z.map iw)) (iw low) == some .gt || FloatKind.f64.format.order (meanW (Z.map iw)) (iw low) == some .eq) = true ∧
    (FloatKind.f64.format.order (meanW (Z.map iw)) (iw high) == some .lt || FloatKind.f64.format.order (meanW (Z.map iw)) (iw high) == some .eq) = true ∧
    ((low = high ∧ FloatKind.f64.format.order (spreadW (Z.map iw)) 0 = some .eq) ∨ (low < high ∧ FloatKind.f64.format.order (spreadW (Z.map iw)) 0 = some .gt)) := by
  have hlh : low ≤ high := (hb low hlo).2
  have hsum := sum_iw Z (by omega) (fun z hz => by have := hb z hz; omega)
  have hbt := zs_between low high Z hb
  have hzb := zs_bound 1000000 Z (fun z hz => by have := hb z hz; omega)
  have hM : meanW (Z.map iw) = fo .quo (iw (zs Z)) (iw (Z.length : Int)) := by
    unfold meanW
    rw [hsum, List.length_map]; rfl
  obtain ⟨f1, f2, f3, f4, f5⟩ := mean_facts (zs Z) low high Z.length h1 (by omega) (by omega) (by omega) (by omega) hbt.1 hbt.2
  rw [← hM] at f1 f2 f3 f4 f5
  have il := iw_facts low (by omega)
  have ih := iw_facts high (by omega)
  have nM := fin_num f1
  have nl := iw_num low (by omega)
  have nh := iw_num high (by omega)
  have hsp : spreadW (Z.map iw) = fo .quo (sumW (sqL (meanW (Z.map iw)) (Z.map iw))) (iw (Z.length : Int)) := by
    unfold spreadW
    rw [List.length_map]; rfl
  rw [hsp]
  generalize meanW (Z.map iw) = M at *
  refine ⟨order_ge f1.1 (iw_lt low) nM nl f2, order_le f1.1 (iw_lt high) nM nh f3, ?_⟩
  have s1 : low * U ≤ sm M := by
    have := (sr_sm (iw low) M (iw_lt low) f1.1).2 f2
    rwa [il.2.1] at this
  have s2 : sm M ≤ high * U := by
    have := (sr_sm M (iw high) f1.1 (iw_lt high)).2 f3
    rwa [ih.2.1] at this
  obtain ⟨e, he⟩ : ∃ e : Nat, e = 1014 := ⟨_, rfl⟩
  obtain ⟨E, hE⟩ : ∃ e : Nat, e = 1116 := ⟨_, rfl⟩
  have hdv : 2 ^ e ∣ (sm M).natAbs := by
    rw [sm_abs]
    refine mean_div e _ he ?_
    rcases f4 with h | h
    · exact .inl (f5 h)
    · exact .inr h
  have hUp : (0 : Int) < (U : Int) := by have := U_pos; omega
  have hsq : ∀ z ∈ Z, sq M (iw z) < 9223372036854775808 ∧ Bd E 1 (sq M (iw z)) ∧ (sm M = z * U → sq M (iw z) = 0) ∧ (sm M ≠ z * U → 4066750463515557888 ≤ sq M (iw z)) := fun z hz => by
    have hz' := hb z hz
    refine sq_facts z M e E he hE (by omega) f1 ?_ hdv
    have k1 : low * (U : Int) ≤ z * U := (mulU_le low z).2 hz'.1
    have k2 : z * (U : Int) ≤ high * U := (mulU_le z high).2 hz'.2
    have k3 : high * (U : Int) ≤ 1000000 * U := (mulU_le high 1000000).2 hh
    have k4 : (-1000000) * (U : Int) ≤ low * U := (mulU_le (-1000000) low).2 hl
    have e1 : ((2000000 * U : Nat) : Int) = 2000000 * (U : Int) := by rw [Int.natCast_mul]; rfl
    generalize (U : Int) = u at *
    omega
  have hne : sqL M (Z.map iw) ≠ [] := by
    intro h
    have := congrArg List.length h
    simp [sqL] at this
    rw [this] at h1; simp at h1
  have hmem : ∀ x ∈ sqL M (Z.map iw), ∃ z ∈ Z, x = sq M (iw z) := fun x hx => by
    unfold sqL at hx
    obtain ⟨y, hy, rfl⟩ := List.mem_map.1 hx
    obtain ⟨z, hz, rfl⟩ := List.mem_map.1 hy
    exact ⟨z, hz, rfl⟩
  obtain ⟨p1, p2⟩ := sum_pos E (by omega) (by omega) (sqL M (Z.map iw)) (by simp [sqL]; omega) hne (fun x hx => by
    obtain ⟨z, hz, rfl⟩ := hmem x hx
    exact ⟨(hsq z hz).2.1, (hsq z hz).1⟩)
  obtain ⟨q1, q2⟩ := spread_quo (sumW (sqL M (Z.map iw))) Z.length h1 (by omega)
  rcases Int.lt_or_eq_of_le hlh with hlt | heq
  · right
    refine ⟨hlt, ?_⟩
    have hx : ∃ z ∈ Z, sm M ≠ z * U := by
      by_cases c : sm M = low * U
      · refine ⟨high, hhi, fun c2 => ?_⟩
        have := (mulU_le high low).1 (by omega)
        omega
      · exact ⟨low, hlo, c⟩
    obtain ⟨z, hz, hzn⟩ := hx
    have := p2 ⟨sq M (iw z), by unfold sqL; exact List.mem_map.2 ⟨iw z, List.mem_map.2 ⟨z, hz, rfl⟩, rfl⟩, (hsq z hz).2.2.2 hzn⟩
    exact q2 this.1 this.2
  · left
    refine ⟨heq, ?_⟩
    have hsM : sm M = low * U := by rw [← heq] at s2; omega
    refine q1 (p1 fun x hx => ?_)
    obtain ⟨z, hz, rfl⟩ := hmem x hx
    have hzl : z = low := by have := hb z hz; omega
    rw [hzl]
    exact (hsq low hlo).2.2.1 hsM

set_option maxHeartbeats 2000000 in
theorem middle_big (a : Option Addr) (n cap : Nat) (h : n = 0 ∨ 200 < n) (w : World) :
    Calls Try.prog 7 #[.slice a n cap] w fun e w' => e = .returned (.bool true) ∧ Below w.heap.size w w' := by
  rcases h with rfl | h
  · go_enter Try.func7, Try.ntmps7
    go_wp2_with (first | (go_at_call 13; refine (awake_any _).mono ?_; rintro e w' ⟨rfl, hb⟩))
    go_ret
    exact ⟨rfl, hb⟩
  · have q1 : (200 : Int) < (n : Int) := by omega
    have q2 : ¬ ((n : Int) = 0) := by omega
    go_enter Try.func7, Try.ntmps7
    go_wp2_with (first | (go_at_call 13; refine (awake_any _).mono ?_; rintro e w' ⟨rfl, hb⟩))
    go_ret
    exact ⟨rfl, hb⟩

set_option maxHeartbeats 4000000 in
set_option maxRecDepth 100000 in
theorem middle_some (b off cap n : Nat) (Z : List Int) (w : World) (hZ : Z.length = n) (h0 : 0 < n) (hn : n ≤ 200) (hbw : b < w.heap.size)
    (hx : ∀ j, j < n → w.cell? ⟨b, off + j, none⟩ = some (.int .i64 (Z.getD j 0))) :
    Calls Try.prog 7 #[.slice (some ⟨b, off, none⟩) n cap] w fun e w' => e = .returned (.bool true) ∧ Below w.heap.size w w' := by
  obtain ⟨i0, hi, hz0, hz1, hz2⟩ := info_parts info_f64
  have q1 : ¬ ((200 : Int) < (n : Int)) := by omega
  have q2 : ¬ ((n : Int) = 0) := by omega
  have q3 : (0 : Int) < (n : Int) := by omega
  have c0 : w.cell? ⟨b, off, none⟩ = some (.int .i64 (Z.getD 0 0)) := hx 0 h0
  obtain ⟨BB, hBB⟩ : ∃ BB, BB = w.heap.size := ⟨_, rfl⟩
  rw [← hBB]
  have HB := Lib.hid hBB
  have HBb : Hid (b < BB) := Lib.hid (by omega)
  have HX := Lib.hid hx
  have HZ := Lib.hid hZ
  obtain ⟨z0, hz0'⟩ : ∃ z, z = Z.getD 0 0 := ⟨_, rfl⟩
  have HZ0 := Lib.hid hz0'
  rw [← hz0'] at c0
  clear hBB hx hbw hZ hz0'
  go_enter Try.func7, Try.ntmps7
  go_wp2_with fail
  clear c0
  go_loopw [3, 4, 5, 6] (fun v s4 s5 i wr => ∃ (k : Nat) (Q : List Nat) (lo hi : Int), k ≤ n ∧ s4 = .int .i64 lo ∧ s5 = .int .i64 hi ∧ i = .int .i64 k ∧ Hid (∀ j, j < k → lo ≤ Z.getD j 0 ∧ Z.getD j 0 ≤ hi ∧ -1000000 ≤ Z.getD j 0 ∧ Z.getD j 0 ≤ 1000000) ∧
    Hid ((∃ j, j < n ∧ lo = Z.getD j 0) ∧ (∃ j, j < n ∧ hi = Z.getD j 0)) ∧ Hid (Q = (Z.take k).map iw) ∧ Hid (wr.ownsRow BB 25 1 v k (Q.map (Value.float .f64))) ∧ Hid (Below BB w wr)) (fun _ _ _ i _ => n - (intOf i).toNat)
  case atStart => exact ⟨0, [], z0, z0, Nat.zero_le _, rfl, rfl, rfl, Lib.hid (fun _ h => absurd h (Nat.not_lt_zero _)), Lib.hid ⟨⟨0, h0, HZ0.out⟩, ⟨0, h0, HZ0.out⟩⟩, Lib.hid rfl, Lib.hid (World.ownsRow_nil _ _ _ _), Lib.hid (Below.refl _ _)⟩
  case round =>
    obtain ⟨k, Q, lo, hi', hk, rfl, rfl, rfl, HR, HE, HQ, HO, HN⟩ := hrel
    by_cases hlt : k < n
    · have c1 := (HN.out.cell (p := ⟨b, off + k, none⟩) HBb.out).trans (HX.out k hlt)
      have bb1 : (0 : Int) ≤ (k : Int) := by omega
      have bb2 : (k : Int) < (n : Int) := by omega
      have HT := Lib.hid (take_iw Z k (by rw [HZ.out]; exact hlt))
      have HRk : Hid (∀ z lo2 hi2 : Int, z = Z.getD k 0 → -1000000 ≤ z → z ≤ 1000000 → lo2 ≤ lo → lo2 ≤ z → hi' ≤ hi2 → z ≤ hi2 → ∀ j, j < k + 1 → lo2 ≤ Z.getD j 0 ∧ Z.getD j 0 ≤ hi2 ∧ -1000000 ≤ Z.getD j 0 ∧ Z.getD j 0 ≤ 1000000) := Lib.hid (fun z lo2 hi2 hz h1 h2 h3 h4 h5 h6 j hj => by
        by_cases e : j = k
        · rw [e, ← hz]; exact ⟨h4, h6, h1, h2⟩
        · have := HR.out j (by omega)
          omega)
      obtain ⟨z, hz⟩ : ∃ z, z = Z.getD k 0 := ⟨_, rfl⟩
      have HZZ := Lib.hid hz
      have HKN : Hid (k < n) := Lib.hid hlt
      rw [← hz] at c1 HT
      clear hz
      have hsz : BB ≤ wr.heap.size := by rw [HB.out]; exact HN.out.size
      by_cases hlo : z < -1000000
      · go_wp2_with (first | (go_at_call 13; refine (awake_any _).mono ?_; rintro e w' ⟨rfl, hb⟩; have HBW := Lib.hid hb; clear hb))
        go_ret
        exact ⟨rfl, HN.out.trans (HBW.out.mono hsz)⟩
      · by_cases hhi : 1000000 < z
        · have hlo' : ¬ (z < -1000000) := hlo
          go_wp2_with (first | (go_at_call 13; refine (awake_any _).mono ?_; rintro e w' ⟨rfl, hb⟩; have HBW := Lib.hid hb; clear hb))
          go_ret
          exact ⟨rfl, HN.out.trans (HBW.out.mono hsz)⟩
        · go_wp2_with (at_builtin; refine wpList_append_own _ rfl _ _ 22 rfl BB 25 i0 (.float .f64 0) 1 8 Try.underlying22 hi hz0 hz1 hz2 rfl (by decide) _ _ _ rfl (HO.out.alloc _) ⟨wr.heap.size, 0, none⟩ 1 1 [.float .f64 (floatOfInt .f64 z)] rfl rfl (new_cell wr _ _) (fun u hu => by simp at hu; subst hu; rfl) (by unfold maxLen; omega) (by omega) (by first | (simp; omega) | (show BB ≤ wr.heap.size + 1; omega)) ?_)
          intro v' w1 hown' hgrow _
          have R1 : Hid (w1.ownsRow BB 25 1 v' (k + 1) ((Q ++ [iw z]).map (Value.float .f64))) := Lib.hid (by rw [List.map_append]; exact hown')
          have R2 : Hid (Below BB w w1) := Lib.hid ((HN.out.alloc hsz _).grown hgrow (by simp; omega) (fun j hj => (HO.out.lt j hj).1))
          have c2 := (R2.out.cell (p := ⟨b, off + k, none⟩) HBb.out).trans (HX.out k HKN.out)
          rw [← HZZ.out] at c2
          clear hown' hgrow c1
          by_cases ha : z < lo <;> by_cases hb : hi' < z
          all_goals
            go_wp2
            go_roundw
            case rel => exact ⟨k + 1, _, _, _, by omega, rfl, rfl, by go_num, Lib.hid (HRk.out z _ _ HZZ.out (by omega) (by omega) (by omega) (by omega) (by omega) (by omega)), Lib.hid ⟨by first | exact HE.out.1 | exact ⟨k, HKN.out, HZZ.out⟩, by first | exact HE.out.2 | exact ⟨k, HKN.out, HZZ.out⟩⟩, Lib.hid (by rw [HT.out, HQ.out]), R1, R2⟩
            case measure => simp [intOf]; omega
    · obtain rfl : k = n := by omega
      clear hlt
      have hge : ¬ ((k : Int) < (k : Int)) := by omega
      have ht : Z.take k = Z := by rw [← HZ.out, List.take_length]
      rw [ht] at HQ
      have hin : ∀ j, j < k → Z.getD j 0 ∈ Z := fun j hj => by
        rw [List.getD_eq_getElem?_getD, List.getElem?_eq_getElem (by rw [HZ.out]; exact hj)]
        exact List.getElem_mem _
      obtain ⟨⟨j1, hj1, he1⟩, ⟨j2, hj2, he2⟩⟩ := HE.out
      have hm := middle_facts Z lo hi' (by rw [HZ.out]; exact h0) (by rw [HZ.out]; exact hn) (fun z hz => by
        obtain ⟨j, hj, rfl⟩ := mem_getD hz
        have := HR.out j (by rw [← HZ.out]; exact hj)
        exact ⟨this.1, this.2.1⟩) (by rw [he1]; exact hin j1 hj1) (by rw [he2]; exact hin j2 hj2) (by have := HR.out j1 hj1; omega) (by have := HR.out j2 hj2; omega)
      have HVX : Hid (View wr _ (Z.map iw)) := Lib.hid (view_own (by rw [← HQ.out]; exact HO.out))
      have C1 := Lib.hid (fun (W : World) (hA : At wr W) => mean_u (hA.view HVX.out) (by rw [List.length_map, HZ.out]; omega) (iw_all Z))
      have C2 := Lib.hid (fun (W : World) (hA : At wr W) => spread_u (hA.view HVX.out) (by rw [List.length_map, HZ.out]; omega) (iw_all Z))
      have l1 : mv (Z.map iw) = meanW (Z.map iw) := by unfold mv; rw [if_neg (by rw [List.length_map, HZ.out]; omega)]
      have l2 : mc (Z.map iw) = 0 := by unfold mc; rw [if_neg (by rw [List.length_map, HZ.out]; omega)]
      have l3 : sv' (Z.map iw) = spreadW (Z.map iw) := by unfold sv'; rw [if_neg (by rw [List.length_map, HZ.out]; omega)]
      rw [l1, l2] at C1
      rw [l3, l2] at C2
      have o1 : (FloatKind.f64.format.order (meanW (Z.map iw)) (floatOfInt .f64 lo) == some .gt || FloatKind.f64.format.order (meanW (Z.map iw)) (floatOfInt .f64 lo) == some .eq) = true := hm.1
      have o2 : (FloatKind.f64.format.order (meanW (Z.map iw)) (floatOfInt .f64 hi') == some .lt || FloatKind.f64.format.order (meanW (Z.map iw)) (floatOfInt .f64 hi') == some .eq) = true := hm.2.1
      have HM := hm.2.2
      have hAt := At.start wr
      have HSZ : Hid (BB ≤ wr.heap.size) := Lib.hid (by rw [HB.out]; exact HN.out.size)
      clear hm hin he1 he2 hj1 hj2 HR HE HQ HO l1 l2 l3 ht
      generalize meanW (Z.map iw) = P1 at *
      generalize spreadW (Z.map iw) = P2 at *
      rcases HM with ⟨rfl, o3⟩ | ⟨hlt, o3⟩
      · go_wp2_with (first
          | (go_at_call 14; refine (C1.out _ hAt).mono ?_; rintro e w' ⟨rfl, hb⟩; replace hAt := hAt.next hb; clear hb)
          | (go_at_call 16; refine (C2.out _ hAt).mono ?_; rintro e w' ⟨rfl, hb⟩; replace hAt := hAt.next hb; clear hb)
          | (go_at_call 13; refine (awake_any _).mono ?_; rintro e w' ⟨rfl, hb⟩; replace hAt := hAt.next hb; clear hb))
        go_ret
        exact ⟨rfl, HN.out.trans (Below.mono hAt HSZ.out)⟩
      · have hnl : (lo == hi') = false := by
          rw [beq_eq_false_iff_ne]; omega
        clear hlt
        go_wp2_with (first
          | (go_at_call 14; refine (C1.out _ hAt).mono ?_; rintro e w' ⟨rfl, hb⟩; replace hAt := hAt.next hb; clear hb)
          | (go_at_call 16; refine (C2.out _ hAt).mono ?_; rintro e w' ⟨rfl, hb⟩; replace hAt := hAt.next hb; clear hb)
          | (go_at_call 13; refine (awake_any _).mono ?_; rintro e w' ⟨rfl, hb⟩; replace hAt := hAt.next hb; clear hb))
        go_ret
        exact ⟨rfl, HN.out.trans (Below.mono hAt HSZ.out)⟩

end Go.Proofs.Ytphhonpibmbjmaa
