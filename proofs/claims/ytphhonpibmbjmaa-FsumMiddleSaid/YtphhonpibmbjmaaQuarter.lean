/- Proved: the law FsumQuarter answers true at any list of ints and any two numbers, and leaves what there was as it was. -/
import Derived.Test.YtphhonpibmbjmaaQmono
import Derived.Test.YtphhonpibmbjmaaIlist
namespace Go.Proofs.Ytphhonpibmbjmaa
open Go.RowKit Fl

theorem le_order {a b : Nat} (ha : a < 18446744073709551616) (hb : b < 18446744073709551616) (h : (FloatKind.f64.format.order a b == some .lt || FloatKind.f64.format.order a b == some .eq) = true) : isN a = false ∧ isN b = false ∧ sr a ≤ sr b := by
  cases na : isN a
  · cases nb : isN b
    · refine ⟨rfl, rfl, ?_⟩
      rcases Int.lt_or_le (sr b) (sr a) with k | k
      · rw [ord_gt a b ha hb na nb k] at h; cases h
      · exact k
    · rw [ord_nan_r a b hb nb] at h; cases h
  · rw [ord_nan_l a b ha na] at h; cases h
theorem ge_order {a b : Nat} (ha : a < 18446744073709551616) (hb : b < 18446744073709551616) (h : (FloatKind.f64.format.order a b == some .gt || FloatKind.f64.format.order a b == some .eq) = true) : isN a = false ∧ isN b = false ∧ sr b ≤ sr a := by
  cases na : isN a
  · cases nb : isN b
    · refine ⟨rfl, rfl, ?_⟩
      rcases Int.lt_or_le (sr a) (sr b) with k | k
      · rw [ord_lt a b ha hb na nb k] at h; cases h
      · exact k
    · rw [ord_nan_r a b hb nb] at h; cases h
  · rw [ord_nan_l a b ha na] at h; cases h
theorem order_le {a b : Nat} (ha : a < 18446744073709551616) (hb : b < 18446744073709551616) (na : isN a = false) (nb : isN b = false) (h : sr a ≤ sr b) : (FloatKind.f64.format.order a b == some .lt || FloatKind.f64.format.order a b == some .eq) = true := by
  rcases Int.lt_or_le (sr a) (sr b) with k | k
  · rw [ord_lt a b ha hb na nb k]; rfl
  · rw [ord_eq a b ha hb na nb (by omega)]; rfl
theorem order_ge {a b : Nat} (ha : a < 18446744073709551616) (hb : b < 18446744073709551616) (na : isN a = false) (nb : isN b = false) (h : sr b ≤ sr a) : (FloatKind.f64.format.order a b == some .gt || FloatKind.f64.format.order a b == some .eq) = true := by
  rcases Int.lt_or_le (sr b) (sr a) with k | k
  · rw [ord_gt a b ha hb na nb k]; rfl
  · rw [ord_eq a b ha hb na nb (by omega)]; rfl

set_option maxHeartbeats 2000000 in
theorem quarter_big (a : Option Addr) (n cap p q : Nat) (h : n = 0 ∨ 200 < n) (w : World) :
    Calls Try.prog 8 #[.slice a n cap, .float .f64 p, .float .f64 q] w fun e w' => e = .returned (.bool true) ∧ Below w.heap.size w w' := by
  rcases h with rfl | h
  · go_enter Try.func8, Try.ntmps8
    go_wp2_with (first | (go_at_call 13; refine (awake_any _).mono ?_; rintro e w' ⟨rfl, hb⟩))
    go_ret
    exact ⟨rfl, hb⟩
  · have q1 : (200 : Int) < (n : Int) := by omega
    have q2 : ¬ ((n : Int) = 0) := by omega
    go_enter Try.func8, Try.ntmps8
    go_wp2_with (first | (go_at_call 13; refine (awake_any _).mono ?_; rintro e w' ⟨rfl, hb⟩))
    go_ret
    exact ⟨rfl, hb⟩

set_option maxHeartbeats 2000000 in
theorem quarter_out (a : Option Addr) (n cap p q : Nat) (h0 : 0 < n) (hn : n ≤ 200)
    (h : (FloatKind.f64.format.order p 0 == some .gt || FloatKind.f64.format.order p 0 == some .eq) = false ∨
      ((FloatKind.f64.format.order p 0 == some .gt || FloatKind.f64.format.order p 0 == some .eq) = true ∧ (FloatKind.f64.format.order p q == some .lt || FloatKind.f64.format.order p q == some .eq) = false) ∨
      ((FloatKind.f64.format.order p 0 == some .gt || FloatKind.f64.format.order p 0 == some .eq) = true ∧ (FloatKind.f64.format.order p q == some .lt || FloatKind.f64.format.order p q == some .eq) = true ∧
        (FloatKind.f64.format.order q 4607182418800017408 == some .lt || FloatKind.f64.format.order q 4607182418800017408 == some .eq) = false)) (w : World) :
    Calls Try.prog 8 #[.slice a n cap, .float .f64 p, .float .f64 q] w fun e w' => e = .returned (.bool true) ∧ Below w.heap.size w w' := by
  have q1 : ¬ ((200 : Int) < (n : Int)) := by omega
  have q2 : ¬ ((n : Int) = 0) := by omega
  rcases h with o1 | ⟨o1, o2⟩ | ⟨o1, o2, o3⟩
  all_goals
    go_enter Try.func8, Try.ntmps8
    go_wp2_with (first | (go_at_call 13; refine (awake_any _).mono ?_; rintro e w' ⟨rfl, hb⟩))
    go_ret
    exact ⟨rfl, hb⟩

/-- Quantile of such a list at a good part. -/
theorem quan_at {v : Value} {Z : List Int} {R : List Nat} {ζ : Nat → Int} (hR : Sorts (Z.map iw) R) (hri : RI R Z.length ζ) (h0 : 0 < Z.length) (hl : Z.length ≤ 1000) (q : Nat) (hq : q < 18446744073709551616) (hb : ¬ Bad q) {w : World} (hv : View w v (Z.map iw)) :
    Calls Try.prog 23 #[v, .float .f64 q] w fun e w' => e = .returned (.tuple #[.float .f64 (qa R q), .int .i64 0]) ∧ Below w.heap.size w w' := by
  refine (quan_any v (Z.map iw) q w hv (by rw [List.length_map]; omega) (iw_all Z) hq).mono ?_
  rintro e w' ⟨⟨r, R', rfl, hs, hr, hrl⟩, hb'⟩
  have hn := qa_num hri h0 (by omega) q hq hb
  rw [qa_unique hs hR q] at hr
  have hre : r = qa R q := cb_eq_num _ _ hn.1 (by rw [hr, cb_num _ hn.1])
  have hc : qc (Z.map iw).length q = 0 := by unfold qc; rw [List.length_map, if_neg (by omega), if_neg hb]
  rw [hc, hre]
  exact ⟨rfl, hb'⟩
theorem sorts_at {L R S : List Nat} {n : Nat} {ζ ξ : Nat → Int} (h : Sorts L R) (k : Sorts L S) (hr : RI R n ζ) (hs : RI S n ξ) (j : Nat) (hj : j < n) : S.getD j 0 = R.getD j 0 := by
  have e := sorts_cb h k
  have a1 := hr.2.1 j hj
  have a2 := hs.2.1 j hj
  have e' : ∀ T : List Nat, cb (T.getD j 0) = (T.map cb).getD j (cb 0) := fun T => by
    simp only [List.getD_eq_getElem?_getD, List.getElem?_map]
    cases T[j]? <;> rfl
  have := (e' S).trans ((congrArg (fun T : List Nat => T.getD j (cb 0)) e.symm).trans (e' R).symm)
  rw [a1.1, a2.1] at this ⊢
  rwa [cb_num _ (iw_num _ (by omega)), cb_num _ (iw_num _ (by omega))] at this

set_option maxHeartbeats 4000000 in
set_option maxRecDepth 100000 in
theorem quarter_some (b off cap m p q : Nat) (Z : List Int) (w : World) (hZ : Z.length = m + 1) (hm : m < 200) (hbw : b < w.heap.size) (hp : p < 18446744073709551616) (hq : q < 18446744073709551616)
    (hx : ∀ j, j < m + 1 → w.cell? ⟨b, off + j, none⟩ = some (.int .i64 (Z.getD j 0)))
    (o1 : (FloatKind.f64.format.order p 0 == some .gt || FloatKind.f64.format.order p 0 == some .eq) = true) (o2 : (FloatKind.f64.format.order p q == some .lt || FloatKind.f64.format.order p q == some .eq) = true)
    (o3 : (FloatKind.f64.format.order q 4607182418800017408 == some .lt || FloatKind.f64.format.order q 4607182418800017408 == some .eq) = true) :
    Calls Try.prog 8 #[.slice (some ⟨b, off, none⟩) (m + 1) cap, .float .f64 p, .float .f64 q] w fun e w' => e = .returned (.bool true) ∧ Below w.heap.size w w' := by
  obtain ⟨i0, hi, hz0, hz1, hz2⟩ := info_parts info_f64
  have s0 : sr 0 = 0 := rfl
  have s1 : sr 4607182418800017408 = 4607182418800017408 := by decide
  have g1 := ge_order hp (by decide) o1
  have g2 := le_order hp hq o2
  have g3 := le_order hq (by decide) o3
  rw [s0] at g1
  rw [s1] at g3
  have HPB : Hid (¬ Bad p ∧ ¬ Bad q ∧ sr p ≤ sr q ∧ 0 ≤ sr p ∧ sr q ≤ 4607182418800017408) := Lib.hid (by
    refine ⟨?_, ?_, g2.2.2, g1.2.2, g3.2.2⟩
    · rintro (h | h | h)
      · rw [g1.1] at h; cases h
      · have := g1.2.2; omega
      · have := g2.2.2; have := g3.2.2; omega
    · rintro (h | h | h)
      · rw [g3.1] at h; cases h
      · have := g1.2.2; have := g2.2.2; omega
      · have := g3.2.2; omega)
  obtain ⟨n, hne⟩ : ∃ n, n = m + 1 := ⟨_, rfl⟩
  have HNE := Lib.hid hne
  rw [← hne] at hx hZ ⊢
  have q1 : ¬ ((200 : Int) < (n : Int)) := by omega
  have q2 : ¬ ((n : Int) = 0) := by omega
  have hn : n ≤ 200 := by omega
  obtain ⟨BB, hBB⟩ : ∃ BB, BB = w.heap.size := ⟨_, rfl⟩
  rw [← hBB]
  have HB := Lib.hid hBB
  have HBb : Hid (b < BB) := Lib.hid (by omega)
  have HX := Lib.hid hx
  have HZ := Lib.hid hZ
  clear hBB hx hbw hZ g1 g2 g3 s0 s1 hne
  go_enter Try.func8, Try.ntmps8
  go_wp2_with fail
  go_loopw [7, 8] (fun v i wr => ∃ (k : Nat) (Q : List Nat), k ≤ n ∧ i = .int .i64 k ∧ Hid (∀ j, j < k → -1000000 ≤ Z.getD j 0 ∧ Z.getD j 0 ≤ 1000000) ∧
    Hid (Q = (Z.take k).map iw) ∧ Hid (wr.ownsRow BB 25 1 v k (Q.map (Value.float .f64))) ∧ Hid (Below BB w wr)) (fun _ i _ => n - (intOf i).toNat)
  case atStart => exact ⟨0, [], Nat.zero_le _, rfl, Lib.hid (fun _ h => absurd h (Nat.not_lt_zero _)), Lib.hid rfl, Lib.hid (World.ownsRow_nil _ _ _ _), Lib.hid (Below.refl _ _)⟩
  case round =>
    obtain ⟨k, Q, hk, rfl, HR, HQ, HO, HN⟩ := hrel
    by_cases hlt : k < n
    · have c1 := (HN.out.cell (p := ⟨b, off + k, none⟩) HBb.out).trans (HX.out k hlt)
      have bb1 : (0 : Int) ≤ (k : Int) := by omega
      have bb2 : (k : Int) < (n : Int) := by omega
      have HT := Lib.hid (take_iw Z k (by rw [HZ.out]; exact hlt))
      have HRk : Hid (∀ z : Int, z = Z.getD k 0 → -1000000 ≤ z → z ≤ 1000000 → ∀ j, j < k + 1 → -1000000 ≤ Z.getD j 0 ∧ Z.getD j 0 ≤ 1000000) := Lib.hid (fun z hz h1 h2 j hj => by
        by_cases e : j = k
        · rw [e, ← hz]; exact ⟨h1, h2⟩
        · exact HR.out j (by omega))
      obtain ⟨z, hz⟩ : ∃ z, z = Z.getD k 0 := ⟨_, rfl⟩
      have HZZ := Lib.hid hz
      rw [← hz] at c1 HT
      clear hz
      have hsz : BB ≤ wr.heap.size := by rw [HB.out]; exact HN.out.size
      by_cases hlo : z < -1000000
      · go_wp2_with (first | (go_at_call 13; refine (awake_any _).mono ?_; rintro e w' ⟨rfl, hb⟩; have HBW := Lib.hid hb; clear hb))
        go_ret
        exact ⟨rfl, HN.out.trans (HBW.out.mono hsz)⟩
      · by_cases hhi : 1000000 < z
        · have hlo' : ¬ (z < -1000000) := hlo
          go_wp2_with (first | (go_at_call 13; refine (awake_any _).mono ?_; rintro e w' ⟨rfl, hb⟩; have HBW := Lib.hid hb; clear hb))
          go_ret
          exact ⟨rfl, HN.out.trans (HBW.out.mono hsz)⟩
        · go_wp2_with (at_builtin; refine wpList_append_own _ rfl _ _ 22 rfl BB 25 i0 (.float .f64 0) 1 8 Try.underlying22 hi hz0 hz1 hz2 rfl (by decide) _ _ _ rfl (HO.out.alloc _) ⟨wr.heap.size, 0, none⟩ 1 1 [.float .f64 (floatOfInt .f64 z)] rfl rfl (new_cell wr _ _) (fun u hu => by simp at hu; subst hu; rfl) (by unfold maxLen; omega) (by omega) (by first | (simp; omega) | (show BB ≤ wr.heap.size + 1; omega)) ?_)
          intro v' w1 hown' hgrow _
          have R1 : Hid (w1.ownsRow BB 25 1 v' (k + 1) ((Q ++ [iw z]).map (Value.float .f64))) := Lib.hid (by rw [List.map_append]; exact hown')
          have R2 : Hid (Below BB w w1) := Lib.hid ((HN.out.alloc hsz _).grown hgrow (by simp; omega) (fun j hj => (HO.out.lt j hj).1))
          clear hown' hgrow
          go_wp2
          go_roundw
          case rel => exact ⟨k + 1, _, by omega, by go_num, Lib.hid (HRk.out z HZZ.out (by omega) (by omega)), Lib.hid (by rw [HT.out, HQ.out]), R1, R2⟩
          case measure => simp [intOf]; omega
    · obtain rfl : k = n := by omega
      clear hlt
      have hge : ¬ ((k : Int) < (k : Int)) := by omega
      have ht : Z.take k = Z := by rw [← HZ.out, List.take_length]
      rw [ht] at HQ
      have hall : ∀ z ∈ Z, -1000000 ≤ z ∧ z ≤ 1000000 := fun z hz => by
        obtain ⟨j, hj, rfl⟩ := mem_getD hz
        exact HR.out j (by rw [← HZ.out]; exact hj)
      have HVX : Hid (View wr _ (Z.map iw)) := Lib.hid (view_own (by rw [← HQ.out]; exact HO.out))
      obtain ⟨R0, hR0⟩ := sorts_of (Z.map iw) (iw_all Z)
      obtain ⟨ζ, hri⟩ := ri_of hR0 hall
      have hZ0 : 0 < Z.length := by rw [HZ.out]; omega
      have hZl : Z.length ≤ 1000 := by rw [HZ.out]; omega
      have HQT := Lib.hid (fun (W : World) (hA : At wr W) (q : Nat) hq hb => quan_at (v := _) hR0 hri hZ0 hZl q hq hb (hA.view HVX.out))
      have HST := Lib.hid (fun (W : World) (hA : At wr W) => rsort_view _ (Z.map iw) W (hA.view HVX.out) (by rw [List.length_map]; omega) (iw_all Z))
      have HP := HPB.out
      have n1 := qa_num hri hZ0 (by omega) p hp HP.1
      have n2 := qa_num hri hZ0 (by omega) q hq HP.2.1
      have n3 := qa_num hri hZ0 (by omega) 0 (by decide) bad_zero
      have n4 := qa_num hri hZ0 (by omega) 4607182418800017408 (by decide) bad_one
      have c1 := order_le n1.2 n2.2 n1.1 n2.1 (qa_mono hri hZ0 (by omega) p q hp hq HP.1 HP.2.1 HP.2.2.1)
      have c2 := order_le n3.2 n1.2 n3.1 n1.1 (qa_mono hri hZ0 (by omega) 0 p (by decide) hp bad_zero HP.1 HP.2.2.2.1)
      have s1 : sr 4607182418800017408 = 4607182418800017408 := by decide
      have c3 := order_le n2.2 n4.2 n2.1 n4.1 (qa_mono hri hZ0 (by omega) q 4607182418800017408 hq (by decide) HP.2.1 bad_one (by rw [s1]; exact HP.2.2.2.2))
      have c4 := ord_self _ n3.2 n3.1
      have c5 := ord_self _ n4.2 n4.1
      have HSA : Hid (∀ S, Sorts (Z.map iw) S → S.getD 0 0 = qa R0 0 ∧ S.getD m 0 = qa R0 4607182418800017408) := Lib.hid (fun S hS => by
        obtain ⟨ξ, hs⟩ := ri_of hS hall
        have e0 := qa_zero hri hZ0 (by omega)
        have e1 := qa_one hri hZ0 (by omega)
        rw [e0, e1]
        refine ⟨sorts_at hR0 hS hri hs 0 hZ0, ?_⟩
        have e2 : Z.length - 1 = m := by have := HZ.out; have := HNE.out; omega
        rw [e2]
        exact sorts_at hR0 hS hri hs m (by have := HZ.out; have := HNE.out; omega))
      have HSL : Hid (∀ S, Sorts (Z.map iw) S → S.length = m + 1) := Lib.hid (fun S hS => by rw [sorts_len hS, List.length_map, HZ.out, HNE.out])
      have HP2 := Lib.hid (And.intro HP.1 HP.2.1)
      have hAt := At.start wr
      have HSZ : Hid (BB ≤ wr.heap.size) := Lib.hid (by rw [HB.out]; exact HN.out.size)
      clear s1 n1 n2 n3 n4 HP hall hri hR0 HR HQ HO HPB o1 o2 o3 ht
      generalize qa R0 = QA at *
      go_wp2_with (first
        | (go_at_call 23; first
            | ((with_reducible refine (HQT.out _ hAt p hp HP2.out.1).mono ?_); rintro e w' ⟨rfl, hb⟩; replace hAt := hAt.next hb; clear hb)
            | ((with_reducible refine (HQT.out _ hAt q hq HP2.out.2).mono ?_); rintro e w' ⟨rfl, hb⟩; replace hAt := hAt.next hb; clear hb)
            | ((with_reducible refine (HQT.out _ hAt 0 (by decide) bad_zero).mono ?_); rintro e w' ⟨rfl, hb⟩; replace hAt := hAt.next hb; clear hb)
            | ((with_reducible refine (HQT.out _ hAt 4607182418800017408 (by decide) bad_one).mono ?_); rintro e w' ⟨rfl, hb⟩; replace hAt := hAt.next hb; clear hb)))
      refine (HST.out _ hAt).mono ?_
      rintro e ws ⟨vs, S, rfl, hS, hvs, hbs⟩
      obtain ⟨gs, os, cs, rfl, hgs, hcs⟩ := view_pos hvs (by rw [HSL.out S hS]; omega)
      have hSl := HSL.out S hS
      have hSA := HSA.out S hS
      rw [hSl] at hcs ⊢
      have d1 := hcs 0 (by omega)
      have d2 := hcs m (by omega)
      rw [hSA.1] at d1
      rw [hSA.2] at d2
      have e1 : (0 : Int) < (m : Int) + 1 := by omega
      have e2 : (m : Int) < (m : Int) + 1 := by omega
      have e3 : (0 : Int) ≤ (m : Int) := by omega
      rw [Nat.add_zero] at d1
      replace hAt := hAt.next hbs
      clear hcs hvs hS hSl hSA hbs
      go_wp2_with (first
        | (go_at_call 13; refine (awake_any _).mono ?_; rintro e w' ⟨rfl, hb⟩; replace hAt := hAt.next hb; clear hb))
      go_ret
      exact ⟨rfl, HN.out.trans (Below.mono hAt HSZ.out)⟩

end Go.Proofs.Ytphhonpibmbjmaa
