/- Proved: what the document's own Class, Sum, clean and Mean give: the same plain functions as the landed ones. -/
import Derived.Test.YtphhonpibmbjmaaSum
namespace Go.Proofs.Ytphhonpibmbjmaa
open Go.RowKit Fl

set_option maxHeartbeats 1000000 in
theorem rclass_any (b : Nat) (hb : b < 18446744073709551616) (w : World) :
    Calls Try.prog 26 #[.float .f64 b] w fun e w' => e = .returned (.int .i64 (cls b)) ∧ w = w' := by
  have hlt := cb_lt b hb
  have e1 := f_neg (cb b) hlt
  have e2 := g_gt (cb b) hlt
  have e3 := g_inf (cb b) hlt
  have e4 := g_zero (cb b) hlt
  have e5 := g_sub (cb b) hlt
  rcases cls_cases b hb with ⟨hn, hc⟩ | ⟨hn, k0, h⟩
  · have k0 := cb_nan b hn
    first | (replace e1 := e1.trans (decide_eq_true (by omega))) | (replace e1 := e1.trans (decide_eq_false (by omega)))
    first | (replace e2 := e2.trans (decide_eq_true (by omega))) | (replace e2 := e2.trans (decide_eq_false (by omega)))
    have K0 := Lib.hid k0
    clear k0 e3 e4 e5
    go_enter Try.func26, Try.ntmps26
    go_wp2_with (go_at_call 30; refine (rbits_any _ hb _).mono ?_; rintro e w' ⟨rfl, rfl⟩)
    go_ret
    exact ⟨congrArg (fun n => Ending.returned (.int .i64 n)) hc.symm, rfl⟩
  · rcases h with ⟨k, hc⟩ | ⟨k, k', hc⟩ | ⟨k, k', hc⟩ | ⟨k, hc⟩ | ⟨k, hc⟩ | ⟨k, k', hc⟩ | ⟨k, k', hc⟩ | ⟨k, hc⟩
    all_goals
      first | (replace e1 := e1.trans (decide_eq_true (by omega))) | (replace e1 := e1.trans (decide_eq_false (by omega)))
      first | (replace e2 := e2.trans (decide_eq_true (by omega))) | (replace e2 := e2.trans (decide_eq_false (by omega)))
      first | (replace e3 := e3.trans (decide_eq_true (by omega))) | (replace e3 := e3.trans (decide_eq_false (by omega)))
      first | (replace e4 := e4.trans (decide_eq_true (by omega))) | (replace e4 := e4.trans (decide_eq_false (by omega)))
      first | (replace e5 := e5.trans (decide_eq_true (by omega))) | (replace e5 := e5.trans (decide_eq_false (by omega)))
      have K := Lib.hid k
      have K0 := Lib.hid k0
      clear k k0
      go_enter Try.func26, Try.ntmps26
      go_wp2_with (go_at_call 30; refine (rbits_any _ hb _).mono ?_; rintro e w' ⟨rfl, rfl⟩)
      go_ret
      exact ⟨congrArg (fun n => Ending.returned (.int .i64 n)) hc.symm, rfl⟩

theorem lost_le {s x t d e : Nat} (hx : x < 18446744073709551616) (hd : cb d = fo .sub s t) (hdl : d < 18446744073709551616) (he : cb e = fo .add d x) (ho : FloatKind.f64.format.order (s % 9223372036854775808) (x % 9223372036854775808) ≠ some .lt) : cb e = lostW s x t := by
  unfold lostW; rw [if_neg ho, he]
  exact fo_congr f_add hdl hx (fo_lt f_sub _ _) hx (by rw [hd, fo_can f_sub]) rfl
theorem lost_gt {s x t d e : Nat} (hs : s < 18446744073709551616) (hd : cb d = fo .sub x t) (hdl : d < 18446744073709551616) (he : cb e = fo .add d s) (ho : FloatKind.f64.format.order (s % 9223372036854775808) (x % 9223372036854775808) = some .lt) : cb e = lostW s x t := by
  unfold lostW; rw [if_pos ho, he]
  exact fo_congr f_add hdl hs (fo_lt f_sub _ _) hs (by rw [hd, fo_can f_sub]) rfl
theorem order_none (a b : Nat) (ha : a < 18446744073709551616) (hb : b < 18446744073709551616) (h : FloatKind.f64.format.order a b = none) : isN a = true ∨ isN b = true := by
  cases h1 : isN a
  · cases h2 : isN b
    · have : FloatKind.f64.format.order a b = some (compare (sr a) (sr b)) := order_eq a b ha hb h1 h2
      rw [this] at h; cases h
    · right; rfl
  · left; rfl
theorem lost_no {s x t d e : Nat} (hs : s < 18446744073709551616) (hx : x < 18446744073709551616) (hd : cb d = fo .sub x t) (hdl : d < 18446744073709551616) (he : cb e = fo .add d s) (ho : FloatKind.f64.format.order (s % 9223372036854775808) (x % 9223372036854775808) = none) : cb e = lostW s x t := by
  unfold lostW; rw [if_neg (by rw [ho]; simp), he]
  rcases order_none _ _ (by omega) (by omega) ho with h | h
  · rw [ab_num] at h
    rw [fo_nan_r f_add d s hs h]
    exact (fo_nan_l f_add _ x (fo_lt f_sub s t) (by rw [fo_nan_l f_sub s t hs h]; decide)).symm
  · rw [ab_num] at h
    rw [fo_nan_r f_add (fo .sub s t) x hx h]
    exact fo_nan_l f_add d s hdl (by rw [← isN_cb, hd, fo_nan_l f_sub x t hx h]; decide)

set_option maxHeartbeats 4000000 in
theorem rsum_some (b off cap n : Nat) (L : List Nat) (w : World) (hL : L.length = n) (h0 : 0 < n) (hb : n ≤ 1000000)
    (hx : ∀ j, j < n → w.cell? ⟨b, off + j, none⟩ = some (.float .f64 (L.getD j 0))) (hf : ∀ j, j < n → L.getD j 0 < 18446744073709551616) :
    Calls Try.prog 22 #[.slice (some ⟨b, off, none⟩) n cap] w fun e w' => e = .returned (.float .f64 (sumW L)) ∧ ∃ m, w' = w.drewN m := by
  have HX := Lib.hid hx
  have HF := Lib.hid hf
  have HL := Lib.hid hL
  have h0' : (0 : Int) < (n : Int) := by omega
  have HI : Hid (cb (9223372036854775808 : Int).toNat = 9223372036854775808) := Lib.hid (by decide)
  have HI2 : Hid (cb (9221120237041090560 : Int).toNat = 9221120237041090560) := Lib.hid (by decide)
  clear hx hf hL
  go_enter Try.func22, Try.ntmps22
  go_wp2
  go_loopw [3, 4, 5, 6] (fun s c f i wr => ∃ (k x y m : Nat) (g : Bool), k ≤ n ∧ s = .float .f64 x ∧ c = .float .f64 y ∧ f = .bool g ∧ i = .int .i64 k ∧ Hid (Rd x y ((L.take k).foldl stW (0, 0))) ∧ Hid (g = true ↔ ∀ j, j < k → L.getD j 0 = 9223372036854775808) ∧ wr = w.drewN m) (fun _ _ _ i _ => n - (intOf i).toNat)
  case atStart => exact ⟨0, 0, 0, 0, true, Nat.zero_le _, rfl, rfl, by first | rfl | simp [h0'], rfl, Lib.hid ⟨by show cb 0 = 0; decide, by show cb 0 = 0; decide, by decide, by decide⟩, Lib.hid ⟨fun _ _ h => by omega, fun _ => rfl⟩, rfl⟩
  case round =>
    obtain ⟨k, a, c, m, g, hk, rfl, rfl, rfl, rfl, HR, HG, rfl⟩ := hrel
    have la : a < 18446744073709551616 := HR.out.2.2.1
    have lc : c < 18446744073709551616 := HR.out.2.2.2
    by_cases hlt : k < n
    · have c1 := HX.out k hlt
      have d1 := HF.out k hlt
      have HST := Lib.hid (run_succ L k (by rw [HL.out]; exact hlt))
      have b1 : (0 : Int) ≤ (k : Int) := by omega
      have b2 : (k : Int) < (n : Int) := by omega
      have HC : Hid ((cls (L.getD k 0) == 5) = true ↔ L.getD k 0 = 9223372036854775808) := Lib.hid (by rw [beq_iff_eq]; exact cls_negzero _ d1)
      obtain ⟨x, hx⟩ : ∃ x, x = L.getD k 0 := ⟨_, rfl⟩
      have HXX := Lib.hid hx
      rw [← hx] at c1 d1 HST HC
      clear hx
      obtain ⟨t, n1, ht, hl1, r1⟩ := run_foH (P := Try.prog) w m .add f_add 25 a x
      have HG1 : g = true → Hid ((cls x == 5) = true ↔ ∀ j, j < k + 1 → L.getD j 0 = 9223372036854775808) := fun hg => Lib.hid (by
        rw [HC.out]
        constructor
        · intro h j hj
          by_cases e : j = k
          · rw [e, ← HXX.out]; exact h
          · exact HG.out.1 hg j (by omega)
        · intro h
          rw [HXX.out]; exact h k (by omega))
      have HG0 : g = false → Hid (false = true ↔ ∀ j, j < k + 1 → L.getD j 0 = 9223372036854775808) := fun hg => Lib.hid (by
        constructor
        · intro h; cases h
        · intro h
          have := HG.out.2 fun j hj => h j (by omega)
          rw [hg] at this; exact this)
      have ho : (FloatKind.f64.format.order (a % 9223372036854775808) (x % 9223372036854775808) = some .gt ∨ FloatKind.f64.format.order (a % 9223372036854775808) (x % 9223372036854775808) = some .eq) ∨
          (FloatKind.f64.format.order (a % 9223372036854775808) (x % 9223372036854775808) = some .lt ∨ FloatKind.f64.format.order (a % 9223372036854775808) (x % 9223372036854775808) = none) := by
        cases FloatKind.f64.format.order (a % 9223372036854775808) (x % 9223372036854775808) with
        | none => right; right; rfl
        | some r =>
          cases r
          · right; left; rfl
          · left; right; rfl
          · left; left; rfl
      rcases ho with ho | ho
      · obtain ⟨d, n2, hd, hdl, r2⟩ := run_foH (P := Try.prog) w n1 .sub f_sub 25 a t
        obtain ⟨d2, n3, hd2, hdl2, r3⟩ := run_foH (P := Try.prog) w n2 .add f_add 25 d x
        obtain ⟨e2, n4, he, hel, r4⟩ := run_foH (P := Try.prog) w n3 .add f_add 25 c d2
        have HE := Lib.hid (lost_le d1 hd.out hdl hd2.out (by rcases ho with h | h <;> rw [h] <;> simp))
        have HN := Lib.hid (rd_step HR.out d1 ht.out hl1 HE.out hdl2 he.out hel)
        clear hd hd2 he HE ht
        cases g
        · have HF1 := HG0 rfl
          clear HG0 HG1 HG HC
          rcases ho with ho | ho
          all_goals
            go_wp2_with (go_at_call 34; refine (abs_any _ (by assumption) _).mono ?_; rintro e w' ⟨rfl, rfl⟩)
            go_roundw
            case rel => exact ⟨k + 1, t, e2, n4, false, by omega, rfl, rfl, rfl, by go_num, Lib.hid (by rw [HST.out]; exact HN.out), HF1, rfl⟩
            case measure => simp [intOf]; omega
        · have HF1 := HG1 rfl
          clear HG0 HG1 HG HC
          rcases ho with ho | ho
          all_goals
            go_wp2_with (first | (go_at_call 34; refine (abs_any _ (by assumption) _).mono ?_; rintro e w' ⟨rfl, rfl⟩) | (go_at_call 26; refine (rclass_any _ (by assumption) _).mono ?_; rintro e w' ⟨rfl, rfl⟩))
            go_roundw
            case rel => exact ⟨k + 1, t, e2, n4, _, by omega, rfl, rfl, rfl, by go_num, Lib.hid (by rw [HST.out]; exact HN.out), HF1, rfl⟩
            case measure => simp [intOf]; omega
      · obtain ⟨d, n2, hd, hdl, r2⟩ := run_foH (P := Try.prog) w n1 .sub f_sub 25 x t
        obtain ⟨d2, n3, hd2, hdl2, r3⟩ := run_foH (P := Try.prog) w n2 .add f_add 25 d a
        obtain ⟨e2, n4, he, hel, r4⟩ := run_foH (P := Try.prog) w n3 .add f_add 25 c d2
        have HE : Hid (cb d2 = lostW a x t) := Lib.hid (by
          rcases ho with h | h
          · exact lost_gt la hd.out hdl hd2.out h
          · exact lost_no la d1 hd.out hdl hd2.out h)
        have HN := Lib.hid (rd_step HR.out d1 ht.out hl1 HE.out hdl2 he.out hel)
        clear hd hd2 he HE ht
        cases g
        · have HF1 := HG0 rfl
          clear HG0 HG1 HG HC
          rcases ho with ho | ho
          all_goals
            go_wp2_with (go_at_call 34; refine (abs_any _ (by assumption) _).mono ?_; rintro e w' ⟨rfl, rfl⟩)
            go_roundw
            case rel => exact ⟨k + 1, t, e2, n4, false, by omega, rfl, rfl, rfl, by go_num, Lib.hid (by rw [HST.out]; exact HN.out), HF1, rfl⟩
            case measure => simp [intOf]; omega
        · have HF1 := HG1 rfl
          clear HG0 HG1 HG HC
          rcases ho with ho | ho
          all_goals
            go_wp2_with (first | (go_at_call 34; refine (abs_any _ (by assumption) _).mono ?_; rintro e w' ⟨rfl, rfl⟩) | (go_at_call 26; refine (rclass_any _ (by assumption) _).mono ?_; rintro e w' ⟨rfl, rfl⟩))
            go_roundw
            case rel => exact ⟨k + 1, t, e2, n4, _, by omega, rfl, rfl, rfl, by go_num, Lib.hid (by rw [HST.out]; exact HN.out), HF1, rfl⟩
            case measure => simp [intOf]; omega
    · obtain rfl : k = n := by omega
      have hge : ¬ ((k : Int) < (k : Int)) := by omega
      have HR2 : Hid (Rd a c (runW L)) := Lib.hid (by have := HR.out; rw [take_all HL.out] at this; exact this)
      have HG2 : Hid (g = true ↔ ∀ x ∈ L, x = 9223372036854775808) := Lib.hid (by rw [HG.out, ← all_neg, HL.out])
      clear HR HG
      cases g
      · have HN : Hid (¬ (L ≠ [] ∧ ∀ x ∈ L, x = 9223372036854775808)) := Lib.hid (fun h => by have := HG2.out.2 h.2; cases this)
        by_cases hn : isN c = true
        · have o := ord_nan_l c c lc hn
          have HE := Lib.hid (sum_nan HR2.out HN.out hn)
          clear hn
          by_cases hm : isN a = true
          · have o2 := ord_nan_l a a la hm
            have HQ := Lib.hid (cb_nan a hm)
            clear hm
            go_wp2_with (go_at_call 35; refine (rfrom_as _ 9221120237041090560 (by decide) (by decide) HI2 _).mono ?_; rintro e w' ⟨rfl, rfl⟩)
            go_ret
            exact ⟨ret_float (by rw [← HE.out, HQ.out]), m, rfl⟩
          · have hm : isN a = false := by simpa using hm
            have o2 := ord_self a la hm
            have HQ := Lib.hid (cb_num a hm)
            clear hm
            go_wp2
            go_ret
            exact ⟨ret_float (by rw [← HE.out, HQ.out]), m, rfl⟩
        · have hn : isN c = false := by simpa using hn
          have o := ord_self c lc hn
          have HE := Lib.hid (sum_fin HR2.out HN.out hn)
          obtain ⟨t, n1, ht, hl1, r1⟩ := run_foH (P := Try.prog) w m .add f_add 25 a c
          clear hn
          by_cases hm : isN t = true
          · have o2 := ord_nan_l t t hl1 hm
            have HQ := Lib.hid (cb_nan t hm)
            clear hm
            go_wp2_with (go_at_call 35; refine (rfrom_as _ 9221120237041090560 (by decide) (by decide) HI2 _).mono ?_; rintro e w' ⟨rfl, rfl⟩)
            go_ret
            exact ⟨ret_float (by rw [← HE.out, ← ht.out, HQ.out]), n1, rfl⟩
          · have hm : isN t = false := by simpa using hm
            have o2 := ord_self t hl1 hm
            have HQ := Lib.hid (cb_num t hm)
            clear hm
            go_wp2
            go_ret
            exact ⟨ret_float (by rw [← HE.out, ← ht.out, HQ.out]), n1, rfl⟩
      · have HS : Hid (sumW L = 9223372036854775808) := Lib.hid (sum_neg ⟨fun h => by have := HL.out; rw [h] at this; simp at this; omega, HG2.out.1 rfl⟩)
        go_wp2_with (go_at_call 35; refine (rfrom_as _ 9223372036854775808 (by decide) (by decide) HI _).mono ?_; rintro e w' ⟨rfl, rfl⟩)
        go_ret
        exact ⟨ret_float HS.out.symm, m, rfl⟩

set_option maxHeartbeats 2000000 in
theorem rsum_none (a : Option Addr) (cap : Nat) (w : World) :
    Calls Try.prog 22 #[.slice a 0 cap] w fun e w' => e = .returned (.float .f64 (sumW [])) ∧ ∃ m, w' = w.drewN m := by
  have HS := Lib.hid sum_nil
  have o : FloatKind.f64.format.order 0 0 = some .eq := ord_self 0 (by decide) (by decide)
  have hrun := fun w : World => run_float_arith (P := Try.prog) w .add 25 .f64 0 0 0 (by decide +kernel)
  go_enter Try.func22, Try.ntmps22
  go_wp2
  refine wp_loop_rounds 1 ?_
  rw [rounds_succ]
  go_wp2
  go_ret
  exact ⟨ret_float HS.out.symm, 0, rfl⟩

theorem rsum_any (v : Value) (L : List Nat) (w : World) (hv : View w v L) (hb : L.length ≤ 1000000) (hf : ∀ x ∈ L, x < 18446744073709551616) :
    Calls Try.prog 22 #[v] w fun e w' => e = .returned (.float .f64 (sumW L)) ∧ ∃ m, w' = w.drewN m := by
  rcases hv with ⟨rfl, rfl⟩ | ⟨ad, cap, rfl, rfl⟩ | ⟨b, off, cap, rfl, h0, hbW, hc⟩
  · exact rsum_none _ _ _
  · exact rsum_none _ _ _
  · exact rsum_some b off cap L.length L w rfl h0 hb hc (getD_lt L hf)

set_option maxHeartbeats 400000 in
theorem clean_any (b : Nat) (hb : b < 18446744073709551616) (w : World) :
    Calls Try.prog 29 #[.float .f64 b] w fun e w' => e = .returned (.float .f64 (cb b)) ∧ w = w' := by
  have HI2 : Hid (cb (9221120237041090560 : Int).toNat = 9221120237041090560) := Lib.hid (by decide)
  by_cases hm : isN b = true
  · have o2 := ord_nan_l b b hb hm
    have HQ := Lib.hid (cb_nan b hm)
    clear hm
    go_enter Try.func29, Try.ntmps29
    go_wp2_with (go_at_call 35; refine (rfrom_as _ 9221120237041090560 (by decide) (by decide) HI2 _).mono ?_; rintro e w' ⟨rfl, rfl⟩)
    go_ret
    exact ⟨ret_float HQ.out.symm, rfl⟩
  · have hm : isN b = false := by simpa using hm
    have o2 := ord_self b hb hm
    have HQ := Lib.hid (cb_num b hm)
    clear hm
    go_enter Try.func29, Try.ntmps29
    go_wp2
    go_ret
    exact ⟨ret_float HQ.out.symm, rfl⟩

set_option maxHeartbeats 2000000 in
theorem rmean_none (v : Value) (w : World) (hv : View w v []) :
    Calls Try.prog 15 #[v] w fun e w' => e = .returned (.tuple #[.float .f64 0, .int .i64 14]) ∧ w' = w := by
  obtain ⟨a, cap, rfl⟩ := view_len hv
  clear hv
  go_enter Try.func15, Try.ntmps15
  go_wp2
  go_ret2
  exact ⟨rfl, rfl⟩

set_option maxHeartbeats 1000000 in
theorem rmean_some (a : Option Addr) (n cap q : Nat) (w : World) (h0 : 0 < n)
    (hs : Calls Try.prog 22 #[.slice a n cap] w fun e w' => e = .returned (.float .f64 q) ∧ ∃ m, w' = w.drewN m) :
    Calls Try.prog 15 #[.slice a n cap] w fun e w' => (∃ r, e = .returned (.tuple #[.float .f64 r, .int .i64 0]) ∧ r = fo .quo q (floatOfInt .f64 (n : Int))) ∧ ∃ m, w' = w.drewN m := by
  have h0' : ¬ ((n : Int) = 0) := by omega
  have key := fun m => run_foH (P := Try.prog) w m .quo f_quo 25 q (floatOfInt .f64 (n : Int))
  have HK := Lib.hid key
  clear key
  go_enter Try.func15, Try.ntmps15
  go_wp2_with (first | (go_at_call 22; refine hs.mono ?_; rintro e w' ⟨rfl, m, rfl⟩; obtain ⟨t, n1, ht, hl1, r1⟩ := HK.out m) | (go_at_call 29; refine (clean_any _ (by assumption) _).mono ?_; rintro e w' ⟨rfl, rfl⟩))
  go_ret2
  exact ⟨⟨cb t, rfl, ht.out⟩, n1, rfl⟩

theorem rmean_any (v : Value) (L : List Nat) (w : World) (hv : View w v L) (h0 : 0 < L.length) (hb : L.length ≤ 1000000) (hf : ∀ x ∈ L, x < 18446744073709551616) :
    Calls Try.prog 15 #[v] w fun e w' => e = .returned (.tuple #[.float .f64 (meanW L), .int .i64 0]) ∧ ∃ m, w' = w.drewN m := by
  have hs := rsum_any v L w hv hb hf
  obtain ⟨a, cap, rfl⟩ := view_len hv
  refine (rmean_some a L.length cap (sumW L) w h0 hs).mono ?_
  rintro e w' ⟨⟨r, rfl, hr⟩, hm⟩
  have : r = meanW L := hr
  rw [this]
  exact ⟨rfl, hm⟩

end Go.Proofs.Ytphhonpibmbjmaa
