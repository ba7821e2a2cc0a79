/- Proved: what the landed Sum and Mean give: the compensated sum, and it divided by how many numbers there are. -/
import Derived.Test.YtphhonpibmbjmaaLost
namespace Go.Proofs.Ytphhonpibmbjmaa
open Go.RowKit Fl

theorem take_all {L : List Nat} {n : Nat} (h : L.length = n) : L.take n = L := by rw [← h, List.take_length]

set_option maxHeartbeats 2000000 in
theorem sum_some (b off cap n : Nat) (L : List Nat) (w : World) (hL : L.length = n) (h0 : 0 < n) (hb : n ≤ 1000000)
    (hx : ∀ j, j < n → w.cell? ⟨b, off + j, none⟩ = some (.float .f64 (L.getD j 0))) (hf : ∀ j, j < n → L.getD j 0 < 18446744073709551616) :
    Calls Try.prog 21 #[.slice (some ⟨b, off, none⟩) n cap] w fun e w' => e = .returned (.float .f64 (sumW L)) ∧ ∃ m, w' = w.drewN m := by
  have hc := contains_some b off cap L w (by omega) (by rw [hL]; exact hx) (by rw [hL]; exact hf)
  rw [hL] at hc
  have HX := Lib.hid hx
  have HF := Lib.hid hf
  have HL := Lib.hid hL
  have h0' : (0 : Int) < (n : Int) := by omega
  by_cases hall : ∀ x ∈ L, x = 9223372036854775808
  · have e0 : decide (¬ ∀ x ∈ L, x = 9223372036854775808) = false := decide_eq_false (fun h => h hall)
    rw [e0] at hc
    have c0 : w.cell? ⟨b, off, none⟩ = some (.float .f64 9223372036854775808) := by
      have := hx 0 h0
      rw [all_neg.2 hall 0 (by omega)] at this
      exact this
    have HS : Hid (sumW L = 9223372036854775808) := Lib.hid (sum_neg ⟨fun h => by rw [h] at hL; simp at hL; omega, hall⟩)
    clear hall e0 hx hf hL
    go_enter Try.func21, Try.ntmps21
    go_wp2_with (go_at_call 31; refine hc.mono ?_; rintro e w' ⟨rfl, rfl⟩)
    go_ret
    exact ⟨ret_float HS.out.symm, 0, rfl⟩
  · have e0 : decide (¬ ∀ x ∈ L, x = 9223372036854775808) = true := decide_eq_true hall
    rw [e0] at hc
    have HN : Hid (¬ (L ≠ [] ∧ ∀ x ∈ L, x = 9223372036854775808)) := Lib.hid (fun h => hall h.2)
    clear hall e0 hx hf hL
    go_enter Try.func21, Try.ntmps21
    go_wp2_with (go_at_call 31; refine hc.mono ?_; rintro e w' ⟨rfl, rfl⟩)
    clear hc
    go_loopw [3, 4, 21] (fun s c i wr => ∃ k x y m : Nat, k ≤ n ∧ s = .float .f64 x ∧ c = .float .f64 y ∧ i = .int .i64 k ∧ Hid (Rd x y ((L.take k).foldl stW (0, 0))) ∧ wr = w.drewN m) (fun _ _ i _ => n - (intOf i).toNat)
    case atStart => exact ⟨0, 0, 0, 0, Nat.zero_le _, rfl, rfl, rfl, Lib.hid ⟨by show cb 0 = 0; decide, by show cb 0 = 0; decide, by decide, by decide⟩, rfl⟩
    case round =>
      obtain ⟨k, a, c, m, hk, rfl, rfl, rfl, HR, rfl⟩ := hrel
      have la : a < 18446744073709551616 := HR.out.2.2.1
      have lc : c < 18446744073709551616 := HR.out.2.2.2
      by_cases hlt : k < n
      · have c1 := HX.out k hlt
        have d1 := HF.out k hlt
        have HST := Lib.hid (run_succ L k (by rw [HL.out]; exact hlt))
        have b1 : (0 : Int) ≤ (k : Int) := by omega
        have b2 : (k : Int) < (n : Int) := by omega
        obtain ⟨x, hx⟩ : ∃ x, x = L.getD k 0 := ⟨_, rfl⟩
        rw [← hx] at c1 d1 HST
        clear hx
        obtain ⟨t, n1, ht, hl1, r1⟩ := run_foH (P := Try.prog) w m .add f_add 25 a x
        go_wp2_with (go_at_call 33; refine (lost_any a x t la d1 w n1).mono ?_; rintro e w' ⟨d, n2, rfl, hd, hdl, rfl⟩; have HD := Lib.hid hd; clear hd; obtain ⟨e2, n3, he, hel, r3⟩ := run_foH (P := Try.prog) w n2 .add f_add 25 c d)
        go_roundw
        case rel => exact ⟨k + 1, t, e2, n3, by omega, rfl, rfl, by go_num, Lib.hid (by rw [HST.out]; exact rd_step HR.out d1 ht.out hl1 HD.out hdl he.out hel), rfl⟩
        case measure => simp [intOf]; omega
      · obtain rfl : k = n := by omega
        have hge : ¬ ((k : Int) < (k : Int)) := by omega
        have HR2 : Hid (Rd a c (runW L)) := Lib.hid (by have := HR.out; rw [take_all HL.out] at this; exact this)
        clear HR
        by_cases hn : isN c = true
        · have o := ord_nan_l c c lc hn
          have HE := Lib.hid (sum_nan HR2.out HN.out hn)
          clear hn
          go_wp2_with (go_at_call 28; refine (fcanon_any _ (by assumption) _).mono ?_; rintro e w' ⟨rfl, rfl⟩)
          go_ret
          exact ⟨ret_float HE.out, m, rfl⟩
        · have hn : isN c = false := by simpa using hn
          have o := ord_self c lc hn
          have HE := Lib.hid (sum_fin HR2.out HN.out hn)
          obtain ⟨t, n1, ht, hl1, r1⟩ := run_foH (P := Try.prog) w m .add f_add 25 a c
          clear hn
          go_wp2_with (go_at_call 28; refine (fcanon_any _ (by assumption) _).mono ?_; rintro e w' ⟨rfl, rfl⟩)
          go_ret
          exact ⟨ret_float (ht.out.trans HE.out), n1, rfl⟩

theorem zero_zero : fo .add 0 0 = 0 := by decide +kernel
theorem sum_nil : sumW [] = 0 := by
  unfold sumW; rw [if_neg (fun h => h.1 rfl)]
  show (if isN 0 = true then 0 else fo .add 0 0) = 0
  rw [zero_zero]; rfl

set_option maxHeartbeats 2000000 in
theorem sum_none (a : Option Addr) (cap : Nat) (w : World) :
    Calls Try.prog 21 #[.slice a 0 cap] w fun e w' => e = .returned (.float .f64 (sumW [])) ∧ ∃ m, w' = w.drewN m := by
  have HS := Lib.hid sum_nil
  have o : FloatKind.f64.format.order 0 0 = some .eq := ord_self 0 (by decide) (by decide)
  obtain ⟨t, n1, ht, hl1, r1⟩ := run_foH0 (P := Try.prog) w .add f_add 25 0 0
  go_enter Try.func21, Try.ntmps21
  go_wp2
  refine wp_loop_rounds 1 ?_
  rw [rounds_succ]
  go_wp2_with (go_at_call 28; refine (fcanon_any _ (by assumption) _).mono ?_; rintro e w' ⟨rfl, rfl⟩)
  go_ret
  exact ⟨ret_float (by rw [ht.out, zero_zero, HS.out]), n1, rfl⟩

theorem sum_any (v : Value) (L : List Nat) (w : World) (hv : View w v L) (hb : L.length ≤ 1000000) (hf : ∀ x ∈ L, x < 18446744073709551616) :
    Calls Try.prog 21 #[v] w fun e w' => e = .returned (.float .f64 (sumW L)) ∧ ∃ m, w' = w.drewN m := by
  rcases hv with ⟨rfl, rfl⟩ | ⟨ad, cap, rfl, rfl⟩ | ⟨b, off, cap, rfl, h0, hbW, hc⟩
  · exact sum_none _ _ _
  · exact sum_none _ _ _
  · exact sum_some b off cap L.length L w rfl h0 hb hc (getD_lt L hf)

/-- The mean. -/
def meanW (L : List Nat) : Nat := fo .quo (sumW L) (floatOfInt .f64 (L.length : Int))

theorem view_len {w : World} {v : Value} {L : List Nat} (h : View w v L) : ∃ a cap, v = .slice a L.length cap := by
  rcases h with ⟨rfl, rfl⟩ | ⟨ad, cap, rfl, rfl⟩ | ⟨b, off, cap, rfl, h0, hbW, hc⟩
  · exact ⟨_, _, rfl⟩
  · exact ⟨_, _, rfl⟩
  · exact ⟨_, _, rfl⟩

theorem intW_lt (n : Int) : floatOfInt .f64 n < 18446744073709551616 := by
  have := floatOfInt_wf .f64 n
  simpa [Lit.wf] using this

set_option maxHeartbeats 2000000 in
theorem mean_none (v : Value) (w : World) (hv : View w v []) :
    Calls Try.prog 14 #[v] w fun e w' => e = .returned (.tuple #[.float .f64 0, .int .i64 14]) ∧ w' = w := by
  obtain ⟨a, cap, rfl⟩ := view_len hv
  clear hv
  go_enter Try.func14, Try.ntmps14
  go_wp2
  go_ret2
  exact ⟨rfl, rfl⟩

set_option maxHeartbeats 1000000 in
theorem mean_some (a : Option Addr) (n cap q : Nat) (w : World) (h0 : 0 < n)
    (hs : Calls Try.prog 21 #[.slice a n cap] w fun e w' => e = .returned (.float .f64 q) ∧ ∃ m, w' = w.drewN m) :
    Calls Try.prog 14 #[.slice a n cap] w fun e w' => (∃ r, e = .returned (.tuple #[.float .f64 r, .int .i64 0]) ∧ r = fo .quo q (floatOfInt .f64 (n : Int))) ∧ ∃ m, w' = w.drewN m := by
  have h0' : ¬ ((n : Int) = 0) := by omega
  have key := fun m => run_foH (P := Try.prog) w m .quo f_quo 25 q (floatOfInt .f64 (n : Int))
  have HK := Lib.hid key
  clear key
  go_enter Try.func14, Try.ntmps14
  go_wp2_with (first | (go_at_call 21; refine hs.mono ?_; rintro e w' ⟨rfl, m, rfl⟩; obtain ⟨t, n1, ht, hl1, r1⟩ := HK.out m) | (go_at_call 28; refine (fcanon_any _ (by assumption) _).mono ?_; rintro e w' ⟨rfl, rfl⟩))
  go_ret2
  exact ⟨⟨cb t, rfl, ht.out⟩, n1, rfl⟩

theorem mean_any (v : Value) (L : List Nat) (w : World) (hv : View w v L) (h0 : 0 < L.length) (hb : L.length ≤ 1000000) (hf : ∀ x ∈ L, x < 18446744073709551616) :
    Calls Try.prog 14 #[v] w fun e w' => e = .returned (.tuple #[.float .f64 (meanW L), .int .i64 0]) ∧ ∃ m, w' = w.drewN m := by
  have hs := sum_any v L w hv hb hf
  obtain ⟨a, cap, rfl⟩ := view_len hv
  refine (mean_some a L.length cap (sumW L) w h0 hs).mono ?_
  rintro e w' ⟨⟨r, rfl, hr⟩, hm⟩
  have : r = meanW L := hr
  rw [this]
  exact ⟨rfl, hm⟩

end Go.Proofs.Ytphhonpibmbjmaa
