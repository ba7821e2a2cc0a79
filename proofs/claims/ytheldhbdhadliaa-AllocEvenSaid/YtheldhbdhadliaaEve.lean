/- Proved: the law AllocEven answers true for any two numbers: where one is taken and freed in turns, no two wears differ by more than one. -/
import Derived.Test.YtheldhbdhadliaaAwk
namespace Go.Proofs.Ytheldhbdhadliaa
open Go.RowKit

set_option maxHeartbeats 1000000 in
set_option maxRecDepth 100000 in
theorem even_out (n t : Int) (h : ¬ (1 ≤ n ∧ n ≤ 64 ∧ 0 ≤ t ∧ t ≤ 300)) (w : World) : Calls Try.prog 5 #[.int .i64 n, .int .i64 t] w (Gives (.bool true) w) := by
  by_cases h1 : 1 ≤ n
  · by_cases h2 : n ≤ 64
    · by_cases h3 : 0 ≤ t
      · have h4 : ¬ t ≤ 300 := fun h4 => h ⟨h1, h2, h3, h4⟩
        clear h
        go_enter Try.func5, Try.ntmps5
        go_wp2_with (go_at_call 8; refine (awake_any _).mono ?_; rintro e w' ⟨rfl, hb⟩)
        go_ret
        exact ⟨rfl, hb⟩
      · clear h
        go_enter Try.func5, Try.ntmps5
        go_wp2_with (go_at_call 8; refine (awake_any _).mono ?_; rintro e w' ⟨rfl, hb⟩)
        go_ret
        exact ⟨rfl, hb⟩
    · clear h
      go_enter Try.func5, Try.ntmps5
      go_wp2_with (go_at_call 8; refine (awake_any _).mono ?_; rintro e w' ⟨rfl, hb⟩)
      go_ret
      exact ⟨rfl, hb⟩
  · clear h
    go_enter Try.func5, Try.ntmps5
    go_wp2_with (go_at_call 8; refine (awake_any _).mono ?_; rintro e w' ⟨rfl, hb⟩)
    go_ret
    exact ⟨rfl, hb⟩

set_option maxHeartbeats 2000000 in
set_option maxRecDepth 100000 in
theorem even_in (n t : Nat) (h1 : 1 ≤ n) (h2 : n ≤ 64) (h3 : t ≤ 300) (w : World) : Calls Try.prog 5 #[.int .i64 (n : Int), .int .i64 (t : Int)] w (Gives (.bool true) w) := by
  have e1 : ¬ (n : Int) < 1 := by omega
  have e2 : ¬ (64 : Int) < (n : Int) := by omega
  have e3 : ¬ (t : Int) < 0 := by omega
  have e4 : ¬ (300 : Int) < (t : Int) := by omega
  go_enter Try.func5, Try.ntmps5
  go_wp2_with fail
  refine (new_ok n 0 h1 h2 (by omega) _).mono ?_
  rintro e w1 ⟨b, z, rfl, hn⟩
  have hz := hn.nz
  have HZ := Lib.hid hz
  have HV0 : Hid (Al w1 b z n 0 (ev n (0 / n) (0 % n)) ∧ At w w1) := Lib.hid (by
    rw [Nat.zero_div, Nat.zero_mod, ← ev_start]; exact ⟨hn.al, hn.stands⟩)
  clear hn hz
  go_wp2
  go_loopw [7] (fun c wr => ∃ i : Nat, i ≤ t ∧ c = .int .i64 (i : Int) ∧ Hid (Al wr b z n 0 (ev n (i / n) (i % n)) ∧ At w wr)) (fun c _ => t - (intOf c).toNat)
  case atStart => exact ⟨0, by omega, rfl, HV0⟩
  case round =>
    clear HV0
    obtain ⟨i, hi, rfl, HV⟩ := hrel
    by_cases hlt : i < t
    · have hmod := Nat.mod_lt i (show 0 < n by omega)
      have hdl := Nat.div_le_self i n
      have HN : Hid (fre (tk (ev n (i / n) (i % n)) (i % n)) (i % n) = ev n ((i + 1) / n) ((i + 1) % n)) := Lib.hid (ev_step (by omega))
      obtain ⟨r, hr⟩ : ∃ r, r = i % n := ⟨_, rfl⟩
      obtain ⟨q, hq⟩ : ∃ q, q = i / n := ⟨_, rfl⟩
      have hmi : (i : Int) % (n : Int) = (r : Int) := by rw [hr]; rfl
      rw [← hr, ← hq] at HV HN
      rw [← hr] at hmod
      rw [← hq] at hdl
      have HL : Hid (Least (ev n q r) n r) := Lib.hid (ev_least hmod)
      have HF : Hid (nf (ev n q r) = n) := Lib.hid (ev_free n q r)
      have hrl : r < (ev n q r).length := by rw [ev_len]; exact hmod
      have HT : Hid ((sa (tk (ev n q r) r) r).t = true ∧ (sa (tk (ev n q r) r) r).w ≤ 1000000) := Lib.hid (by
        rw [tk_at _ _ _ hrl, if_pos rfl, ev_at _ _ _ _ hmod, if_neg (Nat.lt_irrefl _)]
        exact ⟨rfl, by simp only; omega⟩)
      have nb : ((r : Int) != (r : Int)) = false := by simp
      clear hr hq hrl
      go_wp2_with fail
      refine (take_some HV.out.1 false r (by rw [HF.out]; omega) (fun _ => by rw [HF.out]; omega) HL.out).mono ?_
      rintro e w2 ⟨rfl, hv, hm⟩
      have HV2 : Hid (Al w2 b z n 0 (tk (ev n q r) r) ∧ At w w2) := Lib.hid ⟨hv, hm.at_ HV.out.2 (by rintro g rfl; exact HZ.out)⟩
      clear hv hm
      go_wp2_with fail
      refine (free_ok HV2.out.1 r hmod HT.out.1 HT.out.2).mono ?_
      rintro e w3 ⟨rfl, hv, hm⟩
      rw [HN.out] at hv
      have HV3 : Hid (Al w3 b z n 0 (ev n ((i + 1) / n) ((i + 1) % n)) ∧ At w w3) := Lib.hid ⟨hv, hm.at_ HV2.out.2 (by rintro g rfl; exact HZ.out)⟩
      clear hv hm
      go_wp2
      go_roundw
      case rel => exact ⟨i + 1, by omega, by go_num, HV3⟩
      case measure => simp [intOf]; omega
    · have hit : i = t := by omega
      subst hit
      have hqi : (i : Int) / (n : Int) = ((i / n : Nat) : Int) := rfl
      obtain ⟨r, hr⟩ : ∃ r, r = i % n := ⟨_, rfl⟩
      obtain ⟨q, hq⟩ : ∃ q, q = i / n := ⟨_, rfl⟩
      have hdl := Nat.div_le_self i n
      rw [← hr, ← hq] at HV
      rw [← hq] at hqi hdl
      clear hr hq
      go_wp2
      go_loop [10] (fun c => ∃ j : Nat, j ≤ n ∧ c = .int .i64 (j : Int)) (fun c => n - (intOf c).toNat)
      case atStart => exact ⟨0, by omega, rfl⟩
      case round =>
        obtain ⟨j, hj, rfl⟩ := hrel
        by_cases hjn : j < n
        · have hw := wear_yes HV.out.1 j hjn
          rw [ev_at _ _ _ _ hjn] at hw
          simp only at hw
          by_cases hjr : j < r
          · rw [if_pos hjr] at hw
            have n1 : ((q : Int) + 1 != (q : Int)) = true := bne_iff_ne.2 (by omega)
            have n2 : ((q : Int) + 1 != (q : Int) + 1) = false := by simp
            have HW := Lib.hid hw
            clear hw hjr
            go_wp2_with fail
            refine HW.out.mono ?_
            rintro e w4 ⟨rfl, rfl⟩
            go_wp2
            go_round
            case rel => exact ⟨j + 1, by omega, by go_num⟩
            case measure => simp [intOf]; omega
          · rw [if_neg hjr] at hw
            have n1 : ((q : Int) != (q : Int)) = false := by simp
            have HW := Lib.hid hw
            clear hw hjr
            go_wp2_with fail
            refine HW.out.mono ?_
            rintro e w4 ⟨rfl, rfl⟩
            go_wp2
            go_round
            case rel => exact ⟨j + 1, by omega, by go_num⟩
            case measure => simp [intOf]; omega
        · go_wp2_with fail
          refine (awake_any _).mono ?_
          rintro e w8 ⟨rfl, a8⟩
          have HA8 := Lib.hid (At.next HV.out.2 a8)
          clear a8
          go_wp2
          go_ret
          exact ⟨rfl, HA8.out⟩

theorem even_any (n t : Int) (w : World) : Calls Try.prog 5 #[.int .i64 n, .int .i64 t] w (Gives (.bool true) w) := by
  by_cases h : 1 ≤ n ∧ n ≤ 64 ∧ 0 ≤ t ∧ t ≤ 300
  · obtain ⟨h1, h2, h3, h4⟩ := h
    obtain ⟨a, rfl⟩ := Int.eq_ofNat_of_zero_le (show 0 ≤ n by omega)
    obtain ⟨c, rfl⟩ := Int.eq_ofNat_of_zero_le h3
    exact even_in a c (by omega) (by omega) (by omega) w
  · exact even_out n t h w

end Go.Proofs.Ytheldhbdhadliaa
