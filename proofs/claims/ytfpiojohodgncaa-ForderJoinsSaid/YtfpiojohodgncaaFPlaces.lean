/- Proved: the law ForderPlaces answers true at every list and every number, and leaves what there was as it was, if forder keeps its chapter (said as hypotheses on its functions' calls). -/
import Derived.Test.YtfpiojohodgncaaFJoins
namespace Go.Proofs.Ytfpiojohodgncaa
open Go.RowKit Fl

theorem smB_iff (a b : Nat) (ha : a < 18446744073709551616) (hb : b < 18446744073709551616) : smB a b = true ↔ kb a = kb b := by
  constructor
  · intro h
    unfold smB at h
    have := of_decide_eq_true h
    unfold kb; rw [this]
  · exact smB_eq ha hb
theorem find_sorted {L R : List Nat} (h : Sorts L R) {x k : Nat} {ok : Bool} (hf : IsFind R x k ok) :
    k ≤ R.length ∧ (∀ j, j < k → kb (R.getD j 0) < kb x) ∧ (k < R.length → kb x ≤ kb (R.getD k 0)) ∧ (ok = true ↔ k < R.length ∧ smB (R.getD k 0) x = true) := by
  rcases hf with ⟨a, _, _⟩ | ⟨_, b, c, d, e⟩
  · exact absurd (pairwise_sorted R h.1) a
  · exact ⟨b, c, d, e⟩
theorem find_there {L R : List Nat} (h : Sorts L R) (hf : ∀ x ∈ L, x < 18446744073709551616) {x k : Nat} {ok : Bool} (hx : x < 18446744073709551616) (hi : IsFind R x k ok) :
    ok = true ↔ ∃ a, a < L.length ∧ smB (L.getD a 0) x = true := by
  obtain ⟨f1, f2, f3, f4⟩ := find_sorted h hi
  rw [f4]
  constructor
  · rintro ⟨a, b⟩
    obtain ⟨j, hj, e⟩ := sorts_from h k a
    refine ⟨j, hj, (smB_iff _ _ (hf _ (getD_mem L j hj)) hx).2 ?_⟩
    rw [e]; exact (smB_iff _ _ (h.2.2 _ (getD_mem R k a)) hx).1 b
  · rintro ⟨a, ha, b⟩
    have b' := (smB_iff _ _ (hf _ (getD_mem L a ha)) hx).1 b
    obtain ⟨i, hi2, e⟩ := sorts_to h a ha
    have hki : k ≤ i := by
      by_cases c : i < k
      · have := f2 i c; omega
      · omega
    have hk : k < R.length := by omega
    refine ⟨hk, (smB_iff _ _ (h.2.2 _ (getD_mem R k hk)) hx).2 ?_⟩
    have h1 := sorts_le h k i hki hi2
    have h2 := f3 hk
    omega

set_option maxHeartbeats 2000000 in
theorem fplaces_big (hC : DCompare) (hS : DSort) (hM : DMost0 13) (x : Nat) (a0 : Option Addr) (len cap : Nat) (hl : 300 < len) (w : World) :
    Calls Try.prog 10 #[.slice a0 len cap, .float .f64 x] w fun e w' => e = .returned (.bool true) ∧ Below w.heap.size w w' := by
  have q : decide (len ≤ 300) = false := decide_eq_false (by omega)
  have hl := Lib.hid hl
  go_enter Try.func10, Try.ntmps10
  go_wp2_with (first | (go_at_call 11; refine (small_any _ _ _ _).mono ?_; rintro e w' ⟨rfl, rfl⟩) | (go_at_call 12; refine (awake2_any hS hM hC _).mono ?_; rintro e w' ⟨rfl, hbelow⟩))
  go_ret
  exact ⟨rfl, by assumption⟩

set_option maxHeartbeats 4000000 in
theorem fplaces_in (hC : DCompare) (hS : DSort) (hM : DMost0 13) (hFi : DFind) (x : Nat) (hx : x < 18446744073709551616)
    (b1 o1 n cap : Nat) (L : List Nat) (hl : n ≤ 300) (h0 : 0 < n) (hL : L.length = n) (w : World) (hv : View w (.slice (some ⟨b1, o1, none⟩) n cap) L)
    (hw1 : b1 < w.heap.size) (hc1 : ∀ j, j < n → w.cell? ⟨b1, o1 + j, none⟩ = some (.float .f64 (L.getD j 0))) (hf : ∀ x ∈ L, x < 18446744073709551616) :
    Calls Try.prog 10 #[.slice (some ⟨b1, o1, none⟩) n cap, .float .f64 x] w fun e w' => e = .returned (.bool true) ∧ Below w.heap.size w w' := by
  have q : decide (n ≤ 300) = true := decide_eq_true hl
  have HA := Lib.hid (And.intro hl h0)
  have HL := Lib.hid hL
  have HF := Lib.hid hf
  have HV := Lib.hid hv
  have HW := Lib.hid hw1
  have HC := Lib.hid hc1
  clear hl h0 hL hf hv hw1 hc1
  go_enter Try.func10, Try.ntmps10
  go_wp2_with (go_at_call 11; refine (small_any _ _ _ _).mono ?_; rintro e w' ⟨rfl, rfl⟩)
  refine (rsort_view _ L _ HV.out (by have := HA.out; have := HL.out; omega) HF.out).mono ?_
  rintro e w1 ⟨v1, R, rfl, hR, hv1, hb1⟩
  have HB1 := Lib.hid hb1
  have HS1 := Lib.hid hR
  have HV1 := Lib.hid hv1
  obtain ⟨b, off, cap1, rfl, hbw, hc⟩ := view_pos hv1 (by rw [sorts_len hR, HL.out]; exact HA.out.2)
  have hRl : R.length = n := by rw [sorts_len hR, HL.out]
  rw [hRl] at hc HV1 ⊢
  have HCR := Lib.hid hc
  have HBW := Lib.hid hbw
  have HRL := Lib.hid hRl
  clear hb1 hR hv1 hRl hc hbw
  go_wp2_with fail
  refine (hFi _ R x _ HV1.out (by rw [HRL.out]; have := HA.out; omega) HS1.out.2.2 hx).mono ?_
  rintro e w2 ⟨k, ok, ik, rfl, hb2⟩
  have HB2 := Lib.hid (below_next HB1.out hb2)
  have HCR2 := Lib.hid (fun j (hj : j < n) => (hb2.cell (p := ⟨b, off + j, none⟩) HBW.out).trans (HCR.out j hj))
  have HCL2 := Lib.hid (fun j (hj : j < n) => (HB2.out.cell (p := ⟨b1, o1 + j, none⟩) HW.out).trans (HC.out j hj))
  have HFS := Lib.hid (find_sorted HS1.out ik)
  have HFT := Lib.hid (find_there HS1.out HF.out hx ik)
  have q1 : decide ((k : Int) < 0) = false := decide_eq_false (by omega)
  have q2 : decide (n < k) = false := decide_eq_false (by have := HFS.out.1; rw [HRL.out] at this; omega)
  have hn3 : n ≤ 300 := HA.out.1
  clear hb2 ik
  go_wp2_with fail
  go_loop [8] (fun i => ∃ j : Nat, j ≤ n ∧ i = .int .i64 j) (fun i => n - (intOf i).toNat)
  case atStart => exact ⟨0, Nat.zero_le _, rfl⟩
  case round =>
    obtain ⟨j, hj, rfl⟩ := hrel
    by_cases hjn : j < n
    · have c1 := HCR2.out j hjn
      have d1 := getD_lt R HS1.out.2.2 j (by rw [HRL.out]; exact hjn)
      have b3 : (0 : Int) ≤ (j : Int) := by omega
      have b4 : (j : Int) < (n : Int) := by omega
      have cc := cmpI_neg (R.getD j 0) x
      have hiff : kb (R.getD j 0) < kb x ↔ j < k := by
        constructor
        · intro h
          by_cases c : j < k
          · exact c
          · have h1 := HFS.out.2.2.1 (by rw [HRL.out]; omega)
            have h2 := sorts_le HS1.out k j (by omega) (by rw [HRL.out]; exact hjn)
            omega
        · exact HFS.out.2.1 j
      obtain ⟨p, hp⟩ : ∃ p, p = R.getD j 0 := ⟨_, rfl⟩
      rw [← hp] at c1 d1 cc hiff
      clear hp
      by_cases hjk : j < k
      · replace cc := cc.trans (decide_eq_true (hiff.2 hjk))
        have t1 : decide (j < k) = true := decide_eq_true hjk
        clear hiff
        go_wp2_with (go_at_call 17; refine (rcompare_any _ _ (by assumption) (by assumption) _).mono ?_; rintro e w' ⟨rfl, rfl⟩)
        go_round
        case rel => exact ⟨j + 1, by omega, by go_num⟩
        case measure => simp [intOf]; omega
      · replace cc := cc.trans (decide_eq_false (fun h => hjk (hiff.1 h)))
        have t1 : decide (j < k) = false := decide_eq_false hjk
        clear hiff
        go_wp2_with (go_at_call 17; refine (rcompare_any _ _ (by assumption) (by assumption) _).mono ?_; rintro e w' ⟨rfl, rfl⟩)
        go_round
        case rel => exact ⟨j + 1, by omega, by go_num⟩
        case measure => simp [intOf]; omega
    · obtain rfl : j = n := by omega
      go_wp2
      go_loop [9, 10] (fun m i => ∃ (a : Nat) (t : Bool), a ≤ j ∧ i = .int .i64 a ∧ m = .bool t ∧ (t = true ↔ ∃ z, z < a ∧ smB (L.getD z 0) x = true)) (fun _ i => j - (intOf i).toNat)
      case atStart => exact ⟨0, false, Nat.zero_le _, rfl, rfl, fun h => (Bool.false_ne_true h).elim, fun ⟨z, hz, _⟩ => absurd hz (Nat.not_lt_zero z)⟩
      case round =>
        obtain ⟨a, t, ha, rfl, rfl, ht⟩ := hrel
        have HT := Lib.hid ht
        clear ht
        by_cases haj : a < j
        · have c1 := HCL2.out a haj
          have d1 := getD_lt L HF.out a (by rw [HL.out]; exact haj)
          have b5 : (0 : Int) ≤ (a : Int) := by omega
          have b6 : (a : Int) < (j : Int) := by omega
          have hsm : ∃ u, u = smB (L.getD a 0) x := ⟨_, rfl⟩
          obtain ⟨p, hp⟩ : ∃ p, p = L.getD a 0 := ⟨_, rfl⟩
          rw [← hp] at c1 d1
          have HP := Lib.hid hp
          clear hp hsm
          cases t with
          | true =>
            go_wp2_with (go_at_call 21; refine (rsame_any _ _ (by assumption) (by assumption) _).mono ?_; rintro e w' ⟨rfl, rfl⟩)
            go_round
            case rel => exact ⟨a + 1, true, by omega, by go_num, rfl, fun _ => by obtain ⟨z, hz, h⟩ := HT.out.1 rfl; exact ⟨z, by omega, h⟩, fun _ => rfl⟩
            case measure => simp [intOf]; omega
          | false =>
            go_wp2_with (go_at_call 21; refine (rsame_any _ _ (by assumption) (by assumption) _).mono ?_; rintro e w' ⟨rfl, rfl⟩)
            go_round
            case rel =>
              refine ⟨a + 1, smB p x, by omega, by go_num, rfl, fun h => ⟨a, by omega, by rw [← HP.out]; exact h⟩, fun ⟨z, hz, h⟩ => ?_⟩
              by_cases e : z = a
              · subst e; rw [HP.out]; exact h
              · exact (Bool.false_ne_true (HT.out.2 ⟨z, by omega, h⟩)).elim
            case measure => simp [intOf]; omega
        · obtain rfl : a = j := by omega
          have hot : ok = t := by
            rw [Bool.eq_iff_iff, HFT.out, HT.out, HL.out]
          subst hot
          go_wp2_with (go_at_call 12; refine (awake2_any hS hM hC _).mono ?_; rintro e w' ⟨rfl, hbelow⟩)
          go_ret
          exact ⟨rfl, below_next HB2.out (by assumption)⟩

set_option maxHeartbeats 2000000 in
theorem fplaces_nil (hC : DCompare) (hS : DSort) (hM : DMost0 13) (hFi : DFind) (x : Nat) (hx : x < 18446744073709551616) (a0 : Option Addr) (cap : Nat) (w : World) (hv : View w (.slice a0 0 cap) []) :
    Calls Try.prog 10 #[.slice a0 0 cap, .float .f64 x] w fun e w' => e = .returned (.bool true) ∧ Below w.heap.size w w' := by
  have HV := Lib.hid hv
  clear hv
  go_enter Try.func10, Try.ntmps10
  go_wp2_with (go_at_call 11; refine (small_any _ _ _ _).mono ?_; rintro e w' ⟨rfl, rfl⟩)
  refine (rsort_view _ [] _ HV.out (by simp) (fun _ h => by cases h)).mono ?_
  rintro e w1 ⟨v1, R, rfl, hR, hv1, hb1⟩
  have hRn : R = [] := List.eq_nil_of_length_eq_zero (sorts_len hR)
  subst hRn
  have HB1 := Lib.hid hb1
  have HV1 := Lib.hid hv1
  have hform : ∃ A c, v1 = .slice A 0 c := by
    rcases hv1 with ⟨rfl, _⟩ | ⟨ad, c, rfl, _⟩ | ⟨_, _, _, _, h0, _⟩
    · exact ⟨_, _, rfl⟩
    · exact ⟨_, _, rfl⟩
    · simp at h0
  obtain ⟨A, c, rfl⟩ := hform
  clear hb1 hR hv1
  go_wp2_with fail
  refine (hFi _ [] x _ HV1.out (by simp) (fun _ h => by cases h) hx).mono ?_
  rintro e w2 ⟨k, ok, ik, rfl, hb2⟩
  have HB2 := Lib.hid (below_next HB1.out hb2)
  have hk : k = 0 ∧ ok = false := by
    obtain ⟨f1, _, _, f4⟩ := find_sorted sorts_nil ik
    refine ⟨by simpa using f1, ?_⟩
    cases ok
    · rfl
    · have := (f4.1 rfl).1; simp at this
  obtain ⟨rfl, rfl⟩ := hk
  clear hb2 ik
  go_wp2_with fail
  refine wp_loop_rounds 1 ?_
  rw [rounds_succ]
  go_wp2
  refine wp_loop_rounds 1 ?_
  rw [rounds_succ]
  go_wp2_with (go_at_call 12; refine (awake2_any hS hM hC _).mono ?_; rintro e w' ⟨rfl, hbelow⟩)
  go_ret
  exact ⟨rfl, below_next HB2.out (by assumption)⟩

set_option maxHeartbeats 2000000 in
theorem fjoins_out (hC : DCompare) (hS : DSort) (hM : DMost0 13) (a1 : Option Addr) (n1 cap1 : Nat) (a2 : Option Addr) (n2 cap2 : Nat) (h : 300 < n1 ∨ 300 < n2 ∨ n1 = 0 ∨ n2 = 0) (w : World) :
    Calls Try.prog 9 #[.slice a1 n1 cap1, .slice a2 n2 cap2] w fun e w' => e = .returned (.bool true) ∧ Below w.heap.size w w' := by
  by_cases h1 : n1 ≤ 300
  · have q1 : decide (n1 ≤ 300) = true := decide_eq_true h1
    by_cases h2 : n2 ≤ 300
    · have q2 : decide (n2 ≤ 300) = true := decide_eq_true h2
      by_cases h3 : n1 = 0
      · have q3 : ((n1 : Int) == 0) = true := by rw [h3]; rfl
        clear h h1 h2 h3
        go_enter Try.func9, Try.ntmps9
        go_wp2_with (first | (go_at_call 11; refine (small_any _ _ _ _).mono ?_; rintro e w' ⟨rfl, rfl⟩) | (go_at_call 12; refine (awake2_any hS hM hC _).mono ?_; rintro e w' ⟨rfl, hbelow⟩))
        go_ret
        exact ⟨rfl, by assumption⟩
      · have h4 : n2 = 0 := by omega
        have q3 : ((n1 : Int) == 0) = false := by rw [beq_eq_false_iff_ne]; omega
        have q4 : ((n2 : Int) == 0) = true := by rw [h4]; rfl
        clear h h1 h2 h3 h4
        go_enter Try.func9, Try.ntmps9
        go_wp2_with (first | (go_at_call 11; refine (small_any _ _ _ _).mono ?_; rintro e w' ⟨rfl, rfl⟩) | (go_at_call 12; refine (awake2_any hS hM hC _).mono ?_; rintro e w' ⟨rfl, hbelow⟩))
        go_ret
        exact ⟨rfl, by assumption⟩
    · have q2 : decide (n2 ≤ 300) = false := decide_eq_false h2
      clear h h1 h2
      go_enter Try.func9, Try.ntmps9
      go_wp2_with (first | (go_at_call 11; refine (small_any _ _ _ _).mono ?_; rintro e w' ⟨rfl, rfl⟩) | (go_at_call 12; refine (awake2_any hS hM hC _).mono ?_; rintro e w' ⟨rfl, hbelow⟩))
      go_ret
      exact ⟨rfl, by assumption⟩
  · have q1 : decide (n1 ≤ 300) = false := decide_eq_false h1
    clear h h1
    go_enter Try.func9, Try.ntmps9
    go_wp2_with (first | (go_at_call 11; refine (small_any _ _ _ _).mono ?_; rintro e w' ⟨rfl, rfl⟩) | (go_at_call 12; refine (awake2_any hS hM hC _).mono ?_; rintro e w' ⟨rfl, hbelow⟩))
    go_ret
    exact ⟨rfl, by assumption⟩

end Go.Proofs.Ytfpiojohodgncaa
