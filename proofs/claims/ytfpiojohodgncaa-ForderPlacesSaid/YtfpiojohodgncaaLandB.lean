/- Proved: what the landed Clamp, Min and Max of forder give: just what chapter 2 asks of them, spelled as in Dev. -/
import Derived.Test.YtfpiojohodgncaaLand
namespace Go.Proofs.Ytfpiojohodgncaa
open Go.RowKit Fl

set_option maxHeartbeats 2000000 in
theorem clamp_any (x lo hi : Nat) (hx : x < 18446744073709551616) (hlo : lo < 18446744073709551616) (hhi : hi < 18446744073709551616) (w : World) :
    Calls Try.prog 24 #[.float .f64 x, .float .f64 lo, .float .f64 hi] w fun e w' => e = .returned (.float .f64 (clS x lo hi)) ∧ w = w' := by
  by_cases n1 : isN x = true
  · have o1 := ord_nan_l x x hx n1
    have HV : Hid (clS x lo hi = 9221120237041090560) := Lib.hid (by unfold clS; rw [if_pos (Or.inl n1)])
    go_enter Try.func24, Try.ntmps24
    go_wp2_with (first | (go_at_call 16; refine (hC _ _ (by assumption) (by assumption) _).mono ?_; rintro e w' ⟨rfl, rfl⟩) | (go_at_call 28; refine (thenan_any _).mono ?_; rintro e w' ⟨rfl, rfl⟩))
    go_ret
    exact ⟨ret_float HV.out.symm, rfl⟩
  replace n1 : isN x = false := by simpa using n1
  have o1 := ord_self x hx n1
  by_cases n2 : isN lo = true
  · have o2 := ord_nan_l lo lo hlo n2
    have HV : Hid (clS x lo hi = 9221120237041090560) := Lib.hid (by unfold clS; rw [if_pos (Or.inr (Or.inl n2))])
    go_enter Try.func24, Try.ntmps24
    go_wp2_with (first | (go_at_call 16; refine (hC _ _ (by assumption) (by assumption) _).mono ?_; rintro e w' ⟨rfl, rfl⟩) | (go_at_call 28; refine (thenan_any _).mono ?_; rintro e w' ⟨rfl, rfl⟩))
    go_ret
    exact ⟨ret_float HV.out.symm, rfl⟩
  replace n2 : isN lo = false := by simpa using n2
  have o2 := ord_self lo hlo n2
  by_cases n3 : isN hi = true
  · have o3 := ord_nan_l hi hi hhi n3
    have HV : Hid (clS x lo hi = 9221120237041090560) := Lib.hid (by unfold clS; rw [if_pos (Or.inr (Or.inr (Or.inl n3)))])
    go_enter Try.func24, Try.ntmps24
    go_wp2_with (first | (go_at_call 16; refine (hC _ _ (by assumption) (by assumption) _).mono ?_; rintro e w' ⟨rfl, rfl⟩) | (go_at_call 28; refine (thenan_any _).mono ?_; rintro e w' ⟨rfl, rfl⟩))
    go_ret
    exact ⟨ret_float HV.out.symm, rfl⟩
  replace n3 : isN hi = false := by simpa using n3
  have o3 := ord_self hi hhi n3
  by_cases n4 : kb hi < kb lo
  · have c1 := (cmpI_pos lo hi).trans (decide_eq_true n4)
    have HV : Hid (clS x lo hi = 9221120237041090560) := Lib.hid (by unfold clS; rw [if_pos (Or.inr (Or.inr (Or.inr n4)))])
    go_enter Try.func24, Try.ntmps24
    go_wp2_with (first | (go_at_call 16; refine (hC _ _ (by assumption) (by assumption) _).mono ?_; rintro e w' ⟨rfl, rfl⟩) | (go_at_call 28; refine (thenan_any _).mono ?_; rintro e w' ⟨rfl, rfl⟩))
    go_ret
    exact ⟨ret_float HV.out.symm, rfl⟩
  have c1 := (cmpI_pos lo hi).trans (decide_eq_false n4)
  have hno : ¬ (isN x = true ∨ isN lo = true ∨ isN hi = true ∨ kb hi < kb lo) := by rw [n1, n2, n3]; simp; omega
  have HNO := Lib.hid hno
  clear hno n4
  by_cases n5 : kb x < kb lo
  · have c2 := (cmpI_neg x lo).trans (decide_eq_true n5)
    have HV : Hid (clS x lo hi = lo) := Lib.hid (by unfold clS; rw [if_neg HNO.out, if_pos n5])
    go_enter Try.func24, Try.ntmps24
    go_wp2_with (first | (go_at_call 16; refine (hC _ _ (by assumption) (by assumption) _).mono ?_; rintro e w' ⟨rfl, rfl⟩) | (go_at_call 28; refine (thenan_any _).mono ?_; rintro e w' ⟨rfl, rfl⟩))
    go_ret
    exact ⟨ret_float HV.out.symm, rfl⟩
  have c2 := (cmpI_neg x lo).trans (decide_eq_false n5)
  by_cases n6 : kb hi < kb x
  · have c3 := (cmpI_pos x hi).trans (decide_eq_true n6)
    have HV : Hid (clS x lo hi = hi) := Lib.hid (by unfold clS; rw [if_neg HNO.out, if_neg n5, if_pos n6])
    go_enter Try.func24, Try.ntmps24
    go_wp2_with (first | (go_at_call 16; refine (hC _ _ (by assumption) (by assumption) _).mono ?_; rintro e w' ⟨rfl, rfl⟩) | (go_at_call 28; refine (thenan_any _).mono ?_; rintro e w' ⟨rfl, rfl⟩))
    go_ret
    exact ⟨ret_float HV.out.symm, rfl⟩
  · have c3 := (cmpI_pos x hi).trans (decide_eq_false n6)
    have HV : Hid (clS x lo hi = x) := Lib.hid (by unfold clS; rw [if_neg HNO.out, if_neg n5, if_neg n6])
    go_enter Try.func24, Try.ntmps24
    go_wp2_with (first | (go_at_call 16; refine (hC _ _ (by assumption) (by assumption) _).mono ?_; rintro e w' ⟨rfl, rfl⟩) | (go_at_call 28; refine (thenan_any _).mono ?_; rintro e w' ⟨rfl, rfl⟩))
    go_ret
    exact ⟨ret_float HV.out.symm, rfl⟩
theorem hCl : DClamp := clamp_any

theorem kb_of_nan (b : Nat) (h : isN b = true) : kb b = 18444492273895866368 := by unfold kb; rw [cb_nan b h]; decide
theorem kb_below (b : Nat) (hb : b < 18446744073709551616) (h : isN b = false) : kb b < 18444492273895866368 := by
  have h2 := isN_lit b h
  unfold kb; rw [not_nan_cb b h]; split <;> omega
theorem nan_top (y x : Nat) (hx : x < 18446744073709551616) (hy : isN y = true) (h : kb y ≤ kb x) : isN x = true := by
  cases e : isN x with
  | true => rfl
  | false => have := kb_below x hx e; rw [kb_of_nan y hy] at h; omega

/-- What Max holds at its loop's end, made canonical, is the greatest, or the NaN. -/
theorem most_of_top (n : Nat) (f : Nat → Nat) (j : Nat) (hj : j < n) (hf : ∀ j, j < n → f j < 18446744073709551616) (hq : ∀ q, q < n → kb (f q) ≤ kb (f j)) :
    cb (f j) < 18446744073709551616 ∧ IsMost 1 n f (cb (f j)) := by
  refine ⟨cb_lt _ (hf j hj), ?_⟩
  cases e : isN (f j) with
  | true => exact Or.inl ⟨⟨j, hj, e⟩, cb_nan _ e⟩
  | false =>
    refine Or.inr ⟨fun q h => ?_, ⟨j, hj, not_nan_cb _ e⟩, fun q h => ⟨fun c => by omega, fun _ => by rw [not_nan_cb _ e]; exact hq q h⟩⟩
    cases e2 : isN (f q) with
    | false => rfl
    | true => rw [nan_top _ _ (hf j hj) e2 (hq q h)] at e; cases e

set_option maxHeartbeats 1000000 in
theorem min_some (B o cap n : Nat) (f : Nat → Nat) (w : World) (hn0 : 0 < n) (hn : n ≤ 9223372036854775807)
    (hx : ∀ j, j < n → w.cell? ⟨B, o + j, none⟩ = some (.float .f64 (f j))) (hf : ∀ j, j < n → f j < 18446744073709551616) :
    Calls Try.prog 13 #[.slice (some ⟨B, o, none⟩) n cap] w (SomeMost (-1) n f w) := by
  have c0 := hx 0 hn0
  rw [Nat.add_zero] at c0
  have hne : ((n : Int) == 0) = false := by rw [beq_eq_false_iff_ne]; omega
  have hp : (0 : Int) < (n : Int) := by omega
  have HX := Lib.hid hx
  have HF := Lib.hid hf
  clear hx hf
  go_enter Try.func13, Try.ntmps13
  go_wp2
  clear c0 hne hp
  go_loopw [4, 15] (fun x i wr => ∃ k : Nat, k ≤ n ∧ i = .int .i64 k ∧ (∃ j, j < n ∧ x = .float .f64 (f j) ∧ (∀ q, q < k → isN (f q) = false ∧ NotBeyond (-1) (f q) (f j))) ∧ wr = w) (fun _ i _ => n - (intOf i).toNat)
  case atStart => exact ⟨0, Nat.zero_le _, rfl, ⟨0, hn0, rfl, fun q hq => absurd hq (Nat.not_lt_zero q)⟩, rfl⟩
  case round =>
    obtain ⟨k, hk, rfl, ⟨j, hj, rfl, hq⟩, rfl⟩ := hrel
    have HQ := Lib.hid hq
    clear hq
    by_cases hlt : k < n
    · have c1 := HX.out k hlt
      have d1 := HF.out k hlt
      have d2 := HF.out j hj
      have b1 : (0 : Int) ≤ (k : Int) := by omega
      have b2 : (k : Int) < (n : Int) := by omega
      by_cases hN : isN (f k) = true
      · have o1 := ord_nan_l (f k) (f k) d1 hN
        have HN := Lib.hid hN
        clear hN
        go_wp2_with (go_at_call 28; refine (thenan_any _).mono ?_; rintro e w' ⟨rfl, rfl⟩)
        go_ret2
        exact ⟨_, by decide, Or.inl ⟨⟨k, hlt, HN.out⟩, rfl⟩, rfl, 0, rfl⟩
      · have hN : isN (f k) = false := by simpa using hN
        have o1 := ord_self (f k) d1 hN
        have HN := Lib.hid hN
        clear hN
        have cc := cmpI_neg (f k) (f j)
        by_cases hc : kb (f k) < kb (f j)
        · replace cc := cc.trans (decide_eq_true hc)
          have HR : Hid (∀ q, q < k + 1 → isN (f q) = false ∧ NotBeyond (-1) (f q) (f k)) := Lib.hid (fun q hq => by
            by_cases e : q = k
            · subst e; exact ⟨HN.out, notBeyond_self _ _⟩
            · obtain ⟨a, b⟩ := HQ.out q (by omega)
              exact ⟨a, fun _ => by have := b.1 rfl; omega, fun e => by omega⟩)
          go_wp2_with (go_at_call 16; refine (hC _ _ d1 d2 _).mono ?_; rintro e w' ⟨rfl, rfl⟩)
          go_roundw
          case rel => exact ⟨k + 1, by omega, by go_num, ⟨k, hlt, rfl, HR.out⟩, by first | rfl | trivial⟩
          case measure => simp [intOf]; omega
        · replace cc := cc.trans (decide_eq_false hc)
          have HR : Hid (∀ q, q < k + 1 → isN (f q) = false ∧ NotBeyond (-1) (f q) (f j)) := Lib.hid (fun q hq => by
            by_cases e : q = k
            · subst e; exact ⟨HN.out, fun _ => by omega, fun e => by omega⟩
            · exact HQ.out q (by omega))
          go_wp2_with (go_at_call 16; refine (hC _ _ d1 d2 _).mono ?_; rintro e w' ⟨rfl, rfl⟩)
          go_roundw
          case rel => exact ⟨k + 1, by omega, by go_num, ⟨j, hj, rfl, HR.out⟩, by first | rfl | trivial⟩
          case measure => simp [intOf]; omega
    · have hk8 : k = n := by omega
      subst hk8
      go_wp2
      go_ret2
      exact ⟨_, HF.out j hj, Or.inr ⟨fun q hq => (HQ.out q hq).1, ⟨j, hj, rfl⟩, fun q hq => (HQ.out q hq).2⟩, rfl, 0, rfl⟩

set_option maxHeartbeats 1000000 in
theorem max_some (B o cap n : Nat) (f : Nat → Nat) (w : World) (hn0 : 0 < n) (hn : n ≤ 9223372036854775807)
    (hx : ∀ j, j < n → w.cell? ⟨B, o + j, none⟩ = some (.float .f64 (f j))) (hf : ∀ j, j < n → f j < 18446744073709551616) :
    Calls Try.prog 15 #[.slice (some ⟨B, o, none⟩) n cap] w (SomeMost 1 n f w) := by
  have c0 := hx 0 hn0
  rw [Nat.add_zero] at c0
  have hne : ((n : Int) == 0) = false := by rw [beq_eq_false_iff_ne]; omega
  have hp : (0 : Int) < (n : Int) := by omega
  have HX := Lib.hid hx
  have HF := Lib.hid hf
  clear hx hf
  go_enter Try.func15, Try.ntmps15
  go_wp2
  clear c0 hne hp
  go_loopw [4, 15] (fun x i wr => ∃ k : Nat, k ≤ n ∧ i = .int .i64 k ∧ (∃ j, j < n ∧ x = .float .f64 (f j) ∧ (∀ q, q < k → kb (f q) ≤ kb (f j))) ∧ wr = w) (fun _ i _ => n - (intOf i).toNat)
  case atStart => exact ⟨0, Nat.zero_le _, rfl, ⟨0, hn0, rfl, fun q hq => absurd hq (Nat.not_lt_zero q)⟩, rfl⟩
  case round =>
    obtain ⟨k, hk, rfl, ⟨j, hj, rfl, hq⟩, rfl⟩ := hrel
    have HQ := Lib.hid hq
    clear hq
    by_cases hlt : k < n
    · have c1 := HX.out k hlt
      have d1 := HF.out k hlt
      have d2 := HF.out j hj
      have b1 : (0 : Int) ≤ (k : Int) := by omega
      have b2 : (k : Int) < (n : Int) := by omega
      have cc := cmpI_pos (f k) (f j)
      by_cases hc : kb (f j) < kb (f k)
      · replace cc := cc.trans (decide_eq_true hc)
        have HR : Hid (∀ q, q < k + 1 → kb (f q) ≤ kb (f k)) := Lib.hid (fun q hq => by
          by_cases e : q = k
          · subst e; omega
          · have := HQ.out q (by omega); omega)
        go_wp2_with (go_at_call 16; refine (hC _ _ d1 d2 _).mono ?_; rintro e w' ⟨rfl, rfl⟩)
        go_roundw
        case rel => exact ⟨k + 1, by omega, by go_num, ⟨k, hlt, rfl, HR.out⟩, by first | rfl | trivial⟩
        case measure => simp [intOf]; omega
      · replace cc := cc.trans (decide_eq_false hc)
        have HR : Hid (∀ q, q < k + 1 → kb (f q) ≤ kb (f j)) := Lib.hid (fun q hq => by
          by_cases e : q = k
          · subst e; omega
          · exact HQ.out q (by omega))
        go_wp2_with (go_at_call 16; refine (hC _ _ d1 d2 _).mono ?_; rintro e w' ⟨rfl, rfl⟩)
        go_roundw
        case rel => exact ⟨k + 1, by omega, by go_num, ⟨j, hj, rfl, HR.out⟩, by first | rfl | trivial⟩
        case measure => simp [intOf]; omega
    · have hk8 : k = n := by omega
      subst hk8
      have d2 := HF.out j hj
      have HM := Lib.hid (most_of_top k f j hj HF.out HQ.out)
      go_wp2_with (go_at_call 29; refine (canon_any _ d2 _).mono ?_; rintro e w' ⟨rfl, rfl⟩)
      go_ret2
      exact ⟨_, HM.out.1, HM.out.2, rfl, 0, rfl⟩

theorem min_none (a : Option Addr) (cap : Nat) (w : World) :
    Calls Try.prog 13 #[.slice a 0 cap] w fun e w' => e = .returned (.tuple #[.float .f64 0, .int .i64 14]) ∧ w = w' := by
  go_enter Try.func13, Try.ntmps13
  go_wp2
  go_ret2
  exact ⟨rfl, rfl⟩
theorem max_none (a : Option Addr) (cap : Nat) (w : World) :
    Calls Try.prog 15 #[.slice a 0 cap] w fun e w' => e = .returned (.tuple #[.float .f64 0, .int .i64 14]) ∧ w = w' := by
  go_enter Try.func15, Try.ntmps15
  go_wp2
  go_ret2
  exact ⟨rfl, rfl⟩

theorem most_post {way : Int} {n : Nat} {f : Nat → Nat} {w : World} {e : Ending} {w' : World} (h : SomeMost way n f w e w') :
    ∃ x, x < 18446744073709551616 ∧ IsMost way n f x ∧ e = .returned (.tuple #[.float .f64 x, .int .i64 0]) ∧ Below w.heap.size w w' := by
  obtain ⟨x, h1, h2, h3, m, rfl⟩ := h
  exact ⟨x, h1, h2, h3, below_drewN (Below.refl _ _) m⟩
theorem hMin : DMost 13 (-1) := by
  intro v L w hv h0 hb hf
  obtain ⟨b, off, cap, rfl, _, hc⟩ := view_pos hv h0
  exact (min_some b off cap L.length (L.getD · 0) w h0 (by omega) hc (getD_lt L hf)).mono fun e w' h => most_post h
theorem hMax : DMost 15 1 := by
  intro v L w hv h0 hb hf
  obtain ⟨b, off, cap, rfl, _, hc⟩ := view_pos hv h0
  exact (max_some b off cap L.length (L.getD · 0) w h0 (by omega) hc (getD_lt L hf)).mono fun e w' h => most_post h
theorem hM : DMost0 13 := by
  intro v w hv
  rcases hv with ⟨rfl, _⟩ | ⟨ad, cap, rfl, _⟩ | ⟨b, off, cap, rfl, h0, _, _⟩
  · exact (min_none _ _ w).mono fun e w' h => ⟨h.1, h.2 ▸ Below.refl _ _⟩
  · exact (min_none _ _ w).mono fun e w' h => ⟨h.1, h.2 ▸ Below.refl _ _⟩
  · simp at h0
theorem hM2 : DMost0 15 := by
  intro v w hv
  rcases hv with ⟨rfl, _⟩ | ⟨ad, cap, rfl, _⟩ | ⟨b, off, cap, rfl, h0, _, _⟩
  · exact (max_none _ _ w).mono fun e w' h => ⟨h.1, h.2 ▸ Below.refl _ _⟩
  · exact (max_none _ _ w).mono fun e w' h => ⟨h.1, h.2 ▸ Below.refl _ _⟩
  · simp at h0

end Go.Proofs.Ytfpiojohodgncaa
