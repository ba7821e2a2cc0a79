/- Proved: where the document's own Find says that a number stands. -/
import Derived.Test.YtfpiojohodgncaaClamp
import Derived.Test.YtfpiojohodgncaaMost
namespace Go.Proofs.Ytfpiojohodgncaa
open Go.RowKit Fl

def IsFind (L : List Nat) (x k : Nat) (ok : Bool) : Prop :=
  (¬ SortedTo L.length L ∧ k = 0 ∧ ok = false) ∨
  (SortedTo L.length L ∧ k ≤ L.length ∧ (∀ j, j < k → at' L j < kb x) ∧ (k < L.length → kb x ≤ at' L k) ∧ (ok = true ↔ k < L.length ∧ smB (L.getD k 0) x = true))
theorem sorted_step (q : Nat) (L : List Nat) (h : SortedTo (q + 1) L) (hs : at' L q ≤ at' L (q + 1)) : SortedTo (q + 2) L := by
  intro a b hab hb
  by_cases e : b = q + 1
  · subst e
    by_cases e2 : a = q
    · subst e2; exact hs
    · exact Nat.le_trans (h a q (by omega) (by omega)) hs
  · exact h a b hab (by omega)
theorem find_unique (L : List Nat) (x k k' : Nat) (ok ok' : Bool) (h : IsFind L x k ok) (h' : IsFind L x k' ok') : k = k' ∧ ok = ok' := by
  rcases h with ⟨a, rfl, rfl⟩ | ⟨a, b, c, d, e⟩ <;> rcases h' with ⟨a', rfl, rfl⟩ | ⟨a', b', c', d', e'⟩
  · exact ⟨rfl, rfl⟩
  · exact absurd a' a
  · exact absurd a a'
  · have hk : k = k' := by
      by_cases h1 : k < k'
      · have := c' k h1; have := d (by omega); omega
      · by_cases h2 : k' < k
        · have := c k' h2; have := d' (by omega); omega
        · omega
    subst hk
    exact ⟨rfl, by rw [Bool.eq_iff_iff, e, e']⟩

def SomeFind (L : List Nat) (x : Nat) (w : World) (e : Ending) (w' : World) : Prop :=
  ∃ k ok, IsFind L x k ok ∧ e = .returned (.tuple #[.int .i64 (k : Int), .bool ok]) ∧ ∃ m, w' = w.drewN m

set_option maxHeartbeats 2000000 in
theorem rfind_some (b off cap x : Nat) (L : List Nat) (w : World) (h0 : 0 < L.length) (hb : L.length ≤ 1000000)
    (hx : ∀ j, j < L.length → w.cell? ⟨b, off + j, none⟩ = some (.float .f64 (L.getD j 0))) (hf : ∀ j, j < L.length → L.getD j 0 < 18446744073709551616) (hxl : x < 18446744073709551616) :
    Calls Try.prog 23 #[.slice (some ⟨b, off, none⟩) L.length cap, .float .f64 x] w (SomeFind L x w) := by
  obtain ⟨n, hn⟩ : ∃ n, n = L.length := ⟨_, rfl⟩
  rw [← hn] at h0 hb hx hf ⊢
  have HNL := Lib.hid hn
  have HX := Lib.hid hx
  have HF := Lib.hid hf
  clear hn hx hf
  go_enter Try.func23, Try.ntmps23
  go_wp2
  go_loopw [6] (fun i wr => ∃ k : Nat, k + 1 ≤ n ∧ i = .int .i64 ((k : Int) + 1) ∧ SortedTo (k + 1) L ∧ ∃ m, wr = w.drewN m) (fun i _ => n - (intOf i).toNat)
  case atStart => exact ⟨0, by omega, rfl, sorted_one L, 0, rfl⟩
  case round =>
    obtain ⟨k, hk, rfl, hs, m, rfl⟩ := hrel
    have HS := Lib.hid hs
    clear hs
    have b1 : (0 : Int) ≤ (k : Int) := by omega
    by_cases hlt : k + 1 < n
    · have c1 := HX.out k (by omega)
      have c2 := HX.out (k + 1) hlt
      have d1 := HF.out k (by omega)
      have d2 := HF.out (k + 1) hlt
      have b2 : (k : Int) + 1 < (n : Int) := by omega
      have cc := cmpI_pos (L.getD k 0) (L.getD (k + 1) 0)
      obtain ⟨p, hp⟩ : ∃ p, p = L.getD k 0 := ⟨_, rfl⟩
      obtain ⟨q, hq⟩ : ∃ q, q = L.getD (k + 1) 0 := ⟨_, rfl⟩
      rw [← hp] at c1 d1 cc
      rw [← hq] at c2 d2 cc
      have HP := Lib.hid hp
      have HQ := Lib.hid hq
      clear hp hq
      by_cases hc : kb q < kb p
      · replace cc := cc.trans (decide_eq_true hc)
        go_wp2
        go_quiet ((go_at_call 17; exact same_drawn (rcompare_any _ _ d1 d2 _)))
        go_wp2
        go_ret2
        refine ⟨0, false, Or.inl ⟨fun h => ?_, rfl, rfl⟩, rfl, _, World.drewN_drewN _ _ _⟩
        have := h k (k + 1) (by omega) (by rw [← HNL.out]; omega)
        unfold at' at this
        rw [← HP.out, ← HQ.out] at this
        omega
      · replace cc := cc.trans (decide_eq_false hc)
        have HR : Hid (SortedTo (k + 2) L) := Lib.hid (sorted_step k L HS.out (by unfold at'; rw [← HP.out, ← HQ.out]; omega))
        go_wp2
        go_quiet ((go_at_call 17; exact same_drawn (rcompare_any _ _ d1 d2 _)))
        go_wp2
        go_roundw
        case rel => exact ⟨k + 1, by omega, by go_num, HR.out, _, rfl⟩
        case measure => simp [intOf]; omega
    · have hkn : k + 1 = n := by omega
      have hge : ¬ ((k : Int) + 1 < (n : Int)) := by omega
      clear hlt
      have HK := Lib.hid hkn
      clear hkn
      go_wp2
      go_loopw [7] (fun i wr => ∃ j : Nat, j ≤ n ∧ i = .int .i64 j ∧ (∀ a, a < j → at' L a < kb x) ∧ ∃ m, wr = w.drewN m) (fun i _ => n - (intOf i).toNat)
      case atStart => exact ⟨0, Nat.zero_le _, rfl, fun a ha => absurd ha (Nat.not_lt_zero a), m, rfl⟩
      case round =>
        obtain ⟨j, hj, rfl, ha, m2, rfl⟩ := hrel
        have HA := Lib.hid ha
        clear ha
        have HSort : Hid (SortedTo L.length L) := Lib.hid (by rw [← HNL.out, ← HK.out]; exact HS.out)
        by_cases hjn : j < n
        · have c1 := HX.out j hjn
          have d1 := HF.out j hjn
          have b3 : (0 : Int) ≤ (j : Int) := by omega
          have b4 : (j : Int) < (n : Int) := by omega
          have cc := cmpI_neg (L.getD j 0) x
          obtain ⟨p, hp⟩ : ∃ p, p = L.getD j 0 := ⟨_, rfl⟩
          rw [← hp] at c1 d1 cc
          have HP := Lib.hid hp
          clear hp
          by_cases hc : kb p < kb x
          · replace cc := cc.trans (decide_eq_true hc)
            have HR : Hid (∀ a, a < j + 1 → at' L a < kb x) := Lib.hid (fun a ha => by
              by_cases e : a = j
              · subst e; unfold at'; rw [← HP.out]; exact hc
              · exact HA.out a (by omega))
            go_wp2_with (go_at_call 17; refine (rcompare_any _ _ (by assumption) (by assumption) _).mono ?_; rintro e w' ⟨rfl, rfl⟩)
            go_roundw
            case rel => exact ⟨j + 1, by omega, by go_num, HR.out, _, rfl⟩
            case measure => simp [intOf]; omega
          · replace cc := cc.trans (decide_eq_false hc)
            go_wp2_with (first | (go_at_call 17; refine (rcompare_any _ _ (by assumption) (by assumption) _).mono ?_; rintro e w' ⟨rfl, rfl⟩) | (go_at_call 21; refine (rsame_any _ _ (by assumption) (by assumption) _).mono ?_; rintro e w' ⟨rfl, rfl⟩))
            go_ret2
            refine ⟨j, smB p x, Or.inr ⟨HSort.out, by rw [← HNL.out]; exact hj, HA.out, fun _ => by unfold at'; rw [← HP.out]; omega, ?_⟩, rfl, _, rfl⟩
            rw [← HNL.out, ← HP.out]
            exact ⟨fun h => ⟨hjn, h⟩, fun h => h.2⟩
        · obtain rfl : j = n := by omega
          have hge2 : ¬ ((j : Int) < (j : Int)) := by omega
          go_wp2
          go_ret2
          refine ⟨j, false, Or.inr ⟨HSort.out, by rw [← HNL.out]; exact hj, HA.out, fun h => by rw [← HNL.out] at h; omega, ?_⟩, rfl, _, rfl⟩
          rw [← HNL.out]
          exact ⟨fun h => (Bool.false_ne_true h).elim, fun h => absurd h.1 (Nat.lt_irrefl _)⟩

theorem rfind_none (a : Option Addr) (cap x : Nat) (w : World) :
    Calls Try.prog 23 #[.slice a 0 cap, .float .f64 x] w (SomeFind [] x w) := by
  go_enter Try.func23, Try.ntmps23
  go_wp2
  refine wp_loop_rounds 1 ?_
  rw [rounds_succ]
  go_wp2
  refine wp_loop_rounds 1 ?_
  rw [rounds_succ]
  go_wp2
  go_ret2
  exact ⟨0, false, Or.inr ⟨fun a b _ h => absurd h (Nat.not_lt_zero b), Nat.le_refl _, fun j h => absurd h (Nat.not_lt_zero j), fun h => absurd h (Nat.lt_irrefl _), fun h => (Bool.false_ne_true h).elim, fun h => absurd h.1 (Nat.lt_irrefl _)⟩, rfl, 0, rfl⟩

theorem getD_lt (L : List Nat) (hf : ∀ x ∈ L, x < 18446744073709551616) : ∀ j, j < L.length → L.getD j 0 < 18446744073709551616 := by
  intro j hj
  rw [List.getD_eq_getElem?_getD, List.getElem?_eq_getElem hj]
  exact hf _ (List.getElem_mem hj)

theorem rfind_view (v : Value) (L : List Nat) (x : Nat) (w : World) (hv : View w v L) (hb : L.length ≤ 1000000) (hf : ∀ x ∈ L, x < 18446744073709551616) (hxl : x < 18446744073709551616) :
    Calls Try.prog 23 #[v, .float .f64 x] w (SomeFind L x w) := by
  rcases hv with ⟨rfl, rfl⟩ | ⟨ad, cap, rfl, rfl⟩ | ⟨b, off, cap, rfl, h0, _, hc⟩
  · exact rfind_none none 0 x w
  · exact rfind_none (some ad) cap x w
  · exact rfind_some b off cap x L w h0 hb hc (getD_lt L hf) hxl

/-- Two lists that are the same number by number. -/
theorem nums_view (v1 v2 : Value) (L M : List Nat) (w : World) (h1 : View w v1 L) (h2 : View w v2 M) (hb : L.length ≤ 1000000) (hl : L.length = M.length)
    (hfL : ∀ x ∈ L, x < 18446744073709551616) (hfM : ∀ x ∈ M, x < 18446744073709551616) (hs : ∀ j, j < L.length → smB (L.getD j 0) (M.getD j 0) = true) :
    Calls Try.prog 18 #[v1, v2] w fun e w' => e = .returned (.bool true) ∧ ∃ m, w' = w.drewN m := by
  rcases h1 with ⟨rfl, rfl⟩ | ⟨ad, cap, rfl, rfl⟩ | ⟨b, off, cap, rfl, h0, _, hc⟩
  · rcases h2 with ⟨rfl, rfl⟩ | ⟨ad', cap', rfl, rfl⟩ | ⟨b', off', cap', rfl, h0', _, hc'⟩
    · exact nums_none _ _ _ _ w
    · exact nums_none _ _ _ _ w
    · simp at hl; omega
  · rcases h2 with ⟨rfl, rfl⟩ | ⟨ad', cap', rfl, rfl⟩ | ⟨b', off', cap', rfl, h0', _, hc'⟩
    · exact nums_none _ _ _ _ w
    · exact nums_none _ _ _ _ w
    · simp at hl; omega
  · rcases h2 with ⟨rfl, rfl⟩ | ⟨ad', cap', rfl, rfl⟩ | ⟨b', off', cap', rfl, h0', _, hc'⟩
    · rw [List.length_nil] at hl; omega
    · rw [List.length_nil] at hl; omega
    · rw [← hl] at hc' ⊢
      exact nums_some b off cap b' off' cap' L.length (L.getD · 0) (M.getD · 0) w (by omega) hc hc' (getD_lt L hfL) (fun j hj => getD_lt M hfM j (by omega)) hs

/-- Most, of a list that was read. -/
theorem rmost_view (v : Value) (L : List Nat) (way : Int) (hw : way = 1 ∨ way = -1) (w : World) (hv : View w v L) (hb : L.length ≤ 1000000) (hf : ∀ x ∈ L, x < 18446744073709551616) (h0 : 0 < L.length) :
    Calls Try.prog 14 #[v, .int .i64 way] w (SomeMost way L.length (L.getD · 0) w) := by
  rcases hv with ⟨rfl, rfl⟩ | ⟨ad, cap, rfl, rfl⟩ | ⟨b, off, cap, rfl, _, _, hc⟩
  · simp at h0
  · simp at h0
  · exact rmost_some b off cap L.length way hw (L.getD · 0) w h0 (by omega) hc (getD_lt L hf)
theorem rmost_empty (v : Value) (way : Int) (w : World) (hv : View w v []) :
    Calls Try.prog 14 #[v, .int .i64 way] w fun e w' => e = .returned (.tuple #[.float .f64 0, .int .i64 14]) ∧ w = w' := by
  rcases hv with ⟨rfl, _⟩ | ⟨ad, cap, rfl, _⟩ | ⟨b, off, cap, rfl, h0, _, _⟩
  · exact rmost_none _ _ _ w
  · exact rmost_none _ _ _ w
  · simp at h0

end Go.Proofs.Ytfpiojohodgncaa
