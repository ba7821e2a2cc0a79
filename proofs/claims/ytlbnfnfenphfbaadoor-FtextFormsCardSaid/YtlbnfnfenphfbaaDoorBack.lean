/- Proved: what Text writes of a number Parse reads as it was; unlike numbers have unlike texts. -/
import Derived.Test.YtlbnfnfenphfbaaDoorAwk
namespace Go.Proofs.YtlbnfnfenphfbaaDoor
open Go.RowKit Fl Tx

/-- A world behind calls that made new blocks alone. -/
structure At (w0 w : World) : Prop where
  env : Env w
  below : Below w0.heap.size w0 w
theorem At.next {w0 w w' : World} (h : At w0 w) (hb : Below w.heap.size w w') : At w0 w' := ⟨h.env.below hb, h.below.trans (hb.mono h.below.size)⟩
theorem At.drewN {w0 w : World} (h : At w0 w) (n : Nat) : At w0 (w.drewN n) := h.next (below_drewN (Below.refl _ _) n)

theorem can_cb (n : Nat) (h : n < 18446744073709551616) : Can (cb n) := ⟨cb_cb n, cb_lt n h⟩

/-- The text of a number is read as that number. -/
theorem parse_text (b : Nat) (hc : Can b) (S : ByteArray) (hS : S.data.toList = text b) (hs : S.size ≤ 22) (w : World) (hE : Env w) :
    Calls Tryd.prog 7 #[.string S] w fun e w' => e = .returned (.tuple #[.float .f64 b, .int .i64 0]) ∧ Below w.heap.size w w' := by
  refine (parse_any S (by omega) w hE).mono ?_
  rintro e w' ⟨⟨c, hcc, ht, rfl⟩ | ⟨hno, rfl⟩, hb⟩
  · have : cb c = cb b := text_inj _ _ hcc.2 hc.2 (by rw [← ht, hS])
    rw [hcc.1, hc.1] at this
    rw [this]
    exact ⟨rfl, hb⟩
  · exact absurd hS (hno b hc)

theorem body_le (m : Nat) (h : m < 9218868437227405312) : (body m).length ≤ 21 := by
  have he := expo_range m h
  have h1 := fracL_le (m % 4503599627370496)
  have h2 := etx_le (expo m)
  unfold body
  rw [itoa_etx _ he.1 he.2]
  simp
  omega

theorem smB_can (a b : Nat) (ha : Can a) (hb : Can b) : smB a b = decide (a = b) := by
  unfold smB; rw [ha.1, hb.1]
theorem rsame_val (a b : Nat) (r : Bool) (ha : a < 18446744073709551616) (hb : b < 18446744073709551616) (hr : smB a b = r) (w : World) :
    Calls Tryd.prog 9 #[.float .f64 a, .float .f64 b] w fun e w' => e = .returned (.bool r) ∧ w = w' := by
  have := rsame_any a b ha hb w
  rw [hr] at this
  exact this

/-- Text's answer, as a string that has a name. -/
theorem text_val (b : Nat) (hb : b < 18446744073709551616) : ∃ X : ByteArray, X.data.toList = text b ∧ X.size ≤ 22 ∧
    ∀ w, Env w → Calls Tryd.prog 8 #[.float .f64 b] w fun e w' => e = .returned (.string X) ∧ Below w.heap.size w w' := by
  refine ⟨⟨(text b).toArray⟩, by simp, ?_, fun w hE => ?_⟩
  · rw [size_mk']
    have hE : ∀ c, Can c → (text c).length ≤ 22 := fun c hc => by
      rcases text_cases c hc.2 with ⟨hn, _, ht⟩ | ⟨hn, hcb, ⟨k, _, ht⟩ | ⟨k, k', _, ht⟩ | ⟨k, _, ht⟩ | ⟨k, _, ht⟩ | ⟨k, k', _, ht⟩ | ⟨k, _, ht⟩⟩ <;> rw [ht]
      · simp
      · simp
      · have := body_le (c % 9223372036854775808) (by omega); simp; omega
      · simp
      · simp
      · have := body_le c (by omega); omega
      · simp
    by_cases hn : isN b = true
    · have : text b = [110, 97, 110] := by unfold text; rw [if_pos hn]
      rw [this]; simp
    · exact hE b ⟨by unfold cb; rw [if_neg hn], hb⟩
  · refine (text_any b hb w hE).mono ?_
    rintro e w' ⟨S, rfl, hS, _, hb⟩
    rw [hS.out]
    exact ⟨rfl, hb⟩

theorem eq_lists (X Y : ByteArray) : (X.toList == Y.toList) = decide (X.data.toList = Y.data.toList) := by
  rw [ByteArray.toList_eq, ByteArray.toList_eq, Bool.eq_iff_iff]; simp

set_option maxHeartbeats 1000000 in
theorem lawback_any (n m : Int) (hn0 : 0 ≤ n) (hn1 : n < 18446744073709551616) (hm0 : 0 ≤ m) (hm1 : m < 18446744073709551616) (w : World) (hE : Env w) :
    Calls Tryd.prog 3 #[.int .u64 n, .int .u64 m] w fun e w' => e = .returned (.bool true) ∧ Below w.heap.size w w' := by
  have hfx := fun w => rfrom_any n hn0 hn1 w
  have hfy := fun w => rfrom_any m hm0 hm1 w
  have cx := can_cb n.toNat (by omega)
  have cy := can_cb m.toNat (by omega)
  obtain ⟨x, hx⟩ : ∃ x, x = cb n.toNat := ⟨_, rfl⟩
  obtain ⟨y, hy⟩ : ∃ y, y = cb m.toNat := ⟨_, rfl⟩
  rw [← hx] at hfx cx
  rw [← hy] at hfy cy
  clear hx hy hn0 hn1 hm0 hm1
  obtain ⟨X, hXl, hXs, htx⟩ := text_val x cx.2
  obtain ⟨Y, hYl, hYs, hty⟩ := text_val y cy.2
  have hpx := fun w hE => parse_text x cx X hXl hXs w hE
  have hsx := fun w => rsame_val x x true cx.2 cx.2 (by rw [smB_can x x cx cx]; simp) w
  have h0 : At w w := ⟨hE, Below.refl _ _⟩
  by_cases hxy : x = y
  · have hsy := fun w => rsame_val x y true cx.2 cy.2 (by rw [smB_can x y cx cy]; simp [hxy]) w
    have hq : (X.toList == Y.toList) = true := by rw [eq_lists, hXl, hYl, hxy]; simp
    clear cx cy hxy hXl hYl
    go_enter Tryd.func3, Tryd.ntmps3
    go_wp2_with (first
      | (go_at_call 6; first | ((with_reducible refine (hfx _).mono ?_); rintro e w' ⟨rfl, rfl⟩) | ((with_reducible refine (hfy _).mono ?_); rintro e w' ⟨rfl, rfl⟩))
      | (go_at_call 7; refine (hpx _ (by assumption : At w _).env).mono ?_; rintro e w' ⟨rfl, hb⟩; have hA := At.next (w0 := w) (by assumption) hb)
      | (go_at_call 9; first | ((with_reducible refine (hsx _).mono ?_); rintro e w' ⟨rfl, rfl⟩) | ((with_reducible refine (hsy _).mono ?_); rintro e w' ⟨rfl, rfl⟩))
      | (go_at_call 10; refine (awake_any _ (by assumption : At w _).env).mono ?_; rintro e w' ⟨rfl, hb⟩; have hA := At.next (w0 := w) (by assumption) hb)
      | (go_at_call 8; first
          | ((with_reducible refine (htx _ (by assumption : At w _).env).mono ?_); rintro e w' ⟨rfl, hb⟩; have hA := At.next (w0 := w) (by assumption) hb)
          | ((with_reducible refine (hty _ (by assumption : At w _).env).mono ?_); rintro e w' ⟨rfl, hb⟩; have hA := At.next (w0 := w) (by assumption) hb)))
    go_ret
    exact ⟨rfl, (by assumption : At w _).below⟩
  · have hsy := fun w => rsame_val x y false cx.2 cy.2 (by rw [smB_can x y cx cy]; simp [hxy]) w
    have hq : (X.toList == Y.toList) = false := by
      rw [eq_lists, hXl, hYl]
      exact decide_eq_false fun h => hxy (by have := text_inj _ _ cx.2 cy.2 h; rwa [cx.1, cy.1] at this)
    clear cx cy hxy hXl hYl
    go_enter Tryd.func3, Tryd.ntmps3
    go_wp2_with (first
      | (go_at_call 6; first | ((with_reducible refine (hfx _).mono ?_); rintro e w' ⟨rfl, rfl⟩) | ((with_reducible refine (hfy _).mono ?_); rintro e w' ⟨rfl, rfl⟩))
      | (go_at_call 7; refine (hpx _ (by assumption : At w _).env).mono ?_; rintro e w' ⟨rfl, hb⟩; have hA := At.next (w0 := w) (by assumption) hb)
      | (go_at_call 9; first | ((with_reducible refine (hsx _).mono ?_); rintro e w' ⟨rfl, rfl⟩) | ((with_reducible refine (hsy _).mono ?_); rintro e w' ⟨rfl, rfl⟩))
      | (go_at_call 10; refine (awake_any _ (by assumption : At w _).env).mono ?_; rintro e w' ⟨rfl, hb⟩; have hA := At.next (w0 := w) (by assumption) hb)
      | (go_at_call 8; first
          | ((with_reducible refine (htx _ (by assumption : At w _).env).mono ?_); rintro e w' ⟨rfl, hb⟩; have hA := At.next (w0 := w) (by assumption) hb)
          | ((with_reducible refine (hty _ (by assumption : At w _).env).mono ?_); rintro e w' ⟨rfl, hb⟩; have hA := At.next (w0 := w) (by assumption) hb)))
    go_ret
    exact ⟨rfl, (by assumption : At w _).below⟩

end Go.Proofs.YtlbnfnfenphfbaaDoor
