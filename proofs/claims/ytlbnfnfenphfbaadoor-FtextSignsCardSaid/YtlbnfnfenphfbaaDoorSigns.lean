/- Proved: the text of a number that is turned in its sign is its text with a - ahead, or without it; the NaN's is nan. -/
import Derived.Test.YtlbnfnfenphfbaaDoorBack
namespace Go.Proofs.YtlbnfnfenphfbaaDoor
open Go.RowKit Fl Tx

theorem text_flip (c d : Nat) (hc : c < 18446744073709551616) (hd : d < 18446744073709551616) (hn : isN c = false)
    (h : (c < 9223372036854775808 ∧ d = c + 9223372036854775808) ∨ (9223372036854775808 ≤ c ∧ c = d + 9223372036854775808)) :
    (c < 9223372036854775808 ∧ text d = 45 :: text c) ∨ (9223372036854775808 ≤ c ∧ text c = 45 :: text d) := by
  have hm : d % 9223372036854775808 = c % 9223372036854775808 := by omega
  have hdn : isN d = false := by unfold isN at hn ⊢; rw [hm]; exact hn
  have tn : ∀ b, isN b = false → text b = (if 9223372036854775808 ≤ b then [45] else []) ++
      (if b % 9223372036854775808 = 9218868437227405312 then [105, 110, 102] else if b % 9223372036854775808 = 0 then [48] else body (b % 9223372036854775808)) := fun b h => by
    unfold text; rw [if_neg (by simp [h])]
  rw [tn c hn, tn d hdn, hm]
  rcases h with ⟨h1, h2⟩ | ⟨h1, h2⟩
  · left
    refine ⟨h1, ?_⟩
    rw [if_pos (show 9223372036854775808 ≤ d by omega), if_neg (show ¬ 9223372036854775808 ≤ c by omega)]; rfl
  · right
    refine ⟨h1, ?_⟩
    rw [if_pos h1, if_neg (show ¬ 9223372036854775808 ≤ d by omega)]; rfl

theorem text_nan (b : Nat) (h : isN b = true) : text b = [110, 97, 110] := by unfold text; rw [if_pos h]

set_option maxHeartbeats 1000000 in
theorem lawsigns_any (n : Int) (hn0 : 0 ≤ n) (hn1 : n < 18446744073709551616) (w : World) (hE : Env w) :
    Calls Tryd.prog 5 #[.int .u64 n] w fun e w' => e = .returned (.bool true) ∧ Below w.heap.size w w' := by
  have hfx := fun w => rfrom_any n hn0 hn1 w
  have cx := can_cb n.toNat (by omega)
  obtain ⟨x, hx⟩ : ∃ x, x = cb n.toNat := ⟨_, rfl⟩
  rw [← hx] at hfx cx
  clear hx hn0 hn1
  have h0 : At w w := ⟨hE, Below.refl _ _⟩
  obtain ⟨d, hd, hdl, hside⟩ := neg_bits x cx.2
  have hneg := unary_neg_float x d hd
  obtain ⟨X, hXl, hXs, htx⟩ := text_val x cx.2
  obtain ⟨Y, hYl, hYs, hty⟩ := text_val d hdl
  clear hd
  by_cases hnan : isN x = true
  · have hdn : isN d = true := by unfold isN at hnan ⊢; rw [show d % 9223372036854775808 = x % 9223372036854775808 by omega]; exact hnan
    have o1 := ord_nan_l x x cx.2 hnan
    rw [text_nan x hnan] at hXl
    rw [text_nan d hdn] at hYl
    have hX := mk_list X _ hXl
    have hY := mk_list Y _ hYl
    subst hX hY
    clear hside hXl hYl hXs hYs cx hdl hnan hdn
    go_enter Tryd.func5, Tryd.ntmps5
    go_wp2_with (first
      | (go_at_call 6; refine (hfx _).mono ?_; rintro e w' ⟨rfl, rfl⟩)
      | (go_at_call 10; refine (awake_any _ (by assumption : At w _).env).mono ?_; rintro e w' ⟨rfl, hb⟩; have hA := At.next (w0 := w) (by assumption) hb)
      | (go_at_call 8; first
          | ((with_reducible refine (htx _ (by assumption : At w _).env).mono ?_); rintro e w' ⟨rfl, hb⟩; have hA := At.next (w0 := w) (by assumption) hb)
          | ((with_reducible refine (hty _ (by assumption : At w _).env).mono ?_); rintro e w' ⟨rfl, hb⟩; have hA := At.next (w0 := w) (by assumption) hb)))
    go_ret
    exact ⟨rfl, (by assumption : At w _).below⟩
  · have hnn : isN x = false := by simpa using hnan
    have o1 := ord_self x cx.2 hnn
    have app (Z : ByteArray) (l : List UInt8) (h : Z.data.toList = l) : ((⟨#[45]⟩ : ByteArray) ++ Z).data.toList = 45 :: l := by simp [h]
    rcases text_flip x d cx.2 hdl hnn hside with ⟨hs, ht⟩ | ⟨hs, ht⟩
    · have q1 : (X.toList == ((⟨#[45]⟩ : ByteArray) ++ Y).toList) = false := by
        rw [eq_lists, app Y _ hYl, hXl, ht]
        exact decide_eq_false fun h => by
          have := congrArg List.length h
          simp at this
          omega
      have q2 : (Y.toList == ((⟨#[45]⟩ : ByteArray) ++ X).toList) = true := by
        rw [eq_lists, app X _ hXl, hYl, ht]; simp
      clear hside hXl hYl cx hdl hnan hnn ht hs app
      go_enter Tryd.func5, Tryd.ntmps5
      go_wp2_with (first
        | (go_at_call 6; refine (hfx _).mono ?_; rintro e w' ⟨rfl, rfl⟩)
        | (go_at_call 10; refine (awake_any _ (by assumption : At w _).env).mono ?_; rintro e w' ⟨rfl, hb⟩; have hA := At.next (w0 := w) (by assumption) hb)
        | (go_at_call 8; first
            | ((with_reducible refine (htx _ (by assumption : At w _).env).mono ?_); rintro e w' ⟨rfl, hb⟩; have hA := At.next (w0 := w) (by assumption) hb)
            | ((with_reducible refine (hty _ (by assumption : At w _).env).mono ?_); rintro e w' ⟨rfl, hb⟩; have hA := At.next (w0 := w) (by assumption) hb)))
      go_ret
      exact ⟨rfl, (by assumption : At w _).below⟩
    · have q1 : (X.toList == ((⟨#[45]⟩ : ByteArray) ++ Y).toList) = true := by
        rw [eq_lists, app Y _ hYl, hXl, ht]; simp
      clear hside hXl hYl cx hdl hnan hnn ht hs app
      go_enter Tryd.func5, Tryd.ntmps5
      go_wp2_with (first
        | (go_at_call 6; refine (hfx _).mono ?_; rintro e w' ⟨rfl, rfl⟩)
        | (go_at_call 10; refine (awake_any _ (by assumption : At w _).env).mono ?_; rintro e w' ⟨rfl, hb⟩; have hA := At.next (w0 := w) (by assumption) hb)
        | (go_at_call 8; first
            | ((with_reducible refine (htx _ (by assumption : At w _).env).mono ?_); rintro e w' ⟨rfl, hb⟩; have hA := At.next (w0 := w) (by assumption) hb)
            | ((with_reducible refine (hty _ (by assumption : At w _).env).mono ?_); rintro e w' ⟨rfl, hb⟩; have hA := At.next (w0 := w) (by assumption) hb)))
      go_ret
      exact ⟨rfl, (by assumption : At w _).below⟩

end Go.Proofs.YtlbnfnfenphfbaaDoor
