/- Proved: Text's answer as a string with a name, and that Parse reads it as the number it was; a word for worlds behind calls that made new blocks alone. -/
import Derived.Test.YtlbnfnfenphfbaaGreatDoorAwk
namespace Go.Proofs.YtlbnfnfenphfbaaGreatDoor
open Go.RowKit Fl Tx

/-- A world behind calls that made new blocks alone. -/
structure At (w0 w : World) : Prop where
  env : Env w
  below : Below w0.heap.size w0 w
theorem At.next {w0 w w' : World} (h : At w0 w) (hb : Below w.heap.size w w') : At w0 w' := ⟨h.env.below hb, h.below.trans (hb.mono h.below.size)⟩
theorem At.drewN {w0 w : World} (h : At w0 w) (n : Nat) : At w0 (w.drewN n) := h.next (below_drewN (Below.refl _ _) n)

theorem can_cb (n : Nat) (h : n < 18446744073709551616) : Can (cb n) := ⟨cb_cb n, cb_lt n h⟩

/-- The text of a number is read as that number. -/
theorem parse_text (b : Nat) (hc : Can b) (S : ByteArray) (hS : S.data.toList = text b) (hs : S.size ≤ 22) (w : World) (hE : Env w) :
    Calls Tryz.prog 7 #[.string S] w fun e w' => e = .returned (.tuple #[.float .f64 b, .int .i64 0]) ∧ Below w.heap.size w w' := by
  refine (parse_any S (by omega) w hE).mono ?_
  rintro e w' ⟨⟨c, hcc, ht, rfl⟩ | ⟨hno, rfl⟩, hb⟩
  · have : cb c = cb b := text_inj _ _ hcc.2 hc.2 (by rw [← ht, hS])
    rw [hcc.1, hc.1] at this
    rw [this]
    exact ⟨rfl, hb⟩
  · exact absurd hS (hno b hc)

theorem body_le (m : Nat) (h : m < 9218868437227405312) : (body m).length ≤ 21 := by
  have he := expo_range m h
  have h1 := fracL_le (m % 4503599627370496)
  have h2 := etx_le (expo m)
  unfold body
  rw [itoa_etx _ he.1 he.2]
  simp
  omega

theorem smB_can (a b : Nat) (ha : Can a) (hb : Can b) : smB a b = decide (a = b) := by
  unfold smB; rw [ha.1, hb.1]
theorem rsame_val (a b : Nat) (r : Bool) (ha : a < 18446744073709551616) (hb : b < 18446744073709551616) (hr : smB a b = r) (w : World) :
    Calls Tryz.prog 11 #[.float .f64 a, .float .f64 b] w fun e w' => e = .returned (.bool r) ∧ w = w' := by
  have := rsame_any a b ha hb w
  rw [hr] at this
  exact this

/-- Text's answer, as a string that has a name. -/
theorem text_val (b : Nat) (hb : b < 18446744073709551616) : ∃ X : ByteArray, X.data.toList = text b ∧ X.size ≤ 22 ∧
    ∀ w, Env w → Calls Tryz.prog 9 #[.float .f64 b] w fun e w' => e = .returned (.string X) ∧ Below w.heap.size w w' := by
  refine ⟨⟨(text b).toArray⟩, by simp, ?_, fun w hE => ?_⟩
  · rw [size_mk']
    have hE : ∀ c, Can c → (text c).length ≤ 22 := fun c hc => by
      rcases text_cases c hc.2 with ⟨hn, _, ht⟩ | ⟨hn, hcb, ⟨k, _, ht⟩ | ⟨k, k', _, ht⟩ | ⟨k, _, ht⟩ | ⟨k, _, ht⟩ | ⟨k, k', _, ht⟩ | ⟨k, _, ht⟩⟩ <;> rw [ht]
      · simp
      · simp
      · have := body_le (c % 9223372036854775808) (by omega); simp; omega
      · simp
      · simp
      · have := body_le c (by omega); omega
      · simp
    by_cases hn : isN b = true
    · have : text b = [110, 97, 110] := by unfold text; rw [if_pos hn]
      rw [this]; simp
    · exact hE b ⟨by unfold cb; rw [if_neg hn], hb⟩
  · refine (text_any b hb w hE).mono ?_
    rintro e w' ⟨S, rfl, hS, _, hb⟩
    rw [hS.out]
    exact ⟨rfl, hb⟩

theorem eq_lists (X Y : ByteArray) : (X.toList == Y.toList) = decide (X.data.toList = Y.data.toList) := by
  rw [ByteArray.toList_eq, ByteArray.toList_eq, Bool.eq_iff_iff]; simp

end Go.Proofs.YtlbnfnfenphfbaaGreatDoor
