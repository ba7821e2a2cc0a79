/- Proved: the landed Parse and Text and the document's own answer alike. -/
import Derived.Test.YtlbnfnfenphfbaaGreatDoorRps
namespace Go.Proofs.YtlbnfnfenphfbaaGreatDoor
open Go.RowKit Fl Tx

theorem text_ne (b : Nat) (hb : b < 18446744073709551616) : text b ≠ [] := by
  have bn : ∀ m, body m ≠ [] := fun m => by unfold body; simp
  rcases text_cases b hb with ⟨hn, _, h⟩ | ⟨hn, hcb, ⟨k, _, h⟩ | ⟨k, k', _, h⟩ | ⟨k, _, h⟩ | ⟨k, _, h⟩ | ⟨k, k', _, h⟩ | ⟨k, _, h⟩⟩
  all_goals rw [h]
  all_goals first | exact bn _ | simp

set_option maxHeartbeats 4000000 in
set_option maxRecDepth 100000 in
theorem rparse_none (w : World) : Calls Tryz.prog 8 #[.string ⟨#[]⟩] w (ParseOf [] w) := by
  have HF : ParseOf [] w (.returned (.tuple #[.float .f64 0, .int .i64 13])) w := ⟨.inr ⟨fun b hb h => text_ne b hb.2 h.symm, rfl⟩, Below.refl _ _⟩
  go_enter Tryz.func8, Tryz.ntmps8
  go_wp2
  go_ret2
  exact HF

theorem rparse_any (s : ByteArray) (hs : s.size ≤ 100000) (w : World) :
    Calls Tryz.prog 8 #[.string s] w (ParseOf s.data.toList w) := by
  by_cases h0 : 0 < s.size
  · exact rparse_some s hs h0 w
  · obtain rfl : s = ⟨#[]⟩ := by
      apply ByteArray.ext
      exact Array.size_eq_zero_iff.1 (by simpa using h0)
    exact rparse_none w

theorem parse_yes {l : List UInt8} {w w' : World} {e : Ending} {b : Nat} (hc : Can b) (hl : l = text b) (h : ParseOf l w e w') : e = .returned (.tuple #[.float .f64 b, .int .i64 0]) ∧ Below w.heap.size w w' := by
  rcases h with ⟨⟨c, hcc, ht, rfl⟩ | ⟨hno, rfl⟩, hb⟩
  · have : cb c = cb b := text_inj _ _ hcc.2 hc.2 (by rw [← ht, hl])
    rw [hcc.1, hc.1] at this
    rw [this]
    exact ⟨rfl, hb⟩
  · exact absurd hl (hno b hc)
theorem parse_no {l : List UInt8} {w w' : World} {e : Ending} (hn : ∀ b, Can b → l ≠ text b) (h : ParseOf l w e w') : e = .returned (.tuple #[.float .f64 0, .int .i64 13]) ∧ Below w.heap.size w w' := by
  rcases h with ⟨⟨c, hcc, ht, rfl⟩ | ⟨hno, rfl⟩, hb⟩
  · exact absurd ht (hn c hcc)
  · exact ⟨rfl, hb⟩

theorem rtext_val (b : Nat) (hb : b < 18446744073709551616) (X : ByteArray) (hX : X.data.toList = text b) (w : World) :
    Calls Tryz.prog 10 #[.float .f64 b] w fun e w' => e = .returned (.string X) ∧ Below w.heap.size w w' := by
  refine (rtext_any b hb w).mono ?_
  rintro e w' ⟨S, rfl, hS, _, hb'⟩
  have : S = X := by
    apply ByteArray.ext
    rw [hS.out, ← hX]
  rw [this]
  exact ⟨rfl, hb'⟩

/-- Both ways of reading answer (x, k). -/
theorem lawasks_of (a : Nat) (ha : a < 18446744073709551616) (S : ByteArray) (hs : S.size ≤ 500) (x : Nat) (k : Int) (hx : Can x) (w : World) (hE : Env w)
    (hp : ∀ w, Env w → Calls Tryz.prog 7 #[.string S] w fun e w' => e = .returned (.tuple #[.float .f64 x, .int .i64 k]) ∧ Below w.heap.size w w')
    (hr : ∀ w, Calls Tryz.prog 8 #[.string S] w fun e w' => e = .returned (.tuple #[.float .f64 x, .int .i64 k]) ∧ Below w.heap.size w w') :
    Calls Tryz.prog 3 #[.float .f64 a, .string S] w fun e w' => e = .returned (.bool true) ∧ Below w.heap.size w w' := by
  obtain ⟨X, hXl, hXs, htx⟩ := text_val a ha
  have hrx := fun w => rtext_val a ha X hXl w
  have hsx := fun w => rsame_val x x true hx.2 hx.2 (by rw [smB_can x x hx hx]; simp) w
  have h0 : At w w := ⟨hE, Below.refl _ _⟩
  have hq : (X.toList == X.toList) = true := by simp
  clear hx hXl
  go_enter Tryz.func3, Tryz.ntmps3
  go_wp2_with (first
    | (go_at_call 7; refine (hp _ (by assumption : At w _).env).mono ?_; rintro e w' ⟨rfl, hb⟩; have hA := At.next (w0 := w) (by assumption) hb)
    | (go_at_call 8; refine (hr _).mono ?_; rintro e w' ⟨rfl, hb⟩; have hA := At.next (w0 := w) (by assumption) hb)
    | (go_at_call 11; refine (hsx _).mono ?_; rintro e w' ⟨rfl, rfl⟩)
    | (go_at_call 6; refine (awake_any _ (by assumption : At w _).env).mono ?_; rintro e w' ⟨rfl, hb⟩; have hA := At.next (w0 := w) (by assumption) hb)
    | (go_at_call 9; refine (htx _ (by assumption : At w _).env).mono ?_; rintro e w' ⟨rfl, hb⟩; have hA := At.next (w0 := w) (by assumption) hb)
    | (go_at_call 10; refine (hrx _).mono ?_; rintro e w' ⟨rfl, hb⟩; have hA := At.next (w0 := w) (by assumption) hb))
  go_ret
  exact ⟨rfl, (by assumption : At w _).below⟩

theorem lawasks_long (a : Nat) (S : ByteArray) (hs : 500 < S.size) (hm : S.size ≤ maxLen) (w : World) (hE : Env w) :
    Calls Tryz.prog 3 #[.float .f64 a, .string S] w fun e w' => e = .returned (.bool true) ∧ Below w.heap.size w w' := by
  have hm2 : S.size ≤ 9223372036854775807 := hm
  go_enter Tryz.func3, Tryz.ntmps3
  go_wp2_with (go_at_call 6; refine (awake_any _ hE).mono ?_; rintro e w' ⟨rfl, hb⟩)
  go_ret
  exact ⟨rfl, hb⟩

theorem lawasks_any (a : Nat) (ha : a < 18446744073709551616) (S : ByteArray) (hm : S.size ≤ maxLen) (w : World) (hE : Env w) :
    Calls Tryz.prog 3 #[.float .f64 a, .string S] w fun e w' => e = .returned (.bool true) ∧ Below w.heap.size w w' := by
  by_cases hs : S.size ≤ 500
  · by_cases hx : ∃ b, Can b ∧ S.data.toList = text b
    · obtain ⟨b, hc, ht⟩ := hx
      exact lawasks_of a ha S hs b 0 hc w hE (fun w hE => (parse_any S (by omega) w hE).mono fun e w' h => parse_yes hc ht h) (fun w => (rparse_any S (by omega) w).mono fun e w' h => parse_yes hc ht h)
    · have hn : ∀ b, Can b → S.data.toList ≠ text b := fun b hb h => hx ⟨b, hb, h⟩
      exact lawasks_of a ha S hs 0 13 ⟨by decide +kernel, by decide⟩ w hE (fun w hE => (parse_any S (by omega) w hE).mono fun e w' h => parse_no hn h) (fun w => (rparse_any S (by omega) w).mono fun e w' h => parse_no hn h)
  · exact lawasks_long a S (by omega) hm w hE

end Go.Proofs.YtlbnfnfenphfbaaGreatDoor
