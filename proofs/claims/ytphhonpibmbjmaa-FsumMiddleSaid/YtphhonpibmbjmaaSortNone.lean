/- Proved: the document's own Sort of no numbers answers with no numbers. -/
import Derived.Test.YtphhonpibmbjmaaSort
import Derived.Laws.AppendOwnNone
namespace Go.Proofs.Ytphhonpibmbjmaa
open Go.RowKit Fl

/-- A slice that reads as a list of numbers. -/
def View (w : World) (v : Value) (L : List Nat) : Prop :=
  (v = .slice none 0 0 ∧ L = []) ∨ (∃ ad cap, v = .slice (some ad) 0 cap ∧ L = []) ∨
  (∃ b off cap, v = .slice (some ⟨b, off, none⟩) L.length cap ∧ 0 < L.length ∧ b < w.heap.size ∧ ∀ j, j < L.length → w.cell? ⟨b, off + j, none⟩ = some (.float .f64 (L.getD j 0)))

set_option maxHeartbeats 1000000 in
theorem rsort_nil (w : World) :
    Calls Try.prog 27 #[.slice none 0 0] w fun e w' => ∃ v, e = .returned v ∧ View w' v [] ∧ Below w.heap.size w w' := by
  obtain ⟨i0, hi, hz0, hz1, hz2⟩ := info_parts info_f64
  go_enter Try.func27, Try.ntmps27
  go_wp2_with (at_builtin; refine wpList_append_own_none rfl _ _ 22 rfl w.heap.size 25 i0 1 Try.underlying22 hi _ 0 [] rfl (World.ownsRow_made w #[] 0 (Nat.le_refl _) (by unfold maxLen; omega) rfl) rfl ?_)
  refine wp_loop_rounds 1 ?_
  rw [rounds_succ]
  go_wp2
  go_ret
  exact ⟨_, rfl, Or.inr (Or.inl ⟨_, _, rfl, rfl⟩), (Below.refl _ _).alloc (Nat.le_refl _) _⟩

set_option maxHeartbeats 1000000 in
theorem rsort_empty (ad : Addr) (cap : Nat) (w : World) :
    Calls Try.prog 27 #[.slice (some ad) 0 cap] w fun e w' => ∃ v, e = .returned v ∧ View w' v [] ∧ Below w.heap.size w w' := by
  obtain ⟨i0, hi, hz0, hz1, hz2⟩ := info_parts info_f64
  go_enter Try.func27, Try.ntmps27
  go_wp2_with (at_builtin; refine wpList_append_own _ rfl _ _ 22 rfl w.heap.size 25 i0 (.float .f64 0) 1 8 Try.underlying22 hi hz0 hz1 hz2 rfl (by decide) _ 0 [] rfl (World.ownsRow_made w #[] 0 (Nat.le_refl _) (by unfold maxLen; omega) rfl) ad 0 cap [] rfl rfl ?c2 ?c3 ?c4 ?c5 ?c6 ?_)
  case c2 => intro j u hj; simp at hj
  case c3 => intro u hu; cases hu
  case c4 => unfold maxLen; omega
  case c5 => omega
  case c6 => simp
  intro v' w1 hown hgrow hne
  have hnx : Below w.heap.size w w1 := ((Below.refl _ _).alloc (Nat.le_refl _) _).grown hgrow (by simp) (fun j hj => by
    simp only [Value.ownBlock, Option.some.injEq] at hj
    omega)
  clear hgrow
  rcases hown.2 with ⟨rfl, _⟩ | ⟨g, cap2, cur, rfl, hgB, _⟩
  · simp at hne
  · clear hown hne
    go_wp2
    refine wp_loop_rounds 1 ?_
    rw [rounds_succ]
    go_wp2
    go_ret
    exact ⟨_, rfl, Or.inr (Or.inl ⟨_, _, rfl, rfl⟩), hnx⟩

theorem view_own {w : World} {B : Nat} {v : Value} {n : Nat} {R : List Nat} (h : w.ownsRow B 25 1 v n (R.map (Value.float .f64))) : View w v R := by
  have hl : R.length = n := by simpa using h.1
  rcases h.2 with ⟨rfl, h0⟩ | ⟨g, cap, cur, rfl, hg, hh, _⟩
  · exact Or.inl ⟨rfl, List.eq_nil_of_length_eq_zero (by omega)⟩
  · by_cases h0 : n = 0
    · subst h0; exact Or.inr (Or.inl ⟨_, _, rfl, List.eq_nil_of_length_eq_zero hl⟩)
    · refine Or.inr (Or.inr ⟨g, 0, cap, by rw [hl], by omega, ?_, fun j hj => ?_⟩)
      · have := (Array.getElem?_eq_some_iff.1 hh).1; exact this
      · rw [Nat.zero_add]; exact (own_cell h j (by omega)).1
theorem view_below {w w' : World} {v : Value} {L : List Nat} (h : View w v L) (hb : Below w.heap.size w w') : View w' v L := by
  rcases h with h | h | ⟨b, off, cap, rfl, h0, hbw, hc⟩
  · exact Or.inl h
  · exact Or.inr (Or.inl h)
  · exact Or.inr (Or.inr ⟨b, off, cap, rfl, h0, Nat.lt_of_lt_of_le hbw hb.size, fun j hj => (hb.cell (p := ⟨b, off + j, none⟩) hbw).trans (hc j hj)⟩)

theorem sorts_nil : Sorts [] [] := ⟨List.Pairwise.nil, List.Perm.refl _, fun _ h => by cases h⟩

theorem rsort_view (v : Value) (L : List Nat) (w : World) (hv : View w v L) (hb : L.length ≤ 1000000) (hf : ∀ x ∈ L, x < 18446744073709551616) :
    Calls Try.prog 27 #[v] w fun e w' => ∃ v' R, e = .returned v' ∧ Sorts L R ∧ View w' v' R ∧ Below w.heap.size w w' := by
  rcases hv with ⟨rfl, rfl⟩ | ⟨ad, cap, rfl, rfl⟩ | ⟨b, off, cap, rfl, h0, hbw, hc⟩
  · refine (rsort_nil w).mono fun e w' h => ?_
    obtain ⟨v, he, hv, hw⟩ := h
    exact ⟨v, [], he, sorts_nil, hv, hw⟩
  · refine (rsort_empty ad cap w).mono fun e w' h => ?_
    obtain ⟨v, he, hv, hw⟩ := h
    exact ⟨v, [], he, sorts_nil, hv, hw⟩
  · refine (rsort_some b off L.length cap L w rfl h0 hb hbw hc hf).mono fun e w' h => ?_
    obtain ⟨v', R, he, hs, ho, hw⟩ := h
    exact ⟨v', R, he, hs, view_own ho, hw⟩

end Go.Proofs.Ytphhonpibmbjmaa
