/- Proved: the law ScoreTurns answers true where there is no zone. -/
import Derived.Test.YtefpaagbopmmlaaLtrn
import Derived.Laws.AppendOwnNone
namespace Go.Proofs.Ytefpaagbopmmlaa
open Go.RowKit Go.Sort Fl

theorem read_znil {H : Type} {enc : TypeId × Value → H} {W : World} {len cap fuel : Nat} {x : DataW H × List MemPlace}
    (hf : DataW.trod enc Try.prog W 0 (fun _ => true) true fuel 35 [.slice none len cap] = some x) : cap = 0 := by
  rcases Go.Deep.open_slice Try.underlying35 hf with ⟨hcs, _⟩ | ⟨a, len', cap', m, n, D, Pl, hcs, _, hl, _⟩
  · simp at hcs
    omega
  · simp at hcs

/-- What is left behind the list with one zone more. -/
theorem one_zone (v : Value) (now : Int) (w : World) (B T : Nat) (h : w.ownsRow B T 3 v 1 (flat [(3, 3, 0)])) :
    Calls Try.prog 18 #[v, .int .i64 now] w fun e w' => e = .returned (.slice none 0 0) ∧ Below w.heap.size w w' := by
  refine (rank_any v [(3, 3, 0)] now w (own_zview h rfl) (by simp)).mono ?_
  rintro e w' ⟨u, S, he, hS, hN, hB⟩
  have hS0 : S = [] := by
    have h1 := rank_one (rank_shift (rank_nil now) 0 (Nat.le_refl _)) hS
    exact h1.symm
  subst hS0
  rw [nview_nil hN] at he
  exact ⟨he, hB⟩

set_option maxHeartbeats 8000000 in
set_option maxRecDepth 100000 in
theorem ltrn_zero (a : Option Addr) (cap : Nat) (hac : a = none → cap = 0) (now kk : Int) (hn0 : 0 ≤ now) (hn1 : now ≤ 1099511627776) (w : World) :
    Calls Try.prog 8 #[.slice a 0 cap, .int .i64 now, .int .i64 kk] w (Gives (.bool true) w) := by
  have q2 : decide (now < 0) = false := decide_eq_false (by omega)
  have q3 : decide (1099511627776 < now) = false := decide_eq_false (by omega)
  obtain ⟨i0, hi, hz0, hz1, hz2⟩ := info_parts info_zone
  have hr : Calls Try.prog 18 #[.slice a 0 cap, .int .i64 now] w fun e w' => e = .returned (.slice none 0 0) ∧ Below w.heap.size w w' := by
    refine (rank_any (.slice a 0 cap) [] now w (.inl ⟨a, cap, rfl, rfl⟩) (by simp)).mono ?_
    rintro e w' ⟨u, S, he, hS, hN, hB⟩
    have hS0 : S = [] := (rank_one (rank_nil now) hS).symm
    subst hS0
    rw [nview_nil hN] at he
    exact ⟨he, hB⟩
  have HR := Lib.hid hr
  have HONE := Lib.hid (fun v w B T h => one_zone v now w B T h)
  have hrnd : ∀ w, Calls Try.prog 20 #[.int .i64 kk, .int .i64 1] w fun e w' => e = .returned (.int .i64 0) ∧ w = w' := fun w => (round_any kk 1 (by omega) (by omega) w).mono (R' := fun e w' => e = .returned (.int .i64 0) ∧ w = w') (fun e w' ⟨⟨r, hr, he⟩, hw⟩ => ⟨by rw [he, show r = 0 by omega]; rfl, hw⟩)
  have HRND := Lib.hid hrnd
  clear hr hrnd
  cases a with
  | none =>
    obtain rfl := hac rfl
    go_enter Try.func8, Try.ntmps8
    go_wp2_with (first
      | (go_at_call 15; refine (small_any _ _ _ _).mono ?_; rintro e w' ⟨rfl, rfl⟩)
      | (go_at_call 18; refine HR.out.mono ?_; rintro e w2 ⟨rfl, hB⟩; have HB2 := Lib.hid hB; clear hB))
    refine wp_loop_rounds 1 ?_
    rw [rounds_succ]
    go_upto_region 13 with (go_at_call 20; refine (HRND.out _).mono ?_; rintro e w' ⟨rfl, rfl⟩)
    have hb2 : w2.heap.size ≤ w2.heap.size := Nat.le_refl _
    go_wp2_with (first
      | (at_builtin; refine wpList_append_own_none rfl _ _ 35 rfl w2.heap.size 23 i0 3 Try.underlying35 hi _ _ _ rfl (World.ownsRow_nil _ _ _ _) rfl ?_)
      | (at_builtin; refine wpList_append_own_at _ rfl _ _ 35 rfl w2.heap.size 23 i0 (.agg #[.int .i64 0, .int .i64 0, .int .i64 0]) 3 24 Try.underlying35 hi hz0 hz1 hz2 rfl (by decide) _ _ _ rfl (World.ownsRow_nil _ _ _ _) ⟨w2.heap.size, 0, none⟩ 1 1 (flat [(3, 3, 0)]) rfl rfl (new_zone w2 23) (flat_one _) (by unfold maxLen; omega) (by omega) (by simp) ?_))
    intro v6 w6 own2 gr2 hnil hat
    clear hnil hat
    have HB6 : Hid (Below w2.heap.size w2 w6) := Lib.hid (((Below.refl _ _).alloc hb2 _).grown gr2 (by simp) (fun x hx => by simp [Value.ownBlock] at hx))
    have HO6 : Hid (w6.ownsRow w2.heap.size 23 3 v6 1 (flat [(3, 3, 0)])) := Lib.hid (by simpa using own2)
    clear own2 gr2
    go_wp2_with (first
      | (at_builtin; go_loud (refine wpList_append_own_none rfl _ _ 35 rfl w2.heap.size 23 i0 3 Try.underlying35 hi _ _ _ rfl HO6.out rfl ?_))
      | (go_at_call 18; refine (HONE.out _ _ _ _ HO6.out).mono ?_; rintro e w9 ⟨rfl, hB⟩; have HB9 := Lib.hid (HB6.out.trans (hB.mono HB6.out.size)); clear hB))
    refine wp_loop_rounds 1 ?_
    rw [rounds_succ]
    go_wp2_with (go_at_call 14; refine (awake_any _).mono ?_; rintro e w' ⟨rfl, hb⟩; have HBA := Lib.hid hb; clear hb)
    go_ret
    exact ⟨rfl, HB2.out.trans ((HB9.out.trans (HBA.out.mono HB9.out.size)).mono HB2.out.size)⟩
  | some ad =>
    clear hac
    go_enter Try.func8, Try.ntmps8
    go_wp2_with (first
      | (go_at_call 15; refine (small_any _ _ _ _).mono ?_; rintro e w' ⟨rfl, rfl⟩)
      | (go_at_call 18; refine HR.out.mono ?_; rintro e w2 ⟨rfl, hB⟩; have HB2 := Lib.hid hB; clear hB))
    refine wp_loop_rounds 1 ?_
    rw [rounds_succ]
    go_upto_region 13 with (go_at_call 20; refine (HRND.out _).mono ?_; rintro e w' ⟨rfl, rfl⟩)
    have hb2 : w2.heap.size ≤ w2.heap.size := Nat.le_refl _
    go_wp2_with (at_builtin; refine wpList_append_own_at _ rfl _ _ 35 rfl w2.heap.size 23 i0 (.agg #[.int .i64 0, .int .i64 0, .int .i64 0]) 3 24 Try.underlying35 hi hz0 hz1 hz2 rfl (by decide) _ _ _ rfl (World.ownsRow_nil _ _ _ _) ad 0 cap [] rfl rfl (fun j u hj => by simp at hj) (fun u hu => by cases hu) (by unfold maxLen; omega) (by omega) hb2 ?_)
    intro v5 w5 own1 gr1 hnil hat
    obtain rfl : v5 = .slice none 0 0 := by simpa using hnil
    clear hnil hat
    have HB5 : Hid (Below w2.heap.size w2 w5) := Lib.hid ((Below.refl _ _).grown gr1 hb2 (fun x hx => by simp [Value.ownBlock] at hx))
    have HO5 : Hid (w5.ownsRow w2.heap.size 23 3 (.slice none 0 0) 0 []) := Lib.hid (by simpa using own1)
    have hbs5 : w2.heap.size ≤ w5.heap.size := HB5.out.size
    clear own1 gr1
    go_wp2_with (at_builtin; refine wpList_append_own_at _ rfl _ _ 35 rfl w2.heap.size 23 i0 (.agg #[.int .i64 0, .int .i64 0, .int .i64 0]) 3 24 Try.underlying35 hi hz0 hz1 hz2 rfl (by decide) _ _ _ rfl (HO5.out.alloc _) ⟨w5.heap.size, 0, none⟩ 1 1 (flat [(3, 3, 0)]) rfl rfl (new_zone w5 23) (flat_one _) (by unfold maxLen; omega) (by omega) (by simp; omega) ?_)
    intro v6 w6 own2 gr2 hnil hat
    clear hnil hat
    have HB6 : Hid (Below w2.heap.size w2 w6) := Lib.hid ((HB5.out.alloc hbs5 _).grown gr2 (by simp; omega) (fun x hx => (HO5.out.lt x hx).1))
    have HO6 : Hid (w6.ownsRow w2.heap.size 23 3 v6 1 (flat [(3, 3, 0)])) := Lib.hid (by simpa using own2)
    have hbs6 : w2.heap.size ≤ w6.heap.size := HB6.out.size
    clear own2 gr2
    go_upto_region 15 with fail
    by_cases hc0 : cap = 0
    · subst hc0
      go_wp2_with (first
        | (at_builtin; refine wpList_append_own_at _ rfl _ _ 35 rfl w2.heap.size 23 i0 (.agg #[.int .i64 0, .int .i64 0, .int .i64 0]) 3 24 Try.underlying35 hi hz0 hz1 hz2 rfl (by decide) _ _ _ rfl HO6.out ad 0 0 [] rfl rfl (fun j u hj => by simp at hj) (fun u hu => by cases hu) (by unfold maxLen; omega) (by omega) hbs6 ?_))
      intro v7 w7 own3 gr3 hnil hat
      clear hnil hat
      have HB7 : Hid (Below w2.heap.size w2 w7) := Lib.hid (HB6.out.grown gr3 hbs6 (fun x hx => (HO6.out.lt x hx).1))
      have HO7 : Hid (w7.ownsRow w2.heap.size 23 3 v7 1 (flat [(3, 3, 0)])) := Lib.hid (by simpa using own3)
      clear own3 gr3 HO6 HB6 HO5 HB5
      go_wp2_with (go_at_call 18; refine (HONE.out _ _ _ _ HO7.out).mono ?_; rintro e w9 ⟨rfl, hB⟩; have HB9 := Lib.hid (HB7.out.trans (hB.mono HB7.out.size)); clear hB)
      refine wp_loop_rounds 1 ?_
      rw [rounds_succ]
      go_wp2_with (go_at_call 14; refine (awake_any _).mono ?_; rintro e w' ⟨rfl, hb⟩; have HBA := Lib.hid hb; clear hb)
      go_ret
      exact ⟨rfl, HB2.out.trans ((HB9.out.trans (HBA.out.mono HB9.out.size)).mono HB2.out.size)⟩
    · go_wp2_with (first
        | (at_builtin; refine wpList_append_own_at _ rfl _ _ 35 rfl w2.heap.size 23 i0 (.agg #[.int .i64 0, .int .i64 0, .int .i64 0]) 3 24 Try.underlying35 hi hz0 hz1 hz2 rfl (by decide) _ _ _ rfl HO6.out (ad.add 0) 0 cap [] rfl rfl (fun j u hj => by simp at hj) (fun u hu => by cases hu) (by unfold maxLen; omega) (by omega) hbs6 ?_)
        | (at_builtin; refine wpList_append_own_at _ rfl _ _ 35 rfl w2.heap.size 23 i0 (.agg #[.int .i64 0, .int .i64 0, .int .i64 0]) 3 24 Try.underlying35 hi hz0 hz1 hz2 rfl (by decide) _ _ _ rfl HO6.out ad 0 cap [] rfl rfl (fun j u hj => by simp at hj) (fun u hu => by cases hu) (by unfold maxLen; omega) (by omega) hbs6 ?_))
      intro v7 w7 own3 gr3 hnil hat
      clear hnil hat
      have HB7 : Hid (Below w2.heap.size w2 w7) := Lib.hid (HB6.out.grown gr3 hbs6 (fun x hx => (HO6.out.lt x hx).1))
      have HO7 : Hid (w7.ownsRow w2.heap.size 23 3 v7 1 (flat [(3, 3, 0)])) := Lib.hid (by simpa using own3)
      clear own3 gr3 HO6 HB6 HO5 HB5
      go_wp2_with (go_at_call 18; refine (HONE.out _ _ _ _ HO7.out).mono ?_; rintro e w9 ⟨rfl, hB⟩; have HB9 := Lib.hid (HB7.out.trans (hB.mono HB7.out.size)); clear hB)
      refine wp_loop_rounds 1 ?_
      rw [rounds_succ]
      go_wp2_with (go_at_call 14; refine (awake_any _).mono ?_; rintro e w' ⟨rfl, hb⟩; have HBA := Lib.hid hb; clear hb)
      go_ret
      exact ⟨rfl, HB2.out.trans ((HB9.out.trans (HBA.out.mono HB9.out.size)).mono HB2.out.size)⟩

end Go.Proofs.Ytefpaagbopmmlaa
