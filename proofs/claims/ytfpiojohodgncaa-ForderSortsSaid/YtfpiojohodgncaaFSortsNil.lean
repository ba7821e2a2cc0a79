/- Proved: the law ForderSorts answers true at every list that is empty or too long to be looked at, and leaves what there was as it was, if forder keeps its chapter (said as hypotheses on its functions' calls). -/
import Derived.Test.YtfpiojohodgncaaFSorts
namespace Go.Proofs.Ytfpiojohodgncaa
open Go.RowKit Fl

set_option maxHeartbeats 2000000 in
theorem fsorts_big (hC : DCompare) (hS : DSort) (hM : DMost0 13) (kk : Int) (a0 : Option Addr) (len cap : Nat) (hl : 300 < len) (w : World) :
    Calls Try.prog 5 #[.slice a0 len cap, .int .i64 kk] w fun e w' => e = .returned (.bool true) ∧ Below w.heap.size w w' := by
  have q : decide (len ≤ 300) = false := decide_eq_false (by omega)
  have hl := Lib.hid hl
  go_enter Try.func5, Try.ntmps5
  go_wp2_with (first | (go_at_call 11; refine (small_any _ _ _ _).mono ?_; rintro e w' ⟨rfl, rfl⟩) | (go_at_call 12; refine (awake2_any hS hM hC _).mono ?_; rintro e w' ⟨rfl, hbelow⟩))
  go_ret
  exact ⟨rfl, by assumption⟩

/-- append of a nil slice, as one step of a region that draws its order. -/
theorem step_append_nil {P : Program} {w : World} {ops : Array Oper} {o : Oper} {a : Act} {K : Act → World → Prop} {Q : Exit → Act → World → Prop} {E : Prop} (hgd : o.guard = none) (s x : Operand) (t : TypeId)
    (ho : o.op = .call { callee := .builtin .append, args := #[s, x], argTypes := #[t, t] })
    (base : Nat) (e : TypeId) (i : TypeInfo) (size : Nat) (ht : P.underlying t = some (.slice e)) (hi : P.info? e = some i)
    (v : Value) (n : Nat) (xs : List Value) (hs : a.eval s = v) (hown : w.ownsRow base e size v n xs) (hx : a.eval x = .slice none 0 0)
    (h : K (a.put o.dst v) w) : if Region.wanted o (yielded ops a.tmps) = true then Oper.wp P o a w K Q else E := by
  rw [if_pos (by simp [Region.wanted, hgd])]
  have hrun := run_append_owned_none (P := P) (w := w) base t o.type e i size ht hi v n xs hown
  unfold Oper.wp
  simp only [execOp, ho, resolve, invoke, builtin, Sem.run_bind, Sem.run_pure, Result.andThen_ok, List.map_toArray, List.map_cons, List.map_nil, hs, hx, hrun]
  exact h

set_option maxHeartbeats 4000000 in
theorem fsorts_nil (hC : DCompare) (hS : DSort) (hM : DMost0 13) (kk : Int) (w : World) :
    Calls Try.prog 5 #[.slice none 0 0, .int .i64 kk] w fun e w' => e = .returned (.bool true) ∧ Below w.heap.size w w' := by
  go_enter Try.func5, Try.ntmps5
  go_wp2_with (go_at_call 11; refine (small_any _ _ _ _).mono ?_; rintro e w' ⟨rfl, rfl⟩)
  refine (hS _ [] _ (Or.inl ⟨rfl, rfl⟩) (by simp) (fun _ h => by cases h)).mono ?_
  rintro e w1 ⟨v1, R, rfl, hR, hv1, hb1⟩
  have hRn : R = [] := List.eq_nil_of_length_eq_zero (sorts_len hR)
  subst hRn
  have HB1 := Lib.hid hb1
  have HV1 := Lib.hid hv1
  have hform : ∃ A c, v1 = .slice A 0 c := by
    rcases hv1 with ⟨rfl, _⟩ | ⟨ad, c, rfl, _⟩ | ⟨_, _, _, _, h0, _⟩
    · exact ⟨_, _, rfl⟩
    · exact ⟨_, _, rfl⟩
    · simp at h0
  obtain ⟨A, c, rfl⟩ := hform
  obtain ⟨i0, hi0, hz0, hz1, hz2⟩ := info_parts info_f64
  clear hb1 hR hv1
  go_wp2_with fail
  refine wp_loop_rounds 1 ?_
  rw [rounds_succ]
  go_wp2
  refine wp_loop_rounds 1 ?_
  rw [rounds_succ]
  go_wp2_with fail
  refine (round_any kk 1 _ (by omega) (by omega)).mono ?_
  rintro e w' ⟨r, r0, r1, rfl, rfl⟩
  obtain rfl : r = 0 := by omega
  clear r0 r1
  go_wp2_with fail
  go_region_law (first
    | (refine step_append_nil rfl _ _ 23 rfl w1.heap.size 22 i0 1 Try.underlying23 hi0 _ 0 [] rfl (World.ownsRow_made w1 #[] 0 (Nat.le_refl _) (by unfold maxLen; omega) rfl) rfl ?_)
    | (go_simp; go_at_call 19; refine (hS (.slice (some ⟨w1.heap.size, 0, none⟩) 0 0) [] _ (Or.inr (Or.inl ⟨_, _, rfl, rfl⟩)) (by simp) (fun _ h => by cases h)).mono ?_; rintro e w4 ⟨v4, R4, rfl, hR4, hv4, hb4⟩; have HBc := Lib.hid (((Below.refl w1.heap.size w1).alloc (Nat.le_refl _) (.cells #[] 22)).drew.trans (hb4.mono (by simp))))
    | (go_simp; go_at_call 18; refine (nums_view v4 (.slice A 0 c) R4 [] _ hv4 (view_below HV1.out HBc.out) (by rw [sorts_len hR4]; simp) (sorts_len hR4) hR4.2.2 (fun _ h => by cases h) (fun j hj => by rw [sorts_len hR4] at hj; exact absurd hj (Nat.not_lt_zero j))).mono ?_; rintro e w5 ⟨rfl, m5, rfl⟩; have HBd := Lib.hid (below_drewN HBc.out m5))
    | (go_simp; go_at_call 12; refine (awake2_any hS hM hC _).mono ?_; rintro e w6 ⟨rfl, hbelow⟩; have HBe := Lib.hid (HBd.out.trans (hbelow.mono HBd.out.size))))
  go_wp2
  go_ret
  exact ⟨rfl, HB1.out.trans (HBe.out.mono HB1.out.size)⟩

set_option maxHeartbeats 4000000 in
theorem fsorts_empty (hC : DCompare) (hS : DSort) (hM : DMost0 13) (kk : Int) (ad : Addr) (cap : Nat) (w : World) :
    Calls Try.prog 5 #[.slice (some ad) 0 cap, .int .i64 kk] w fun e w' => e = .returned (.bool true) ∧ Below w.heap.size w w' := by
  go_enter Try.func5, Try.ntmps5
  go_wp2_with (go_at_call 11; refine (small_any _ _ _ _).mono ?_; rintro e w' ⟨rfl, rfl⟩)
  refine (hS _ [] _ (Or.inr (Or.inl ⟨_, _, rfl, rfl⟩)) (by simp) (fun _ h => by cases h)).mono ?_
  rintro e w1 ⟨v1, R, rfl, hR, hv1, hb1⟩
  have hRn : R = [] := List.eq_nil_of_length_eq_zero (sorts_len hR)
  subst hRn
  have HB1 := Lib.hid hb1
  have HV1 := Lib.hid hv1
  have hform : ∃ A c, v1 = .slice A 0 c := by
    rcases hv1 with ⟨rfl, _⟩ | ⟨ad, c, rfl, _⟩ | ⟨_, _, _, _, h0, _⟩
    · exact ⟨_, _, rfl⟩
    · exact ⟨_, _, rfl⟩
    · simp at h0
  obtain ⟨A, c, rfl⟩ := hform
  obtain ⟨i0, hi0, hz0, hz1, hz2⟩ := info_parts info_f64
  clear hb1 hR hv1
  go_wp2_with fail
  refine wp_loop_rounds 1 ?_
  rw [rounds_succ]
  go_wp2
  refine wp_loop_rounds 1 ?_
  rw [rounds_succ]
  go_wp2_with fail
  refine (round_any kk 1 _ (by omega) (by omega)).mono ?_
  rintro e w' ⟨r, r0, r1, rfl, rfl⟩
  obtain rfl : r = 0 := by omega
  clear r0 r1
  go_wp2_with fail
  have hwb : Hid (Below w1.heap.size w1 (w1.alloc (.cells #[] 22)).drew) := Lib.hid ((Below.refl _ _).alloc (Nat.le_refl _) _).drew
  go_region_law (first
    | (refine step_append_any rfl _ _ 23 rfl w1.heap.size 22 i0 (.float .f64 0) 1 8 Try.underlying23 hi0 hz0 hz1 hz2 rfl (by decide) _ 0 [] rfl (World.ownsRow_made w1 #[] 0 (Nat.le_refl _) (by unfold maxLen; omega) rfl) _ 0 _ [] rfl rfl (fun j u hj => by simp at hj) (fun u hu => by cases hu) (by unfold maxLen; omega) (by omega) hwb.out.size ?_; intro v1 w2 hown1 hgrow1; have HBa := Lib.hid (hwb.out.grown hgrow1 hwb.out.size (fun j hj => by cases hj; exact Nat.le_refl _)))
    | (refine step_append_any rfl _ _ 23 rfl w1.heap.size 22 i0 (.float .f64 0) 1 8 Try.underlying23 hi0 hz0 hz1 hz2 rfl (by decide) _ _ _ rfl hown1 _ 0 _ [] rfl rfl (fun j u hj => by simp at hj) (fun u hu => by cases hu) (by unfold maxLen; omega) (by omega) HBa.out.size ?_; intro v2 w3 hown2 hgrow2; have HBb := Lib.hid (HBa.out.grown hgrow2 HBa.out.size (fun j hj => (hown1.lt j hj).1)))
    | (go_simp; go_at_call 19; refine (hS v2 [] _ (view_own (B := w1.heap.size) (R := []) (by have h := hown2; exact h)) (by simp) (fun _ h => by cases h)).mono ?_; rintro e w4 ⟨v4, R4, rfl, hR4, hv4, hb4⟩; have HBc := Lib.hid (HBb.out.trans (hb4.mono HBb.out.size)))
    | (go_simp; go_at_call 18; refine (nums_view v4 (.slice A 0 c) R4 [] _ hv4 (view_below HV1.out HBc.out) (by rw [sorts_len hR4]; simp) (sorts_len hR4) hR4.2.2 (fun _ h => by cases h) (fun j hj => by rw [sorts_len hR4] at hj; exact absurd hj (Nat.not_lt_zero j))).mono ?_; rintro e w5 ⟨rfl, m5, rfl⟩; have HBd := Lib.hid (below_drewN HBc.out m5))
    | (go_simp; go_at_call 12; refine (awake2_any hS hM hC _).mono ?_; rintro e w6 ⟨rfl, hbelow⟩; have HBe := Lib.hid (HBd.out.trans (hbelow.mono HBd.out.size))))
  go_wp2
  go_ret
  exact ⟨rfl, HB1.out.trans (HBe.out.mono HB1.out.size)⟩

end Go.Proofs.Ytfpiojohodgncaa
