/- Proved: what the comparison of the landed Rank gives, and the library's SortStableFunc with it. -/
import Derived.Test.YtefpaagbopmmlaaStb
import Derived.Test.YtefpaagbopmmlaaLand
namespace Go.Proofs.Ytefpaagbopmmlaa
open Go.RowKit Go.Sort Fl

theorem rw_other (F : Nat → Int) (w : World) (blk off : Nat) (L : List Nat) (m b o : Nat) (h : b ≠ blk) : (RW F w blk off L m).cell? ⟨b, o, none⟩ = w.cell? ⟨b, o, none⟩ :=
  cell?_putRow_other (ev F) w blk off L.toArray ⟨b, o, none⟩ (.inl h)

set_option maxHeartbeats 1000000 in
theorem cmp_run (W : World) (sb gb scap N i k : Nat) (a b : Nat) (hi : i < N) (hk : k < N) (ha : a < 18446744073709551616) (hb : b < 18446744073709551616) (c1 : W.cell? ⟨sb, 0, none⟩ = some (.slice (some ⟨gb, 0, none⟩) N scap))
    (c2 : W.cell? ⟨gb, i, none⟩ = some (.float .f64 a)) (c3 : W.cell? ⟨gb, k, none⟩ = some (.float .f64 b)) :
    Calls Try.prog 29 #[.int .i64 (i : Int), .int .i64 (k : Int), .pointer (some ⟨sb, 0, none⟩)] W fun e w' => e = .returned (.int .i64 (cmpI b a)) ∧ ∃ q, w' = W.drewN q := by
  have hc := fun q => (hC b a hb ha (W.drewN q)).mono (R' := fun e w' => e = .returned (.int .i64 (cmpI b a)) ∧ ∃ t, w' = (W.drewN q).drewN t) (fun e w' h => ⟨h.1, 0, h.2.symm⟩)
  have b1 : (0 : Int) ≤ (i : Int) := by omega
  have b2 : (i : Int) < (N : Int) := by omega
  have b3 : (0 : Int) ≤ (k : Int) := by omega
  have b4 : (k : Int) < (N : Int) := by omega
  go_enter Try.func29, Try.ntmps29
  go_wp2
  go_quiet ((go_at_call 30; exact Calls.quiet_of (hc _)))
  go_wp2
  go_ret
  exact ⟨rfl, _, rfl⟩

theorem cmp_ok (F : Nat → Int) (w : World) (blk off n sb gb scap N : Nat) (S : List Nat) (hF : ∀ x, 0 ≤ F x ∧ F x < (N : Int)) (hS : S.length = N) (h64 : ∀ s ∈ S, s < 18446744073709551616)
    (h1 : w.cell? ⟨sb, 0, none⟩ = some (.slice (some ⟨gb, 0, none⟩) N scap)) (h2 : ∀ j, j < N → w.cell? ⟨gb, j, none⟩ = some (.float .f64 (S.getD j 0))) (n1 : sb ≠ blk) (n2 : gb ≠ blk) :
    CmpOk F (fun x y => cmpI (S.getD (F y).toNat 0) (S.getD (F x).toNat 0)) w blk off n sb := by
  intro L m x y _
  obtain ⟨x1, x2⟩ := hF x
  obtain ⟨y1, y2⟩ := hF y
  have g64 : ∀ j, j < N → S.getD j 0 < 18446744073709551616 := fun j hj => h64 _ (at_mem (by omega))
  have := cmp_run (RW F w blk off L m) sb gb scap N (F x).toNat (F y).toNat (S.getD (F x).toNat 0) (S.getD (F y).toNat 0) (by omega) (by omega) (g64 _ (by omega)) (g64 _ (by omega))
    (by rw [rw_other _ _ _ _ _ _ _ _ n1]; exact h1) (by rw [rw_other _ _ _ _ _ _ _ _ n2]; exact h2 _ (by omega)) (by rw [rw_other _ _ _ _ _ _ _ _ n2]; exact h2 _ (by omega))
  rw [Int.toNat_of_nonneg x1, Int.toNat_of_nonneg y1] at this
  exact this

set_option maxHeartbeats 1000000 in
theorem sort_some (F : Nat → Int) (cf : Nat → Nat → Int) (T : Nat → Nat → Prop) (hT : Ord T) (w : World) (blk off n cap sb : Nat) (H : Rw F w blk off n) (hC : CmpOk F cf w blk off n sb) (hn : n ≤ 1000000) (L : List Nat) (m : Nat)
    (hL : L.Pairwise (Cross T cf)) (hlen : L.length = n) :
    Calls Try.prog 28 #[.slice (some ⟨blk, off, none⟩) n cap, cv sb] (RW F w blk off L m) fun e w' =>
      e = .returned (.tuple #[]) ∧ ∃ m' C, w' = RW F w blk off C m' ∧ C.Perm L ∧ C.Pairwise T := by
  have hs := stable_some F cf T hT w blk off n cap sb H hC hn L m hL hlen
  obtain ⟨wx, hwx⟩ : ∃ wx, wx = RW F w blk off L m := ⟨_, rfl⟩
  rw [← hwx] at hs ⊢
  unfold cv at hs ⊢
  have HS := Lib.hid hs
  clear hwx hs H hC hT hL hlen
  go_enter Try.func28, Try.ntmps28
  go_wp2_with (go_at_call 36; refine HS.out.mono ?_; rintro e w2 ⟨rfl, hq⟩; have HQ := Lib.hid hq; clear hq)
  go_end0
  exact ⟨rfl, HQ.out⟩

set_option maxHeartbeats 1000000 in
theorem stable_none (v fv : Value) (w : World) :
    Calls Try.prog 36 #[v, .int .i64 0, fv] w fun e w' => e = .returned (.tuple #[]) ∧ w' = w := by
  have hi := insertion_none v fv 0 0 w (by omega) (by omega) (by omega)
  go_enter Try.func36, Try.ntmps36
  go_wp2
  refine wp_loop_rounds 1 ?_
  rw [rounds_succ]
  go_wp2_with (go_at_call 40; refine hi.mono ?_; rintro e w2 ⟨rfl, hw⟩; replace hw := hw.symm; subst hw)
  refine wp_loop_rounds 1 ?_
  rw [rounds_succ]
  go_wp2
  go_end0
  exact ⟨rfl, rfl⟩
set_option maxHeartbeats 1000000 in
theorem sort_none (fv : Value) (w : World) :
    Calls Try.prog 28 #[.slice none 0 0, fv] w fun e w' => e = .returned (.tuple #[]) ∧ w' = w := by
  have hs := stable_none (.slice none 0 0) fv w
  go_enter Try.func28, Try.ntmps28
  go_wp2_with (go_at_call 36; refine hs.mono ?_; rintro e w2 ⟨rfl, hw⟩; replace hw := hw.symm; subst hw)
  go_end0
  exact ⟨rfl, rfl⟩

end Go.Proofs.Ytefpaagbopmmlaa
