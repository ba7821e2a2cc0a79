/- Proved: the landed Rank and Choose, and the document's own Rank, at every slice of zones; the law's compare of two lists that are one. -/
import Derived.Test.YtefpaagbopmmlaaRrw
namespace Go.Proofs.Ytefpaagbopmmlaa
open Go.RowKit Go.Sort Fl

theorem rank_nil (now : Int) : IsRank [] now [] := ⟨List.Perm.refl _, List.Pairwise.nil⟩
set_option maxHeartbeats 2000000 in
theorem rank_none (a : Option Addr) (cap : Nat) (now : Int) (w : World) : Calls Try.prog 18 #[.slice a 0 cap, .int .i64 now] w (Ranks [] now w) := by
  obtain ⟨i0, hi, hz0, hz1, hz2⟩ := info_parts info_f64
  have HB0 : w.heap.size ≤ w.heap.size := Nat.le_refl _
  have hs := fun p w => sort_none (cv p) w
  unfold cv at hs
  have HS := Lib.hid hs
  clear hs
  go_enter Try.func18, Try.ntmps18
  go_wp2
  go_step3
  go_wp2_with (refine wpList_make_full _ rfl _ _ 53 rfl w.heap.size 24 i0 (.float .f64 0) 1 Try.underlying53 hi hz0 hz1 .i64 .i64 _ _ 0 rfl rfl rfl rfl (by rw [hz2]; omega) (by unfold maxLen; omega) HB0 ?_)
  intro w1 hown hg
  have HN : Hid (Below w.heap.size w (w1.alloc (.cells #[.slice (some ⟨w.heap.size, 0, none⟩) 0 0] 53))) := Lib.hid (((Below.refl _ _).grown hg HB0 (by simp)).alloc hg.size _)
  clear hown hg
  go_wp2
  go_step3
  go_wp2
  refine wp_loop_rounds 1 ?_
  rw [rounds_succ]
  go_wp2_with (go_at_call 28; refine (HS.out _ _).mono ?_; rintro e w2 ⟨rfl, hw⟩; replace hw := hw.symm; subst hw)
  try rw [Exit.noGoto_ret]
  go_ret
  exact ⟨_, [], rfl, rank_nil now, .inl ⟨rfl, rfl⟩, HN.out⟩
set_option maxHeartbeats 2000000 in
theorem rrank_none (a : Option Addr) (cap : Nat) (now : Int) (w : World) : Calls Try.prog 16 #[.slice a 0 cap, .int .i64 now] w (Ranks [] now w) := by
  go_enter Try.func16, Try.ntmps16
  go_wp2
  refine wp_loop_rounds 1 ?_
  rw [rounds_succ]
  go_wp2
  go_ret
  exact ⟨_, [], rfl, rank_nil now, .inl ⟨rfl, rfl⟩, Below.refl _ _⟩

theorem rank_any (v : Value) (Z : List (Int × Int × Int)) (now : Int) (w : World) (hv : ZView w v Z) (hn : Z.length ≤ 1000) : Calls Try.prog 18 #[v, .int .i64 now] w (Ranks Z now w) := by
  rcases hv with ⟨a, cap, rfl, rfl⟩ | ⟨b, off, cap, rfl, h0, hb, hc⟩
  · exact rank_none a cap now w
  · exact rank_some b off cap Z.length Z now w rfl h0 hn hb hc
theorem rrank_any (v : Value) (Z : List (Int × Int × Int)) (now : Int) (w : World) (hv : ZView w v Z) (hn : Z.length ≤ 1000) : Calls Try.prog 16 #[v, .int .i64 now] w (Ranks Z now w) := by
  rcases hv with ⟨a, cap, rfl, rfl⟩ | ⟨b, off, cap, rfl, h0, hb, hc⟩
  · exact rrank_none a cap now w
  · exact rrank_some b off cap Z.length Z now w rfl h0 hn hb hc
theorem zview_below {w w' : World} {v : Value} {Z : List (Int × Int × Int)} (h : ZView w v Z) (hb : Below w.heap.size w w') : ZView w' v Z := by
  rcases h with h | ⟨b, off, cap, rfl, h0, hbw, hc⟩
  · exact .inl h
  · exact .inr ⟨b, off, cap, rfl, h0, Nat.lt_of_lt_of_le hbw hb.size, fun j hj =>
      ⟨(hb.cell (p := ⟨b, off + j * 3, none⟩) hbw).trans (hc j hj).1, (hb.cell (p := ⟨b, off + j * 3 + 1, none⟩) hbw).trans (hc j hj).2.1, (hb.cell (p := ⟨b, off + j * 3 + 2, none⟩) hbw).trans (hc j hj).2.2⟩⟩
theorem nview_below {w w' : World} {v : Value} {R : List Nat} (h : NView w v R) (hb : Below w.heap.size w w') : NView w' v R := by
  rcases h with h | ⟨g, off, cap, rfl, h0, hbw, hc⟩
  · exact .inl h
  · exact .inr ⟨g, off, cap, rfl, h0, Nat.lt_of_lt_of_le hbw hb.size, fun j hj => (hb.cell (p := ⟨g, off + j, none⟩) hbw).trans (hc j hj)⟩
theorem At.zview {w0 w : World} (h : At w0 w) {v : Value} {Z : List (Int × Int × Int)} (hv : ZView w0 v Z) : ZView w v Z := zview_below hv h

/-- What Choose answers. -/
def Chosen (R : List Nat) : Value := .tuple #[.int .i64 ((R.getD 0 0 : Nat) : Int), .int .i64 (if R = [] then 14 else 0)]
set_option maxHeartbeats 1000000 in
theorem choose_any (v : Value) (Z : List (Int × Int × Int)) (now : Int) (w : World) (hv : ZView w v Z) (hn : Z.length ≤ 1000) (R : List Nat) (hR : IsRank Z now R) :
    Calls Try.prog 17 #[v, .int .i64 now] w (Gives (Chosen R) w) := by
  have hr : Calls Try.prog 18 #[v, .int .i64 now] w fun e w' => ∃ u, e = .returned u ∧ NView w' u R ∧ Below w.heap.size w w' := (rank_any v Z now w hv hn).mono fun e w' ⟨u, S, he, hS, hN, hB⟩ => ⟨u, he, by rw [rank_one hR hS]; exact hN, hB⟩
  have HR := Lib.hid hr
  have hlen : R.length ≤ 1000 := by
    have := kept_len Z now Z.length
    rw [← hR.p.length_eq] at this
    omega
  clear hr hv hn hR
  by_cases h0 : R = []
  · subst h0
    go_enter Try.func17, Try.ntmps17
    go_wp2_with (go_at_call 18; refine HR.out.mono ?_; rintro e w2 ⟨u, rfl, hN, hB⟩; have HB := Lib.hid hB; clear hB; obtain rfl : u = .slice none 0 0 := (by rcases hN with ⟨h, _⟩ | ⟨g, off, cap, _, h, _⟩; exact h; exact absurd h (by simp)))
    go_ret2
    exact ⟨rfl, HB.out⟩
  · have hl : 0 < R.length := List.length_pos_iff.2 h0
    have hnz : ((R.length : Int) == 0) = false := by rw [beq_eq_false_iff_ne]; omega
    have hli : (0 : Int) < (R.length : Int) := by omega
    have HE : Hid (Chosen R = .tuple #[.int .i64 ((R.getD 0 0 : Nat) : Int), .int .i64 0]) := Lib.hid (by unfold Chosen; rw [if_neg h0])
    obtain ⟨x, hx⟩ : ∃ x, x = R.getD 0 0 := ⟨_, rfl⟩
    rw [← hx] at HE
    have HX := Lib.hid hx
    have HH0 := Lib.hid h0
    clear h0 hx
    go_enter Try.func17, Try.ntmps17
    go_wp2_with (go_at_call 18; refine HR.out.mono ?_; rintro e w2 ⟨u, rfl, hN, hB⟩; have HB := Lib.hid hB; clear hB; obtain ⟨g, off, cap, rfl, _, _, hc⟩ : ∃ g off cap, u = .slice (some ⟨g, off, none⟩) R.length cap ∧ 0 < R.length ∧ g < w2.heap.size ∧ ∀ j, j < R.length → w2.cell? ⟨g, off + j, none⟩ = some (nv (R.getD j 0)) := (by rcases hN with ⟨_, h⟩ | h; exact absurd h HH0.out; exact h); have hc0 := hc 0 hl; clear hc hN; rw [← HX.out, Nat.add_zero] at hc0; unfold nv at hc0)
    go_ret2
    exact ⟨by rw [HE.out]; rfl, HB.out⟩

set_option maxHeartbeats 1000000 in
theorem ints_none (w : World) : Calls Try.prog 19 #[.slice none 0 0, .slice none 0 0] w (Gives (.bool true) w) := by
  go_enter Try.func19, Try.ntmps19
  go_wp2
  refine wp_loop_rounds 1 ?_
  rw [rounds_succ]
  go_wp2
  go_ret
  exact ⟨rfl, Below.refl _ _⟩
set_option maxHeartbeats 1000000 in
theorem ints_some (g1 o1 c1 g2 o2 c2 n : Nat) (R : List Nat) (w : World) (hn : n ≤ 1000)
    (h1 : ∀ j, j < n → w.cell? ⟨g1, o1 + j, none⟩ = some (nv (R.getD j 0))) (h2 : ∀ j, j < n → w.cell? ⟨g2, o2 + j, none⟩ = some (nv (R.getD j 0))) :
    Calls Try.prog 19 #[.slice (some ⟨g1, o1, none⟩) n c1, .slice (some ⟨g2, o2, none⟩) n c2] w (Gives (.bool true) w) := by
  have H1 := Lib.hid h1
  have H2 := Lib.hid h2
  clear h1 h2
  have hne : ((n : Int) != (n : Int)) = false := by simp
  go_enter Try.func19, Try.ntmps19
  go_wp2
  go_loopw [5] (fun i wr => ∃ k : Nat, k ≤ n ∧ i = .int .i64 (k : Int) ∧ ∃ m, Hid (wr = w.drewN m)) (fun i _ => n - (intOf i).toNat)
  case atStart => exact ⟨0, Nat.zero_le _, rfl, 0, Lib.hid rfl⟩
  case round =>
    obtain ⟨k, hk, rfl, m, HM⟩ := hrel
    by_cases hlt : k < n
    · have x1 := H1.out k hlt
      have x2 := H2.out k hlt
      obtain ⟨y, hy⟩ : ∃ y, y = R.getD k 0 := ⟨_, rfl⟩
      rw [← hy] at x1 x2
      unfold nv at x1 x2
      have y1 : wr.cell? ⟨g1, o1 + k, none⟩ = some (.int .i64 (y : Int)) := by rw [HM.out]; exact x1
      have y2 : wr.cell? ⟨g2, o2 + k, none⟩ = some (.int .i64 (y : Int)) := by rw [HM.out]; exact x2
      have b1 : (0 : Int) ≤ (k : Int) := by omega
      have b2 : (k : Int) < (n : Int) := by omega
      have b3 : ((y : Int) != (y : Int)) = false := by simp
      have HW : Hid (∀ q, wr.drewN q = w.drewN (m + q)) := Lib.hid (fun q => by rw [HM.out, World.drewN_drewN])
      clear x1 x2 hy HM
      go_wp2
      go_quiet (fail)
      go_wp2
      go_roundw
      case rel => exact ⟨k + 1, by omega, by go_num, _, Lib.hid (HW.out _)⟩
      case measure => simp [intOf]; omega
    · obtain rfl : k = n := by omega
      go_wp2
      go_ret
      exact ⟨rfl, by rw [HM.out]; exact below_drewN (Below.refl _ _) m⟩
theorem ints_any (u v : Value) (R : List Nat) (w : World) (hu : NView w u R) (hv : NView w v R) (hn : R.length ≤ 1000) : Calls Try.prog 19 #[u, v] w (Gives (.bool true) w) := by
  rcases hu with ⟨rfl, hR⟩ | ⟨g1, o1, c1, rfl, h0, _, h1⟩
  · rcases hv with ⟨rfl, _⟩ | ⟨_, _, _, _, h0, _⟩
    · exact ints_none w
    · rw [hR] at h0; exact absurd h0 (by simp)
  · rcases hv with ⟨_, hR⟩ | ⟨g2, o2, c2, rfl, _, _, h2⟩
    · rw [hR] at h0; exact absurd h0 (by simp)
    · exact ints_some g1 o1 c1 g2 o2 c2 R.length R w hn h1 h2

end Go.Proofs.Ytefpaagbopmmlaa
