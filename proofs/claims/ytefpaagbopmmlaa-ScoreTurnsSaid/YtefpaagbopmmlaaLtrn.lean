/- Proved: the law ScoreTurns answers true at all zones, times and places. -/
import Derived.Test.YtefpaagbopmmlaaFlat
import Derived.Deep.CutRange
namespace Go.Proofs.Ytefpaagbopmmlaa
open Go.RowKit Go.Sort Fl

set_option maxHeartbeats 1000000 in
theorem ltrn_out (a : Option Addr) (n cap : Nat) (now k : Int) (h : 200 < n ∨ now < 0 ∨ 1099511627776 < now) (w : World) : Calls Try.prog 8 #[.slice a n cap, .int .i64 now, .int .i64 k] w (Gives (.bool true) w) := by
  have key : decide (n ≤ 200) = false ∨ (decide (n ≤ 200) = true ∧ (now < 0 ∨ (decide (now < 0) = false ∧ 1099511627776 < now))) := by
    simp only [decide_eq_false_iff_not, decide_eq_true_eq]
    omega
  clear h
  rcases key with k | ⟨k1, k | ⟨k2, k⟩⟩
  all_goals
    go_enter Try.func8, Try.ntmps8
    go_wp2_with (first | (go_at_call 15; refine (small_any _ _ _ _).mono ?_; rintro e w' ⟨rfl, rfl⟩) | (go_at_call 14; refine (awake_any _).mono ?_; rintro e w' ⟨rfl, hb⟩))
    go_ret
    exact ⟨rfl, hb⟩

theorem nview_form {w : World} {v : Value} {R : List Nat} (h : NView w v R) : ∃ a c, v = .slice a R.length c := by
  rcases h with ⟨h, hR⟩ | ⟨g, off, cap, h, _⟩
  · exact ⟨none, 0, by rw [h, hR]; rfl⟩
  · exact ⟨_, _, h⟩
theorem nview_at {w : World} {a : Option Addr} {n c : Nat} {R : List Nat} (h : NView w (.slice a n c) R) (h0 : 0 < R.length) : ∃ g og, a = some ⟨g, og, none⟩ ∧ ∀ j, j < R.length → w.cell? ⟨g, og + j, none⟩ = some (.int .i64 ((R.getD j 0 : Nat) : Int)) := by
  rcases h with ⟨_, hR⟩ | ⟨g, off, cap, e, _, _, hc⟩
  · rw [hR] at h0; exact absurd h0 (by simp)
  · injection e with e1
    exact ⟨g, off, e1, hc⟩
/-- How two beside each other in a rank stand. -/
theorem rank_pair {Z : List (Int × Int × Int)} {now : Int} {R : List Nat} (hR : IsRank Z now R) {m : Nat} (hm : m + 1 < R.length) :
    (FloatKind.f64.format.order (wz Z now (R.getD m 0)) (wz Z now (R.getD (m + 1) 0)) = some .gt) ∨ (FloatKind.f64.format.order (wz Z now (R.getD m 0)) (wz Z now (R.getD (m + 1) 0)) = some .eq ∧ R.getD m 0 < R.getD (m + 1) 0) := by
  have h1 := okz_facts (mem_kept.1 (hR.p.mem_iff.1 (at_mem (show m < R.length by omega)))).2
  have h2 := okz_facts (mem_kept.1 (hR.p.mem_iff.1 (at_mem hm))).2
  have hp := pair_at hR.o (show m < m + 1 by omega) hm
  rw [ord_nums h1.2.1 h2.2.1]
  rcases hp with h | ⟨h, h3⟩
  · left; rw [if_neg (by omega), if_neg (by omega)]
  · right; exact ⟨by rw [if_neg (by omega), if_pos h], h3⟩

set_option maxHeartbeats 16000000 in
set_option maxRecDepth 100000 in
theorem ltrn_in (b off n cap : Nat) (now kk : Int) (Z : List (Int × Int × Int)) (h : n ≤ 200) (h0 : 0 < n) (hcap : n ≤ cap) (hZ : Z.length = n) (hn0 : 0 ≤ now) (hn1 : now ≤ 1099511627776) (w : World) (hbw : b < w.heap.size) (hcz : Zc w b off Z) :
    Calls Try.prog 8 #[.slice (some ⟨b, off, none⟩) n cap, .int .i64 now, .int .i64 kk] w (Gives (.bool true) w) := by
  have q1 : decide (n ≤ 200) = true := decide_eq_true h
  have q2 : decide (now < 0) = false := decide_eq_false (by omega)
  have q3 : decide (1099511627776 < now) = false := decide_eq_false (by omega)
  obtain ⟨i0, hi, hz0, hz1, hz2⟩ := info_parts info_zone
  have hr := rank_any (.slice (some ⟨b, off, none⟩) n cap) Z now w (.inr ⟨b, off, cap, by rw [hZ], by omega, hbw, hcz⟩) (by omega)
  have HR := Lib.hid hr
  have HZ := Lib.hid hZ
  obtain ⟨BB, hBB⟩ : ∃ BB, BB = w.heap.size := ⟨_, rfl⟩
  have HBB := Lib.hid hBB
  have HBW : BB ≤ w.heap.size := by omega
  have HBb := Lib.hid hbw
  have HCZ := Lib.hid hcz
  have hrnd : ∀ w, Calls Try.prog 20 #[.int .i64 kk, .int .i64 ((n : Int) + 1)] w fun e w' => (∃ r : Nat, r < n + 1 ∧ e = .returned (.int .i64 (r : Int))) ∧ w = w' := fun w => round_any kk (n + 1) (by omega) (by omega) w
  have HRND := Lib.hid hrnd
  clear hrnd
  clear hr hZ hBB hbw hcz
  go_enter Try.func8, Try.ntmps8
  go_wp2_with (first
    | (go_at_call 15; refine (small_any _ _ _ _).mono ?_; rintro e w' ⟨rfl, rfl⟩)
    | (go_at_call 18; refine HR.out.mono ?_; rintro e w2 ⟨u, R, rfl, hR, hN, hB⟩; have HRR := Lib.hid hR; obtain ⟨ar, cr, rfl⟩ := nview_form hN; have HN := Lib.hid hN; have HB2 := Lib.hid hB; clear hB hR hN))
  have HZ2 : Hid (Zc w2 b off Z) := Lib.hid (zc_below HCZ.out HB2.out HBb.out)
  have HHR : Hid (R.length ≤ n) := Lib.hid (by
    have := kept_len Z now Z.length
    rw [← HRR.out.p.length_eq, HZ.out] at this
    exact this)
  have hRn : R.length ≤ 200 := Nat.le_trans HHR.out h
  have hb2 : b < w2.heap.size := Nat.lt_of_lt_of_le HBb.out HB2.out.size
  go_loopw [8] (fun i wr => ∃ k : Nat, 1 ≤ k ∧ k ≤ R.length + 1 ∧ i = .int .i64 (k : Int) ∧ Hid (Below w2.heap.size w2 wr)) (fun i _ => R.length - (intOf i).toNat)
  case atStart => exact ⟨1, Nat.le_refl _, by omega, rfl, Lib.hid (Below.refl _ _)⟩
  case round =>
    obtain ⟨k, hk1, hkR, rfl, HBr⟩ := hrel
    by_cases hlt : k < R.length
    · obtain ⟨m, rfl⟩ : ∃ m, k = m + 1 := ⟨k - 1, by omega⟩
      obtain ⟨g, og, rfl, hrc⟩ := nview_at HN.out (by omega)
      have hg2 : g < w2.heap.size := by
        rcases HN.out with ⟨e, _⟩ | ⟨g', o', c', e, _, hlt, _⟩
        · cases e
        · injection e with e1; injection e1 with e2; injection e2 with e3; rw [e3]; exact hlt
      have okx := mem_kept.1 (HRR.out.p.mem_iff.1 (at_mem (show m < R.length by omega)))
      have oky := mem_kept.1 (HRR.out.p.mem_iff.1 (at_mem hlt))
      have hxy := rank_pair HRR.out hlt
      have rx := hrc m (by omega)
      have ry := hrc (m + 1) hlt
      have zx := HZ2.out (R.getD m 0) okx.1
      have zy := HZ2.out (R.getD (m + 1) 0) oky.1
      have hxn : R.getD m 0 < n := by have := okx.1; rw [HZ.out] at this; exact this
      have hyn : R.getD (m + 1) 0 < n := by have := oky.1; rw [HZ.out] at this; exact this
      have sx := fun w => score_yes (zn Z (R.getD m 0)).1 (zn Z (R.getD m 0)).2.1 (zn Z (R.getD m 0)).2.2 now w okx.2.1
      have sy := fun w => score_yes (zn Z (R.getD (m + 1) 0)).1 (zn Z (R.getD (m + 1) 0)).2.1 (zn Z (R.getD (m + 1) 0)).2.2 now w oky.2.1
      unfold wz at hxy
      generalize R.getD m 0 = x at *
      generalize R.getD (m + 1) 0 = y at *
      generalize scV (zn Z x).1 (zn Z x).2.1 (zn Z x).2.2 now = fx at hxy sx
      generalize scV (zn Z y).1 (zn Z y).2.1 (zn Z y).2.2 now = fy at hxy sy
      generalize (zn Z x).1 = lx at zx sx
      generalize (zn Z x).2.1 = ssx at zx sx
      generalize (zn Z x).2.2 = tx at zx sx
      generalize (zn Z y).1 = ly at zy sy
      generalize (zn Z y).2.1 = ssy at zy sy
      generalize (zn Z y).2.2 = ty at zy sy
      have HCE : Hid (∀ w', Below w2.heap.size w2 w' → w'.cell? ⟨g, og + m, none⟩ = some (.int .i64 (x : Int)) ∧ w'.cell? ⟨g, og + (m + 1), none⟩ = some (.int .i64 (y : Int)) ∧
          (w'.cell? ⟨b, off + x * 3, none⟩ = some (.int .i64 lx) ∧ w'.cell? ⟨b, off + x * 3 + 1, none⟩ = some (.int .i64 ssx) ∧ w'.cell? ⟨b, off + x * 3 + 2, none⟩ = some (.int .i64 tx)) ∧
          (w'.cell? ⟨b, off + y * 3, none⟩ = some (.int .i64 ly) ∧ w'.cell? ⟨b, off + y * 3 + 1, none⟩ = some (.int .i64 ssy) ∧ w'.cell? ⟨b, off + y * 3 + 2, none⟩ = some (.int .i64 ty))) := Lib.hid (fun w' hb' =>
        ⟨(hb'.cell (p := ⟨g, og + m, none⟩) hg2).trans rx, (hb'.cell (p := ⟨g, og + (m + 1), none⟩) hg2).trans ry,
         ⟨(hb'.cell (p := ⟨b, off + x * 3, none⟩) hb2).trans zx.1, (hb'.cell (p := ⟨b, off + x * 3 + 1, none⟩) hb2).trans zx.2.1, (hb'.cell (p := ⟨b, off + x * 3 + 2, none⟩) hb2).trans zx.2.2⟩,
         ⟨(hb'.cell (p := ⟨b, off + y * 3, none⟩) hb2).trans zy.1, (hb'.cell (p := ⟨b, off + y * 3 + 1, none⟩) hb2).trans zy.2.1, (hb'.cell (p := ⟨b, off + y * 3 + 2, none⟩) hb2).trans zy.2.2⟩⟩)
      unfold zv at sx sy
      have HX := Lib.hid sx
      have HY := Lib.hid sy
      have x0 : (0 : Int) ≤ (x : Int) := by omega
      have x1 : (x : Int) < (n : Int) := by omega
      have y0 : (0 : Int) ≤ (y : Int) := by omega
      have y1 : (y : Int) < (n : Int) := by omega
      have m0 : (0 : Int) ≤ (m : Int) := by omega
      have m1 : (m : Int) < (R.length : Int) := by omega
      have m2 : (m : Int) + 1 < (R.length : Int) := by omega
      have m3 : (m : Int) + 1 - 1 = (m : Int) := by omega
      obtain ⟨rx', ry', ⟨zx0, zx1, zx2⟩, zy0, zy1, zy2⟩ := HCE.out wr HBr.out
      clear rx ry zx zy sx sy okx oky hrc hxn hyn hg2
      rcases hxy with hxy | ⟨hxy, hlt2⟩
      · go_wp2_with (first
          | (go_at_call 11; (with_reducible refine (HX.out _).mono ?_); rintro e w3 ⟨rfl, hb⟩; have HB3 := Lib.hid (HBr.out.trans (hb.mono HBr.out.size)); obtain ⟨a1, a2, ⟨a3, a4, a5⟩, a6, a7, a8⟩ := HCE.out w3 HB3.out; clear hb)
          | (go_at_call 11; (with_reducible refine (HY.out _).mono ?_); rintro e w4 ⟨rfl, hb⟩; have HB4 := Lib.hid (HB3.out.trans (hb.mono HB3.out.size)); obtain ⟨b1, b2, ⟨b3, b4, b5⟩, b6, b7, b8⟩ := HCE.out w4 HB4.out; clear hb))
        go_quiet (fail)
        go_wp2
        go_roundw
        case rel => exact ⟨m + 2, by omega, by omega, by go_num, Lib.hid (below_drewN HB4.out _)⟩
        case measure => simp [intOf]; omega
      · have hli : (x : Int) < (y : Int) := by omega
        clear hlt2
        go_wp2_with (first
          | (go_at_call 11; (with_reducible refine (HX.out _).mono ?_); rintro e w3 ⟨rfl, hb⟩; have HB3 := Lib.hid (HBr.out.trans (hb.mono HBr.out.size)); obtain ⟨a1, a2, ⟨a3, a4, a5⟩, a6, a7, a8⟩ := HCE.out w3 HB3.out; clear hb)
          | (go_at_call 11; (with_reducible refine (HY.out _).mono ?_); rintro e w4 ⟨rfl, hb⟩; have HB4 := Lib.hid (HB3.out.trans (hb.mono HB3.out.size)); obtain ⟨b1, b2, ⟨b3, b4, b5⟩, b6, b7, b8⟩ := HCE.out w4 HB4.out; clear hb))
        go_quiet (fail)
        go_wp2
        go_roundw
        case rel => exact ⟨m + 2, by omega, by omega, by go_num, Lib.hid (below_drewN HB4.out _)⟩
        case measure => simp [intOf]; omega
    · have hge : ¬ ((k : Int) < (R.length : Int)) := by omega
      have hbs : w2.heap.size ≤ wr.heap.size := HBr.out.size
      go_upto_region 13 with (go_at_call 20; refine (HRND.out _).mono ?_; rintro e w' ⟨⟨kr, hkr, rfl⟩, rfl⟩)
      have hk0 : (0 : Int) ≤ (kr : Int) := by omega
      have hkc : (kr : Int) ≤ (cap : Int) := by omega
      have hkn : (kr : Int) ≤ (n : Int) := by omega
      have HTL : Hid ((flat (Z.take kr)).length = kr * 3) := Lib.hid (by rw [flat_len, List.length_take, HZ.out, Nat.min_eq_left (by omega)])
      go_wp2_with (at_builtin; refine wpList_append_own_at _ rfl _ _ 35 rfl w2.heap.size 23 i0 (.agg #[.int .i64 0, .int .i64 0, .int .i64 0]) 3 24 Try.underlying35 hi hz0 hz1 hz2 rfl (by decide) _ _ _ rfl (World.ownsRow_nil _ _ _ _) ⟨b, off, none⟩ kr cap (flat (Z.take kr)) rfl HTL.out (zc_flat (zc_take (zc_below HZ2.out HBr.out hb2) kr)) (flat_one _) (by unfold maxLen; omega) (by omega) hbs ?_)
      intro v5 w5 own1 gr1 _ _
      have HB5 : Hid (Below w2.heap.size w2 w5) := Lib.hid (HBr.out.grown gr1 hbs (fun x hx => by simp [Value.ownBlock] at hx))
      have HO5 : Hid (w5.ownsRow w2.heap.size 23 3 v5 kr (flat (Z.take kr))) := Lib.hid (by simpa using own1)
      have hbs5 : w2.heap.size ≤ w5.heap.size := HB5.out.size
      clear own1 gr1
      go_wp2_with (at_builtin; refine wpList_append_own_at _ rfl _ _ 35 rfl w2.heap.size 23 i0 (.agg #[.int .i64 0, .int .i64 0, .int .i64 0]) 3 24 Try.underlying35 hi hz0 hz1 hz2 rfl (by decide) _ _ _ rfl (HO5.out.alloc _) ⟨w5.heap.size, 0, none⟩ 1 1 (flat [(3, 3, 0)]) rfl rfl (new_zone w5 23) (flat_one _) (by unfold maxLen; omega) (by omega) (by simp; omega) ?_)
      intro v6 w6 own2 gr2 _ _
      have HB6 : Hid (Below w2.heap.size w2 w6) := Lib.hid ((HB5.out.alloc hbs5 _).grown gr2 (by simp; omega) (fun x hx => (HO5.out.lt x hx).1))
      have HO6 : Hid (w6.ownsRow w2.heap.size 23 3 v6 (kr + 1) (flat (Z.take kr) ++ flat [(3, 3, 0)])) := Lib.hid own2
      have hbs6 : w2.heap.size ≤ w6.heap.size := HB6.out.size
      clear own2 gr2
      go_upto_region 15 with fail
      go_cut [13] from 98 to 102 (fun v wy => Hid (wy.ownsRow w2.heap.size 23 3 v (n + 1) (flat (ins Z kr)) ∧ Below w2.heap.size w2 wy))
      case first =>
        have hzl := HZ.out
        by_cases hck : cap = kr
        · have hkrn : kr = n := by omega
          have hd : Z.drop kr = [] := List.drop_eq_nil_of_le (by omega)
          have HF : Hid (flat (Z.take kr) ++ flat [(3, 3, 0)] = flat (ins Z kr)) := Lib.hid (by rw [← flat_app]; unfold ins; rw [hd])
          subst hkrn
          subst hck
          clear hd hzl
          go_wp2_with (at_builtin; refine wpList_append_own_at _ rfl _ _ 35 rfl w2.heap.size 23 i0 (.agg #[.int .i64 0, .int .i64 0, .int .i64 0]) 3 24 Try.underlying35 hi hz0 hz1 hz2 rfl (by decide) _ _ _ rfl HO6.out ⟨b, off, none⟩ 0 0 [] rfl rfl (fun j u hj => by simp at hj) (fun u hu => by cases hu) (by unfold maxLen; omega) (by omega) hbs6 ?_)
          intro v7 w7 own3 gr3 _ _
          rw [HF.out] at own3
          have HB7 := Lib.hid (HB6.out.grown gr3 hbs6 (fun x hx => (HO6.out.lt x hx).1))
          have HO7 := Lib.hid own3
          clear own3 gr3
          go_wp2
          go_meet
          case rel => exact Lib.hid ⟨HO7.out, HB7.out⟩
        · have hdl : (flat (Z.drop kr)).length = (n - kr) * 3 := by rw [flat_len, List.length_drop, hzl]
          have HF : Hid (flat (Z.take kr) ++ flat [(3, 3, 0)] ++ flat (Z.drop kr) = flat (ins Z kr)) := Lib.hid (by rw [← flat_app, ← flat_app]; unfold ins; simp)
          have HDL := Lib.hid hdl
          have en : kr + 1 + (n - kr) = n + 1 := by omega
          have EN := Lib.hid en
          clear hdl en hzl
          go_wp2_with (at_builtin; refine wpList_append_own_at _ rfl _ _ 35 rfl w2.heap.size 23 i0 (.agg #[.int .i64 0, .int .i64 0, .int .i64 0]) 3 24 Try.underlying35 hi hz0 hz1 hz2 rfl (by decide) _ _ _ rfl HO6.out ⟨b, off + kr * 3, none⟩ (n - kr) (cap - kr) (flat (Z.drop kr)) rfl HDL.out (zc_flat (zc_drop (zc_below HZ2.out HB6.out hb2) kr)) (flat_one _) (by unfold maxLen; omega) (by omega) hbs6 ?_)
          intro v7 w7 own3 gr3 _ _
          have own3 : w7.ownsRow w2.heap.size 23 3 v7 (n + 1) (flat (ins Z kr)) := by rw [← HF.out, ← EN.out]; simpa using own3
          have HB7 := Lib.hid (HB6.out.grown gr3 hbs6 (fun x hx => (HO6.out.lt x hx).1))
          have HO7 := Lib.hid own3
          clear own3 gr3
          go_wp2
          go_meet
          case rel => exact Lib.hid ⟨HO7.out, HB7.out⟩
      have hins : (ins Z kr).length = n + 1 := by rw [ins_len Z kr (by rw [HZ.out]; omega), HZ.out]
      have hr2 := rank_any u13 (ins Z kr) now wc (own_zview hcut.out.1 hins) (by omega)
      have HR2 : Hid (Calls Try.prog 18 #[u13, .int .i64 now] wc fun e w' => ∃ u, e = .returned u ∧ NView w' u (R.map (shift kr)) ∧ Below wc.heap.size wc w') := Lib.hid (hr2.mono fun e w' ⟨u, S, he, hS, hN, hB⟩ => ⟨u, he, by rw [rank_one (rank_shift HRR.out kr (by rw [HZ.out]; omega)) hS]; exact hN, hB⟩)
      have HBc := Lib.hid hcut.out.2
      clear hr2 hins hcut HO6 HB6 HO5 HB5 HTL hbs hbs5 hbs6
      have hlne : ((R.length : Int) != (R.length : Int)) = false := by simp
      go_wp2_with (go_at_call 18; refine HR2.out.mono ?_; rintro e w9 ⟨u2, rfl, hN, hB⟩; obtain ⟨aq, cq, rfl⟩ := nview_form hN; rw [List.length_map] at hN ⊢; have HNQ := Lib.hid hN; have HB9 := Lib.hid (HBc.out.trans (hB.mono HBc.out.size)); clear hN hB)
      go_loopw [15] (fun i wy => ∃ j : Nat, j ≤ R.length ∧ i = .int .i64 (j : Int) ∧ w9 = wy) (fun i _ => R.length - (intOf i).toNat)
      case atStart => exact ⟨0, Nat.zero_le _, rfl, rfl⟩
      case round =>
        obtain ⟨j, hj, rfl, rfl⟩ := hrel
        by_cases hjl : j < R.length
        · obtain ⟨g, og, rfl, hrc⟩ := nview_at HN.out (by omega)
          have hg2 : g < w2.heap.size := by
            rcases HN.out with ⟨e, _⟩ | ⟨g', o', c', e, _, hlt, _⟩
            · cases e
            · injection e with e1; injection e1 with e2; injection e2 with e3; rw [e3]; exact hlt
          obtain ⟨gq, oq, rfl, hqc⟩ := nview_at HNQ.out (by rw [List.length_map]; omega)
          have r1 := (HB9.out.cell (p := ⟨g, og + j, none⟩) hg2).trans (hrc j hjl)
          have r2 := hqc j (by rw [List.length_map]; exact hjl)
          have e : (R.map (shift kr)).getD j 0 = shift kr (R.getD j 0) := by
            rw [List.getD_eq_getElem?_getD, List.getElem?_map, List.getD_eq_getElem?_getD, List.getElem?_eq_getElem hjl]
            rfl
          rw [e] at r2
          have hx : R.getD j 0 < n := by
            have := (mem_kept.1 (HRR.out.p.mem_iff.1 (at_mem hjl))).1
            rw [HZ.out] at this
            exact this
          generalize R.getD j 0 = x at r1 r2 hx
          have j0 : (0 : Int) ≤ (j : Int) := by omega
          have j1 : (j : Int) < (R.length : Int) := by omega
          clear e hrc hqc hg2
          by_cases hkx : kr ≤ x
          · have e2 : shift kr x = x + 1 := if_pos hkx
            rw [e2] at r2
            have r2' : w9.cell? ⟨gq, oq + j, none⟩ = some (.int .i64 ((x : Int) + 1)) := r2
            have ne : (((x : Int) + 1) != ((x : Int) + 1)) = false := by simp
            have hki : (kr : Int) ≤ (x : Int) := by omega
            clear e2 r2
            go_wp2
            go_roundw
            case rel => exact ⟨j + 1, by omega, by go_num, by first | rfl | trivial⟩
            case measure => first | (simp [intOf]; done) | (simp [intOf]; omega)
          · have e2 : shift kr x = x := if_neg hkx
            rw [e2] at r2
            have ne : ((x : Int) != (x : Int)) = false := by simp
            have hki : ¬ ((kr : Int) ≤ (x : Int)) := by omega
            clear e2
            go_wp2
            go_roundw
            case rel => exact ⟨j + 1, by omega, by go_num, by first | rfl | trivial⟩
            case measure => first | (simp [intOf]; done) | (simp [intOf]; omega)
        · have hge2 : ¬ ((j : Int) < (R.length : Int)) := by omega
          go_wp2_with (go_at_call 14; refine (awake_any _).mono ?_; rintro e w' ⟨rfl, hb⟩; have HBA := Lib.hid hb; clear hb)
          go_ret
          exact ⟨rfl, HB2.out.trans ((HB9.out.trans (HBA.out.mono HB9.out.size)).mono HB2.out.size)⟩

end Go.Proofs.Ytefpaagbopmmlaa
