/- Proved: the law ScoreEdges answers true at all zones and times. -/
import Derived.Test.YtefpaagbopmmlaaLrnk
namespace Go.Proofs.Ytefpaagbopmmlaa
open Go.RowKit Go.Sort Fl

theorem store_bool (P : Program) (w : World) (a : Addr) (m : Mode) (b : Bool) : (store a (.bool b) m).run P w = stored P w a (.bool b) m := run_store P w a _ m rfl
theorem info_bool : (Try.prog.info? 4).map (fun i => (i.zero, i.size, i.bytes)) = some (some (.bool false), 1, 1) := by kernel_rfl
theorem made_false (n : Nat) : (madeCells #[Value.bool false] n).toList = (List.replicate n false).map Value.bool := (toList_madeCells_one _ _).trans (by simp)
theorem bl_cell {w : World} {B T g cap n : Nat} {S : List Bool} (h : w.ownsRow B T 1 (.slice (some ⟨g, 0, none⟩) n cap) n (S.map Value.bool)) (j : Nat) (hj : j < n) :
    w.cell? ⟨g, j, none⟩ = some (.bool (S.getD j false)) := by
  have hl : S.length = n := by simpa using h.1
  rw [h.cellAt j (by omega), List.getElem?_map, List.getD_eq_getElem?_getD, List.getElem?_eq_getElem (by omega)]
  rfl

/-- A zone in the rank: some of it is free, and it was not written just now where anything is live. -/
theorem okz_edge {Z : List (Int × Int × Int)} {now : Int} {j : Nat} (h : okz Z now j) : 1 ≤ (zn Z j).2.1 ∧ 0 ≤ (zn Z j).1 ∧ (zn Z j).1 < (zn Z j).2.1 ∧ (0 < (zn Z j).1 → (zn Z j).2.2 < now) ∧ ((zn Z j).1 = 0 → wz Z now j = 9218868437227405312) ∧ (0 < (zn Z j).1 → wz Z now j < 9218868437227405312) := by
  obtain ⟨⟨⟨h1, h2, h3, h4, h5⟩, h6, h7⟩, h8, h9⟩ := h
  have hs : 1 ≤ (zn Z j).2.1 := by omega
  unfold wz at *
  generalize (zn Z j).1 = l at *
  generalize (zn Z j).2.1 = s at *
  generalize (zn Z j).2.2 = t at *
  obtain ⟨u1, u2, u3, u4, u5⟩ := use_facts l s h1 h2 hs h3
  obtain ⟨s1, s2, s3, s4⟩ := score_facts (useW l s) (now - t) u1 (by omega) (by omega)
  have e : 0 < l → scV l s t now = scoreW (useW l s) (now - t) := fun h => by unfold scV; rw [if_neg (by omega), if_neg (by omega)]
  refine ⟨hs, h1, ?_, ?_, ?_, ?_⟩
  · rcases Int.lt_or_le l s with h | h
    · exact h
    · have el : l = s := by omega
      have := s3 (u5.2 el)
      rw [e (by omega)] at h9
      exact absurd this h9
  · intro hl
    rcases Int.lt_or_le t now with h | h
    · exact h
    · have := s4 (by omega)
      rw [e hl] at h9
      exact absurd this h9
  · intro hl
    unfold scV
    rw [if_neg (by omega), if_pos hl]
  · intro hl
    rw [e hl]; exact s1

/-- What stands at the head of a round. -/
structure Ed (Z : List (Int × Int × Int)) (B n gs g og cg k : Nat) (rb : Bool) (SB : List Bool) (R : List Nat) (w wr : World) : Prop where
  s : wr.ownsRow B 4 1 (.slice (some ⟨gs, 0, none⟩) n n) n (SB.map Value.bool)
  v : ∀ j, j < R.length → wr.cell? ⟨g, og + j, none⟩ = some (.int .i64 ((R.getD j 0 : Nat) : Int))
  b : Below B w wr
  ne : g < wr.heap.size ∧ g ≠ gs
  gb : B ≤ gs
  sb : ∀ j, j < n → (SB.getD j false = true ↔ j ∈ R.take k)
  rest : rb = true → ∀ t, k ≤ t → t < R.length → 0 < (zn Z (R.getD t 0)).1

theorem take_get (R : List Nat) (k : Nat) (h : k < R.length) : R.take (k + 1) = R.take k ++ [R.getD k 0] := by
  rw [List.take_succ_eq_append_getElem h, List.getD_eq_getElem?_getD, List.getElem?_eq_getElem h]
  rfl
theorem setB (S : List Bool) (k j : Nat) (x : Bool) (hk : k < S.length) : (S.set k x).getD j false = if j = k then x else S.getD j false := by
  by_cases e : j = k
  · subst e
    rw [if_pos rfl, List.getD_eq_getElem?_getD, List.getElem?_set_self hk]; rfl
  · rw [if_neg e, List.getD_eq_getElem?_getD, List.getElem?_set_ne (fun e' => e e'.symm), ← List.getD_eq_getElem?_getD]
theorem pw_nodup {T : Nat → Nat → Prop} (hT : Ord T) {R : List Nat} (h : R.Pairwise T) {i j : Nat} (hij : i < j) (hj : j < R.length) : R.getD i 0 ≠ R.getD j 0 := fun e => by
  have := pair_at h hij hj
  rw [e] at this
  exact hT.2 _ _ this this
theorem not_seen {Z : List (Int × Int × Int)} {now : Int} {R : List Nat} (hR : IsRank Z now R) {k : Nat} (hk : k < R.length) : R.getD k 0 ∉ R.take k := fun hm => by
  obtain ⟨t, ht, e⟩ := mem_at hm
  have hl : (R.take k).length ≤ k := by simp; omega
  have e2 : (R.take k).getD t 0 = R.getD t 0 := by
    have := getD_left (R.take k) (R.drop k) t ht
    rw [List.take_append_drop] at this
    exact this.symm
  rw [e2] at e
  exact pw_nodup (ord_tr Z now) hR.o (show t < k by omega) hk e
theorem rest_next {Z : List (Int × Int × Int)} {now : Int} {R : List Nat} (hR : IsRank Z now R) {k : Nat} (hl : 0 < (zn Z (R.getD k 0)).1) (hk : k < R.length) : ∀ t, k + 1 ≤ t → t < R.length → 0 < (zn Z (R.getD t 0)).1 := by
  intro t h1 h2
  have ok := (mem_kept.1 (hR.p.mem_iff.1 (at_mem hk))).2
  have ot := (mem_kept.1 (hR.p.mem_iff.1 (at_mem h2))).2
  obtain ⟨_, k0, _, _, _, k5⟩ := okz_edge ok
  obtain ⟨_, t0, _, _, t4, _⟩ := okz_edge ot
  have hp := pair_at hR.o (show k < t by omega) h2
  rcases Int.lt_or_le 0 (zn Z (R.getD t 0)).1 with h | h
  · exact h
  · have e1 := t4 (by omega)
    have e2 := k5 hl
    unfold Tr at hp
    omega

theorem Ed.step {Z : List (Int × Int × Int)} {now : Int} {B n gs g og cg k : Nat} {rb rc : Bool} {SB : List Bool} {R : List Nat} {w wr : World} {o : Obj} (h : Ed Z B n gs g og cg k rb SB R w wr) (hB : B ≤ w.heap.size) (hR : IsRank Z now R) (hZ : Z.length = n) (hk : k < R.length)
    (hc : rc = true → rb = true ∨ 0 < (zn Z (R.getD k 0)).1) : Ed Z B n gs g og cg (k + 1) rc (SB.set (R.getD k 0) true) R w ((wr.alloc o).setCell ⟨gs, R.getD k 0, none⟩ (.bool true)) where
  s := by
    have := ((h.s.alloc o).stored (R.getD k 0) (.bool true)).1
    rw [← List.map_set] at this
    exact this
  v := fun j hj => by
    rw [World.cell?_setCell_other _ _ _ _ (by intro e; simp only [Addr.mk.injEq] at e; exact h.ne.2 e.1.symm), World.cell?_alloc_lt _ _ _ h.ne.1]
    exact h.v j hj
  b := (h.b.alloc (Nat.le_trans hB h.b.size) o).setCell h.gb _
  ne := ⟨by have := h.ne.1; simp; omega, h.ne.2⟩
  gb := h.gb
  sb := fun j hj => by
    have hl : SB.length = n := by simpa using h.s.1
    have hy : R.getD k 0 < n := by
      have := (mem_kept.1 (hR.p.mem_iff.1 (at_mem hk))).1
      omega
    rw [setB _ _ _ _ (by omega), take_get R k hk, List.mem_append, List.mem_singleton, ← h.sb j hj]
    by_cases e : j = R.getD k 0
    · rw [if_pos e]; exact ⟨fun _ => .inr e, fun _ => rfl⟩
    · rw [if_neg e]; exact ⟨fun h => .inl h, fun h => h.resolve_right e⟩
  rest := fun hrc t h1 h2 => by
    rcases hc hrc with h3 | h3
    · exact h.rest h3 t (by omega) h2
    · exact rest_next hR h3 hk t h1 h2

set_option maxHeartbeats 1000000 in
theorem ledg_out (a : Option Addr) (n cap : Nat) (now : Int) (h : 200 < n ∨ now < 0 ∨ 1099511627776 < now) (w : World) : Calls Try.prog 5 #[.slice a n cap, .int .i64 now] w (Gives (.bool true) w) := by
  have key : decide (n ≤ 200) = false ∨ (decide (n ≤ 200) = true ∧ (now < 0 ∨ (decide (now < 0) = false ∧ 1099511627776 < now))) := by
    simp only [decide_eq_false_iff_not, decide_eq_true_eq]
    omega
  clear h
  rcases key with k | ⟨k1, k | ⟨k2, k⟩⟩
  all_goals
    go_enter Try.func5, Try.ntmps5
    go_wp2_with (first | (go_at_call 15; refine (small_any _ _ _ _).mono ?_; rintro e w' ⟨rfl, rfl⟩) | (go_at_call 14; refine (awake_any _).mono ?_; rintro e w' ⟨rfl, hb⟩))
    go_ret
    exact ⟨rfl, hb⟩

attribute [local go_sem] store_bool
set_option maxHeartbeats 8000000 in
set_option maxRecDepth 100000 in
theorem ledg_in (a : Option Addr) (n cap : Nat) (now : Int) (Z : List (Int × Int × Int)) (h : n ≤ 200) (hZ : Z.length = n) (hn0 : 0 ≤ now) (hn1 : now ≤ 1099511627776) (w : World) (hv : ZView w (.slice a n cap) Z) :
    Calls Try.prog 5 #[.slice a n cap, .int .i64 now] w (Gives (.bool true) w) := by
  have q1 : decide (n ≤ 200) = true := decide_eq_true h
  have q2 : decide (now < 0) = false := decide_eq_false (by omega)
  have q3 : decide (1099511627776 < now) = false := decide_eq_false (by omega)
  obtain ⟨i0, hi, hz0, hz1, hz2⟩ := info_parts info_bool
  have hr := rank_any (.slice a n cap) Z now w hv (by omega)
  have HR := Lib.hid hr
  have HZ := Lib.hid hZ
  have HV := Lib.hid hv
  obtain ⟨BB, hBB⟩ : ∃ BB, BB = w.heap.size := ⟨_, rfl⟩
  have HBB := Lib.hid hBB
  have HBW : BB ≤ w.heap.size := by omega
  clear hr hv hZ hBB
  go_enter Try.func5, Try.ntmps5
  go_wp2_with (first
    | (go_at_call 15; refine (small_any _ _ _ _).mono ?_; rintro e w' ⟨rfl, rfl⟩)
    | (go_at_call 18; refine HR.out.mono ?_; rintro e w2 ⟨u, R, rfl, hR, hN, hB⟩; have HRR := Lib.hid hR; have HN := Lib.hid hN; have HB2 := Lib.hid hB; clear hB hR hN; have hbs : BB ≤ w2.heap.size := Nat.le_trans HBW HB2.out.size)
    | (refine wpList_make_full _ rfl _ _ 43 rfl BB 4 i0 (.bool false) 1 Try.underlying43 hi hz0 hz1 .i64 .i64 _ _ n rfl rfl rfl rfl (by rw [hz2]; omega) (by unfold maxLen; omega) (by omega) ?_))
  intro w3 hown hg
  have HOWN : Hid (w3.ownsRow BB 4 1 (.slice (some ⟨w2.heap.size, 0, none⟩) n n) n ((List.replicate n false).map Value.bool)) := Lib.hid (by rw [← made_false]; exact hown)
  have HB3 : Hid (Below BB w w3) := Lib.hid ((by rw [HBB.out]; exact HB2.out : Below BB w w2).grown hg hbs (by simp))
  have HN3 : Hid (Below w2.heap.size w2 w3) := Lib.hid ((Below.refl _ _).grown hg (Nat.le_refl _) (by simp))
  have HHR : Hid (R.length ≤ n) := Lib.hid (by
    have := kept_len Z now Z.length
    rw [← HRR.out.p.length_eq, HZ.out] at this
    exact this)
  clear hown hg HR
  by_cases h0 : R = []
  · subst h0
    obtain rfl := nview_nil HN.out
    go_wp2
    refine wp_loop_rounds 1 ?_
    rw [rounds_succ]
    go_wp2_with (go_at_call 14; refine (awake_any _).mono ?_; rintro e w' ⟨rfl, hb⟩; have HBA := Lib.hid hb; clear hb)
    go_ret
    exact ⟨rfl, by rw [← HBB.out]; exact HB3.out.trans (HBA.out.mono (Nat.le_trans HBW HB3.out.size))⟩
  · have hn3 := HN.out
    obtain ⟨g, og, cg, rfl⟩ := nview_some HN.out h0
    have HE0 : Hid (Ed Z BB n w2.heap.size g og cg 0 false (List.replicate n false) R w w3) := Lib.hid (by
      have hg2 : g < w2.heap.size := by
        rcases HN.out with ⟨h, _⟩ | ⟨g', o', c', e, _, hlt, _⟩
        · cases h
        · injection e with e1; injection e1 with e2; injection e2 with e3; rw [e3]; exact hlt
      refine ⟨HOWN.out, fun j hj => nview_cell (nview_below HN.out HN3.out) j hj, HB3.out, ⟨Nat.lt_of_lt_of_le hg2 HN3.out.size, by omega⟩, hbs, fun j hj => ?_, fun h => by cases h⟩
      rw [List.getD_eq_getElem?_getD, List.getElem?_replicate, if_pos hj]
      simp)
    clear HOWN HB3 HN3 HN hn3
    generalize w2.heap.size = gs at HE0 ⊢
    have hRpos : 0 < R.length := List.length_pos_iff.2 h0
    have hRn : R.length ≤ 200 := Nat.le_trans HHR.out h
    obtain ⟨b, off, rfl, hbw, hcz⟩ : ∃ b off, a = some ⟨b, off, none⟩ ∧ b < BB ∧ ∀ j, j < n → w.cell? ⟨b, off + j * 3, none⟩ = some (.int .i64 (zn Z j).1) ∧ w.cell? ⟨b, off + j * 3 + 1, none⟩ = some (.int .i64 (zn Z j).2.1) ∧ w.cell? ⟨b, off + j * 3 + 2, none⟩ = some (.int .i64 (zn Z j).2.2) := by
      rcases HV.out with ⟨_, _, _, e⟩ | ⟨b, off, cap', e, _, hbw, hc⟩
      · exfalso
        have h1 := HHR.out
        have h2 := HZ.out
        rw [e] at h2
        simp at h2
        omega
      · injection e with e1
        rw [HZ.out] at hc
        exact ⟨b, off, e1, by rw [HBB.out]; exact hbw, hc⟩
    have HCZ := Lib.hid hcz
    have HBB1 := Lib.hid hbw
    clear hcz hbw HV
    go_wp2
    go_loopw [7, 8] (fun rv i wr => ∃ (k : Nat) (rb : Bool) (SB : List Bool), k ≤ R.length ∧ rv = .bool rb ∧ i = .int .i64 (k : Int) ∧ Hid (Ed Z BB n gs g og cg k rb SB R w wr)) (fun _ i _ => R.length - (intOf i).toNat)
    case atStart => exact ⟨0, false, _, Nat.zero_le _, rfl, rfl, HE0⟩
    case round =>
      clear HE0
      obtain ⟨k, rb, SB, hk, rfl, rfl, HE⟩ := hrel
      by_cases hlt : k < R.length
      · have hok := (mem_kept.1 (HRR.out.p.mem_iff.1 (at_mem hlt)))
        have hns := not_seen HRR.out hlt
        have hyn : R.getD k 0 < n := by have := hok.1; rw [HZ.out] at this; exact this
        have v1 := HE.out.v k hlt
        have hsf : SB.getD (R.getD k 0) false = false := by
          cases hh : SB.getD (R.getD k 0) false with
          | false => rfl
          | true => exact absurd ((HE.out.sb _ hyn).1 hh) hns
        have v2 := bl_cell HE.out.s (R.getD k 0) hyn
        have f2 := HE.out.s.frozenAt (R.getD k 0)
        rw [hsf] at v2
        have v1a : ∀ o, (wr.alloc o).cell? ⟨g, og + k, none⟩ = some (.int .i64 ((R.getD k 0 : Nat) : Int)) := fun o => (World.cell?_alloc_lt _ _ _ HE.out.ne.1).trans v1
        have hgsl : gs < wr.heap.size := (HE.out.s.lt gs rfl).2
        have v2a : ∀ o, (wr.alloc o).cell? ⟨gs, R.getD k 0, none⟩ = some (.bool false) := fun o => (World.cell?_alloc_lt _ _ ⟨gs, R.getD k 0, none⟩ hgsl).trans v2
        have f2a : ∀ o, (wr.alloc o).frozen? ⟨gs, R.getD k 0, none⟩ = false := fun o => (HE.out.s.alloc o).frozenAt _
        obtain ⟨z0, z1, z2⟩ := HCZ.out (R.getD k 0) hyn
        have c0 := (HE.out.b.cell (p := ⟨b, off + R.getD k 0 * 3, none⟩) HBB1.out).trans z0
        have c1 := (HE.out.b.cell (p := ⟨b, off + R.getD k 0 * 3 + 1, none⟩) HBB1.out).trans z1
        have c2 := (HE.out.b.cell (p := ⟨b, off + R.getD k 0 * 3 + 2, none⟩) HBB1.out).trans z2
        obtain ⟨o1, o2, o3, o4, _, _⟩ := okz_edge hok.2
        have HST := Lib.hid (fun rc o hc => HE.out.step (rc := rc) (o := o) HBW HRR.out HZ.out hlt hc)
        have HRE : Hid (rb = true → 0 < (zn Z (R.getD k 0)).1) := Lib.hid (fun h => HE.out.rest h k (Nat.le_refl _) hlt)
        obtain ⟨y, hy⟩ : ∃ y, y = R.getD k 0 := ⟨_, rfl⟩
        rw [← hy] at v1 v2 f2 v1a v2a f2a c0 c1 c2 o1 o2 o3 o4 HST HRE hyn
        clear hok hns hsf z0 z1 z2 hy
        generalize (zn Z y).1 = l at c0 o2 o3 o4 HST HRE
        generalize (zn Z y).2.1 = s at c1 o1 o3
        generalize (zn Z y).2.2 = t at c2 o4
        have zz : ∀ i x, (wr.alloc (.cells #[.int .i64 l, .int .i64 s, .int .i64 t] 23)).cell? ⟨wr.heap.size, i, none⟩ = some x → ((wr.alloc (.cells #[.int .i64 l, .int .i64 s, .int .i64 t] 23)).setCell ⟨gs, y, none⟩ (.bool true)).cell? ⟨wr.heap.size, i, none⟩ = some x := fun i x hx => by
          rw [World.cell?_setCell_other _ _ _ _ (by intro e; simp only [Addr.mk.injEq] at e; omega)]; exact hx
        have zz0 := zz 0 (.int .i64 l) (by simp [go_sem])
        have zz1 := zz 1 (.int .i64 s) (by simp [go_sem])
        have zz2 := zz 2 (.int .i64 t) (by simp [go_sem])
        clear zz hgsl
        have y0 : (0 : Int) ≤ (y : Int) := by omega
        have y1 : (y : Int) < (n : Int) := by omega
        have y2 : decide ((y : Int) < 0) = false := decide_eq_false (by omega)
        have y3 : decide ((n : Int) ≤ (y : Int)) = false := decide_eq_false (by omega)
        have y4 : decide (n ≤ y) = false := decide_eq_false (by omega)
        have k0 : (0 : Int) ≤ (k : Int) := by omega
        have k1 : (k : Int) < (R.length : Int) := by omega
        have d1 : decide (s < 1) = false := decide_eq_false (by omega)
        have d2 : decide (s ≤ l) = false := decide_eq_false (by omega)
        by_cases hl : l = 0
        · have d3 : decide (0 < l) = false := decide_eq_false (by omega)
          have d5 : (l == 0) = true := by rw [beq_iff_eq]; exact hl
          have hrb : rb = false := by
            cases hh : rb with
            | false => rfl
            | true => have := HRE.out hh; omega
          subst hrb
          have HX := Lib.hid (fun o => HST.out false o (fun h => by cases h))
          clear HST HRE hl o4 HE
          go_wp2
          go_roundw
          case rel => exact ⟨k + 1, false, _, by omega, rfl, by go_num, Lib.hid (HX.out _)⟩
          case measure => simp [intOf]; omega
        · have d3 : decide (0 < l) = true := decide_eq_true (by omega)
          have d3' : 0 < l := by omega
          have d4 : decide (now ≤ t) = false := decide_eq_false (by have := o4 d3'; omega)
          have d5 : (l == 0) = false := by rw [beq_eq_false_iff_ne]; exact hl
          have HX := Lib.hid (fun o => HST.out true o (fun _ => .inr d3'))
          clear HST HRE hl o4 HE
          cases rb
          all_goals
            go_wp2
            go_roundw
            case rel => exact ⟨k + 1, true, _, by omega, rfl, by go_num, Lib.hid (HX.out _)⟩
            case measure => simp [intOf]; omega
      · have hge : ¬ ((k : Int) < (R.length : Int)) := by omega
        have HF := Lib.hid HE.out.b
        clear HE
        go_wp2_with (go_at_call 14; refine (awake_any _).mono ?_; rintro e w' ⟨rfl, hb⟩; have HBA := Lib.hid hb; clear hb)
        go_ret
        exact ⟨rfl, by rw [← HBB.out]; exact HF.out.trans (HBA.out.mono (Nat.le_trans HBW HF.out.size))⟩

end Go.Proofs.Ytefpaagbopmmlaa
