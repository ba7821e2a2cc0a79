/- Proved: the landed Sort of forder answers with a row of new memory that holds the list's numbers in order. -/
import Derived.Test.YtphhonpibmbjmaaLandP
namespace Go.Proofs.Ytphhonpibmbjmaa
open Go.RowKit Fl

/-- The first k numbers are written, made canonical. -/
def fillTo (L : List Nat) (k : Nat) : List Nat := (L.take k).map cb ++ List.replicate (L.length - k) 0
theorem fill_len (L : List Nat) (k : Nat) (h : k ≤ L.length) : (fillTo L k).length = L.length := by simp [fillTo]; omega
theorem fill_start (L : List Nat) : fillTo L 0 = List.replicate L.length 0 := by simp [fillTo]
theorem fill_end (L : List Nat) : fillTo L L.length = L.map cb := by simp [fillTo]
theorem fill_step (L : List Nat) (k : Nat) (h : k < L.length) : (fillTo L k).set k (cb (L.getD k 0)) = fillTo L (k + 1) := by
  have e : L.length - k = (L.length - (k + 1)) + 1 := by omega
  have l1 : ((L.take k).map cb).length = k := by simp; omega
  unfold fillTo
  rw [e, List.replicate_succ, List.set_append_right _ _ (by omega), l1, Nat.sub_self, List.set_cons_zero, List.take_succ_eq_append_getElem h, List.map_append, List.getD_eq_getElem?_getD, List.getElem?_eq_getElem h]
  simp
theorem kb_cb (x : Nat) : kb (cb x) = kb x := by unfold kb; rw [cb_cb]
theorem map_kb_cb (L : List Nat) : (L.map cb).map kb = L.map kb := by simp [kb_cb]

theorem own_zero {w : World} {B T g cap n : Nat} {xs : List Value} (h : w.ownsRow B T 1 (.slice (some ⟨g, 0, none⟩) n cap) n xs) : w.ownsRow B T 1 (.slice (some ⟨g, 0, none⟩) 0 cap) 0 [] := by
  rcases h.2 with ⟨h', _⟩ | ⟨g', cap', cur, h', hb, hg, hnc, hcm, hcs, htake⟩
  · simp at h'
  · simp only [Value.slice.injEq, Option.some.injEq, Addr.mk.injEq, and_true, true_and] at h'
    obtain ⟨rfl, rfl⟩ := h'
    exact ⟨by simp, .inr ⟨g, cap, cur, rfl, hb, hg, Nat.zero_le _, hcm, hcs, by simp⟩⟩

/-- What stands in Sort's two rows at the head of its second loop. -/
def Two (B n gs gp m wd : Nat) (L R : List Nat) (X : List Value) (w wr : World) : Prop :=
  B ≤ gs ∧ B ≤ gp ∧ gs ≠ gp ∧ R.Perm (L.map cb) ∧ Runs wd R ∧ wr.ownsRow B 25 1 (.slice (some ⟨gs, 0, none⟩) n n) n (R.map (Value.float .f64)) ∧
    wr.ownsRow B 25 1 (.slice (some ⟨gp, 0, none⟩) m n) m X ∧ Below B w wr
theorem two_step {B n gs gp m wd : Nat} {L R : List Nat} {X : List Value} {w wr : World} (hB : B ≤ w.heap.size) (hn : n ≤ 1000000) (hwd : 0 < wd) (hwd2 : wd ≤ 2000000) (hL : L.length = n) (hf : ∀ x ∈ L, x < 18446744073709551616) (h : Two B n gs gp m wd L R X w wr) :
    Calls Try.prog 47 #[.slice (some ⟨gp, 0, none⟩) 0 n, .slice (some ⟨gs, 0, none⟩) n n, .int .i64 (wd : Int)] wr fun e w' =>
      ∃ D, e = .returned (.slice (some ⟨gp, 0, none⟩) n n) ∧ Hid (Two B n gp gs n (2 * wd) L D (R.map (Value.float .f64)) w w') := by
  obtain ⟨h1, h2, h3, h4, h5, h6, h7, h8⟩ := h
  have hR : R.length = n := by rw [h4.length_eq]; simp [hL]
  have hfR : ∀ j, j < R.length → R.getD j 0 < 18446744073709551616 := getD_lt R fun x hx => by
    have := (h4.mem_iff).1 hx
    simp only [List.mem_map] at this
    obtain ⟨y, hy, rfl⟩ := this
    exact cb_lt y (hf y hy)
  have key := pairs_some B gp n gs 0 n wd R wr (by omega) (by omega) hn h3 hwd hwd2 h5 (own_zero h7) (fun j hj => by rw [Nat.zero_add]; exact (own_cell h6 j (by omega)).1) hfR
  rw [hR] at key
  refine key.mono fun e w' ⟨D, he, hp, hr, ho, hg⟩ => ⟨D, by rw [he, hR], Lib.hid ⟨h2, h1, h3.symm, hp.trans h4, hr, ?_, h6.kept hg (Or.inr fun e => h3 (Option.some.inj e)), h8.grown hg (by have := h8.size; omega) (fun j hj => by cases hj; exact h2)⟩⟩
  have hD : D.length = n := by rw [hp.length_eq, hR]
  rw [hD, Nat.zero_add] at ho
  exact ho

theorem sort_end {B n g1 g2 m wd : Nat} {L R : List Nat} {X : List Value} {w wx : World} (hL : L.length = n) (hwd : n ≤ wd) (hf : ∀ x ∈ L, x < 18446744073709551616) (h : Two B n g1 g2 m wd L R X w wx) :
    ∃ R, Sorts L R ∧ wx.ownsRow B 25 1 (.slice (some ⟨g1, 0, none⟩) n n) n (R.map (Value.float .f64)) ∧ Below B w wx := by
  obtain ⟨h1, h2, h3, h4, h5, h6, h7, h8⟩ := h
  have hR : R.length = n := by rw [h4.length_eq]; simp [hL]
  refine ⟨R, ⟨sorted_pairwise R (runs_all wd R (by omega) h5), ?_, fun x hx => ?_⟩, h6, h8⟩
  · have := h4.map kb
    rwa [map_kb_cb] at this
  · have := (h4.mem_iff).1 hx
    simp only [List.mem_map] at this
    obtain ⟨y, hy, rfl⟩ := this
    exact cb_lt y (hf y hy)

attribute [local go_sem] store_float
set_option maxHeartbeats 2000000 in
set_option maxRecDepth 100000 in
theorem sort_some (b off len cap : Nat) (L : List Nat) (w : World) (hl : L.length = len) (h0 : 0 < len) (hb : len ≤ 1000000) (hbW : b < w.heap.size)
    (hx : ∀ j, j < len → w.cell? ⟨b, off + j, none⟩ = some (.float .f64 (L.getD j 0))) (hf : ∀ x ∈ L, x < 18446744073709551616) :
    Calls Try.prog 36 #[.slice (some ⟨b, off, none⟩) len cap] w fun e w' => ∃ v R, e = .returned v ∧ Sorts L R ∧ w'.ownsRow w.heap.size 25 1 v len (R.map (Value.float .f64)) ∧ Below w.heap.size w w' := by
  obtain ⟨i0, hi, hz0, hz1, hz2⟩ := info_parts info_f64
  obtain ⟨B, hB⟩ : ∃ B, B = w.heap.size := ⟨_, rfl⟩
  rw [← hB]
  have HB := Lib.hid hB
  have HBW : B ≤ w.heap.size := by omega
  have HBb : Hid (b < B) := Lib.hid (by omega)
  have HX := Lib.hid hx
  have HF := Lib.hid hf
  have HL := Lib.hid hl
  clear hB hx hf hl
  go_enter Try.func36, Try.ntmps36
  go_wp2_with (refine wpList_make_full _ rfl _ _ 22 rfl B 25 i0 (.float .f64 0) 1 Try.underlying22 hi hz0 hz1 .i64 .i64 _ _ len rfl rfl rfl rfl (by rw [hz2]; omega) (by unfold maxLen; omega) (by omega) ?_)
  intro w1 hown hg
  have hown1 : Hid (w1.ownsRow B 25 1 (.slice (some ⟨w.heap.size, 0, none⟩) len len) len ((fillTo L 0).map (Value.float .f64))) := Lib.hid (by
    have e : (madeCells #[Value.float FloatKind.f64 0] len).toList = (fillTo L 0).map (Value.float .f64) := by
      rw [fill_start, HL.out]
      exact (toList_madeCells_one _ _).trans (by simp)
    rw [← e]; exact hown)
  have HNX : Hid (Below B w w1) := Lib.hid ((Below.refl _ _).grown hg HBW (by simp))
  clear hown hg
  go_wp2
  have HBG : B ≤ w.heap.size := HBW
  have HGW : Hid (w.heap.size < w1.heap.size) := Lib.hid ((hown1.out.lt _ rfl).2)
  generalize w.heap.size = gs at hown1 HBG HGW ⊢
  go_loopw [13] (fun i wr => ∃ k : Nat, k ≤ len ∧ i = .int .i64 k ∧ Hid (wr.ownsRow B 25 1 (.slice (some ⟨gs, 0, none⟩) len len) len ((fillTo L k).map (Value.float .f64))) ∧ Hid (Below B w wr)) (fun i _ => len - (intOf i).toNat)
  case atStart => exact ⟨0, Nat.zero_le _, rfl, hown1, HNX⟩
  case round =>
    clear hown1 HNX HGW
    obtain ⟨k, hk, rfl, HO, HN⟩ := hrel
    by_cases hlt : k < len
    · have c1 := (HN.out.cell (p := ⟨b, off + k, none⟩) HBb.out).trans (HX.out k hlt)
      have d1 : L.getD k 0 < 18446744073709551616 := getD_lt L HF.out k (by rw [HL.out]; exact hlt)
      have b1 : (0 : Int) ≤ (k : Int) := by omega
      have b2 : (k : Int) < (len : Int) := by omega
      have f1 := HO.out.frozenAt k
      have HS := Lib.hid (fill_step L k (by rw [HL.out]; exact hlt))
      obtain ⟨c2, _⟩ := own_cell HO.out k hlt
      obtain ⟨x, hx⟩ : ∃ x, x = L.getD k 0 := ⟨_, rfl⟩
      obtain ⟨y, hy⟩ : ∃ y, y = (fillTo L k).getD k 0 := ⟨_, rfl⟩
      rw [← hx] at c1 d1 HS
      rw [← hy] at c2
      clear hx hy
      have HST : Hid ((wr.setCell ⟨gs, k, none⟩ (.float .f64 (cb x))).ownsRow B 25 1 (.slice (some ⟨gs, 0, none⟩) len len) len ((fillTo L (k + 1)).map (Value.float .f64)) ∧ Below B w (wr.setCell ⟨gs, k, none⟩ (.float .f64 (cb x)))) := Lib.hid (by
        refine ⟨?_, HN.out.setCell HBG _⟩
        have := (HO.out.stored k (.float .f64 (cb x))).1
        rw [← HS.out, List.map_set]
        exact this)
      go_wp2_with (go_at_call 46; refine (canon_any _ d1 _).mono ?_; rintro e w' ⟨rfl, rfl⟩)
      go_roundw
      case rel => exact ⟨k + 1, by omega, by go_num, Lib.hid HST.out.1, Lib.hid HST.out.2⟩
      case measure => simp [intOf]; omega
    · obtain rfl : k = len := by omega
      clear hlt
      have hge : ¬ ((k : Int) < (k : Int)) := by omega
      have HBW2 : B ≤ wr.heap.size := by have := HN.out.size; have := HB.out; omega
      go_wp2_with (refine wpList_make_own _ rfl _ _ 22 rfl B 25 i0 (.float .f64 0) 1 Try.underlying22 hi hz0 hz1 .i64 .i64 _ k rfl rfl rfl (by rw [hz2]; omega) (by unfold maxLen; omega) HBW2 ?_)
      intro w2 hown2 hg2
      have HT : Hid (Two B k gs wr.heap.size 0 1 L (L.map cb) [] w w2) := Lib.hid ⟨HBG, HBW2, by have h : gs < wr.heap.size := (HO.out.lt _ rfl).2; omega, List.Perm.refl _, runs_one _, by
          have := HO.out.kept hg2 (Or.inr (fun e => by cases e))
          rw [← HL.out, fill_end] at this
          rw [← HL.out]; exact this, hown2, HN.out.grown hg2 HBW2 (by simp)⟩
      clear hown2 hg2 HO HN
      generalize wr.heap.size = gp at HT ⊢
      go_wp2
      go_loopw [3, 6, 7] (fun s3 s6 s7 wx => ∃ (g1 g2 m wd : Nat) (R : List Nat) (X : List Value), 0 < wd ∧ wd ≤ 2 * k ∧ s3 = .slice (some ⟨g1, 0, none⟩) k k ∧ s6 = .slice (some ⟨g2, 0, none⟩) m k ∧ s7 = .int .i64 wd ∧ Hid (Two B k g1 g2 m wd L R X w wx)) (fun _ _ i _ => 2 * k - (intOf i).toNat)
      case atStart => exact ⟨gs, gp, 0, 1, L.map cb, [], by omega, by omega, rfl, rfl, by first | rfl | go_num, HT⟩
      case round =>
        clear HT
        obtain ⟨g1, g2, m, wd, R, X, hw0, hw1, rfl, rfl, rfl, HT⟩ := hrel
        by_cases hlt : wd < k
        · have hm := two_step (by have := HB.out; omega) hb hw0 (by omega) HL.out HF.out HT.out
          go_wp2_with (go_at_call 47; ((with_reducible refine hm.mono ?_); rintro e w3 ⟨D, rfl, HT2⟩))
          go_roundw
          case rel => exact ⟨g2, g1, k, 2 * wd, D, _, by omega, by omega, rfl, rfl, by go_num, HT2⟩
          case measure => simp [intOf]; omega
        · have hge2 : ¬ ((wd : Int) < (k : Int)) := by omega
          go_wp2
          go_ret
          obtain ⟨R2, e1, e2, e3⟩ := sort_end HL.out (by omega) HF.out HT.out
          exact ⟨_, rfl, R2, e1, e2, e3⟩

set_option maxHeartbeats 2000000 in
set_option maxRecDepth 100000 in
theorem sort_none (a : Option Addr) (cap : Nat) (w : World) :
    Calls Try.prog 36 #[.slice a 0 cap] w fun e w' => e = .returned (.slice (some ⟨w.heap.size, 0, none⟩) 0 0) ∧ Below w.heap.size w w' := by
  obtain ⟨i0, hi, hz0, hz1, hz2⟩ := info_parts info_f64
  have HB0 : w.heap.size ≤ w.heap.size := Nat.le_refl _
  go_enter Try.func36, Try.ntmps36
  go_wp2_with (refine wpList_make_full _ rfl _ _ 22 rfl w.heap.size 25 i0 (.float .f64 0) 1 Try.underlying22 hi hz0 hz1 .i64 .i64 _ _ 0 rfl rfl rfl rfl (by rw [hz2]; omega) (by unfold maxLen; omega) HB0 ?_)
  intro w1 hown hg
  have HN : Hid (Below w.heap.size w w1) := Lib.hid ((Below.refl _ _).grown hg HB0 (by simp))
  have HB1 : w.heap.size ≤ w1.heap.size := HN.out.size
  clear hown hg
  go_wp2
  refine wp_loop_rounds 1 ?_
  rw [rounds_succ]
  go_wp2_with (refine wpList_make_own _ rfl _ _ 22 rfl w.heap.size 25 i0 (.float .f64 0) 1 Try.underlying22 hi hz0 hz1 .i64 .i64 _ 0 rfl rfl rfl (by rw [hz2]; omega) (by unfold maxLen; omega) HB1 ?_)
  intro w2 hown2 hg2
  have HN2 : Hid (Below w.heap.size w w2) := Lib.hid (HN.out.grown hg2 HB1 (by simp))
  clear hown2 hg2
  go_wp2
  refine wp_loop_rounds 1 ?_
  rw [rounds_succ]
  go_wp2
  go_ret
  exact ⟨rfl, HN2.out⟩

theorem own_view {w : World} {B T g cap n : Nat} {R : List Nat} (h : w.ownsRow B T 1 (.slice (some ⟨g, 0, none⟩) n cap) n (R.map (Value.float .f64))) (h0 : 0 < n) : View w (.slice (some ⟨g, 0, none⟩) n cap) R := by
  have hl : R.length = n := by simpa using h.1
  refine Or.inr (Or.inr ⟨g, 0, cap, by rw [hl], by omega, (h.lt _ rfl).2, fun j hj => ?_⟩)
  rw [Nat.zero_add]
  exact (own_cell h j (by omega)).1

theorem hS : DSort := by
  intro v L w hv hb hf
  have none : ∀ a cap, Calls Try.prog 36 #[.slice a 0 cap] w fun e w' => ∃ v' R, e = .returned v' ∧ Sorts [] R ∧ View w' v' R ∧ Below w.heap.size w w' := fun a cap =>
    (sort_none a cap w).mono fun e w' h => ⟨_, [], h.1, ⟨by simp, by simp, fun _ h => by cases h⟩, Or.inr (Or.inl ⟨_, 0, rfl, rfl⟩), h.2⟩
  rcases hv with ⟨rfl, rfl⟩ | ⟨ad, cap, rfl, rfl⟩ | ⟨b, off, cap, rfl, h0, hbW, hc⟩
  · exact none _ _
  · exact none _ _
  · refine (sort_some b off L.length cap L w rfl h0 hb hbW hc hf).mono fun e w' ⟨v', R, h1, h2, h3, h4⟩ => ⟨v', R, h1, h2, ?_, h4⟩
    rcases h3.2 with ⟨_, h⟩ | ⟨g, cap2, cur, rfl, _⟩
    · omega
    · exact own_view h3 h0

end Go.Proofs.Ytphhonpibmbjmaa
