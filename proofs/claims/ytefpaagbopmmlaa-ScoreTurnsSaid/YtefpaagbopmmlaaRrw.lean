/- Proved: the document's own Rank answers with the one rank of the zones: its walk. -/
import Derived.Test.YtefpaagbopmmlaaRrn
namespace Go.Proofs.Ytefpaagbopmmlaa
open Go.RowKit Go.Sort Fl

theorem own_form {w : World} {B T n : Nat} {v : Value} {xs : List Value} (h : w.ownsRow B T 1 v n xs) : ∃ a c, v = .slice a n c := by
  rcases h.2 with ⟨rfl, rfl⟩ | ⟨g, cap, cur, rfl, _⟩
  · exact ⟨_, _, rfl⟩
  · exact ⟨_, _, rfl⟩
theorem own_some {w : World} {B T n c : Nat} {a : Option Addr} {xs : List Value} (h : w.ownsRow B T 1 (.slice a n c) n xs) (h0 : 0 < n) : ∃ g, a = some ⟨g, 0, none⟩ := by
  rcases h.2 with ⟨_, h⟩ | ⟨g, cap, cur, e, _⟩
  · omega
  · injection e with e1
    exact ⟨g, e1⟩
theorem old_cell {w : World} {B T g cap n : Nat} {xs : List Value} (h : w.ownsRow B T 1 (.slice (some ⟨g, 0, none⟩) n cap) n xs) (j : Nat) (hj : j < n) : ∃ u, w.cell? ⟨g, j, none⟩ = some u := by
  have hl := h.1
  rw [h.cellAt j (by omega), List.getElem?_eq_getElem (by omega)]
  exact ⟨_, rfl⟩
theorem fz_cell {Z : List (Int × Int × Int)} {now : Int} {w : World} {B T g cap n : Nat} {R : List Nat} (h : w.ownsRow B T 1 (.slice (some ⟨g, 0, none⟩) n cap) n (R.map (fz Z now))) (j : Nat) (hj : j < n) : w.cell? ⟨g, j, none⟩ = some (.float .f64 (wz Z now (R.getD j 0))) := by
  have hl : R.length = n := by simpa using h.1
  rw [h.cellAt j (by omega), List.getElem?_map, List.getD_eq_getElem?_getD, List.getElem?_eq_getElem (by omega)]
  rfl
theorem new_zi (w : World) (T : TypeId) : ∀ j u, [Value.int .i64 0][j]? = some u → (w.alloc (.cells #[.int .i64 0] T)).cell? ((⟨w.heap.size, 0, none⟩ : Addr).add j) = some u := by
  intro j u hj
  match j, hj with
  | 0, hj => simp at hj; subst hj; simp [Addr.add, go_sem]
theorem new_zf (w : World) (T : TypeId) : ∀ j u, [Value.float .f64 0][j]? = some u → (w.alloc (.cells #[.float .f64 0] T)).cell? ((⟨w.heap.size, 0, none⟩ : Addr).add j) = some u := by
  intro j u hj
  match j, hj with
  | 0, hj => simp at hj; subst hj; simp [Addr.add, go_sem]

attribute [local go_sem] store_float
set_option maxHeartbeats 8000000 in
set_option maxRecDepth 100000 in
theorem rrank_some (b off cap n : Nat) (Z : List (Int × Int × Int)) (now : Int) (w : World) (hZ : Z.length = n) (h0 : 0 < n) (hn : n ≤ 1000) (hw : b < w.heap.size)
    (hc : ∀ j, j < n → w.cell? ⟨b, off + j * 3, none⟩ = some (.int .i64 (zn Z j).1) ∧ w.cell? ⟨b, off + j * 3 + 1, none⟩ = some (.int .i64 (zn Z j).2.1) ∧ w.cell? ⟨b, off + j * 3 + 2, none⟩ = some (.int .i64 (zn Z j).2.2)) :
    Calls Try.prog 16 #[.slice (some ⟨b, off, none⟩) n cap, .int .i64 now] w (Ranks Z now w) := by
  obtain ⟨i0, hi, hz0, hz1, hz2⟩ := info_parts info_f64
  obtain ⟨j0, hj, hy0, hy1, hy2⟩ := info_parts info_int
  obtain ⟨BB, hBB⟩ : ∃ BB, BB = w.heap.size := ⟨_, rfl⟩
  have HBW : BB ≤ w.heap.size := by omega
  have HB1 : Hid (b < BB) := Lib.hid (by omega)
  have HCZ := Lib.hid hc
  have HZ := Lib.hid hZ
  have HBB := Lib.hid hBB
  have R0 : Hid (Rr Z now BB 0 (.slice none 0 0) (.slice none 0 0) [] w w) := Lib.hid ⟨World.ownsRow_nil _ _ _ _, World.ownsRow_nil _ _ _ _, List.Perm.refl _, List.Pairwise.nil, Below.refl _ _, fun _ h => (by cases h), fun _ => rfl⟩
  clear hBB hc hZ hw
  go_enter Try.func16, Try.ntmps16
  go_wp2
  go_loopw [5, 6, 7] (fun v1 v2 i wr => ∃ (k : Nat) (R : List Nat), k ≤ n ∧ i = .int .i64 (k : Int) ∧ Hid (Rr Z now BB k v1 v2 R w wr)) (fun _ _ i _ => n - (intOf i).toNat)
  case atStart => exact ⟨0, _, Nat.zero_le _, rfl, R0⟩
  case round =>
    clear R0
    obtain ⟨k, R, hk, rfl, HR⟩ := hrel
    by_cases hlt : k < n
    · obtain ⟨hz0', hz1', hz2'⟩ := HCZ.out k hlt
      have c0 := (HR.out.b.cell (p := ⟨b, off + k * 3, none⟩) HB1.out).trans hz0'
      have c1' := (HR.out.b.cell (p := ⟨b, off + k * 3 + 1, none⟩) HB1.out).trans hz1'
      have c2' := (HR.out.b.cell (p := ⟨b, off + k * 3 + 2, none⟩) HB1.out).trans hz2'
      clear hz0' hz1' hz2'
      have HOK : Hid (okz Z now k ↔ (Jdg (zn Z k).1 (zn Z k).2.1 (zn Z k).2.2 now ∧ (zn Z k).2.1 ≠ 0 ∧ scV (zn Z k).1 (zn Z k).2.1 (zn Z k).2.2 now ≠ 0)) := Lib.hid Iff.rfl
      have HWZ : Hid (wz Z now k = scV (zn Z k).1 (zn Z k).2.1 (zn Z k).2.2 now) := Lib.hid rfl
      have HKE := Lib.hid (fun w2 (hb : Below wr.heap.size wr w2) => HR.out.keep (w2 := w2) HBW hb)
      have bb1 : (0 : Int) ≤ (k : Int) := by omega
      have bb2 : (k : Int) < (n : Int) := by omega
      generalize (zn Z k).1 = l at c0 HOK HWZ
      generalize (zn Z k).2.1 = s at c1' HOK HWZ
      generalize (zn Z k).2.2 = t at c2' HOK HWZ
      by_cases hJ : Jdg l s t now
      · have hs := fun w => rscore_yes l s t now w hJ
        have hx64 := scV_lt hJ
        by_cases h0s : s = 0
        · have HSK := Lib.hid (fun w2 hb => (HKE.out w2 hb).skip (fun h => (HOK.out.1 h).2.1 h0s))
          have e : scV l s t now = 9221120237041090560 := if_pos h0s
          rw [e] at hs
          have o1 : FloatKind.f64.format.order 9221120237041090560 9221120237041090560 = none := ord_nan_l _ _ (by decide) (by decide)
          unfold zv at hs
          have HS := Lib.hid hs
          clear hs hJ HR HKE HOK HWZ e h0s hx64
          go_wp2_with (go_at_call 12; refine (HS.out _).mono ?_; rintro e w2 ⟨rfl, hb⟩; have HBX := Lib.hid hb; clear hb)
          go_roundw
          case rel => exact ⟨k + 1, R, by omega, by go_num, Lib.hid (HSK.out _ HBX.out)⟩
          case measure => simp [intOf]; omega
        · have hs1 : 1 ≤ s := by have := hJ.1.1; have := hJ.1.2.1; omega
          have hxi := scV_le hJ hs1
          by_cases hx0 : scV l s t now = 0
          · have HSK := Lib.hid (fun w2 hb => (HKE.out w2 hb).skip (fun h => (HOK.out.1 h).2.2 hx0))
            rw [hx0] at hs
            have o1 : FloatKind.f64.format.order 0 0 = some .eq := ord_self _ (by decide) (by decide)
            unfold zv at hs
            have HS := Lib.hid hs
            clear hs hJ HR HKE HOK HWZ hx0 h0s hx64 hs1 hxi
            go_wp2_with (go_at_call 12; refine (HS.out _).mono ?_; rintro e w2 ⟨rfl, hb⟩; have HBX := Lib.hid hb; clear hb)
            go_roundw
            case rel => exact ⟨k + 1, R, by omega, by go_num, Lib.hid (HSK.out _ HBX.out)⟩
            case measure => simp [intOf]; omega
          · have hok : okz Z now k := HOK.out.2 ⟨hJ, h0s, hx0⟩
            have o1 : FloatKind.f64.format.order (scV l s t now) (scV l s t now) = some .eq := ord_self _ hx64 (small_num hxi)
            have o2 : FloatKind.f64.format.order (scV l s t now) 0 = some .gt := ord_above (Nat.pos_of_ne_zero hx0) hxi
            obtain ⟨a1, c1, hv1⟩ := own_form HR.out.r1
            obtain ⟨a2, c2, hv2⟩ := own_form HR.out.r2
            subst hv1 hv2
            have HOKK := Lib.hid hok
            have hRl : R.length ≤ k := by rw [HR.out.p.length_eq]; exact kept_len Z now k
            rw [← HWZ.out] at hs o1 o2 hxi
            obtain ⟨x, hx⟩ : ∃ x, x = wz Z now k := ⟨_, rfl⟩
            rw [← hx] at hs o1 o2 hxi
            have HWX := Lib.hid hx
            unfold zv at hs
            have HS := Lib.hid hs
            clear hs hJ HOK HWZ hx0 h0s hx64 hs1 hok hx
            go_wp2_with (go_at_call 12; refine (HS.out _).mono ?_; rintro e w2 ⟨rfl, hb⟩; have HBX := Lib.hid hb; clear hb)
            have HR2 := Lib.hid (HKE.out w2 HBX.out)
            clear HR HKE
            go_loopw [10] (fun a wx => ∃ d : Nat, d ≤ R.length ∧ a = .int .i64 (d : Int) ∧ w2 = wx ∧ Hid (∀ j, d ≤ j → j < R.length → wz Z now (R.getD j 0) < wz Z now k)) (fun a _ => (intOf a).toNat)
            case atStart => exact ⟨R.length, Nat.le_refl _, rfl, rfl, Lib.hid (fun j h1 h2 => by omega)⟩
            case round =>
              obtain ⟨d, hdl, rfl, rfl, HJ⟩ := hrel
              have hsz : BB ≤ w2.heap.size := Nat.le_trans HBW HR2.out.b.size
              by_cases hgo : 0 < d ∧ wz Z now (R.getD (d - 1) 0) < wz Z now k
              · obtain ⟨q, rfl⟩ : ∃ q, d = q + 1 := ⟨d - 1, by omega⟩
                obtain ⟨g2, hg2⟩ := own_some HR2.out.r2 (by omega)
                subst hg2
                have y0 := fz_cell HR2.out.r2 q (by omega)
                have hyk := okz_facts (mem_kept.1 (HR2.out.p.mem_iff.1 (at_mem (show q < R.length by omega)))).2
                have hlt2 := hgo.2
                rw [Nat.add_sub_cancel, ← HWX.out] at hlt2
                obtain ⟨y, hy⟩ : ∃ y, y = wz Z now (R.getD q 0) := ⟨_, rfl⟩
                rw [← hy] at y0 hyk hlt2
                have y64 : y < 18446744073709551616 := by omega
                have x64 : x < 18446744073709551616 := by omega
                have hcm : cmpI y x < 0 := (cmpI_neg hyk.2.1 hxi).2 hlt2
                have HJ2 : Hid (∀ j, q ≤ j → j < R.length → wz Z now (R.getD j 0) < wz Z now k) := Lib.hid (fun j h1 h2 => by
                  by_cases e : j = q
                  · rw [e]; exact hgo.2
                  · exact HJ.out j (by omega) h2)
                have bq : (0 : Int) ≤ (q : Int) := by omega
                have bq1 : (q : Int) < (R.length : Int) := by omega
                have bq2 : (q : Int) + 1 - 1 = (q : Int) := by omega
                clear hgo hyk hlt2 hy HJ
                go_wp2_with (go_at_call 27; refine (rcompare_any _ _ (by assumption) (by assumption) _).mono ?_; rintro ee w' ⟨rfl, rfl⟩)
                go_roundw
                case rel => exact ⟨q, by omega, rfl, by first | rfl | trivial, HJ2⟩
                case measure => first | (simp [intOf]; done) | (simp [intOf]; omega)
              · have HBL := Lib.hid (belongs HR2.out HOKK.out hdl HJ.out (fun h => by
                  rcases Nat.lt_or_ge (wz Z now (R.getD (d - 1) 0)) (wz Z now k) with h2 | h2
                  · exact absurd ⟨h, h2⟩ hgo
                  · exact h2))
                have HD := Lib.hid hdl
                have HQ := HR2
                clear HR2 HJ
                by_cases hd0 : 0 < d
                · obtain ⟨q, rfl⟩ : ∃ q, d = q + 1 := ⟨d - 1, by omega⟩
                  obtain ⟨g2', hg2'⟩ := own_some HQ.out.r2 (by omega)
                  subst hg2'
                  have y0 := fz_cell HQ.out.r2 q (by omega)
                  have hyk := okz_facts (mem_kept.1 (HQ.out.p.mem_iff.1 (at_mem (show q < R.length by omega)))).2
                  have hge2 : wz Z now k ≤ wz Z now (R.getD q 0) := by
                    rcases Nat.lt_or_ge (wz Z now (R.getD q 0)) (wz Z now k) with h2 | h2
                    · exact absurd ⟨hd0, by rw [Nat.add_sub_cancel]; exact h2⟩ hgo
                    · exact h2
                  rw [← HWX.out] at hge2
                  obtain ⟨y, hy⟩ : ∃ y, y = wz Z now (R.getD q 0) := ⟨_, rfl⟩
                  rw [← hy] at y0 hyk hge2
                  have y64 : y < 18446744073709551616 := by omega
                  have x64 : x < 18446744073709551616 := by omega
                  have hcm : decide (cmpI y x < 0) = false := decide_eq_false (fun h => by have := (cmpI_neg hyk.2.1 hxi).1 h; omega)
                  have bq : (0 : Int) ≤ (q : Int) := by omega
                  have bq1 : (q : Int) < (R.length : Int) := by omega
                  have bq2 : (q : Int) + 1 - 1 = (q : Int) := by omega
                  clear hgo hyk hge2 hy hd0
                  go_wp2_with (first
                    | (go_at_call 27; refine (rcompare_any _ _ (by assumption) (by assumption) _).mono ?_; rintro ee w' ⟨rfl, rfl⟩)
                    | (at_builtin; refine wpList_append_own_at _ rfl _ _ 37 rfl BB 3 j0 (.int .i64 0) 1 8 Try.underlying37 hj hy0 hy1 hy2 rfl (by decide) _ _ _ rfl (HQ.out.r1.alloc _) ⟨w2.heap.size, 0, none⟩ 1 1 [.int .i64 0] rfl rfl (new_zi w2 3) (fun u hu => by simp at hu; subst hu; rfl) (by unfold maxLen; omega) (by omega) (by simp; omega) ?_))
                  intro v3 w3 own1 gr1 _ hv1
                  have HO2 := Lib.hid ((HQ.out.r2.alloc _).kept gr1 (by
                    cases h1 : (Value.slice (some ⟨g2', 0, none⟩) R.length c2).ownBlock with
                    | none => exact .inl rfl
                    | some x => exact .inr (fun e2 => HQ.out.d x e2.symm h1)))
                  have hb3 : BB ≤ w3.heap.size := by have := gr1.size; simp at this; omega
                  have HG1 := Lib.hid gr1
                  have HW1 := Lib.hid own1
                  have HV1 := Lib.hid hv1
                  clear own1 gr1 hv1
                  go_wp2_with (at_builtin; refine wpList_append_own_at _ rfl _ _ 53 rfl BB 24 i0 (.float .f64 0) 1 8 Try.underlying53 hi hz0 hz1 hz2 rfl (by decide) _ _ _ rfl (HO2.out.alloc _) ⟨w3.heap.size, 0, none⟩ 1 1 [.float .f64 0] rfl rfl (new_zf w3 24) (fun u hu => by simp at hu; subst hu; rfl) (by unfold maxLen; omega) (by omega) (by simp; omega) ?_)
                  intro v4 w4 own2 gr2 _ hv2
                  obtain ⟨g1, g2, e1, e2, hv3, hv4, hRs⟩ := Rs.start (A := R.take (q + 1)) (B1 := R.drop (q + 1)) HQ.out HBW (List.take_append_drop (q + 1) R).symm HW1.out HG1.out (by simpa using HV1.out) own2 gr2 (by simpa using hv2)
                  subst hv3 hv4
                  have HRs := Lib.hid hRs
                  clear own2 gr2 hv2 hRs HG1 HW1 HV1 HO2 HQ
                  go_wp2
                  go_loopw [11] (fun j wx => ∃ (t : Nat) (B1 B2 : List Nat) (z1 z2 : Value), j = .int .i64 (t : Int) ∧ (q + 1) ≤ t ∧ t ≤ R.length ∧ Hid (Rs Z now BB (R.length + 1) g1 g2 e1 e2 (R.take (q + 1)) B1 B2 z1 z2 w wx ∧ (q + 1) + B1.length = t ∧ R.drop (q + 1) = B1 ++ B2)) (fun j _ => (intOf j).toNat)
                  case atStart => exact ⟨R.length, _, _, _, _, by go_num, HD.out, Nat.le_refl _, Lib.hid ⟨HRs.out, by first | (simp; done) | (have := HD.out; simp; omega), by simp⟩⟩
                  case round =>
                    clear HRs
                    obtain ⟨t, B1, B2, z1, z2, rfl, hdt, htm, HX⟩ := hrel
                    by_cases hgt : (q + 1) < t
                    · obtain ⟨B3, y, hB1⟩ : ∃ B3 y, B1 = B3 ++ [y] := by
                        rcases List.eq_nil_or_concat B1 with h | ⟨D', y, h⟩
                        · exfalso; have := HX.out.2.1; rw [h] at this; simp at this; omega
                        · exact ⟨D', y, by rw [h, List.concat_eq_append]⟩
                      subst hB1
                      obtain ⟨u, rfl⟩ : ∃ u, t = u + 1 := ⟨t - 1, by omega⟩
                      obtain ⟨x1, x2, x3⟩ := HX.out.1.step
                      have hA : (R.take (q + 1)).length = (q + 1) := by first | (simp; done) | (have := HD.out; simp; omega)
                      have hu : (R.take (q + 1)).length + B3.length = u := by have := HX.out.2.1; simp at this; omega
                      rw [hu] at x1 x2 x3
                      have f1 := HX.out.1.r1.frozenAt (u + 1)
                      have f2 := HX.out.1.r2.frozenAt (u + 1)
                      obtain ⟨y1, x4⟩ := old_cell HX.out.1.r1 (u + 1) (by omega)
                      obtain ⟨y2, x5⟩ := old_cell HX.out.1.r2 (u + 1) (by omega)
                      have x6 : (wr.setCell ⟨g1, u + 1, none⟩ (nv y)).cell? ⟨g2, u + 1, none⟩ = some y2 := by
                        rw [World.cell?_setCell_other _ _ _ _ (by intro e; simp only [Addr.mk.injEq] at e; exact HX.out.1.ne e.1)]; exact x5
                      have x7 : (wr.setCell ⟨g1, u + 1, none⟩ (nv y)).cell? ⟨g2, u, none⟩ = some (fz Z now y) := by
                        rw [World.cell?_setCell_other _ _ _ _ (by intro e; simp only [Addr.mk.injEq] at e; exact HX.out.1.ne e.1)]; exact x2
                      have HX3 := Lib.hid x3
                      have HXE : Hid ((q + 1) + B3.length = u ∧ R.drop (q + 1) = B3 ++ y :: B2) := Lib.hid ⟨by omega, by rw [HX.out.2.2]; simp⟩
                      have bu : (0 : Int) ≤ (u : Int) := by omega
                      have bu1 : (u : Int) + 1 < (R.length : Int) + 1 := by omega
                      have bu2 : (u : Int) + 1 - 1 = (u : Int) := by omega
                      have bu3 : (u : Int) < (R.length : Int) + 1 := by omega
                      unfold nv at x1 x3 x6 x7 HX3
                      unfold fz at x2 x3 x7 HX3
                      clear x3 hA hu HX
                      go_wp2
                      go_roundw
                      case rel => exact ⟨u, B3, y :: B2, _, _, rfl, by omega, by omega, Lib.hid ⟨HX3.out, HXE.out.1, HXE.out.2⟩⟩
                      case measure => first | (simp [intOf]; done) | (simp [intOf]; omega)
                    · obtain rfl : t = (q + 1) := by omega
                      obtain rfl : B1 = [] := List.eq_nil_of_length_eq_zero (by have := HX.out.2.1; omega)
                      have hB2 : R.drop (q + 1) = B2 := by have := HX.out.2.2; simpa using this
                      subst hB2
                      have hA : (R.take (q + 1)).length = (q + 1) := by first | (simp; done) | (have := HD.out; simp; omega)
                      obtain ⟨x1, x2, x3⟩ := HX.out.1.done HBL.out.1 HBL.out.2
                      rw [hA] at x1 x2 x3
                      have f1 := HX.out.1.r1.frozenAt (q + 1)
                      have f2 := HX.out.1.r2.frozenAt (q + 1)
                      have x6 : (wr.setCell ⟨g1, (q + 1), none⟩ (nv k)).cell? ⟨g2, (q + 1), none⟩ = some z2 := by
                        rw [World.cell?_setCell_other _ _ _ _ (by intro e; simp only [Addr.mk.injEq] at e; exact HX.out.1.ne e.1)]; exact x2
                      have HX3 := Lib.hid x3
                      have bu : (0 : Int) ≤ ((q + 1) : Int) := by omega
                      have bu1 : ((q + 1) : Int) < (R.length : Int) + 1 := by omega
                      unfold nv at x3 x6 HX3
                      unfold fz at x3 HX3
                      rw [← HWX.out] at HX3
                      clear x3 hA HX
                      go_wp2
                      go_roundw
                      case rel => exact ⟨k + 1, _, by omega, by go_num, Lib.hid HX3.out⟩
                      case measure => simp [intOf]; omega
                · obtain rfl : d = 0 := by omega
                  clear hgo hd0
                  go_wp2_with (first
                    | (go_at_call 27; refine (rcompare_any _ _ (by assumption) (by assumption) _).mono ?_; rintro ee w' ⟨rfl, rfl⟩)
                    | (at_builtin; refine wpList_append_own_at _ rfl _ _ 37 rfl BB 3 j0 (.int .i64 0) 1 8 Try.underlying37 hj hy0 hy1 hy2 rfl (by decide) _ _ _ rfl (HQ.out.r1.alloc _) ⟨w2.heap.size, 0, none⟩ 1 1 [.int .i64 0] rfl rfl (new_zi w2 3) (fun u hu => by simp at hu; subst hu; rfl) (by unfold maxLen; omega) (by omega) (by simp; omega) ?_))
                  intro v3 w3 own1 gr1 _ hv1
                  have HO2 := Lib.hid ((HQ.out.r2.alloc _).kept gr1 (by
                    cases h1 : (Value.slice a2 R.length c2).ownBlock with
                    | none => exact .inl rfl
                    | some x => exact .inr (fun e2 => HQ.out.d x e2.symm h1)))
                  have hb3 : BB ≤ w3.heap.size := by have := gr1.size; simp at this; omega
                  have HG1 := Lib.hid gr1
                  have HW1 := Lib.hid own1
                  have HV1 := Lib.hid hv1
                  clear own1 gr1 hv1
                  go_wp2_with (at_builtin; refine wpList_append_own_at _ rfl _ _ 53 rfl BB 24 i0 (.float .f64 0) 1 8 Try.underlying53 hi hz0 hz1 hz2 rfl (by decide) _ _ _ rfl (HO2.out.alloc _) ⟨w3.heap.size, 0, none⟩ 1 1 [.float .f64 0] rfl rfl (new_zf w3 24) (fun u hu => by simp at hu; subst hu; rfl) (by unfold maxLen; omega) (by omega) (by simp; omega) ?_)
                  intro v4 w4 own2 gr2 _ hv2
                  obtain ⟨g1, g2, e1, e2, hv3, hv4, hRs⟩ := Rs.start (A := R.take 0) (B1 := R.drop 0) HQ.out HBW (List.take_append_drop 0 R).symm HW1.out HG1.out (by simpa using HV1.out) own2 gr2 (by simpa using hv2)
                  subst hv3 hv4
                  have HRs := Lib.hid hRs
                  clear own2 gr2 hv2 hRs HG1 HW1 HV1 HO2 HQ
                  go_wp2
                  go_loopw [11] (fun j wx => ∃ (t : Nat) (B1 B2 : List Nat) (z1 z2 : Value), j = .int .i64 (t : Int) ∧ 0 ≤ t ∧ t ≤ R.length ∧ Hid (Rs Z now BB (R.length + 1) g1 g2 e1 e2 (R.take 0) B1 B2 z1 z2 w wx ∧ 0 + B1.length = t ∧ R.drop 0 = B1 ++ B2)) (fun j _ => (intOf j).toNat)
                  case atStart => exact ⟨R.length, _, _, _, _, by go_num, HD.out, Nat.le_refl _, Lib.hid ⟨HRs.out, by first | (simp; done) | (have := HD.out; simp; omega), by simp⟩⟩
                  case round =>
                    clear HRs
                    obtain ⟨t, B1, B2, z1, z2, rfl, hdt, htm, HX⟩ := hrel
                    by_cases hgt : 0 < t
                    · obtain ⟨B3, y, hB1⟩ : ∃ B3 y, B1 = B3 ++ [y] := by
                        rcases List.eq_nil_or_concat B1 with h | ⟨D', y, h⟩
                        · exfalso; have := HX.out.2.1; rw [h] at this; simp at this; omega
                        · exact ⟨D', y, by rw [h, List.concat_eq_append]⟩
                      subst hB1
                      obtain ⟨u, rfl⟩ : ∃ u, t = u + 1 := ⟨t - 1, by omega⟩
                      obtain ⟨x1, x2, x3⟩ := HX.out.1.step
                      have hA : (R.take 0).length = 0 := by first | (simp; done) | (have := HD.out; simp; omega)
                      have hu : (R.take 0).length + B3.length = u := by have := HX.out.2.1; simp at this; omega
                      rw [hu] at x1 x2 x3
                      have f1 := HX.out.1.r1.frozenAt (u + 1)
                      have f2 := HX.out.1.r2.frozenAt (u + 1)
                      obtain ⟨y1, x4⟩ := old_cell HX.out.1.r1 (u + 1) (by omega)
                      obtain ⟨y2, x5⟩ := old_cell HX.out.1.r2 (u + 1) (by omega)
                      have x6 : (wr.setCell ⟨g1, u + 1, none⟩ (nv y)).cell? ⟨g2, u + 1, none⟩ = some y2 := by
                        rw [World.cell?_setCell_other _ _ _ _ (by intro e; simp only [Addr.mk.injEq] at e; exact HX.out.1.ne e.1)]; exact x5
                      have x7 : (wr.setCell ⟨g1, u + 1, none⟩ (nv y)).cell? ⟨g2, u, none⟩ = some (fz Z now y) := by
                        rw [World.cell?_setCell_other _ _ _ _ (by intro e; simp only [Addr.mk.injEq] at e; exact HX.out.1.ne e.1)]; exact x2
                      have HX3 := Lib.hid x3
                      have HXE : Hid (0 + B3.length = u ∧ R.drop 0 = B3 ++ y :: B2) := Lib.hid ⟨by omega, by rw [HX.out.2.2]; simp⟩
                      have bu : (0 : Int) ≤ (u : Int) := by omega
                      have bu1 : (u : Int) + 1 < (R.length : Int) + 1 := by omega
                      have bu2 : (u : Int) + 1 - 1 = (u : Int) := by omega
                      have bu3 : (u : Int) < (R.length : Int) + 1 := by omega
                      unfold nv at x1 x3 x6 x7 HX3
                      unfold fz at x2 x3 x7 HX3
                      clear x3 hA hu HX
                      go_wp2
                      go_roundw
                      case rel => exact ⟨u, B3, y :: B2, _, _, rfl, by omega, by omega, Lib.hid ⟨HX3.out, HXE.out.1, HXE.out.2⟩⟩
                      case measure => first | (simp [intOf]; done) | (simp [intOf]; omega)
                    · obtain rfl : t = 0 := by omega
                      obtain rfl : B1 = [] := List.eq_nil_of_length_eq_zero (by have := HX.out.2.1; omega)
                      have hB2 : R.drop 0 = B2 := by have := HX.out.2.2; simpa using this
                      subst hB2
                      have hA : (R.take 0).length = 0 := by first | (simp; done) | (have := HD.out; simp; omega)
                      obtain ⟨x1, x2, x3⟩ := HX.out.1.done HBL.out.1 HBL.out.2
                      rw [hA] at x1 x2 x3
                      have f1 := HX.out.1.r1.frozenAt 0
                      have f2 := HX.out.1.r2.frozenAt 0
                      have x6 : (wr.setCell ⟨g1, 0, none⟩ (nv k)).cell? ⟨g2, 0, none⟩ = some z2 := by
                        rw [World.cell?_setCell_other _ _ _ _ (by intro e; simp only [Addr.mk.injEq] at e; exact HX.out.1.ne e.1)]; exact x2
                      have HX3 := Lib.hid x3
                      have bu : (0 : Int) ≤ (0 : Int) := by omega
                      have bu1 : (0 : Int) < (R.length : Int) + 1 := by omega
                      unfold nv at x3 x6 HX3
                      unfold fz at x3 HX3
                      rw [← HWX.out] at HX3
                      clear x3 hA HX
                      go_wp2
                      go_roundw
                      case rel => exact ⟨k + 1, _, by omega, by go_num, Lib.hid HX3.out⟩
                      case measure => simp [intOf]; omega
      · have HSK := Lib.hid (fun w2 hb => (HKE.out w2 hb).skip (fun h => hJ (HOK.out.1 h).1))
        have hs := fun w => rscore_no l s t now w hJ
        unfold zv at hs
        have HS := Lib.hid hs
        clear hs hJ HR HKE HOK HWZ
        go_wp2_with (go_at_call 12; refine (HS.out _).mono ?_; rintro e w2 ⟨rfl, hb⟩; have HBX := Lib.hid hb; clear hb)
        go_roundw
        case rel => exact ⟨k + 1, R, by omega, by go_num, Lib.hid (HSK.out _ HBX.out)⟩
        case measure => simp [intOf]; omega
    · obtain rfl : k = n := by omega
      have HFIN : Hid (Ranks Z now w (.returned u5) wr) := Lib.hid (by
        have h := HR.out
        obtain ⟨a1, c1, hv1⟩ := own_form h.r1
        rw [hv1] at h ⊢
        refine ⟨_, R, rfl, ⟨by rw [HZ.out]; exact h.p, h.o⟩, ?_, by rw [← HBB.out]; exact h.b⟩
        by_cases hR : R = []
        · exact .inl ⟨h.e hR, hR⟩
        · obtain ⟨g, hg⟩ := own_some h.r1 (List.length_pos_iff.2 hR)
          subst hg
          exact .inr ⟨g, 0, c1, rfl, List.length_pos_iff.2 hR, (h.r1.lt g rfl).2, fun j hj => by rw [Nat.zero_add]; exact nv_cell h.r1 j hj⟩)
      clear HR
      go_wp2
      go_ret
      exact HFIN.out

end Go.Proofs.Ytefpaagbopmmlaa
