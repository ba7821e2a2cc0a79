/- Proved: slices.Replace of extents in a row's own block: where more is put in than taken out, where less, and at the row's end.
slices.Replace of extents at a row's end, and at any place of it. -/
import Derived.Test.YtcffoebpgjonmaaIIn
namespace Go.Proofs.Ytcffoebpgjonmaa.Iv
open Go.RowKit

theorem overlaps_drew {w : World} {ga gb oa ob la ca lb cb : Nat} {xa xb : List Value} (q : Nat) (ha : Bk w ga xa) (hb : Bk w gb xb) (hne : ga ≠ gb) (hx : xb ≠ []) :
    (callFunc 63 #[.slice (some ⟨ga, oa, none⟩) la ca, .slice (some ⟨gb, ob, none⟩) lb cb]).run Try.prog (w.drewN q) = .ok (.value (.bool false)) (w.drewN q) :=
  overlaps_no (w := w.drewN q) ha hb hne hx

set_option maxHeartbeats 1000000 in
set_option maxRecDepth 100000 in
/-- Room, and more is put in than taken out. -/
theorem replace_shift {w : World} {g gv n c m cv i j d : Nat} {L V : List (Int × Int)} {T TV : List Value} (hg : Bk w g (fl L ++ T)) (hT : (fl L ++ T).length = c * 2) (hcm : c ≤ maxLen) (hl : L.length = n) (hn : n ≤ 1000000) (hij : i < j) (hjn : j < n) (hd : n - j = d) (hv : Bk w gv (fl V ++ TV)) (hne : g ≠ gv) (hvl : V.length = m) (h0 : 0 < m) (hm : m ≤ 1000000) (hc : i + m + d ≤ c) (him : j < i + m) :
    Calls Try.prog 45 #[.slice (some ⟨g, 0, none⟩) n c, .int .i64 (i : Int), .int .i64 (j : Int), .slice (some ⟨gv, 0, none⟩) m cv] w (Puts (.slice (some ⟨g, 0, none⟩) n c) (L.take i ++ V ++ L.drop j) w) := by
  have hsplit : fl L ++ T = fl (L.take i) ++ ((fl ((L.take j).drop i) ++ fl (L.drop j)) ++ T) := by rw [cut_at (Nat.le_of_lt hij), List.append_assoc]
  have hx1 : (fl (L.take i)).length = i * 2 := by rw [fl_len, List.length_take]; omega
  have hx2 : (fl (L.drop j)).length = d * 2 := by rw [fl_len, List.length_drop]; omega
  have hx3 : (fl ((L.take j).drop i)).length = (j - i) * 2 := by rw [fl_len, List.length_drop, List.length_take]; omega
  have hN : (L.take i ++ V ++ L.drop j).length = i + m + d := by rw [List.length_append, List.length_append, List.length_take, List.length_drop]; omega
  have hov := fun q la ca lb cb oa ob => overlaps_drew (la := la) (ca := ca) (lb := lb) (cb := cb) (oa := oa) (ob := ob) q hg hv hne (by intro e; have h1 := congrArg List.length e; rw [List.length_append, fl_len] at h1; simp at h1; omega)
  have hsrcV : ∀ t u, (fl V)[t]? = some u → w.cell? ((⟨gv, 0, none⟩ : Addr).add t) = some u := Bk.cells (x := []) (z := TV) hv
  rw [hsplit] at hg hT
  have hdd : ∀ t u, (fl (L.drop j))[t]? = some u → w.cell? ((⟨g, j * 2, none⟩ : Addr).add t) = some u := by
    have h1 : Bk w g ((fl (L.take i) ++ fl ((L.take j).drop i)) ++ (fl (L.drop j) ++ T)) := by rw [List.append_assoc, ← List.append_assoc (fl ((L.take j).drop i))]; exact hg
    have h2 := h1.cells
    rwa [List.length_append, hx1, hx3, show i * 2 + (j - i) * 2 = j * 2 by omega] at h2
  obtain ⟨Z1, Z2, Z3, hZ, hz1, hz2⟩ := cut3 ((fl ((L.take j).drop i) ++ fl (L.drop j)) ++ T) (m * 2) (d * 2) (by rw [List.length_append, hx1] at hT; omega)
  rw [hZ] at hg hT
  have hgl := hv.lt
  have HG : Hid (Bk w g ((fl (L.take i) ++ Z1) ++ (Z2 ++ Z3))) := Lib.hid (by rw [List.append_assoc]; exact hg)
  have HD := Lib.hid hdd
  have HT := Lib.hid hT
  have HV := Lib.hid hvl
  have HS := Lib.hid hsrcV
  have HX1 := Lib.hid hx1
  have HX2 := Lib.hid hx2
  have HZ1 := Lib.hid hz1
  have HZ2 := Lib.hid hz2
  have HN := Lib.hid hN
  have g1 : ¬ ((i : Int) = (j : Int)) := by omega
  have g2 : ¬ ((j : Int) = (n : Int)) := by omega
  have g3 : ¬ ((c : Int) < (i : Int) + (m : Int) + (d : Int)) := by omega
  have g4 : ¬ (c = i) := by omega
  have g5 : ¬ (c = j) := by omega
  have g6 : ¬ (c = i + m) := by omega
  have g7 : ¬ ((i : Int) + (m : Int) ≤ (j : Int)) := by omega
  have hdi : ((n : Int) - (j : Int)) = (d : Int) := by omega
  have b1 : (0 : Int) ≤ (i : Int) := by omega
  have b2 : (i : Int) ≤ (j : Int) := by omega
  have b3 : (j : Int) ≤ (c : Int) := by omega
  have b4 : (j : Int) ≤ (n : Int) := by omega
  have b5 : (i : Int) ≤ (c : Int) := by omega
  have b6 : (0 : Int) ≤ (j : Int) := by omega
  have b7 : IntKind.i64.wrap ((i : Int) + (m : Int)) = (i : Int) + (m : Int) := IntWalk.i64_in _ (by omega)
  have b8 : IntKind.i64.wrap ((i : Int) + (m : Int) + (d : Int)) = (i : Int) + (m : Int) + (d : Int) := IntWalk.i64_in _ (by omega)
  unfold maxLen at hcm
  clear hg hdd hv hl hvl hsrcV hx1 hx2 hx3 hT hsplit hZ hz1 hz2 hN
  generalize hP : L.take i = P at *
  generalize hQ : L.drop j = Q at *
  clear hP hQ
  have HE : Hid (i * 2 + m * 2 = (i + m) * 2) := Lib.hid (by omega)
  have HK3 : Hid (Nat.min d d = d) := Lib.hid (Nat.min_self d)
  have g8 : (0 : Int) ≤ (i : Int) + (m : Int) := by omega
  have g9 : ((i : Int) + (m : Int)).toNat = i + m := by omega
  have g10 : (i : Int) + (m : Int) ≤ (i : Int) + (m : Int) + (d : Int) := by omega
  go_enter Try.func45, Try.ntmps45
  go_wp2_with fail
  go_quiet (fail)
  go_wp2_with (simp only [hov])
  clear hov
  go_region_held3 (fun _ => True) (exact trivial)
    (first | (refine step_copy_two (by rfl) (.tmp 126) (.tmp 129) (by rfl) g ((i + m) * 2) d (c - (i + m)) ⟨g, j * 2, none⟩ d (c - j) (by rfl) (by rfl) (fl P ++ Z1) Z2 Z3 (fl Q) (show Bk _ g (fl P ++ Z1 ++ (Z2 ++ Z3)) from HG.out) (by rw [List.length_append, HX1.out, HZ1.out]; exact HE.out.symm) (by rw [HX2.out, HK3.out]) (by rw [HX2.out, HZ2.out]) HD.out (fun u hu => fl_cells u Q hu) ?_; intro w2 HB2 HM2))
  have HM : Hid (Mv (fun k => k = g) w w2) := Lib.hid ⟨HM2.out.os, HM2.out.tape, HM2.out.output, HM2.out.size, HM2.out.block⟩
  clear g8 g9 g10 HM2
  obtain ⟨w3, hr3, HB3, HM3⟩ := copy_run m g (i * 2) (i + m + d - i) (c - i) ⟨gv, 0, none⟩ m cv (fl P) Z1 (fl Q ++ Z3) (fl V) (by rw [← List.append_assoc]; exact HB2.out) HX1.out.symm (Nat.min_eq_left (by omega)) (by rw [fl_len, HV.out]) (by rw [fl_len, HV.out, HZ1.out]) (news_on (ad := ⟨gv, 0, none⟩) HM.out hgl (show ¬ gv = g from fun e => hne e.symm) HS.out) (fun u hu => fl_cells u V hu)
  go_wp2_with fail
  go_ret
  refine ⟨_, rfl, ow_of (by rw [List.append_assoc]; exact HB3.out) HN.out hc (by unfold maxLen; omega) ?_, ?_, fun g' hg' => Or.inl hg'⟩
  · have h1 := HT.out
    simp only [List.length_append, HX1.out, HX2.out, HZ1.out, HZ2.out, fl_len, HV.out] at h1 ⊢
    omega
  · exact (HM.out.trans HM3.out (fun _ => Or.inl)).more (fun k hk => Or.inl (by rw [hk]; rfl))

theorem clear_run {w : World} (ty : TypeId) (g off n c : Nat) (x y z : List Value) (hg : Bk w g (x ++ (y ++ z))) (ho : off = x.length) (hy : n * 2 = y.length) (h0 : n ≠ 0) :
    ∃ w' y', Sem.run Try.prog (Builtin.clear_ #[23] ty #[.slice (some ⟨g, off, none⟩) n c]) w = .ok (.tuple #[]) w' ∧ Hid (Bk w' g (x ++ (y' ++ z))) ∧ Hid (y'.length = y.length) ∧ Hid (Mv (fun k => k = g) w w') :=
  ⟨_, _, run_clear_two w ty g off n c x y z hg ho hy h0, setRow_heap w g _ _ _ _ hg, show _ = _ by rw [zeros_len, hy], setRow_mv w g _⟩
theorem clear_none (w : World) (ty : TypeId) (a : Option Addr) (c : Nat) : Sem.run Try.prog (Builtin.clear_ #[23] ty #[.slice a 0 c]) w = .ok (.tuple #[]) w := by
  cases a <;> simp [Builtin.clear_, run_underlying Try.underlying23]

set_option maxHeartbeats 1000000 in
set_option maxRecDepth 100000 in
/-- No more is put in than taken out. -/
theorem replace_fit {w : World} {g gv n c m cv i j d : Nat} {L V : List (Int × Int)} {T TV : List Value} (hg : Bk w g (fl L ++ T)) (hT : (fl L ++ T).length = c * 2) (hcm : c ≤ maxLen) (hl : L.length = n) (hn : n ≤ 1000000) (hjn : j < n) (hd : n - j = d) (hv : Bk w gv (fl V ++ TV)) (hne : g ≠ gv) (hvl : V.length = m) (h0 : 0 < m) (him : i + m ≤ j) :
    Calls Try.prog 45 #[.slice (some ⟨g, 0, none⟩) n c, .int .i64 (i : Int), .int .i64 (j : Int), .slice (some ⟨gv, 0, none⟩) m cv] w (Puts (.slice (some ⟨g, 0, none⟩) n c) (L.take i ++ V ++ L.drop j) w) := by
  have hij : i < j := by omega
  have hnc : n ≤ c := by rw [List.length_append, fl_len] at hT; omega
  have hsplit : fl L ++ T = fl (L.take i) ++ (fl ((L.take j).drop i) ++ (fl (L.drop j) ++ T)) := by rw [cut_at (Nat.le_of_lt hij), List.append_assoc, List.append_assoc]
  have hx1 : (fl (L.take i)).length = i * 2 := by rw [fl_len, List.length_take]; omega
  have hx2 : (fl (L.drop j)).length = d * 2 := by rw [fl_len, List.length_drop]; omega
  have hx3 : (fl ((L.take j).drop i)).length = (j - i) * 2 := by rw [fl_len, List.length_drop, List.length_take]; omega
  have hN : (L.take i ++ V ++ L.drop j).length = i + m + d := by rw [List.length_append, List.length_append, List.length_take, List.length_drop]; omega
  have hsrcV : ∀ t u, (fl V)[t]? = some u → w.cell? ((⟨gv, 0, none⟩ : Addr).add t) = some u := Bk.cells (x := []) (z := TV) hv
  rw [hsplit] at hg hT
  obtain ⟨Z1, Z2, Z3, hZ, hz1, hz2⟩ := cut3 (fl ((L.take j).drop i)) (m * 2) ((j - i - m) * 2) (by omega)
  have hz3 : Z3 = [] := by
    have := congrArg List.length hZ
    rw [hx3, List.length_append, List.length_append] at this
    exact List.eq_nil_of_length_eq_zero (by omega)
  subst hz3
  rw [List.append_nil] at hZ
  rw [hZ] at hg hT
  obtain ⟨Y, Y2, W, hY, hy1, hy2⟩ := cut3 (Z2 ++ (fl (L.drop j) ++ T)) (d * 2) ((n - (i + m + d)) * 2) (by simp only [List.length_append] at hT ⊢; omega)
  have hgl := hv.lt
  have HG : Hid (Bk w g (fl (L.take i) ++ (Z1 ++ (Z2 ++ (fl (L.drop j) ++ T))))) := Lib.hid (by rw [List.append_assoc] at hg; exact hg)
  have HT := Lib.hid hT
  have HV := Lib.hid hvl
  have HS := Lib.hid hsrcV
  have HX1 := Lib.hid hx1
  have HX2 := Lib.hid hx2
  have HZ1 := Lib.hid hz1
  have HZ2 := Lib.hid hz2
  have HY := Lib.hid hY
  have HY1 := Lib.hid hy1
  have HY2 := Lib.hid hy2
  have HN := Lib.hid hN
  have g1 : ¬ ((i : Int) = (j : Int)) := by omega
  have g2 : ¬ ((j : Int) = (n : Int)) := by omega
  have g3 : ¬ ((c : Int) < (i : Int) + (m : Int) + (d : Int)) := by omega
  have g4 : ¬ (c = i) := by omega
  have g5 : ¬ (c = j) := by omega
  have g6 : ¬ (c = i + m) := by omega
  have g7 : ((i : Int) + (m : Int) ≤ (j : Int)) := by omega
  have hdi : ((n : Int) - (j : Int)) = (d : Int) := by omega
  have b1 : (0 : Int) ≤ (i : Int) := by omega
  have b2 : (i : Int) ≤ (j : Int) := by omega
  have b3 : (j : Int) ≤ (c : Int) := by omega
  have b4 : (j : Int) ≤ (n : Int) := by omega
  have b5 : (i : Int) ≤ (c : Int) := by omega
  have b6 : (0 : Int) ≤ (j : Int) := by omega
  have b7 : IntKind.i64.wrap ((i : Int) + (m : Int)) = (i : Int) + (m : Int) := IntWalk.i64_in _ (by omega)
  have b8 : IntKind.i64.wrap ((i : Int) + (m : Int) + (d : Int)) = (i : Int) + (m : Int) + (d : Int) := IntWalk.i64_in _ (by omega)
  unfold maxLen at hcm
  clear hg hv hl hvl hsrcV hx1 hx2 hx3 hT hsplit hZ hz1 hz2 hN hY hy1 hy2
  generalize hP : L.take i = P at *
  generalize hQ : L.drop j = Q at *
  clear hP hQ
  have HE : Hid (i * 2 + m * 2 = (i + m) * 2) := Lib.hid (by omega)
  have HE2 : Hid (i * 2 + m * 2 + (j - i - m) * 2 = j * 2) := Lib.hid (by omega)
  have HE3 : Hid (i * 2 + m * 2 + d * 2 = (i + m + d) * 2) := Lib.hid (by omega)
  have HK3 : Hid (Nat.min d d = d) := Lib.hid (Nat.min_self d)
  have g8 : (0 : Int) ≤ (i : Int) + (m : Int) := by omega
  have g9 : ((i : Int) + (m : Int)).toNat = i + m := by omega
  have g10 : (i : Int) + (m : Int) ≤ (i : Int) + (m : Int) + (d : Int) := by omega
  go_enter Try.func45, Try.ntmps45
  go_wp2_with fail
  go_quiet (fail)
  obtain ⟨w2, hr2, HB2, HM2⟩ := copy_run (w := w.drewN nq) m g (i * 2) (i + m + d - i) (c - i) ⟨gv, 0, none⟩ m cv (fl P) Z1 (Z2 ++ (fl Q ++ T)) (fl V) HG.out HX1.out.symm (Nat.min_eq_left (by omega)) (by rw [fl_len, HV.out]) (by rw [fl_len, HV.out, HZ1.out]) HS.out (fun u hu => fl_cells u V hu)
  have HM : Hid (Mv (fun k => k = g) w w2) := Lib.hid ⟨HM2.out.os, HM2.out.tape, HM2.out.output, HM2.out.size, HM2.out.block⟩
  have HD : Hid (∀ t u, (fl Q)[t]? = some u → w2.cell? ((⟨g, j * 2, none⟩ : Addr).add t) = some u) := by
    have h1 : Bk w2 g ((fl P ++ (fl V ++ Z2)) ++ (fl Q ++ T)) := by
      have := HB2.out
      rw [← List.append_assoc (fl V), ← List.append_assoc (fl P)] at this
      exact this
    have h2 := h1.cells
    rw [List.length_append, List.length_append, HX1.out, fl_len, HV.out, HZ2.out, ← Nat.add_assoc, HE2.out] at h2
    exact Lib.hid h2
  have HB3 : Hid (Bk w2 g ((fl P ++ fl V) ++ (Y ++ (Y2 ++ W)))) := Lib.hid (by have := HB2.out; rw [HY.out, ← List.append_assoc] at this; exact this)
  clear HM2 HB2
  go_wp2_with fail
  go_region_held3 (fun _ => True) (exact trivial)
    (first | (refine step_copy_two (by rfl) (.tmp 103) (.tmp 106) (by rfl) g ((i + m) * 2) d (c - (i + m)) ⟨g, j * 2, none⟩ d (c - j) (by rfl) (by rfl) (fl P ++ fl V) Y (Y2 ++ W) (fl Q) (show Bk _ g (fl P ++ fl V ++ (Y ++ (Y2 ++ W))) from HB3.out) (by rw [List.length_append, HX1.out, fl_len, HV.out]; exact HE.out.symm) (by rw [HX2.out, HK3.out]) (by rw [HX2.out, HY1.out]) HD.out (fun u hu => fl_cells u Q hu) ?_; intro w3 HB4 HM4))
  have HM' : Hid (Mv (fun k => k = g) w w3) := Lib.hid (HM.out.trans ⟨HM4.out.os, HM4.out.tape, HM4.out.output, HM4.out.size, HM4.out.block⟩ (fun _ => Or.inl))
  have HB5 : Hid (Bk w3 g ((fl P ++ fl V ++ fl Q) ++ (Y2 ++ W))) := Lib.hid (by have := HB4.out; rw [← List.append_assoc (fl P ++ fl V)] at this; exact this)
  have HLN : Hid (((fl P ++ fl V) ++ (fl Q ++ (Y2 ++ W))).length = c * 2) := Lib.hid (by
    have h1 := HT.out
    have h2 := congrArg List.length HY.out
    simp only [List.length_append, HX1.out, HX2.out, HZ1.out, HZ2.out, HY1.out, HY2.out, fl_len, HV.out] at h1 h2 ⊢
    omega)
  clear g8 g9 g10 HM4 HM HB4 HB3
  have k1 : (0 : Int) ≤ (i : Int) + (m : Int) + (d : Int) := by omega
  have k2 : ((i : Int) + (m : Int) + (d : Int)).toNat = i + m + d := by omega
  have k3 : (i : Int) + (m : Int) + (d : Int) ≤ (n : Int) := by omega
  by_cases hz : i + m = j
  · have hz0 : n - (i + m + d) = 0 := by omega
    have hcl := fun ty a cc => clear_none w3 ty a cc
    have hle : i + m + d ≤ c := by omega
    clear hz
    by_cases hcn : c = i + m + d
    all_goals
      go_wp2_with fail
      first | (rw [hcl]; go_wp2_with fail) | skip
      go_ret
      exact ⟨_, rfl, ow_of (by have := HB5.out; rw [List.append_assoc (fl P ++ fl V)] at this; exact this) HN.out hle (by unfold maxLen; omega) (by have := HLN.out; simp only [List.length_append] at this ⊢; omega), HM'.out.more (fun k hk => Or.inl (by rw [hk]; rfl)), fun g' hg' => Or.inl hg'⟩
  · have hcn : ¬ (c = i + m + d) := by omega
    obtain ⟨w4, Y3, hr4, HB6, HY3, HM6⟩ := clear_run (w := w3) 0 g ((i + m + d) * 2) (n - (i + m + d)) (c - (i + m + d)) (fl P ++ fl V ++ fl Q) Y2 W HB5.out (by rw [List.length_append, List.length_append, HX1.out, HX2.out, fl_len, HV.out]; exact HE3.out.symm) HY2.out.symm (by omega)
    go_wp2_with fail
    go_ret
    refine ⟨_, rfl, ow_of (T := Y3 ++ W) (by have := HB6.out; rw [List.append_assoc (fl P ++ fl V)] at this; exact this) HN.out (by omega) (by unfold maxLen; omega) ?_, (HM'.out.trans HM6.out (fun _ => Or.inl)).more (fun k hk => Or.inl (by rw [hk]; rfl)), fun g' hg' => Or.inl hg'⟩
    have h1 := HLN.out
    have h2 := HY3.out
    simp only [List.length_append] at h1 ⊢
    omega

end Go.Proofs.Ytcffoebpgjonmaa.Iv

namespace Go.Proofs.Ytcffoebpgjonmaa.Iv
open Go.RowKit

/-- append where there is room: the row's own block. -/
theorem wpList_room {w : World} {ops : Array Oper} {rest : List Oper} {o : Oper} {a : Act} {Q : Exit → Act → World → Prop} (hgd : o.guard = none) (d s : Operand)
    (ho : o.op = .call { callee := .builtin .append, args := #[d, s], argTypes := #[23, 23] }) (g i c m cv : Nat) (ad : Addr) (hd : a.eval d = .slice (some ⟨g, 0, none⟩) i c) (hs : a.eval s = .slice (some ad) m cv)
    (x y z cs : List Value) (hg : Bk w g (x ++ (y ++ z))) (hx : x.length = i * 2) (hn : cs.length = m * 2) (hy : cs.length = y.length) (hc : i + m ≤ c)
    (hsrc : ∀ j v, cs[j]? = some v → w.cell? (ad.add j) = some v) (h1 : ∀ v ∈ cs, v.oneCell' = true)
    (h : ∀ w', Hid (Bk w' g (x ++ (cs ++ z))) → Hid (Mv (fun k => k = g) w w') → wpList Try.prog ops Q rest (a.put o.dst (.slice (some ⟨g, 0, none⟩) (i + m) c)) w') : wpList Try.prog ops Q (o :: rest) a w := by
  obtain ⟨i0, hi, hz0, hz1, hz2⟩ := info_parts info_ext
  have hrun := run_append_room (P := Try.prog) w 23 o.type 49 i0 Try.underlying23 hi g i c _ hg ad m cv cs (by rw [hz1, hn]) hsrc h1 hc (by rw [hz1]; simp; omega)
  have hrow : (x ++ (y ++ z)).toArray.toList.take (i * i0.size) ++ cs ++ (x ++ (y ++ z)).toArray.toList.drop (i * i0.size + cs.length) = x ++ (cs ++ z) := by
    rw [hz1, ← hx, hy]; simp [List.drop_append]
  rw [hrow] at hrun
  refine wpList_plain hgd fun K hK => ?_
  unfold Oper.wp
  simp only [execOp, ho, resolve, invoke, builtin, Sem.run_bind, Sem.run_pure, Result.andThen_ok, List.map_toArray, List.map_cons, List.map_nil, hd, hs, hrun]
  exact hK _ _ (h _ (setRow_heap w g _ _ _ _ hg) (setRow_mv w g _))

set_option maxHeartbeats 1000000 in
set_option maxRecDepth 100000 in
theorem replace_tail {w : World} {g n c m cv i : Nat} {B : Option Addr} {L V : List (Int × Int)} {T : List Value} (hg : Bk w g (fl L ++ T)) (hT : (fl L ++ T).length = c * 2) (hcm : c ≤ maxLen) (hl : L.length = n) (hn : n ≤ 1000000) (hin : i < n) (hv : EV w B V) (hvl : V.length = m) (h0 : 0 < m) (hm : m ≤ 1000000) :
    Calls Try.prog 45 #[.slice (some ⟨g, 0, none⟩) n c, .int .i64 (i : Int), .int .i64 (n : Int), .slice B m cv] w (Puts (.slice (some ⟨g, 0, none⟩) n c) (L.take i ++ V ++ L.drop n) w) := by
  obtain ⟨ad, rfl, hbl, hsrc⟩ := hv.cells (by omega)
  have hnc : n ≤ c := by rw [List.length_append, fl_len] at hT; omega
  have hd0 : L.drop n = [] := List.drop_eq_nil_of_le (by omega)
  rw [hd0, List.append_nil]
  have hsplit : fl L ++ T = fl (L.take i) ++ (fl (L.drop i) ++ T) := by rw [← List.append_assoc, ← fl_app, List.take_append_drop]
  have hx1 : (fl (L.take i)).length = i * 2 := by rw [fl_len, List.length_take]; omega
  have hx2 : (fl (L.drop i)).length = (n - i) * 2 := by rw [fl_len, List.length_drop]; omega
  have hN : (L.take i ++ V).length = i + m := by rw [List.length_append, List.length_take]; omega
  rw [hsplit] at hg hT
  have g1 : ¬ ((i : Int) = (n : Int)) := by omega
  have g4 : ¬ (c = i) := by omega
  have b1 : (0 : Int) ≤ (i : Int) := by omega
  have b2 : (i : Int) ≤ (n : Int) := by omega
  have b5 : (i : Int) ≤ (c : Int) := by omega
  have b6 : (n : Int) ≤ (c : Int) := by omega
  by_cases hlt : i + m < n
  · obtain ⟨Z1, Z2, Z3, hZ, hz1, hz2⟩ := cut3 (fl (L.drop i)) (m * 2) ((n - i - m) * 2) (by omega)
    have hz3 : Z3 = [] := by
      have := congrArg List.length hZ
      rw [hx2, List.length_append, List.length_append] at this
      exact List.eq_nil_of_length_eq_zero (by omega)
    subst hz3
    rw [List.append_nil] at hZ
    rw [hZ] at hg hT
    have HG : Hid (Bk w g (fl (L.take i) ++ (Z1 ++ (Z2 ++ T)))) := Lib.hid (by rw [List.append_assoc] at hg; exact hg)
    have HT := Lib.hid hT
    have HV := Lib.hid hvl
    have HS := Lib.hid hsrc
    have HX1 := Lib.hid hx1
    have HX2 := Lib.hid hx2
    have HZ1 := Lib.hid hz1
    have HZ2 := Lib.hid hz2
    have HN := Lib.hid hN
    have HE : Hid (i * 2 + m * 2 = (i + m) * 2) := Lib.hid (by omega)
    have g5 : ¬ (c = i + m) := by omega
    have g6 : (i : Int) + (m : Int) < (n : Int) := by omega
    unfold maxLen at hcm
    clear hg hv hl hvl hsrc hx1 hx2 hT hsplit hZ hz1 hz2 hN hd0
    generalize hP : L.take i = P at *
    generalize L.drop i = Q at *
    clear hP
    go_enter Try.func45, Try.ntmps45
    go_wp2_with (at_builtin; refine wpList_room rfl (.tmp 32) (.tmp 33) rfl g i c m cv ad rfl rfl (fl P) Z1 (Z2 ++ T) (fl V) HG.out HX1.out (by rw [fl_len, HV.out]) (by rw [fl_len, HV.out, HZ1.out]) (by omega) HS.out (fun u hu => fl_cells u V hu) ?_; intro w2 HB2 HM2)
    obtain ⟨w4, Y3, hr4, HB6, HY3, HM6⟩ := clear_run (w := w2) 0 g ((i + m) * 2) (n - (i + m)) (c - (i + m)) (fl P ++ fl V) Z2 T (by rw [List.append_assoc]; exact HB2.out) (by rw [List.length_append, HX1.out, fl_len, HV.out]; exact HE.out.symm) (by rw [HZ2.out]; omega) (by omega)
    go_wp2_with fail
    first | (rw [hr4]; go_wp2_with fail) | skip
    go_ret
    have hb : Bk w4 g (fl (P ++ V) ++ (Y3 ++ T)) := by rw [fl_app]; exact HB6.out
    have ho := Ow.of_block (L := P ++ V) (c := c) (by rw [HN.out]; omega) (by unfold maxLen; omega) (by
      have h1 := HT.out
      have h2 := HY3.out
      simp only [List.length_append, fl_app, fl_len, HX1.out, HZ1.out, HV.out] at h1 h2 ⊢
      have h3 := HX1.out
      rw [fl_len] at h3
      omega) hb
    rw [HN.out] at ho
    exact ⟨_, rfl, ho, (HM2.out.trans HM6.out (fun _ => Or.inl)).more (fun k hk => Or.inl (by rw [hk]; rfl)), fun g' hg' => Or.inl hg'⟩
  · obtain ⟨i0, hi, hz0, hz1, hz2⟩ := info_parts info_ext
    have hO : w.ownsRow 0 49 2 (.slice (some ⟨g, 0, none⟩) i c) i (fl (L.take i)) := by
      have hlp : (L.take i).length = i := by rw [List.length_take]; omega
      have := Ow.of_block (L := L.take i) (c := c) (by omega) hcm hT hg
      unfold Ow at this
      rwa [hlp] at this
    have HO := Lib.hid hO
    have HZ := Lib.hid (And.intro hi (And.intro hz0 (And.intro hz1 hz2)))
    have HV := Lib.hid hvl
    have HS := Lib.hid hsrc
    have HN := Lib.hid hN
    have g6 : ¬ ((i : Int) + (m : Int) < (n : Int)) := by omega
    unfold maxLen at hcm
    clear hO hi hz0 hz1 hz2 hg hv hl hvl hsrc hx1 hx2 hT hsplit hN hd0
    generalize hP : L.take i = P at *
    clear hP
    go_enter Try.func45, Try.ntmps45
    go_wp2_with (at_builtin; refine wpList_append_own_at _ rfl (.tmp 32) (.tmp 33) 23 rfl 0 49 i0 _ 2 16 Try.underlying23 HZ.out.1 HZ.out.2.1 HZ.out.2.2.1 HZ.out.2.2.2 rfl (by omega) _ i (fl P) rfl HO.out ad m cv (fl V) rfl (by rw [fl_len, HV.out]) HS.out (fun u hu => fl_cells u V hu) (by unfold maxLen; omega) (by omega) (Nat.zero_le _) ?_; intro v w1 hown hgrow hnn hat; obtain ⟨g2, cap2, rfl, _, _⟩ := hown.form (by omega); have HOW := Lib.hid hown; have HGR := Lib.hid hgrow; have HAT := Lib.hid hat; clear hown hgrow hat hnn)
    go_ret
    refine ⟨_, rfl, ?_, grown_mv HGR.out, fun g' hg' => ?_⟩
    · show World.ownsRow _ _ _ _ _ _ _
      rw [HN.out, fl_app]; exact HOW.out
    · rcases HAT.out with h | h
      · exact Or.inl (h.symm.trans hg')
      · have h' := h.symm.trans hg'
        injection h' with h'; exact Or.inr (Nat.le_of_eq h')

theorem replace_any {w : World} {A B : Option Addr} {n c m cv i j : Nat} {L V : List (Int × Int)} (h : Ow w (.slice A n c) L) (hv : Ow w (.slice B m cv) V) (hap : ∀ g, (Value.slice A n c).ownBlock = some g → (Value.slice B m cv).ownBlock ≠ some g)
    (hl : L.length = n) (hvl : V.length = m) (hij : i < j) (hjn : j ≤ n) (hn : n ≤ 1000000) (h0 : 0 < m) (hm : m ≤ 1000000) :
    Calls Try.prog 45 #[.slice A n c, .int .i64 (i : Int), .int .i64 (j : Int), .slice B m cv] w (Puts (.slice A n c) (L.take i ++ V ++ L.drop j) w) := by
  rcases h.form with ⟨h1, rfl⟩ | ⟨g, c', T, h1, hc1, hc2, hT, hg⟩
  · rw [List.length_nil] at hl; omega
  · injection h1 with e1 _ e3
    subst e1 e3
    rcases hv.form with ⟨_, rfl⟩ | ⟨gv, cv', TV, h2, _, _, _, hgv⟩
    · rw [List.length_nil] at hvl; omega
    · have hev : EV w B V := by
        obtain ⟨B', c', e, _, _, h'⟩ := hv.ev
        injection e with e1 _ _
        rw [e1]; exact h'
      injection h2 with e4 _ e6
      subst e4 e6
      by_cases hj : j = n
      · subst hj
        exact replace_tail (cv := cv) hg hT hc2 hl hn hij hev hvl h0 hm
      · by_cases hc : i + m + (n - j) ≤ c
        · have hne : g ≠ gv := fun e => hap g rfl (by rw [e]; rfl)
          by_cases him : i + m ≤ j
          · exact replace_fit hg hT hc2 hl hn (by omega) rfl hgv hne hvl h0 him
          · exact replace_shift hg hT hc2 hl hn hij (by omega) rfl hgv hne hvl h0 hm hc (by omega)
        · exact replace_grow (cv := cv) hg hT hl hn hij (by omega) rfl hev hvl h0 hm (by omega)

set_option maxHeartbeats 1000000 in
set_option maxRecDepth 100000 in
/-- Nothing is taken out: what is put in goes between. -/
theorem replace_none {w : World} {A B : Option Addr} {n c m cv i : Nat} {L V : List (Int × Int)} (h : Ow w (.slice A n c) L) (hv : Ow w (.slice B m cv) V) (hap : ∀ g, (Value.slice A n c).ownBlock = some g → (Value.slice B m cv).ownBlock ≠ some g)
    (hl : L.length = n) (hvl : V.length = m) (hin : i ≤ n) (hn : n ≤ 1000000) (h0 : 0 < m) (hm : m ≤ 1000000) :
    Calls Try.prog 45 #[.slice A n c, .int .i64 (i : Int), .int .i64 (i : Int), .slice B m cv] w (Puts (.slice A n c) (L.take i ++ V ++ L.drop i) w) := by
  have H := Lib.hid (insert_any h hv hap hl hvl hin hn h0 hm)
  obtain ⟨_, hnc⟩ : ∃ x, n ≤ c := by
    obtain ⟨A', c', e, h1, _⟩ := h.ev
    injection e with _ _ e3
    exact ⟨0, by omega⟩
  have hnil : A = none → n = 0 ∧ c = 0 := fun e => by
    subst e
    rcases h.form with ⟨h1, _⟩ | ⟨g, c', T, h1, _⟩
    · injection h1 with _ e2 e3; exact ⟨e2, e3⟩
    · injection h1 with e1 _ _; cases e1
  have b1 : (0 : Int) ≤ (i : Int) := by omega
  have b2 : (i : Int) ≤ (c : Int) := by omega
  have b3 : (i : Int) ≤ (n : Int) := by omega
  clear h hv hap hl hvl
  generalize L.take i ++ V ++ L.drop i = M at *
  by_cases hci : c = i
  · subst hci
    go_enter Try.func45, Try.ntmps45
    go_wp2_with fail
    refine H.out.mono ?_
    rintro e w' ⟨v, rfl, h1, h2, h3⟩
    have HH := Lib.hid (And.intro h1 (And.intro h2 h3))
    clear h1 h2 h3
    go_wp2
    go_ret
    exact ⟨v, rfl, HH.out.1, HH.out.2.1, HH.out.2.2⟩
  · go_enter Try.func45, Try.ntmps45
    go_wp2_with fail
    refine H.out.mono ?_
    rintro e w' ⟨v, rfl, h1, h2, h3⟩
    have HH := Lib.hid (And.intro h1 (And.intro h2 h3))
    clear h1 h2 h3
    go_wp2
    go_ret
    exact ⟨v, rfl, HH.out.1, HH.out.2.1, HH.out.2.2⟩

end Go.Proofs.Ytcffoebpgjonmaa.Iv
