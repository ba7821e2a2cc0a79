/- Proved: slices.Insert of extents into a row of the program's own: what stood ahead, what is put in, what stood behind, in the row's own block or in a new one. -/
import Derived.Test.YthaiddhbifakhaaICp
import Derived.Deep.RegionHeld3
import Derived.Deep.DrawnRows
import Derived.IntWalk
namespace Go.Proofs.Ythaiddhbifakhaa.Iv
open Go.RowKit

/-- A call hands back the list L in the row's own block or in a new one, and writes no other block. -/
def Puts (v0 : Value) (L : List (Int × Int)) (w : World) (e : Ending) (w' : World) : Prop :=
  ∃ v, e = .returned v ∧ Ow w' v L ∧ Mv (fun g => v0.ownBlock = some g) w w' ∧ ∀ g, v.ownBlock = some g → v0.ownBlock = some g ∨ w.heap.size ≤ g

set_option maxHeartbeats 1000000 in
set_option maxRecDepth 100000 in
theorem insert_end {w : World} {A B : Option Addr} {n c m cv : Nat} {L V : List (Int × Int)} (h : Ow w (.slice A n c) L) (hl : L.length = n) (hn : n ≤ 1000000) (hv : EV w B V) (hvl : V.length = m) (h0 : 0 < m) (hm : m ≤ 1000000) :
    Calls Try.prog 62 #[.slice A n c, .int .i64 (n : Int), .slice B m cv] w (Puts (.slice A n c) (L ++ V) w) := by
  obtain ⟨i0, hi, hz0, hz1, hz2⟩ := info_parts info_ext
  obtain ⟨ad, rfl, _, hsrc⟩ := hv.cells (by omega)
  have H := Lib.hid h
  have HL := Lib.hid hl
  have HV := Lib.hid hvl
  have HS := Lib.hid hsrc
  have HZ := Lib.hid (And.intro hi (And.intro hz0 (And.intro hz1 hz2)))
  have HO : Hid (w.ownsRow 0 75 2 (.slice A n c) n (fl L)) := Lib.hid (by have := h; unfold Ow at this; rwa [hl] at this)
  have g1 : ¬ ((m : Int) = 0) := by omega
  have hnc : n ≤ c := by
    obtain ⟨A', c', e, h1, _⟩ := h.ev
    injection e with _ _ e3
    omega
  clear h hl hv hvl hsrc hi hz0 hz1 hz2
  by_cases hA : c = n
  all_goals
    go_enter Try.func62, Try.ntmps62
    go_wp2_with (at_builtin; refine wpList_append_own_at _ rfl (.tmp 23) (.tmp 24) 47 rfl 0 75 i0 _ 2 16 Try.underlying47 HZ.out.1 HZ.out.2.1 HZ.out.2.2.1 HZ.out.2.2.2 rfl (by omega) _ n (fl L) rfl HO.out ad m cv (fl V) rfl (by rw [fl_len, HV.out]) HS.out (fun u hu => fl_cells u V hu) (by unfold maxLen; omega) (by omega) (Nat.zero_le _) ?_; intro v w1 hown hgrow hnn hat)
    go_ret
    refine ⟨v, rfl, ?_, grown_mv hgrow, fun g hg => ?_⟩
    · show World.ownsRow _ _ _ _ _ _ _
      rw [List.length_append, HL.out, HV.out, fl_app]; exact hown
    · rcases hat with h | h
      · rw [h] at hg; exact Or.inl hg
      · rw [h] at hg; injection hg with hg; exact Or.inr (Nat.le_of_eq hg)


theorem add_block (a : Addr) (j : Nat) : (a.add j).block = a.block := by unfold Addr.add; split <;> rfl
/-- Cells that were read there are read there still. -/
theorem news_on {w w' : World} {F : Nat → Prop} {ad : Addr} {cs : List Value} (hm : Mv F w w') (hl : ad.block < w.heap.size) (hF : ¬ F ad.block) (h : ∀ j u, cs[j]? = some u → w.cell? (ad.add j) = some u) : ∀ j u, cs[j]? = some u → w'.cell? (ad.add j) = some u := fun j u hj =>
  (World.cell?_of_block (a := ad.add j) (by rw [add_block]; exact hm.block _ hl hF)).trans (h j u hj)
theorem news_at {w w' : World} {ad : Addr} {cs : List Value} (hm : At w w') (hl : ad.block < w.heap.size) (h : ∀ j u, cs[j]? = some u → w.cell? (ad.add j) = some u) : ∀ j u, cs[j]? = some u → w'.cell? (ad.add j) = some u :=
  news_on (Mv.of_below (fun _ => False) hm) hl (fun h => h) h
theorem cut3 (Z : List Value) (a b : Nat) (h : a + b ≤ Z.length) : ∃ Z1 Z2 Z3, Z = Z1 ++ (Z2 ++ Z3) ∧ Z1.length = a ∧ Z2.length = b :=
  ⟨Z.take a, (Z.drop a).take b, (Z.drop a).drop b, by rw [List.take_append_drop, List.take_append_drop], by rw [List.length_take]; omega, by rw [List.length_take, List.length_drop]; omega⟩
theorem mv_drew {F : Nat → Prop} {w w' : World} (h : Mv F w.drew w') : Mv F w w' := ⟨h.os, h.tape, h.output, h.size, h.block⟩
theorem ow_of {w : World} {g c N : Nat} {P V Q : List (Int × Int)} {T : List Value} (hB : Bk w g ((fl P ++ fl V) ++ (fl Q ++ T))) (hN : (P ++ V ++ Q).length = N) (hc : N ≤ c) (hm : c ≤ maxLen) (hl : ((fl P ++ fl V) ++ (fl Q ++ T)).length = c * 2) : Ow w (.slice (some ⟨g, 0, none⟩) N c) (P ++ V ++ Q) := by
  subst hN
  have e : (fl P ++ fl V) ++ (fl Q ++ T) = fl (P ++ V ++ Q) ++ T := by rw [fl_app, fl_app, List.append_assoc, List.append_assoc, List.append_assoc]
  rw [e] at hB hl
  exact Ow.of_block hc hm hl hB
theorem min_le_sub {n m i : Nat} (hi : i ≤ n) : Nat.min m (n + m - i) = m := Nat.min_eq_left (by omega)

set_option maxHeartbeats 1000000 in
set_option maxRecDepth 100000 in
theorem insert_grow {w : World} {g n c m cv i : Nat} {B : Option Addr} {L V : List (Int × Int)} {T : List Value} (hg : Bk w g (fl L ++ T)) (hT : (fl L ++ T).length = c * 2) (hl : L.length = n) (hn : n ≤ 1000000) (hin : i < n) (hv : EV w B V) (hvl : V.length = m) (h0 : 0 < m) (hm : m ≤ 1000000) (hc : c < n + m) :
    Calls Try.prog 62 #[.slice (some ⟨g, 0, none⟩) n c, .int .i64 (i : Int), .slice B m cv] w (Puts (.slice (some ⟨g, 0, none⟩) n c) (L.take i ++ V ++ L.drop i) w) := by
  obtain ⟨ad, rfl, hbl, hsrc⟩ := hv.cells (by omega)
  obtain ⟨k, hk⟩ : ∃ k, k = n + m - i := ⟨_, rfl⟩
  have hk1 : (n : Int) + (m : Int) - (i : Int) = (k : Int) := by omega
  have hk2 : i + k = n + m := by omega
  have hsplit : fl L ++ T = fl (L.take i) ++ (fl (L.drop i) ++ T) := by rw [← List.append_assoc, ← fl_app, List.take_append_drop]
  have hx1 : (fl (L.take i)).length = i * 2 := by rw [fl_len, List.length_take]; omega
  have hx2 : (fl (L.drop i)).length = (n - i) * 2 := by rw [fl_len, List.length_drop]; omega
  have hnc : n ≤ c := by rw [List.length_append, fl_len] at hT; omega
  rw [hsplit] at hg
  have hd := hg.cells
  rw [hx1] at hd
  have hgl := hg.lt
  have HG := Lib.hid hg
  have HD := Lib.hid hd
  have HV := Lib.hid hvl
  have HS := Lib.hid hsrc
  have HX1 := Lib.hid hx1
  have HX2 := Lib.hid hx2
  have HK2 := Lib.hid hk2
  have HFL : Hid (fl (L.take i ++ V ++ L.drop i) = fl (L.take i) ++ (fl V ++ fl (L.drop i))) := Lib.hid (by rw [fl_app, fl_app, List.append_assoc])
  have HLL : Hid ((L.take i ++ V ++ L.drop i).length = i + k) := Lib.hid (by rw [List.length_append, List.length_append, List.length_take, List.length_drop]; omega)
  have g1 : ¬ ((m : Int) = 0) := by omega
  have g2 : ¬ ((i : Int) = (n : Int)) := by omega
  have g3 : (c : Int) < (n : Int) + (m : Int) := by omega
  have g4 : ¬ (c = i) := by omega
  clear hk hg hd hv hl hvl hsrc hx1 hx2 hT hsplit
  generalize hP : L.take i = P at *
  generalize hQ : L.drop i = Q at *
  clear hP hQ
  go_enter Try.func62, Try.ntmps62
  go_wp2_with (at_builtin; refine wpList_zeros rfl (.tmp 34) (.tmp 39) rfl g i c k rfl rfl (fl P) (fl Q ++ T) HG.out HX1.out (by omega) (by have := HK2.out; omega) (by have := HK2.out; omega) ?_; intro w1 G Z HB HBL hG1 hG2 HA)
  obtain ⟨Z1, Z2, Z3, hZ, hz1, hz2⟩ := cut3 Z (m * 2) ((n - i) * 2) (by have h1 := HBL.out; rw [List.length_append, HX1.out] at h1; have := HK2.out; omega)
  have HZ := Lib.hid hZ
  have HZ1 := Lib.hid hz1
  have HZ2 := Lib.hid hz2
  have g5 : ¬ (G = i) := by have := HK2.out; omega
  have g6 : ¬ (G = i + m) := by have := HK2.out; omega
  clear hZ hz1 hz2
  obtain ⟨w2, hr2, HB2, HM2⟩ := copy_run m w.heap.size (i * 2) (n + m - i) (G - i) ad m cv (fl P) Z1 (Z2 ++ Z3) (fl V) (by rw [← HZ.out]; exact HB.out) HX1.out.symm (min_le_sub (show i ≤ n by omega)) (by rw [fl_len, HV.out]) (by rw [fl_len, HV.out, HZ1.out]) (news_at HA.out hbl HS.out) (fun u hu => fl_cells u V hu)
  have HB3 : Hid (Bk w2 w.heap.size ((fl P ++ fl V) ++ (Z2 ++ Z3))) := Lib.hid (by rw [List.append_assoc]; exact HB2.out)
  have HD3 := Lib.hid (news_on (ad := ⟨g, i * 2, none⟩) HM2.out (Nat.lt_of_lt_of_le hgl HA.out.size) (show ¬ g = w.heap.size by omega) (news_at HA.out hgl HD.out))
  clear HB2 HB HD HG
  go_wp2_with fail
  rw [hr2]
  go_wp2_with fail
  have HK3 : Hid (Nat.min (n - i) (n + m - (i + m)) = n - i) := Lib.hid (Nat.min_eq_left (by omega))
  have HE : Hid (i * 2 + m * 2 = (i + m) * 2) := Lib.hid (by omega)
  have g7 : IntKind.i64.wrap ((i : Int) + (m : Int)) = (i : Int) + (m : Int) := IntWalk.i64_in _ (by omega)
  have g8 : (0 : Int) ≤ (i : Int) + (m : Int) := by omega
  have g9 : ((i : Int) + (m : Int)).toNat = i + m := by omega
  have g10 : (i : Int) + (m : Int) ≤ (n : Int) + (m : Int) := by omega
  have g11 : (0 : Int) ≤ (i : Int) := by omega
  have g12 : (i : Int) ≤ (n : Int) := by omega
  go_region_held3 (fun _ => True) (exact trivial)
    (first | (refine step_copy_two (by rfl) (.tmp 50) (.tmp 53) (by rfl) w.heap.size ((i + m) * 2) (n + m - (i + m)) (G - (i + m)) ⟨g, i * 2, none⟩ (n - i) (c - i) (by rfl) (by rfl) (fl P ++ fl V) Z2 Z3 (fl Q) (show Bk w2.drew w.heap.size (fl P ++ fl V ++ (Z2 ++ Z3)) from HB3.out) (by rw [List.length_append, HX1.out, fl_len, HV.out]; exact HE.out.symm) (by rw [HX2.out, HK3.out]) (by rw [HX2.out, HZ2.out]) HD3.out (fun u hu => fl_cells u Q hu) ?_; intro w3 HB4 HM4))
  clear g7 g8 g9 g10 g11 g12
  go_wp2
  go_ret
  refine ⟨_, rfl, ow_of HB4.out (HLL.out.trans HK2.out) (by have := HK2.out; omega) hG2 ?_, ?_, fun g' hg' => ?_⟩
  · have h1 := HBL.out
    rw [HZ.out] at h1
    simp only [List.length_append, HX1.out, HX2.out, HZ1.out, HZ2.out, fl_len, HV.out] at h1 ⊢
    omega
  · exact (Mv.of_below _ (HA.out)).trans (HM2.out.trans (mv_drew HM4.out) (fun _ => Or.inl)) (fun g h => Or.inr (by rw [h]; exact Nat.le_refl _))
  · injection hg' with hg'
    exact Or.inr (by rw [← hg']; exact Nat.le_refl _)


/-- Two rows in two blocks do not overlap. -/
theorem overlaps_no {w : World} {ga gb oa ob la ca lb cb : Nat} {xa xb : List Value} (ha : Bk w ga xa) (hb : Bk w gb xb) (hne : ga ≠ gb) (hx : xb ≠ []) :
    (callFunc 63 #[.slice (some ⟨ga, oa, none⟩) la ca, .slice (some ⟨gb, ob, none⟩) lb cb]).run Try.prog w = .ok (.value (.bool false)) w := by
  have hs : ∀ w, (sizeOf 75).run Try.prog w = .ok 2 w := fun w => by
    obtain ⟨i, hi, _, hz, _⟩ := info_parts info_ext
    simp [sizeOf, typeInfo, hi, hz]
  have ha : w.heap[ga]? = some (.cells xa.toArray 75 (0, 0)) := ha
  have hb : w.heap[gb]? = some (.cells xb.toArray 75 (0, 0)) := hb
  rw [run_callFunc_extern Try.func63 (by kernel_rfl) (by kernel_rfl) (by kernel_rfl) (e := Extern.SlicesOverlaps.overlaps #[47, 47] #[4]) (by kernel_rfl),
    Lib.run_overlaps_apart w 47 4 75 Try.underlying47 2 hs ⟨ga, oa, none⟩ ⟨gb, ob, none⟩ la ca lb cb hne 75 75 xa.length xb.length
      (by simp [World.shape?, ha]) (by simp [World.shape?, hb]) (fun h => hx (List.eq_nil_of_length_eq_zero h)) (free_at ha _) (free_at ha _)]
  rfl

set_option maxHeartbeats 1000000 in
set_option maxRecDepth 100000 in
theorem insert_shift {w : World} {g gv n c m cv i : Nat} {L V : List (Int × Int)} {T TV : List Value} (hg : Bk w g (fl L ++ T)) (hT : (fl L ++ T).length = c * 2) (hcm : c ≤ maxLen) (hl : L.length = n) (hn : n ≤ 1000000) (hin : i < n) (hv : Bk w gv (fl V ++ TV)) (hne : gv ≠ g) (hvl : V.length = m) (h0 : 0 < m) (hm : m ≤ 1000000) (hc : n + m ≤ c) :
    Calls Try.prog 62 #[.slice (some ⟨g, 0, none⟩) n c, .int .i64 (i : Int), .slice (some ⟨gv, 0, none⟩) m cv] w (Puts (.slice (some ⟨g, 0, none⟩) n c) (L.take i ++ V ++ L.drop i) w) := by
  have hx1 : (fl (L.take i)).length = i * 2 := by rw [fl_len, List.length_take]; omega
  have hx2 : (fl (L.drop i)).length = (n - i) * 2 := by rw [fl_len, List.length_drop]; omega
  have hN : (L.take i ++ V ++ L.drop i).length = n + m := by rw [List.length_append, List.length_append, List.length_take, List.length_drop]; omega
  have hov := fun la ca lb cb oa ob => overlaps_no (la := la) (ca := ca) (lb := lb) (cb := cb) (oa := oa) (ob := ob) hv hg hne (by intro e; rw [e] at hT; simp at hT; omega)
  have hsrcV : ∀ j u, (fl V)[j]? = some u → w.cell? ((⟨gv, 0, none⟩ : Addr).add j) = some u := Bk.cells (x := []) (z := TV) hv
  have hsplit : fl L ++ T = fl (L.take i) ++ (fl (L.drop i) ++ T) := by rw [← List.append_assoc, ← fl_app, List.take_append_drop]
  rw [hsplit] at hg hT
  have hd := hg.cells
  rw [hx1] at hd
  obtain ⟨Z1, Z2, Z3, hZ, hz1, hz2⟩ := cut3 (fl (L.drop i) ++ T) (m * 2) ((n - i) * 2) (by rw [List.length_append, hx1] at hT; omega)
  rw [hZ] at hg hT
  have hgl := hv.lt
  have HG : Hid (Bk w g ((fl (L.take i) ++ Z1) ++ (Z2 ++ Z3))) := Lib.hid (by rw [List.append_assoc]; exact hg)
  have HD := Lib.hid hd
  have HT := Lib.hid hT
  have HV := Lib.hid hvl
  have HS := Lib.hid hsrcV
  have HX1 := Lib.hid hx1
  have HX2 := Lib.hid hx2
  have HZ1 := Lib.hid hz1
  have HZ2 := Lib.hid hz2
  have HN := Lib.hid hN
  have g1 : ¬ ((m : Int) = 0) := by omega
  have g2 : ¬ ((i : Int) = (n : Int)) := by omega
  have g3 : ¬ ((c : Int) < (n : Int) + (m : Int)) := by omega
  have g4 : ¬ (c = i) := by omega
  have g5 : ¬ (c = i + m) := by omega
  unfold maxLen at hcm
  clear hg hd hv hl hvl hsrcV hx1 hx2 hT hsplit hZ hz1 hz2 hN
  generalize hP : L.take i = P at *
  generalize hQ : L.drop i = Q at *
  clear hP hQ
  have HK3 : Hid (Nat.min (n + m - i) (n + m - (i + m)) = n - i) := Lib.hid ((Nat.min_eq_right (by omega)).trans (by omega))
  have HE : Hid (i * 2 + m * 2 = (i + m) * 2) := Lib.hid (by omega)
  have g7 : IntKind.i64.wrap ((i : Int) + (m : Int)) = (i : Int) + (m : Int) := IntWalk.i64_in _ (by omega)
  have g8 : (0 : Int) ≤ (i : Int) + (m : Int) := by omega
  have g9 : ((i : Int) + (m : Int)).toNat = i + m := by omega
  have g10 : (i : Int) + (m : Int) ≤ (n : Int) + (m : Int) := by omega
  have g11 : (0 : Int) ≤ (i : Int) := by omega
  have g12 : (i : Int) ≤ (n : Int) := by omega
  have g13 : (i : Int) ≤ (n : Int) + (m : Int) := by omega
  go_enter Try.func62, Try.ntmps62
  go_wp2_with (simp only [hov])
  clear hov
  go_region_held3 (fun _ => True) (exact trivial)
    (first | (refine step_copy_two (by rfl) (.tmp 73) (.tmp 76) (by rfl) g ((i + m) * 2) (n + m - (i + m)) (c - (i + m)) ⟨g, i * 2, none⟩ (n + m - i) (c - i) (by rfl) (by rfl) (fl P ++ Z1) Z2 Z3 (fl Q) (show Bk w.drew g (fl P ++ Z1 ++ (Z2 ++ Z3)) from HG.out) (by rw [List.length_append, HX1.out, HZ1.out]; exact HE.out.symm) (by rw [HX2.out, HK3.out]) (by rw [HX2.out, HZ2.out]) HD.out (fun u hu => fl_cells u Q hu) ?_; intro w2 HB2 HM2))
  clear g7 g8 g9 g10
  obtain ⟨w3, hr3, HB3, HM3⟩ := copy_run m g (i * 2) (n + m - i) (c - i) ⟨gv, 0, none⟩ m cv (fl P) Z1 (fl Q ++ Z3) (fl V) (by rw [← List.append_assoc]; exact HB2.out) HX1.out.symm (min_le_sub (show i ≤ n by omega)) (by rw [fl_len, HV.out]) (by rw [fl_len, HV.out, HZ1.out]) (news_on (ad := ⟨gv, 0, none⟩) (mv_drew HM2.out) hgl (show ¬ gv = g from hne) HS.out) (fun u hu => fl_cells u V hu)
  go_wp2_with fail
  go_ret
  refine ⟨_, rfl, ow_of (by rw [List.append_assoc]; exact HB3.out) HN.out hc (by unfold maxLen; omega) ?_, ?_, fun g' hg' => Or.inl hg'⟩
  · have h1 := HT.out
    simp only [List.length_append, HX1.out, HX2.out, HZ1.out, HZ2.out, fl_len, HV.out] at h1 ⊢
    omega
  · exact ((mv_drew HM2.out).trans HM3.out (fun _ => Or.inl)).more (fun k hk => Or.inl (by rw [hk]; rfl))

end Go.Proofs.Ythaiddhbifakhaa.Iv
