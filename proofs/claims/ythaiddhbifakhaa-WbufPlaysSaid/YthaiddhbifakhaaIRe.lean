/- Proved: slices.Replace of extents in a row of the program's own: what stood ahead, what is put in, what stood behind. -/
import Derived.Test.YthaiddhbifakhaaIIn
namespace Go.Proofs.Ythaiddhbifakhaa.Iv
open Go.RowKit

theorem insert_any {w : World} {A B : Option Addr} {n c m cv i : Nat} {L V : List (Int × Int)} (h : Ow w (.slice A n c) L) (hv : Ow w (.slice B m cv) V) (hap : ∀ g, (Value.slice A n c).ownBlock = some g → (Value.slice B m cv).ownBlock ≠ some g)
    (hl : L.length = n) (hvl : V.length = m) (hin : i ≤ n) (hn : n ≤ 1000000) (h0 : 0 < m) (hm : m ≤ 1000000) :
    Calls Try.prog 62 #[.slice A n c, .int .i64 (i : Int), .slice B m cv] w (Puts (.slice A n c) (L.take i ++ V ++ L.drop i) w) := by
  have hev : EV w B V := by
    obtain ⟨B', c', e, _, _, h'⟩ := hv.ev
    injection e with e1 _ _
    rw [e1]; exact h'
  by_cases hi : i = n
  · subst hi
    have := insert_end (cv := cv) h hl hn hev hvl h0 hm
    rwa [← hl, List.take_length, List.drop_length, List.append_nil, hl]
  · rcases h.form with ⟨h1, rfl⟩ | ⟨g, c', T, h1, hc1, hc2, hT, hg⟩
    · rw [List.length_nil] at hl; omega
    · injection h1 with e1 _ e3
      subst e1 e3
      by_cases hc : n + m ≤ c
      · rcases hv.form with ⟨_, rfl⟩ | ⟨gv, cv', TV, h2, _, _, _, hgv⟩
        · rw [List.length_nil] at hvl; omega
        · injection h2 with e4 _ e6
          subst e4 e6
          exact insert_shift hg hT hc2 hl hn (by omega) hgv (fun e => hap g rfl (by rw [← e]; rfl)) hvl h0 hm hc
      · exact insert_grow (cv := cv) hg hT hl hn (by omega) hev hvl h0 hm (by omega)

theorem cut_at {L : List (Int × Int)} {i j : Nat} (h : i ≤ j) : fl L = fl (L.take i) ++ (fl ((L.take j).drop i) ++ fl (L.drop j)) := by
  have e : L.take i = (L.take j).take i := by rw [List.take_take, Nat.min_eq_left h]
  rw [e, ← List.append_assoc, ← fl_app, List.take_append_drop, ← fl_app, List.take_append_drop]

set_option maxHeartbeats 1000000 in
set_option maxRecDepth 100000 in
/-- No room: a new row. -/
theorem replace_grow {w : World} {g n c m cv i j d : Nat} {B : Option Addr} {L V : List (Int × Int)} {T : List Value} (hg : Bk w g (fl L ++ T)) (hT : (fl L ++ T).length = c * 2) (hl : L.length = n) (hn : n ≤ 1000000) (hij : i < j) (hjn : j < n) (hd : n - j = d) (hv : EV w B V) (hvl : V.length = m) (h0 : 0 < m) (hm : m ≤ 1000000) (hc : c < i + m + d) :
    Calls Try.prog 48 #[.slice (some ⟨g, 0, none⟩) n c, .int .i64 (i : Int), .int .i64 (j : Int), .slice B m cv] w (Puts (.slice (some ⟨g, 0, none⟩) n c) (L.take i ++ V ++ L.drop j) w) := by
  obtain ⟨ad, rfl, hbl, hsrc⟩ := hv.cells (by omega)
  obtain ⟨k, hk⟩ : ∃ k, k = m + d := ⟨_, rfl⟩
  have hk1 : (i : Int) + (m : Int) + (d : Int) - (i : Int) = (k : Int) := by omega
  have hk2 : i + k = i + m + d := by omega
  have hsplit : fl L ++ T = fl (L.take i) ++ ((fl ((L.take j).drop i) ++ fl (L.drop j)) ++ T) := by rw [cut_at (Nat.le_of_lt hij), List.append_assoc]
  have hx1 : (fl (L.take i)).length = i * 2 := by rw [fl_len, List.length_take]; omega
  have hx2 : (fl (L.drop j)).length = d * 2 := by rw [fl_len, List.length_drop]; omega
  have hx3 : (fl ((L.take j).drop i)).length = (j - i) * 2 := by rw [fl_len, List.length_drop, List.length_take]; omega
  have hnc : n ≤ c := by rw [List.length_append, fl_len] at hT; omega
  rw [hsplit] at hg
  have hdd : ∀ t u, (fl (L.drop j))[t]? = some u → w.cell? ((⟨g, j * 2, none⟩ : Addr).add t) = some u := by
    have h1 : Bk w g ((fl (L.take i) ++ fl ((L.take j).drop i)) ++ (fl (L.drop j) ++ T)) := by rw [List.append_assoc, ← List.append_assoc (fl ((L.take j).drop i))]; exact hg
    have h2 := h1.cells
    rwa [List.length_append, hx1, hx3, show i * 2 + (j - i) * 2 = j * 2 by omega] at h2
  have hgl := hg.lt
  have HG := Lib.hid hg
  have HD := Lib.hid hdd
  have HV := Lib.hid hvl
  have HS := Lib.hid hsrc
  have HX1 := Lib.hid hx1
  have HX2 := Lib.hid hx2
  have HK2 := Lib.hid hk2
  have HLL : Hid ((L.take i ++ V ++ L.drop j).length = i + m + d) := Lib.hid (by rw [List.length_append, List.length_append, List.length_take, List.length_drop]; omega)
  have g1 : ¬ ((i : Int) = (j : Int)) := by omega
  have g2 : ¬ ((j : Int) = (n : Int)) := by omega
  have g3 : (c : Int) < (i : Int) + (m : Int) + (d : Int) := by omega
  have g4 : ¬ (c = i) := by omega
  have g5 : ¬ (c = j) := by omega
  have hdi : ((n : Int) - (j : Int)) = (d : Int) := by omega
  have b1 : (0 : Int) ≤ (i : Int) := by omega
  have b2 : (i : Int) ≤ (j : Int) := by omega
  have b3 : (j : Int) ≤ (c : Int) := by omega
  have b4 : (j : Int) ≤ (n : Int) := by omega
  have b5 : (i : Int) ≤ (c : Int) := by omega
  have b6 : (0 : Int) ≤ (j : Int) := by omega
  have b7 : IntKind.i64.wrap ((i : Int) + (m : Int)) = (i : Int) + (m : Int) := IntWalk.i64_in _ (by omega)
  have b8 : IntKind.i64.wrap ((i : Int) + (m : Int) + (d : Int)) = (i : Int) + (m : Int) + (d : Int) := IntWalk.i64_in _ (by omega)
  clear hk hg hdd hv hl hvl hsrc hx1 hx2 hx3 hT hsplit
  generalize hP : L.take i = P at *
  generalize hQ : L.drop j = Q at *
  clear hP hQ
  go_enter Try.func48, Try.ntmps48
  go_wp2_with fail
  go_quiet (fail)
  have HG0 : Hid (Bk (w.drewN nq) g (fl P ++ ((fl ((L.take j).drop i) ++ fl Q) ++ T))) := Lib.hid HG.out
  go_wp2_with (at_builtin; refine wpList_zeros rfl (.tmp 63) (.tmp 66) rfl g i c k rfl rfl (fl P) _ HG0.out HX1.out (by omega) (by omega) (by omega) ?_; intro w1 G Z HB HBL hG1 hG2 HA)
  have HBB : Hid (Bk w1 w.heap.size (fl P ++ Z)) := Lib.hid HB.out
  have HAA : Hid (At w w1) := Lib.hid (((At.start w).drewN nq).trans HA.out)
  clear HB HA HG0 HG
  obtain ⟨Z1, Z2, Z3, hZ, hz1, hz2⟩ := cut3 Z (m * 2) (d * 2) (by have h1 := HBL.out; rw [List.length_append, HX1.out] at h1; omega)
  have HZ := Lib.hid hZ
  have HZ1 := Lib.hid hz1
  have HZ2 := Lib.hid hz2
  have g6 : ¬ (G = i) := by omega
  have g7 : ¬ (G = i + m) := by omega
  clear hZ hz1 hz2
  obtain ⟨w2, hr2, HB2, HM2⟩ := copy_run m w.heap.size (i * 2) (i + m + d - i) (G - i) ad m cv (fl P) Z1 (Z2 ++ Z3) (fl V) (by rw [← HZ.out]; exact HBB.out) HX1.out.symm (Nat.min_eq_left (by omega)) (by rw [fl_len, HV.out]) (by rw [fl_len, HV.out, HZ1.out]) (news_at HAA.out hbl HS.out) (fun u hu => fl_cells u V hu)
  have HB3 : Hid (Bk w2 w.heap.size ((fl P ++ fl V) ++ (Z2 ++ Z3))) := Lib.hid (by rw [List.append_assoc]; exact HB2.out)
  have HD3 := Lib.hid (news_on (ad := ⟨g, j * 2, none⟩) HM2.out (Nat.lt_of_lt_of_le hgl HAA.out.size) (show ¬ g = w.heap.size by omega) (news_at HAA.out hgl HD.out))
  clear HB2 HBB HD
  go_wp2_with fail
  rw [hr2]
  go_wp2_with fail
  have HK3 : Hid (Nat.min d d = d) := Lib.hid (Nat.min_self d)
  have HE : Hid (i * 2 + m * 2 = (i + m) * 2) := Lib.hid (by omega)
  have g8 : (0 : Int) ≤ (i : Int) + (m : Int) := by omega
  have g9 : ((i : Int) + (m : Int)).toNat = i + m := by omega
  have g10 : (i : Int) + (m : Int) ≤ (i : Int) + (m : Int) + (d : Int) := by omega
  go_region_held3 (fun _ => True) (exact trivial)
    (first | (refine step_copy_two (by rfl) (.tmp 78) (.tmp 81) (by rfl) w.heap.size ((i + m) * 2) d (G - (i + m)) ⟨g, j * 2, none⟩ d (c - j) (by rfl) (by rfl) (fl P ++ fl V) Z2 Z3 (fl Q) (show Bk w2.drew w.heap.size (fl P ++ fl V ++ (Z2 ++ Z3)) from HB3.out) (by rw [List.length_append, HX1.out, fl_len, HV.out]; exact HE.out.symm) (by rw [HX2.out, HK3.out]) (by rw [HX2.out, HZ2.out]) HD3.out (fun u hu => fl_cells u Q hu) ?_; intro w3 HB4 HM4))
  clear g8 g9 g10
  go_wp2
  go_ret
  refine ⟨_, rfl, ow_of HB4.out HLL.out (by omega) hG2 ?_, ?_, fun g' hg' => ?_⟩
  · have h1 := HBL.out
    rw [HZ.out] at h1
    simp only [List.length_append, HX1.out, HX2.out, HZ1.out, HZ2.out, fl_len, HV.out] at h1 ⊢
    omega
  · exact (Mv.of_below _ (HAA.out)).trans (HM2.out.trans (mv_drew HM4.out) (fun _ => Or.inl)) (fun g h => Or.inr (by rw [h]; exact Nat.le_refl _))
  · injection hg' with hg'
    exact Or.inr (by rw [← hg']; exact Nat.le_refl _)

end Go.Proofs.Ythaiddhbifakhaa.Iv
