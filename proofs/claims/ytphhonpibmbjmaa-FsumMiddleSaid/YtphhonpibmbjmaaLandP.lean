/- Proved: what the landed mergePairs of forder gives: runs of twice the width, of just the numbers that it was handed. -/
import Derived.Test.YtphhonpibmbjmaaLandM
import Derived.StillTailTactics
namespace Go.Proofs.Ytphhonpibmbjmaa
open Go.RowKit Fl

set_option maxHeartbeats 2000000 in
set_option maxRecDepth 100000 in
theorem merge_nob (BB g n cap h oa ca cb : Nat) (aB : Option Addr) (S A : List Nat) (w : World) (hbig : n + A.length ≤ cap)
    (hown : w.ownsRow BB 25 1 (.slice (some ⟨g, 0, none⟩) n cap) n (S.map (Value.float .f64)))
    (hxA : ∀ j, j < A.length → w.cell? ⟨h, oa + j, none⟩ = some (.float .f64 (A.getD j 0))) :
    Calls Try.prog 54 #[.slice (some ⟨g, 0, none⟩) n cap, .slice (some ⟨h, oa, none⟩) A.length ca, .slice aB 0 cb] w (SomeMerge BB g n cap S (mg A []) w) := by
  obtain ⟨i0, hi, hz0, hz1, hz2⟩ := info_parts info_f64
  rw [mg_nil_r]
  have HR : Hid (Row BB w g n cap S [] w) := Lib.hid ⟨by simpa using hown, World.grownBy.refl _ _⟩
  have P1 := Lib.hid (rest_len A 0 A.length (Nat.zero_add _))
  have P2 := Lib.hid (rest_cells w h oa 0 A.length A (Nat.zero_add _) (fun t ht => by rw [Nat.zero_add]; exact hxA t ht))
  have P3 := Lib.hid (rest_one A 0)
  have hroom : n + 0 + A.length ≤ cap := by omega
  clear hxA hown
  go_enter Try.func54, Try.ntmps54
  go_wp2
  go_step3
  go_wp2
  go_step3
  go_wp2
  refine wp_loop_rounds 1 ?_
  rw [rounds_succ]
  go_wp2_with (at_builtin; refine wpList_append_fits _ rfl _ _ 22 rfl BB 25 i0 1 Try.underlying22 hi hz1 g (n + 0) cap _ rfl HR.out.1 ⟨h, oa, none⟩ A.length ca ((A.drop 0).map (Value.float .f64)) rfl P1.out P2.out P3.out hroom ?_)
  intro w2 ho2 hg2
  go_wp2
  try rw [Exit.noGoto_ret]
  go_ret
  exact merge_end (D := []) (l1 := A.length) (i := 0) (by simp) (Nat.zero_add _) HR.out hg2 (by simpa using ho2)

theorem grown_drew (w : World) (row : Option Nat) : w.grownBy w.drew row := ⟨rfl, rfl, rfl, Nat.le_refl _, fun _ _ _ => rfl⟩

def SomeSeg (BB g cap wd p e : Nat) (R : List Nat) (w : World) (en : Ending) (w' : World) : Prop :=
  ∃ D, en = .returned (.slice (some ⟨g, 0, none⟩) (p + e) cap) ∧ Hid (Paired wd R D (p + e)) ∧
    Hid (w'.ownsRow BB 25 1 (.slice (some ⟨g, 0, none⟩) (p + e) cap) (p + e) (D.map (Value.float .f64)) ∧ w.grownBy w' (some g))

/-- The pair of runs at p, merged. -/
theorem seg_some (BB g cap h off wd p gk m e lB c1 cB : Nat) (aB : Option Addr) (R D : List Nat) (w wx : World) (hpg : p + gk = R.length) (hg0 : 0 < gk) (hgc : gk ≤ c1) (hcap : R.length ≤ cap) (hcap2 : cap ≤ 1000000) (hne : h ≠ g) (hwd : 0 < wd) (hruns : Runs wd R)
    (hm : m = min wd gk) (he : e = min (2 * wd) gk) (hlB : lB = e - m) (haB : 0 < lB → aB = some ⟨h, off + p + m, none⟩) (hP : Paired wd R D p)
    (hown : wx.ownsRow BB 25 1 (.slice (some ⟨g, 0, none⟩) p cap) p (D.map (Value.float .f64))) (hgr : w.grownBy wx (some g))
    (hx : ∀ j, j < R.length → w.cell? ⟨h, off + j, none⟩ = some (.float .f64 (R.getD j 0))) (hf : ∀ j, j < R.length → R.getD j 0 < 18446744073709551616) :
    Calls Try.prog 54 #[.slice (some ⟨g, 0, none⟩) p cap, .slice (some ⟨h, off + p, none⟩) m c1, .slice aB lB cB] wx (SomeSeg BB g cap wd p e R w) := by
  have lA : ((R.drop p).take m).length = m := by simp; omega
  have lB' : ((R.drop (p + m)).take (e - m)).length = lB := by simp; omega
  have gA : ∀ j, j < m → ((R.drop p).take m).getD j 0 = R.getD (p + j) 0 := fun j hj => getD_take_drop R p m j hj
  have gB : ∀ j, j < lB → ((R.drop (p + m)).take (e - m)).getD j 0 = R.getD (p + m + j) 0 := fun j hj => getD_take_drop R (p + m) (e - m) j (by omega)
  have cA : ∀ j, j < ((R.drop p).take m).length → wx.cell? ⟨h, off + p + j, none⟩ = some (.float .f64 (((R.drop p).take m).getD j 0)) := fun j hj => by
    rw [lA] at hj
    rw [gA j hj, Nat.add_assoc]
    exact grown_cell hgr hne (hx (p + j) (by omega))
  have fin : ∀ en w', SomeMerge BB g p cap D (mg ((R.drop p).take m) ((R.drop (p + m)).take (e - m))) wx en w' → SomeSeg BB g cap wd p e R w en w' := fun en w' h => by
    obtain ⟨h1, h2, h3⟩ := h
    have hl : (mg ((R.drop p).take m) ((R.drop (p + m)).take (e - m))).length = e := by rw [mg_len, lA, lB']; omega
    rw [hl] at h1 h2
    exact ⟨_, h1, Lib.hid (paired_step wd R D p m e hwd hruns (by omega) (by omega) (by omega) hP), Lib.hid ⟨h2, grown_trans hgr h3⟩⟩
  by_cases h0 : 0 < lB
  · obtain rfl := haB h0
    have cB' : ∀ j, j < ((R.drop (p + m)).take (e - m)).length → wx.cell? ⟨h, off + p + m + j, none⟩ = some (.float .f64 (((R.drop (p + m)).take (e - m)).getD j 0)) := fun j hj => by
      rw [lB'] at hj
      rw [gB j hj, show off + p + m + j = off + (p + m + j) by omega]
      exact grown_cell hgr hne (hx (p + m + j) (by omega))
    have key := merge_some BB g p cap h (off + p) c1 (off + p + m) cB D ((R.drop p).take m) ((R.drop (p + m)).take (e - m)) wx (by omega) (by omega) (by omega) (by omega) hcap2 hne hown cA cB'
      (fun j hj => by rw [gA j (by omega)]; exact hf _ (by omega)) (fun j hj => by rw [gB j (by omega)]; exact hf _ (by omega))
    rw [lA, lB'] at key
    exact key.mono fin
  · obtain rfl : lB = 0 := by omega
    have hnil : (R.drop (p + m)).take (e - m) = [] := List.eq_nil_of_length_eq_zero lB'
    have key := merge_nob BB g p cap h (off + p) c1 cB aB D ((R.drop p).take m) wx (by omega) hown cA
    rw [lA] at key
    rw [hnil] at fin
    exact key.mono fin

def SomePairs (BB g cap wd : Nat) (R : List Nat) (w : World) (e : Ending) (w' : World) : Prop :=
  ∃ D, e = .returned (.slice (some ⟨g, 0, none⟩) R.length cap) ∧ D.Perm R ∧ Runs (2 * wd) D ∧ Row BB w g 0 cap [] D w'

theorem pairs_end {BB g cap wd N p : Nat} {R D : List Nat} {w wr : World} (hN : N = R.length) (hp : p + 0 = N) (hP : Paired wd R D p)
    (hO : wr.ownsRow BB 25 1 (.slice (some ⟨g, 0, none⟩) p cap) p (D.map (Value.float .f64)) ∧ w.grownBy wr (some g)) :
    SomePairs BB g cap wd R w (.returned (.slice (some ⟨g, 0, none⟩) p cap)) wr := by
  obtain rfl : p = R.length := by omega
  obtain ⟨h1, h2⟩ := paired_end wd R D hP
  refine ⟨D, rfl, h1, h2, ?_, hO.2⟩
  rw [h1.length_eq, Nat.zero_add]
  exact hO.1

set_option maxHeartbeats 2000000 in
set_option maxRecDepth 100000 in
theorem pairs_some (BB g cap h off ch wd : Nat) (R : List Nat) (w : World) (hch : R.length ≤ ch) (hcap : R.length ≤ cap) (hcap2 : cap ≤ 1000000) (hne : h ≠ g) (hwd : 0 < wd) (hwd2 : wd ≤ 2000000) (hruns : Runs wd R)
    (hown : w.ownsRow BB 25 1 (.slice (some ⟨g, 0, none⟩) 0 cap) 0 [])
    (hx : ∀ j, j < R.length → w.cell? ⟨h, off + j, none⟩ = some (.float .f64 (R.getD j 0))) (hf : ∀ j, j < R.length → R.getD j 0 < 18446744073709551616) :
    Calls Try.prog 47 #[.slice (some ⟨g, 0, none⟩) 0 cap, .slice (some ⟨h, off, none⟩) R.length ch, .int .i64 (wd : Int)] w (SomePairs BB g cap wd R w) := by
  obtain ⟨N, hNe⟩ : ∃ N, N = R.length := ⟨_, rfl⟩
  rw [← hNe] at hch hcap hx hf ⊢
  have HN := Lib.hid hNe
  have HX := Lib.hid hx
  have HF := Lib.hid hf
  have HNE := Lib.hid hne
  have HRU := Lib.hid hruns
  have HR0 : Hid (w.ownsRow BB 25 1 (.slice (some ⟨g, 0, none⟩) 0 cap) 0 (([] : List Nat).map (Value.float .f64)) ∧ w.grownBy w (some g)) := Lib.hid ⟨hown, World.grownBy.refl _ _⟩
  clear hNe hx hf hne hruns hown
  go_enter Try.func47, Try.ntmps47
  go_wp2
  go_loopg [0, 1] N (fun gk s0 s1 wr => ∃ (p c1 : Nat) (a1 : Option Addr) (D : List Nat), p + gk = N ∧ gk ≤ c1 ∧ (0 < gk → a1 = some ⟨h, off + p, none⟩) ∧ s0 = .slice (some ⟨g, 0, none⟩) p cap ∧ s1 = .slice a1 gk c1 ∧ Hid (Paired wd R D p) ∧
    Hid (wr.ownsRow BB 25 1 (.slice (some ⟨g, 0, none⟩) p cap) p (D.map (Value.float .f64)) ∧ w.grownBy wr (some g)))
  case atStart => exact ⟨0, ch, some ⟨h, off, none⟩, [], by omega, hch, fun _ => rfl, rfl, rfl, Lib.hid (paired_start wd R), HR0⟩
  case round =>
    clear HR0
    obtain ⟨p, c1, a1, D, hpg, hgc, ha1, rfl, rfl, HP, HO⟩ := hrel
    by_cases hg0 : 0 < gk
    · obtain rfl := ha1 hg0
      clear ha1
      have seg := fun (m e lB cB : Nat) (aB : Option Addr) hm he hl ha => seg_some BB g cap h off wd p gk m e lB c1 cB aB R D w wr.drew (by rw [hpg]; exact HN.out) hg0 hgc (by rw [← HN.out]; exact hcap) hcap2 HNE.out hwd HRU.out hm he hl ha HP.out HO.out.1.drew (grown_trans HO.out.2 (grown_drew wr (some g))) (by rw [← HN.out]; exact HX.out) (by rw [← HN.out]; exact HF.out)
      have HPG := Lib.hid hpg
      have k0 : (0 : Int) ≤ (wd : Int) := by omega
      clear hpg
      by_cases hA : 2 * wd ≤ gk
      · have k1 : wd ≤ c1 := by omega
        have hn1 : ¬ c1 = wd := by omega
        by_cases hn2 : c1 = 2 * wd
        · obtain rfl : gk = c1 := by omega
          have e1 : 2 * (wd : Int) = (gk : Int) := by omega
          have hm := seg wd gk (gk - wd) (gk - wd) (some ⟨h, off + p + wd, none⟩) (by omega) (by omega) rfl (fun _ => rfl)
          clear seg hA hn2
          go_wp2
          go_still_tail 8, (by kernel_rfl)
          change wpList _ _ _ _ _ wr.drew
          generalize wr.drew = w2 at hm ⊢
          go_wp2_with (go_at_call 54; ((with_reducible refine hm.mono ?_); rintro e w3 ⟨D2, rfl, HP2, HO2⟩))
          go_roundg (0)
          case measure => have := HPG.out; omega
          case rel => exact ⟨p + gk, 0, some ⟨h, off + p, none⟩, D2, by have := HPG.out; omega, by omega, fun h => absurd h (Nat.lt_irrefl 0), rfl, by first | rfl | simp, HP2, HO2⟩
        · have k2 : (0 : Int) ≤ 2 * (wd : Int) ∧ 2 * (wd : Int) ≤ (c1 : Int) := by omega
          have k3 : (wd : Int) ≤ 2 * (wd : Int) := by omega
          have hm := seg wd (2 * wd) (2 * wd - wd) (c1 - wd) (some ⟨h, off + p + wd, none⟩) (by omega) (by omega) rfl (fun _ => rfl)
          clear seg
          go_wp2
          go_still_tail 8, (by kernel_rfl)
          change wpList _ _ _ _ _ wr.drew
          generalize wr.drew = w2 at hm ⊢
          go_wp2_with (go_at_call 54; ((with_reducible refine hm.mono ?_); rintro e w3 ⟨D2, rfl, HP2, HO2⟩))
          go_roundg (gk - 2 * wd)
          case measure => have := HPG.out; omega
          case rel => exact ⟨p + 2 * wd, c1 - 2 * wd, some ⟨h, off + p + 2 * wd, none⟩, D2, by have := HPG.out; omega, by omega, fun _ => by rw [Nat.add_assoc], rfl, by first | rfl | simp, HP2, HO2⟩
      · by_cases hB : wd ≤ gk
        · have k1 : wd ≤ c1 := by omega
          by_cases hn1 : c1 = wd
          · obtain rfl : gk = c1 := by omega
            subst hn1
            have hm := seg gk gk 0 0 (some ⟨h, off + p, none⟩) (by omega) (by omega) (by omega) (fun h => absurd h (Nat.lt_irrefl 0))
            clear seg
            go_wp2
            go_still_tail 8, (by kernel_rfl)
            change wpList _ _ _ _ _ wr.drew
            generalize wr.drew = w2 at hm ⊢
            go_wp2_with (go_at_call 54; ((with_reducible refine hm.mono ?_); rintro e w3 ⟨D2, rfl, HP2, HO2⟩))
            go_roundg (0)
            case measure => have := HPG.out; omega
            case rel => exact ⟨p + gk, 0, some ⟨h, off + p, none⟩, D2, by have := HPG.out; omega, by omega, fun h => absurd h (Nat.lt_irrefl 0), rfl, by first | rfl | simp, HP2, HO2⟩
          · have hm := seg wd gk (gk - wd) (c1 - wd) (some ⟨h, off + p + wd, none⟩) (by omega) (by omega) rfl (fun _ => rfl)
            clear seg
            by_cases hn2 : c1 = gk
            · subst hn2
              go_wp2
              go_still_tail 8, (by kernel_rfl)
              change wpList _ _ _ _ _ wr.drew
              generalize wr.drew = w2 at hm ⊢
              go_wp2_with (go_at_call 54; ((with_reducible refine hm.mono ?_); rintro e w3 ⟨D2, rfl, HP2, HO2⟩))
              go_roundg (0)
              case measure => have := HPG.out; omega
              case rel => exact ⟨p + c1, 0, some ⟨h, off + p, none⟩, D2, by have := HPG.out; omega, by omega, fun h => absurd h (Nat.lt_irrefl 0), rfl, by first | rfl | simp, HP2, HO2⟩
            · skip
              go_wp2
              go_still_tail 8, (by kernel_rfl)
              change wpList _ _ _ _ _ wr.drew
              generalize wr.drew = w2 at hm ⊢
              go_wp2_with (go_at_call 54; ((with_reducible refine hm.mono ?_); rintro e w3 ⟨D2, rfl, HP2, HO2⟩))
              go_roundg (0)
              case measure => have := HPG.out; omega
              case rel => exact ⟨p + gk, c1 - gk, some ⟨h, off + p + gk, none⟩, D2, by have := HPG.out; omega, by omega, fun h => absurd h (Nat.lt_irrefl 0), rfl, by first | rfl | simp, HP2, HO2⟩
        · by_cases hn2 : c1 = gk
          · subst hn2
            have hm := seg c1 c1 0 0 (some ⟨h, off + p, none⟩) (by omega) (by omega) (by omega) (fun h => absurd h (Nat.lt_irrefl 0))
            clear seg
            go_wp2
            go_still_tail 8, (by kernel_rfl)
            change wpList _ _ _ _ _ wr.drew
            generalize wr.drew = w2 at hm ⊢
            go_wp2_with (go_at_call 54; ((with_reducible refine hm.mono ?_); rintro e w3 ⟨D2, rfl, HP2, HO2⟩))
            go_roundg (0)
            case measure => have := HPG.out; omega
            case rel => exact ⟨p + c1, 0, some ⟨h, off + p, none⟩, D2, by have := HPG.out; omega, by omega, fun h => absurd h (Nat.lt_irrefl 0), rfl, by first | rfl | simp, HP2, HO2⟩
          · have hm := seg gk gk 0 (c1 - gk) (some ⟨h, off + p + gk, none⟩) (by omega) (by omega) (by omega) (fun h => absurd h (Nat.lt_irrefl 0))
            clear seg
            go_wp2
            go_still_tail 8, (by kernel_rfl)
            change wpList _ _ _ _ _ wr.drew
            generalize wr.drew = w2 at hm ⊢
            go_wp2_with (go_at_call 54; ((with_reducible refine hm.mono ?_); rintro e w3 ⟨D2, rfl, HP2, HO2⟩))
            go_roundg (0)
            case measure => have := HPG.out; omega
            case rel => exact ⟨p + gk, c1 - gk, some ⟨h, off + p + gk, none⟩, D2, by have := HPG.out; omega, by omega, fun h => absurd h (Nat.lt_irrefl 0), rfl, by first | rfl | simp, HP2, HO2⟩
    · obtain rfl : gk = 0 := by omega
      have HPG := Lib.hid hpg
      clear hpg ha1
      go_wp2
      go_ret
      exact pairs_end HN.out HPG.out HP.out HO.out

end Go.Proofs.Ytphhonpibmbjmaa
