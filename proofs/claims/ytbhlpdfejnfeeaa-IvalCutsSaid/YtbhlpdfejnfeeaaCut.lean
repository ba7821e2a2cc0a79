/- Proved: Cut hands back an extent's blocks that are in none of a list of extents, in rows that rise and do not touch. -/
import Derived.Test.YtbhlpdfejnfeeaaMrg
namespace Go.Proofs.Ytbhlpdfejnfeeaa
open Go.RowKit

/-- What Cut hands back. -/
def Cuts (e : Int × Int) (l : List (Int × Int)) (w : World) (x : Ending) (w' : World) : Prop := ∃ R, Lf e l R ∧ R.length ≤ l.length + 1 ∧ Makes R w x w'
theorem box_cells {w : World} {a n : Int} : ∀ W, At (w.alloc (.cells #[.int .i64 a, .int .i64 n] 28)) W → W.cell? ⟨w.heap.size, 0, none⟩ = some (.int .i64 a) ∧ W.cell? ⟨w.heap.size, 1, none⟩ = some (.int .i64 n) := fun W hW => by
  have h := At.keep hW (heap_alloc_new w _)
  exact ⟨by rw [cell_at h]; rfl, by rw [cell_at h]; rfl⟩

/-- The blocks of M are those of l. -/
theorem lf_like {e : Int × Int} {l M R : List (Int × Int)} (h : Is l M) (hR : Lf e M R) : Lf e l R := ⟨hR.1, fun x => by rw [hR.2, h.2]⟩

set_option maxHeartbeats 2000000 in
set_option maxRecDepth 100000 in
theorem cut_any (a n : Int) (A : Option Addr) (m c : Nat) (l : List (Int × Int)) (w : World) (hm : m ≤ 1000000) (hz : A = none → m = 0 ∧ c = 0) (hl : l.length = m) (hx : EV w A l) (he : Va (a, n)) (hv : allB l = true) :
    Calls Try.prog 16 #[.agg #[.int .i64 a, .int .i64 n], .slice A m c] w (Cuts (a, n) l w) := by
  have HC := Lib.hid (box_cells (w := w) (a := a) (n := n))
  have HB : Hid (∀ W, At (w.alloc (.cells #[.int .i64 a, .int .i64 n] 28)) W → At w W) := Lib.hid (fun W hW => ((At.start w).alloc _).next hW)
  have hvm : ∀ e ∈ l, Vm e := fun e he => ((allB_iff l).1 hv e he).vm
  have HAV : Hid (∀ W, At w W → Calls Try.prog 21 #[.slice A m c] W (Gives (.bool true) W)) := Lib.hid (fun W hW => by
    have := all_valid A m c l W hm hl (hx.on hW)
    rw [hv] at this; exact this)
  have HMG : Hid (∀ W, At w W → Calls Try.prog 22 #[.slice A m c] W (Merges l W)) := Lib.hid (fun W hW => merge_any A m c l W hm hz hl (hx.on hW) hvm)
  have HVA : Hid (∀ W, Calls Try.prog 31 #[.agg #[.int .i64 a, .int .i64 n]] W (Gives (.bool true) W)) := Lib.hid (fun W => by
    have := valid_any a n W
    rw [vaB_yes he] at this; exact this)
  have HVM := Lib.hid hvm
  have HE := Lib.hid he.vm
  have HLN := Lib.hid hl
  obtain ⟨e1, e2, e3, e4, e5⟩ := he
  simp only at e1 e2 e3 e4 e5
  clear hvm hl hx hz hv
  obtain ⟨c1, c2⟩ := HC.out _ (At.start _)
  go_enter Try.func16, Try.ntmps16
  go_wp2
  go_step3
  go_wp2_with fail
  generalize w.alloc (.cells #[.int .i64 a, .int .i64 n] 28) = wb at *
  refine (HVA.out wb).mono ?_
  rintro e w1 ⟨rfl, hA⟩
  have HA1 : Hid (At wb w1) := Lib.hid hA
  clear hA c1 c2
  obtain ⟨c1, c2⟩ := HC.out _ HA1.out
  go_wp2_with fail
  refine (HAV.out w1 (HB.out _ HA1.out)).mono ?_
  rintro e w2 ⟨rfl, hA⟩
  have HA2 : Hid (At wb w2) := Lib.hid (HA1.out.next hA)
  clear hA c1 c2
  obtain ⟨c1, c2⟩ := HC.out _ HA2.out
  have HK : Hid (At wb (w2.alloc (.cells #[.int .i64 a, .int .i64 n] 28)).drew) := Lib.hid ((HA2.out.alloc _).drewN 1)
  go_wp2_with fail
  go_region_held3 (fun w' => w'.cell? ⟨w.heap.size, 0, none⟩ = some (.int .i64 a) ∧ w'.cell? ⟨w.heap.size, 1, none⟩ = some (.int .i64 n)) (go_keep)
    (first
      | (go_at_call 25; refine (after_any _ _ _ (by omega) (by omega) (by omega) (by omega)).mono ?_; rintro e w' ⟨rfl, rfl⟩))
  generalize (w2.alloc (.cells #[.int .i64 a, .int .i64 n] 28)).drew = w3 at HK ⊢
  clear c1 c2 HA1 HA2 HC HVA HAV
  obtain ⟨i0, hi, hz0, hz1, hz2⟩ := info_parts info_ext
  have HZ := Lib.hid (And.intro hi (And.intro hz0 (And.intro hz1 hz2)))
  clear hi hz0 hz1 hz2
  go_wp2
  go_step3
  go_wp2_with fail
  refine (HMG.out w3 (HB.out _ HK.out)).mono ?_
  rintro e w4 ⟨M, hM, v4, rfl, hO4, hA4, hge4⟩
  have hrm : M.length ≤ m := by have := is_len HVM.out hM; rw [HLN.out] at this; exact this
  obtain ⟨A5, c5, rfl, hc5, hc5m, hev5⟩ := hO4.ev
  obtain ⟨r, hr⟩ : ∃ r, r = M.length := ⟨_, rfl⟩
  rw [← hr] at hrm hc5
  rw [← hr]
  have HR := Lib.hid hr
  have HEV := Lib.hid hev5
  have HM := Lib.hid hM
  have HW4 : Hid (At w w4) := Lib.hid ((HB.out _ HK.out).next hA4)
  clear hO4 hge4 hA4 hM hev5 hr HMG HB HK HVM
  go_wp2
  go_loopw [5, 6, 25] (fun left first i wr => ∃ (k : Nat) (B : Option Addr) (q cb : Nat) (z : Int), k ≤ r ∧ i = .int .i64 (k : Int) ∧ left = .slice B q cb ∧ first = .int .i64 z ∧ q ≤ k ∧ Hid (At w4 wr) ∧ Hid (∃ R, Ct (a, n) M k z R ∧ q = R.length ∧ Ow wr (.slice B q cb) R ∧ ∀ g, (Value.slice B q cb).ownBlock = some g → w4.heap.size ≤ g)) (fun _ _ i _ => r - (intOf i).toNat)
  case atStart => exact ⟨0, none, 0, 0, a, by omega, rfl, rfl, rfl, by omega, Lib.hid (At.start w4), Lib.hid ⟨[], ct_start M HE.out, rfl, Ow.nil _, fun g hg => by cases hg⟩⟩
  case round =>
    obtain ⟨k, B, q, cb, z, hk, rfl, rfl, rfl, hqk, HA, HO⟩ := hrel
    obtain ⟨R, hct, hqR, hor, hge⟩ := HO.out
    have hlo := hct.lo
    have htop := hct.top
    simp only at hlo
    have HCT := Lib.hid hct
    have HQR := Lib.hid hqR
    have HOR := Lib.hid hor
    have HGE := Lib.hid hge
    clear hct hqR hor hge HO
    by_cases hlt : k < r
    · obtain ⟨g1, o1, rfl, hg1, hc1⟩ := HEV.out.pos (by rw [← HR.out]; omega)
      have hck := hc1 k (by rw [← HR.out]; exact hlt)
      have c1 : wr.cell? ⟨g1, o1 + k * 2, none⟩ = some (.int .i64 (M.getD k (0, 0)).1) := (Below.cell HA.out (p := ⟨g1, o1 + k * 2, none⟩) hg1).trans hck.1
      have c2 : wr.cell? ⟨g1, o1 + k * 2 + 1, none⟩ = some (.int .i64 (M.getD k (0, 0)).2) := (Below.cell HA.out (p := ⟨g1, o1 + k * 2 + 1, none⟩) hg1).trans hck.2
      have hve := nm_at HM.out.1 (show k < M.length by rw [← HR.out]; exact hlt)
      obtain ⟨p, hp⟩ : ∃ p, M.getD k (0, 0) = p := ⟨_, rfl⟩
      rw [hp] at c1 c2 hve
      obtain ⟨x, y⟩ := p
      obtain ⟨x1, x2, x3⟩ := hve
      simp only at c1 c2 x1 x2 x3
      have HP := Lib.hid hp
      have HKM : Hid (k < M.length) := Lib.hid (by rw [← HR.out]; exact hlt)
      have q1 : (0 : Int) ≤ (k : Int) := by omega
      have q2 : (k : Int) < (r : Int) := by omega
      clear hc1 hck hp
      have HX := Lib.hid (And.intro (heap_alloc_new wr (.cells #[.int .i64 x, .int .i64 y] 28)) ((At.start wr).alloc (.cells #[.int .i64 x, .int .i64 y] 28)))
      go_wp2_with fail
      generalize wr.alloc (.cells #[.int .i64 x, .int .i64 y] 28) = wb2 at HX ⊢
      refine (after_any _ _ _ (by omega) (by omega) (by omega) (by omega)).mono ?_
      rintro e w' ⟨rfl, rfl⟩
      have HX2 : Hid (At wr (wb2.alloc (.cells #[.int .i64 x, .int .i64 y] 28)) ∧ (wb2.alloc (.cells #[.int .i64 x, .int .i64 y] 28)).heap[wr.heap.size]? = some (.cells #[.int .i64 x, .int .i64 y] 28 (0, 0))) := Lib.hid ⟨HX.out.2.alloc _, At.keep ((At.start wb2).alloc _) HX.out.1⟩
      generalize wb2.alloc (.cells #[.int .i64 x, .int .i64 y] 28) = w6 at HX2 ⊢
      clear HX c1 c2
      have c1 : w6.cell? ⟨wr.heap.size, 0, none⟩ = some (.int .i64 x) := by rw [cell_at HX2.out.2]; rfl
      have c2 : w6.cell? ⟨wr.heap.size, 1, none⟩ = some (.int .i64 y) := by rw [cell_at HX2.out.2]; rfl
      have HA7 : Hid (At w4 w6) := Lib.hid (HA.out.next HX2.out.1)
      have HO7 : Hid (Ow w6 (.slice B q cb) R) := Lib.hid (HOR.out.on HX2.out.1)
      by_cases s1 : x + y ≤ z
      · go_wp2
        go_roundw
        case rel => exact ⟨k + 1, B, q, cb, z, by omega, by go_num, rfl, rfl, by omega, Lib.hid HA7.out, Lib.hid ⟨R, ct_skip HCT.out (by rw [HP.out]; exact s1), HQR.out, HO7.out, HGE.out⟩⟩
        case measure => simp [intOf]; omega
      · have s1' : decide (x + y ≤ z) = false := decide_eq_false s1
        by_cases s2 : a + n ≤ x
        · by_cases hze : z < a + n
          · have HLF := Lib.hid ((ct_end HE.out HM.out.1 HCT.out (fun _ => by rw [HP.out]; exact s2)).2 hze)
            go_wp2_with fail
            refine (between_any z (a + n) _ (by omega) (by omega) (by omega) (by omega)).mono ?_
            rintro e w7 ⟨rfl, hA7⟩
            have HAY : Hid (At w4 (w7.alloc (.cells #[.int .i64 z, .int .i64 (a + n - z)] 28))) := Lib.hid (((HA7.out).next hA7).alloc _)
            have HOX : Hid ((w7.alloc (.cells #[.int .i64 z, .int .i64 (a + n - z)] 28)).ownsRow 0 28 2 (.slice B q cb) q (fl R)) := Lib.hid (by have := (HO7.out.on hA7).on ((At.start w7).alloc (.cells #[.int .i64 z, .int .i64 (a + n - z)] 28)); unfold Ow at this; rw [← HQR.out] at this; exact this)
            clear hA7
            go_wp2_with (at_builtin; refine wpList_append_own_at _ rfl (.tmp 57) (.tmp 61) 30 rfl 0 28 i0 _ 2 16 Try.underlying30 HZ.out.1 HZ.out.2.1 HZ.out.2.2.1 HZ.out.2.2.2 rfl (by omega) _ q (fl R) rfl HOX.out ⟨w7.heap.size, 0, none⟩ 1 1 (ec (z, a + n - z)) rfl rfl (new_ec w7 (z) (a + n - z)) (fun u hu => fl_cells u [(z, a + n - z)] hu) (by unfold maxLen; omega) (by omega) (Nat.zero_le _) ?_; intro v' w9 hown hgrow hnn hat; obtain ⟨g5, c5, rfl, ha5, hm5, ho5, hb5⟩ := part_grown HQR.out hown hgrow hat HAY.out HGE.out; have HN := Lib.hid (And.intro ha5 (And.intro hm5 (And.intro ho5 hb5))); clear hown hgrow hnn hat ha5 hm5 ho5 hb5)
            (try rw [Exit.noGoto_ret])
            go_ret
            exact ⟨_, lf_like HM.out HLF.out, by rw [List.length_append, ← HQR.out, HLN.out]; simp; omega, _, rfl, HN.out.2.2.1, HW4.out.next HN.out.1, fun g hg => Nat.le_trans HW4.out.size (HN.out.2.2.2 g hg)⟩
          · have hze' : decide (z < a + n) = false := decide_eq_false hze
            have HLF := Lib.hid ((ct_end HE.out HM.out.1 HCT.out (fun _ => by rw [HP.out]; exact s2)).1 (by simp only; omega))
            go_wp2
            (try rw [Exit.noGoto_ret])
            go_ret
            exact ⟨R, lf_like HM.out HLF.out, by rw [← HQR.out, HLN.out]; omega, _, rfl, HO7.out, HW4.out.next HA7.out, fun g hg => Nat.le_trans HW4.out.size (HGE.out g hg)⟩
        · have s2' : decide (a + n ≤ x) = false := decide_eq_false s2
          by_cases s3 : z < x
          · go_wp2_with fail
            refine (between_any z x _ (by omega) (by omega) (by omega) (by omega)).mono ?_
            rintro e w7 ⟨rfl, hA7⟩
            have HAY : Hid (At w4 (w7.alloc (.cells #[.int .i64 z, .int .i64 (x - z)] 28))) := Lib.hid (((HA7.out).next hA7).alloc _)
            have HOX : Hid ((w7.alloc (.cells #[.int .i64 z, .int .i64 (x - z)] 28)).ownsRow 0 28 2 (.slice B q cb) q (fl R)) := Lib.hid (by have := (HO7.out.on hA7).on ((At.start w7).alloc (.cells #[.int .i64 z, .int .i64 (x - z)] 28)); unfold Ow at this; rw [← HQR.out] at this; exact this)
            have HPX : Hid ((w7.alloc (.cells #[.int .i64 z, .int .i64 (x - z)] 28)).heap[wr.heap.size]? = some (.cells #[.int .i64 x, .int .i64 y] 28 (0, 0))) := Lib.hid (At.keep ((At.start w7).alloc _) (At.keep hA7 HX2.out.2))
            have HNE : Hid ((Value.slice B q cb).ownBlock ≠ some wr.heap.size) := Lib.hid (fun e => Nat.lt_irrefl _ (HOR.out.lt e))
            clear hA7 c1 c2
            go_wp2_with (first | (at_builtin; refine wpList_append_own_at _ rfl (.tmp 44) (.tmp 49) 30 rfl 0 28 i0 _ 2 16 Try.underlying30 HZ.out.1 HZ.out.2.1 HZ.out.2.2.1 HZ.out.2.2.2 rfl (by omega) _ q (fl R) rfl HOX.out ⟨w7.heap.size, 0, none⟩ 1 1 (ec (z, x - z)) rfl rfl (new_ec w7 (z) (x - z)) (fun u hu => fl_cells u [(z, x - z)] hu) (by unfold maxLen; omega) (by omega) (Nat.zero_le _) ?_; intro v' w9 hown hgrow hnn hat; have HPY : Hid (w9.heap[wr.heap.size]? = some (.cells #[.int .i64 x, .int .i64 y] 28 (0, 0))) := Lib.hid ((hgrow.block _ (lt_heap HPX.out) (fun e => HNE.out e.symm)).trans HPX.out); have c1 : w9.cell? ⟨wr.heap.size, 0, none⟩ = some (.int .i64 x) := (cell_at HPY.out 0).trans rfl; have c2 : w9.cell? ⟨wr.heap.size, 1, none⟩ = some (.int .i64 y) := (cell_at HPY.out 1).trans rfl; obtain ⟨g5, c5, rfl, ha5, hm5, ho5, hb5⟩ := part_grown HQR.out hown hgrow hat HAY.out HGE.out; have HN := Lib.hid (And.intro ha5 (And.intro hm5 (And.intro ho5 hb5))); clear hown hgrow hnn hat ha5 hm5 ho5 hb5) | (go_at_call 25; refine (after_any _ _ _ (by omega) (by omega) (by omega) (by omega)).mono ?_; rintro e w10 ⟨rfl, rfl⟩))
            go_roundw
            case rel =>
              have hp := ct_put HE.out HM.out.1 HKM.out HCT.out (by rw [HP.out]; exact s3) (by rw [HP.out]; simp only; omega)
              rw [HP.out] at hp
              exact ⟨k + 1, _, _, _, x + y, by omega, by go_num, rfl, rfl, by omega, Lib.hid (HN.out.1.alloc _), Lib.hid ⟨_, hp, HN.out.2.1, HN.out.2.2.1.on ((At.start w9).alloc _), HN.out.2.2.2⟩⟩
            case measure => simp [intOf]; omega
          · have s3' : decide (z < x) = false := decide_eq_false s3
            go_wp2_with (go_at_call 25; refine (after_any _ _ _ (by omega) (by omega) (by omega) (by omega)).mono ?_; rintro e w' ⟨rfl, rfl⟩)
            go_roundw
            case rel =>
              have hp := ct_in HM.out.1 HKM.out HCT.out (by rw [HP.out]; simp only; omega) (by rw [HP.out]; simp only; omega)
              rw [HP.out] at hp
              exact ⟨k + 1, B, q, cb, x + y, by omega, by go_num, rfl, rfl, by omega, Lib.hid (HA7.out.alloc _), Lib.hid ⟨R, hp, HQR.out, HO7.out.on ((At.start w6).alloc _), HGE.out⟩⟩
            case measure => simp [intOf]; omega
    · have HA7 := HA
      have HO7 := HOR
      by_cases hze : z < a + n
      · have HLF := Lib.hid ((ct_end HE.out HM.out.1 HCT.out (fun h => absurd h (by rw [← HR.out]; omega))).2 hze)
        go_wp2_with fail
        refine (between_any z (a + n) _ (by omega) (by omega) (by omega) (by omega)).mono ?_
        rintro e w7 ⟨rfl, hA7⟩
        have HAY : Hid (At w4 (w7.alloc (.cells #[.int .i64 z, .int .i64 (a + n - z)] 28))) := Lib.hid (((HA7.out).next hA7).alloc _)
        have HOX : Hid ((w7.alloc (.cells #[.int .i64 z, .int .i64 (a + n - z)] 28)).ownsRow 0 28 2 (.slice B q cb) q (fl R)) := Lib.hid (by have := (HO7.out.on hA7).on ((At.start w7).alloc (.cells #[.int .i64 z, .int .i64 (a + n - z)] 28)); unfold Ow at this; rw [← HQR.out] at this; exact this)
        clear hA7
        go_wp2_with (at_builtin; refine wpList_append_own_at _ rfl (.tmp 57) (.tmp 61) 30 rfl 0 28 i0 _ 2 16 Try.underlying30 HZ.out.1 HZ.out.2.1 HZ.out.2.2.1 HZ.out.2.2.2 rfl (by omega) _ q (fl R) rfl HOX.out ⟨w7.heap.size, 0, none⟩ 1 1 (ec (z, a + n - z)) rfl rfl (new_ec w7 (z) (a + n - z)) (fun u hu => fl_cells u [(z, a + n - z)] hu) (by unfold maxLen; omega) (by omega) (Nat.zero_le _) ?_; intro v' w9 hown hgrow hnn hat; obtain ⟨g5, c5, rfl, ha5, hm5, ho5, hb5⟩ := part_grown HQR.out hown hgrow hat HAY.out HGE.out; have HN := Lib.hid (And.intro ha5 (And.intro hm5 (And.intro ho5 hb5))); clear hown hgrow hnn hat ha5 hm5 ho5 hb5)
        (try rw [Exit.noGoto_ret])
        go_ret
        exact ⟨_, lf_like HM.out HLF.out, by rw [List.length_append, ← HQR.out, HLN.out]; simp; omega, _, rfl, HN.out.2.2.1, HW4.out.next HN.out.1, fun g hg => Nat.le_trans HW4.out.size (HN.out.2.2.2 g hg)⟩
      · have hze' : decide (z < a + n) = false := decide_eq_false hze
        have HLF := Lib.hid ((ct_end HE.out HM.out.1 HCT.out (fun h => absurd h (by rw [← HR.out]; omega))).1 (by simp only; omega))
        go_wp2
        (try rw [Exit.noGoto_ret])
        go_ret
        exact ⟨R, lf_like HM.out HLF.out, by rw [← HQR.out, HLN.out]; omega, _, rfl, HO7.out, HW4.out.next HA7.out, fun g hg => Nat.le_trans HW4.out.size (HGE.out g hg)⟩

end Go.Proofs.Ytbhlpdfejnfeeaa
