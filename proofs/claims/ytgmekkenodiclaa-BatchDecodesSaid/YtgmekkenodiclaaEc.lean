/- Proved: what the landed Encode of a batch answers: its blocks, in rows of its own; or ErrArg. -/
import Derived.Test.YtgmekkenodiclaaCk
import Derived.Test.YtgmekkenodiclaaCb
import Derived.BigRegion
namespace Go.Proofs.Ytgmekkenodiclaa
open Go.RowKit

/-- What Encode tells. -/
def EncP (s ep : Int) (L : List Tx) (t : Nat) (w : World) (x : Ending) (w' : World) : Prop :=
  ((Bk s L ∧ 0 ≤ ep ∧ ep ≤ 4294967295) ∧ ∃ (B : Option Addr) (d : Nat) (l : List Rl), x = .returned (.tuple #[.slice B t d, .int .i64 0]) ∧ l.length = t ∧ l.map (·.1) = eb ep.toNat s.toNat L ∧ (∀ x ∈ l, ∀ a, x.2.1 = some a → w.heap.size ≤ a.block) ∧ OR w w' (.slice B t d) l) ∨
  (¬ (Bk s L ∧ 0 ≤ ep ∧ ep ≤ 4294967295) ∧ x = .returned (.tuple #[.slice none 0 0, .int .i64 1]) ∧ At w w')
theorem Ow.base {α : Type} {e : TypeId} {s : Nat} {cs : α → List Value} {gd : (Nat → Prop) → World → α → Prop} {w0 w1 w : World} {v : Value} {l : List α} (h : Ow e s cs gd w1 w v l) (hA : At w0 w1) : Ow e s cs gd w0 w v l :=
  ⟨h.row, h.gd, fun g hg => Nat.le_trans hA.size (h.new g hg), hA.next h.at_⟩
/-- The k-th block of a batch. -/
theorem elem_of {s : Nat} {L : List Tx} (hb : Bk s L) (hp : Pb (fla L)) {e : Nat} (he : e < 4294967296) {l : List Bl} {y : Bl} (hl : l.map bsp = (fla L).map dbk) (hy : bsp y = ((2, 0, 0, (tot L : Int)), bd L)) {k : Nat} (hk : k < tot L + 1) :
    ∃ (x : Bl) (kd lb : Nat) (B : List Nat), (l ++ [y])[k]? = some x ∧ bsp x = (((kd : Int), 0, 0, (lb : Int)), B) ∧ May kd e s lb B ∧ (eb e s L)[k]? = some (en kd e s lb B) := by
  have hll : l.length = tot L := by have := congrArg List.length hl; simpa [fla_len] using this
  by_cases h : k < tot L
  · have h1 : k < l.length := by omega
    have h2 : k < (fla L).length := by rw [fla_len]; exact h
    have h3 : bsp l[k] = dbk (fla L)[k] := by
      have := congrArg (fun M => M[k]?) hl
      simpa [List.getElem?_map, List.getElem?_eq_getElem h1, List.getElem?_eq_getElem h2] using this
    have hm := may_d hb hp he (List.getElem_mem h2)
    obtain ⟨x, hx, hpx⟩ := fla_mem.1 (List.getElem_mem h2)
    have hl1 := hb.lba x hx _ hpx
    refine ⟨l[k], 1, ((fla L)[k]).1.toNat, ((fla L)[k]).2, ?_, ?_, hm, ?_⟩
    · rw [List.getElem?_append_left h1, List.getElem?_eq_getElem h1]
    · rw [h3, dbk, Int.toNat_of_nonneg hl1.1]; rfl
    · rw [eb, List.getElem?_append_left (by rw [dr_len]; exact h2), dr, List.getElem?_map, List.getElem?_eq_getElem h2]; rfl
  · obtain rfl : k = tot L := by omega
    refine ⟨y, 2, tot L, bd L, ?_, hy, may_c hb he, ?_⟩
    · rw [List.getElem?_append_right (by omega), hll, Nat.sub_self]; rfl
    · rw [eb, List.getElem?_append_right (by rw [dr_len, fla_len]; omega), dr_len, fla_len, Nat.sub_self]; rfl
theorem take_at {R : List (List Nat)} {k : Nat} {r : List Nat} (h : R[k]? = some r) : R.take (k + 1) = R.take k ++ [r] := by
  have hk := (List.getElem?_eq_some_iff.1 h).1
  rw [List.take_succ_eq_append_getElem hk, (List.getElem?_eq_some_iff.1 h).2]
theorem bl_cells {x : Bl} {kd lb : Nat} {B : List Nat} (h : bsp x = (((kd : Int), 0, 0, (lb : Int)), B)) : bcs x = [.int .i64 (kd : Int), .int .i64 0, .int .i64 0, .int .i64 (lb : Int), .slice x.2.2.1 B.length x.2.2.2] ∧ x.2.1 = B := by
  obtain ⟨⟨a, b, c, d⟩, D, A, cc⟩ := x
  simp only [bsp, Prod.mk.injEq] at h
  obtain ⟨⟨rfl, rfl, rfl, rfl⟩, rfl⟩ := h
  exact ⟨rfl, rfl⟩

set_option maxHeartbeats 4000000 in
set_option maxRecDepth 100000 in
theorem bencode_any (s ep : Int) (A : Option Addr) (L : List Tx) (n c : Nat) (hn : L.length = n) (hn2 : n ≤ 1000000) (ht : tot L ≤ 10000) (hpb : Pb (fla L)) (t : Nat) (htt : tot L + 1 = t) (w : World) (hv : TV w A L) :
    Calls Try.prog 14 #[.agg #[.int .i64 s, .slice A n c], .int .i64 ep] w (EncP s ep L t w) := by
  obtain ⟨q, hq⟩ : ∃ q, w.heap.size = q := ⟨_, rfl⟩
  obtain ⟨wz, hwz⟩ : ∃ wz, w.alloc (.cells #[.int .i64 s, .slice A n c] 27) = wz := ⟨_, rfl⟩
  have HAZ : Hid (At w wz) := Lib.hid (by rw [← hwz]; exact (At.start w).alloc _)
  have HQ : Hid (wz.heap[q]? = some (.cells #[.int .i64 s, .slice A n c] 27 (0, 0))) := Lib.hid (by rw [← hwz, ← hq]; exact heap_alloc_new w _)
  have HV := Lib.hid (hv.on HAZ.out)
  have HCK := Lib.hid (bcheck_any s A L n c hn hn2 (by omega) wz HV.out)
  have HC : Hid (∀ W, At wz W → W.cell? ⟨q, 0, none⟩ = some (.int .i64 s) ∧ W.cell? ⟨q, 1, none⟩ = some (.slice A n c)) := Lib.hid fun W hW => ⟨(cell_at (hW.keep HQ.out) 0).trans rfl, (cell_at (hW.keep HQ.out) 1).trans rfl⟩
  obtain ⟨b0, b1⟩ := HC.out wz (At.start wz)
  by_cases hb : Bk s L
  rotate_left
  · have h2 := HCK.out
    rw [kd_no hb] at h2
    have HCK := Lib.hid h2
    have HB := Lib.hid hb
    clear hn hv hb h2 hpb htt ht
    go_enter Try.func14, Try.ntmps14
    go_wp2_with fail
    refine HCK.out.mono ?_
    rintro e w1 ⟨rfl, hA1⟩
    have HA1 := Lib.hid hA1
    clear hA1
    go_wp2_with fail
    go_ret2
    exact Or.inr ⟨fun h => HB.out h.1, rfl, HAZ.out.next HA1.out⟩
  obtain ⟨tl, htl⟩ : ∃ tl, tl = tot L := ⟨_, rfl⟩
  have htl1 : tl + 1 = t := by omega
  have htl32 : tl ≤ 32 := by have := hb.n32; omega
  have h2 := HCK.out
  rw [kd_yes hb] at h2
  have HCK := Lib.hid h2
  obtain ⟨sn, hsn⟩ : ∃ sn : Nat, s = (sn : Int) := ⟨s.toNat, by have := hb.s1; omega⟩
  have HSN : Hid (s.toNat = sn) := Lib.hid (by omega)
  have HDB : Hid (∀ W, At wz W → Calls Try.prog 28 #[.agg #[.int .i64 s, .slice A n c]] W fun e w' => ∃ (B : Option Addr) (d : Nat) (l : List Bl), e = .returned (.slice B tl d) ∧ l.length = tl ∧ l.map bsp = (fla L).map dbk ∧ OB W w' (.slice B tl d) l) := Lib.hid fun W hW => by
    rw [htl]; exact dataBlocks_any s A L n c hn hn2 ht W (HV.out.on hW)
  have HCB : Hid (∀ W, At wz W → Calls Try.prog 29 #[.agg #[.int .i64 s, .slice A n c]] W fun e w' => ∃ (g d : Nat), e = .returned (.agg #[.int .i64 2, .int .i64 0, .int .i64 0, .int .i64 (tl : Int), .slice (some ⟨g, 0, none⟩) (9 + 3 * n) d]) ∧ BV w' (some ⟨g, 0, none⟩) (bd L) ∧ W.heap.size ≤ g ∧ At W w') := Lib.hid fun W hW => by
    rw [htl]; exact commit_any s A L n c hn hb W (HV.out.on hW)
  have HBN : Hid (Bk (sn : Int) L) := Lib.hid (by rw [← hsn]; exact hb)
  have HPB := Lib.hid hpb
  have HTL := Lib.hid htl
  have HBD : Hid ((bd L).length = 9 + 3 * n) := Lib.hid (by rw [bd_len, hn])
  have HT1 := Lib.hid htl1
  have hts : t ≤ 33 := by omega
  have htp : 1 ≤ t := by omega
  obtain ⟨m3, hm3⟩ : ∃ m3, m3 = 9 + 3 * n := ⟨_, rfl⟩
  rw [← hm3] at HCB HBD
  have K1 := Lib.hid (HDB.out wz.drew ((At.start wz).drewN 1))
  have HE : Hid (∀ e : Nat, e < 4294967296 → ∀ (l : List Bl) (y : Bl), l.map bsp = (fla L).map dbk → bsp y = ((2, 0, 0, (tl : Int)), bd L) → ∀ k, k < t → ∃ (x : Bl) (kd lb : Nat) (B : List Nat), (l ++ [y])[k]? = some x ∧ bsp x = (((kd : Int), 0, 0, (lb : Int)), B) ∧ May kd e sn lb B ∧ (eb e sn L)[k]? = some (en kd e sn lb B)) := Lib.hid fun e he l y hl hy k hk => elem_of HBN.out hpb he hl (by rw [hy, htl]) (by omega)
  have hsw : s = (sn : Int) := hsn
  subst hsw
  have HBS := Lib.hid hb
  clear hn hv h2 hpb htt ht htl htl1 hb hm3 hsn
  go_enter Try.func14, Try.ntmps14
  go_wp2_with fail
  refine HCK.out.mono ?_
  rintro e w1 ⟨rfl, hA1⟩
  have HA1 : Hid (At wz w1) := Lib.hid hA1
  clear hA1 b0 b1
  obtain ⟨b0, b1⟩ := HC.out w1 HA1.out
  have K1 := Lib.hid (HDB.out w1.drew (HA1.out.drewN 1))
  go_wp2_with fail
  go_region_held3 (fun w' => w'.cell? ⟨q, 0, none⟩ = some (.int .i64 (sn : Int)) ∧ w'.cell? ⟨q, 1, none⟩ = some (.slice A n c)) (first | go_keep | exact HC.out _ HA3.out | exact HC.out _ HA4.out | exact HC.out _ HA5.out)
    (first
      | (go_at_call 28; (with_reducible refine K1.out.mono ?_); rintro e w3 ⟨B3, d3, l3, rfl, hl3, hm3, ho3⟩; have HA3 : Hid (At wz w3) := Lib.hid ((HA1.out.drewN 1).next ho3.at_); have HO3 := Lib.hid ho3; have HL3 := Lib.hid (And.intro hl3 hm3); clear hl3 hm3 ho3)
      | (go_at_call 29; (with_reducible refine (HCB.out w3 HA3.out).mono ?_); rintro e w4 ⟨g4, d4, rfl, hv4, hg4, hA4⟩; have HA4 : Hid (At wz w4) := Lib.hid (HA3.out.next hA4); have HO4 := Lib.hid ((HO3.out.on kB hA4).on kB ((At.start w4).alloc (.cells #[.int .i64 2, .int .i64 0, .int .i64 0, .int .i64 (tl : Int), .slice (some ⟨g4, 0, none⟩) m3 d4] 57))); have HV4 := Lib.hid (new_bv HO3.out hg4 hv4); have HAL : Hid (At wz (w4.alloc (.cells #[.int .i64 2, .int .i64 0, .int .i64 0, .int .i64 (tl : Int), .slice (some ⟨g4, 0, none⟩) m3 d4] 57))) := Lib.hid (HA4.out.alloc _); clear hv4 hg4 hA4)
      | ((with_reducible refine at_world (w4.alloc (.cells #[.int .i64 2, .int .i64 0, .int .i64 0, .int .i64 (tl : Int), .slice (some ⟨g4, 0, none⟩) m3 d4] 57)) ?_); rw [if_pos (by kernel_rfl)]; refine Ow.wp kB HO4.out (.tmp 18) (.tmp 21) (by rfl) tl 1 t HL3.out.1 (by rfl) (some ⟨w4.heap.size, 0, none⟩) 1 [((2, 0, 0, (tl : Int)), bd L, some ⟨g4, 0, none⟩, d4)] (by rfl) (fun x hx => by rw [List.mem_singleton.1 hx]; exact BVf.mv HV4.out (Mv.of_below _ ((At.start w4).alloc _))) rfl (fun h => by cases h) (one_laid w4 57 _ _ (by rw [← HBD.out]; rfl)) HT1.out (by omega) ?_; intro A5 c5 w5 HG; have HA5 : Hid (At wz w5) := Lib.hid (HG.out.mv.at_ HAL.out fun g hg => Nat.le_trans HA1.out.size (HO3.out.new g hg))))
  have hl5 : (l3 ++ [(((2, 0, 0, (tl : Int)), bd L, some ⟨g4, 0, none⟩, d4) : Bl)]).length = t := by rw [List.length_append, HL3.out.1]; exact HT1.out
  obtain ⟨g5, c6, he5, _, hg5, _⟩ := HG.out.ow.pos (by rw [hl5]; exact htp)
  injection he5 with e1 e2 e3
  subst e1
  obtain ⟨l5, hl5e⟩ : ∃ l5, l5 = l3 ++ [(((2, 0, 0, (tl : Int)), bd L, some ⟨g4, 0, none⟩, d4) : Bl)] := ⟨_, rfl⟩
  have HEE : Hid (∀ e : Nat, e < 4294967296 → ∀ k, k < t → ∃ (x : Bl) (kd lb : Nat) (B : List Nat), l5[k]? = some x ∧ bsp x = (((kd : Int), 0, 0, (lb : Int)), B) ∧ May kd e sn lb B ∧ (eb e sn L)[k]? = some (en kd e sn lb B)) := Lib.hid fun e he k hk => by rw [hl5e]; exact HE.out e he l3 _ HL3.out.2 rfl k hk
  have HO5 : Hid (∀ W, At w5 W → OB w1.drew W (.slice (some ⟨g5, 0, none⟩) t c5) l5) := Lib.hid fun W hW => by rw [hl5e]; exact HG.out.ow.on kB hW
  clear hl5e hl5 e2 e3 hg5 HG HE HL3 HO3 HO4 HV4 HAL HDB HCB K1
  have HCC : Hid (∀ W, At w5 W → W.cell? ⟨q, 0, none⟩ = some (.int .i64 (sn : Int)) ∧ W.cell? ⟨q, 1, none⟩ = some (.slice A n c)) := Lib.hid fun W hW => HC.out W (HA5.out.next hW)
  have HW5 : Hid (At w w5) := Lib.hid (HAZ.out.next HA5.out)
  go_wp2_with fail
  go_loopw [7, 24] (fun c7 c24 wr => ∃ (k d : Nat) (B : Option Addr) (l : List Rl), k ≤ t ∧ c24 = .int .i64 (k : Int) ∧ c7 = .slice B k d ∧ Hid (l.length = k ∧ l.map (·.1) = (eb ep.toNat sn L).take k) ∧ Hid (0 < k → 0 ≤ ep ∧ ep ≤ 4294967295) ∧ Hid (OR w5 wr (.slice B k d) l) ∧ Hid (∀ x ∈ l, ∀ a, x.2.1 = some a → w5.heap.size ≤ a.block)) (fun _ c24 _ => t - (RowKit.intOf c24).toNat)
  case atStart => exact ⟨0, 0, none, [], Nat.zero_le _, rfl, rfl, Lib.hid ⟨rfl, by simp⟩, Lib.hid (fun h => absurd h (Nat.lt_irrefl 0)), Lib.hid (Ow.nil w5), Lib.hid (fun x hx => by cases hx)⟩
  case round =>
    obtain ⟨k, d, B, l, hk, rfl, rfl, HL, HK, HO, HNW⟩ := hrel
    by_cases hlt : k < t
    · have HA : Hid (At w5 wr) := Lib.hid HO.out.at_
      obtain ⟨x, kd, lb, D, hx1, hx2, hx3, hx4⟩ := HEE.out (if 0 ≤ ep ∧ ep ≤ 4294967295 then ep.toNat else 0) (by split <;> omega) k hlt
      have hob := HO5.out wr HA.out
      obtain ⟨hcs, hxD⟩ := bl_cells hx2
      have k0 := hob.cell kB hx1 (i := 0) (u := .int .i64 (kd : Int)) (by rw [hcs]; rfl)
      have k1 := hob.cell kB hx1 (i := 1) (u := .int .i64 0) (by rw [hcs]; rfl)
      have k2 := hob.cell kB hx1 (i := 2) (u := .int .i64 0) (by rw [hcs]; rfl)
      have k3 := hob.cell kB hx1 (i := 3) (u := .int .i64 (lb : Int)) (by rw [hcs]; rfl)
      have k4 := hob.cell kB hx1 (i := 4) (u := .slice x.2.2.1 D.length x.2.2.2) (by rw [hcs]; rfl)
      have hbv := BVf.bv (hob.gd x (List.mem_of_getElem? hx1))
      rw [hxD] at hbv
      obtain ⟨AD, hAD⟩ : ∃ A, A = x.2.2.1 := ⟨_, rfl⟩
      obtain ⟨cD, hcD⟩ : ∃ A, A = x.2.2.2 := ⟨_, rfl⟩
      rw [← hAD, ← hcD] at k4
      rw [← hAD] at hbv
      obtain ⟨mD, hmD⟩ : ∃ m, D.length = m := ⟨_, rfl⟩
      rw [hmD] at k4
      rw [Nat.add_zero] at k0
      have HBV := Lib.hid hbv
      have HMD := Lib.hid hmD
      have HMay := Lib.hid hx3
      have HX4 := Lib.hid hx4
      obtain ⟨c0, c1⟩ := HCC.out wr HA.out
      obtain ⟨wx, hwx⟩ : ∃ wx, wr.alloc (.cells #[.int .i64 (kd : Int), .int .i64 0, .int .i64 0, .int .i64 (lb : Int), .slice AD mD cD] 57) = wx := ⟨_, rfl⟩
      obtain ⟨qx, hqx⟩ : ∃ q, wr.heap.size = q := ⟨_, rfl⟩
      have hAx : At wr wx := by rw [← hwx]; exact (At.start wr).alloc _
      have hbx : Bx wx qx 57 (kd : Int) 0 0 (lb : Int) (.slice AD mD cD) := by rw [← hwx, ← hqx]; exact bx_new _ _ _ _ _ _ _
      have HBX := Lib.hid hbx
      have HAX := Lib.hid (HA.out.next hAx)
      have HQX : Hid (wr.heap.size ≤ qx) := Lib.hid (by rw [← hqx]; exact Nat.le_refl _)
      obtain ⟨d0, d1⟩ := HCC.out wx HAX.out
      obtain ⟨r0, r1, r2, r3, r4⟩ := hbx.cells
      have q1 := hbx.free 1
      have q2 := hbx.free 2
      have g1 : (0 : Int) ≤ (k : Int) := by omega
      have g2 : (k : Int) < (t : Int) := by omega
      have hne : ¬ q = qx := fun e => by
        have h1 := (HA5.out.next HA.out).keep HQ.out
        have := lt_heap h1
        omega
      clear hob hcs hxD hbv hAD hcD hmD hx1 hx2 hx3 hx4 hAx hbx c0 c1
      obtain ⟨w6, hw6⟩ : ∃ w6, ((wx.setCell ⟨qx, 1, none⟩ (.int .i64 ep)).setCell ⟨qx, 2, none⟩ (.int .i64 (sn : Int))).drew = w6 := ⟨_, rfl⟩
      have hb6 : Bx w6 qx 57 (kd : Int) ep (sn : Int) (lb : Int) (.slice AD mD cD) := by
        rw [← hw6]
        exact (HBX.out.set1 ep).set2 (sn : Int)
      have HA6 : Hid (At wr w6) := Lib.hid (by
        rw [← hw6]
        exact At.drewN (Below.setCell (p := ⟨qx, 2, none⟩) (Below.setCell (p := ⟨qx, 1, none⟩) (by rw [← hwx]; exact (At.start wr).alloc _) HQX.out _) HQX.out _) 1)
      have HS1 : Hid (At wr (wx.setCell ⟨qx, 1, none⟩ (.int .i64 ep)).drew) := Lib.hid (At.drewN (Below.setCell (p := ⟨qx, 1, none⟩) (by rw [← hwx]; exact (At.start wr).alloc _) HQX.out _) 1)
      obtain ⟨y0, y1, y2, y3, y4⟩ := hb6.cells
      have HBV6 := Lib.hid (HBV.out.below HA6.out)
      have HO6 := Lib.hid (HO.out.on kR HA6.out)
      clear hb6
      have z1 : (wx.setCell ⟨qx, 1, none⟩ (.int .i64 ep)).drew.cell? ⟨q, 0, none⟩ = some (.int .i64 (sn : Int)) := (HCC.out _ (HA.out.next HS1.out)).1
      go_wp2_with fail
      go_region_held3 (fun w' => w'.cell? ⟨q, 0, none⟩ = some (.int .i64 (sn : Int))) (first | go_keep | exact z1 | exact (HCC.out _ (HA.out.next HA6.out)).1) (fail)
      clear r0 r1 r2 r3 r4 q1 q2 d0 d1 hne
      by_cases hE : 0 ≤ ep ∧ ep ≤ 4294967295
      rotate_left
      · have HN : Hid (¬ Nums (kd : Int) ep (sn : Int) (lb : Int)) := Lib.hid (fun h => hE h.2.1)
        have HR := Lib.hid (encode_arg AD (kd : Int) ep (sn : Int) (lb : Int) mD cD HN.out w6)
        have HE := Lib.hid hE
        clear hE
        go_wp2_with fail
        refine HR.out.mono ?_
        rintro e w7 ⟨rfl, hA7⟩
        have HA7 := Lib.hid (HA.out.next (HA6.out.next hA7))
        clear hA7
        go_wp2_with fail
        try rw [Exit.noGoto_ret]
        go_ret2
        exact Or.inr ⟨fun h => HE.out h.2, rfl, HW5.out.next HA7.out⟩
      · obtain ⟨en_, hen⟩ : ∃ en_ : Nat, ep = (en_ : Int) := ⟨ep.toNat, by omega⟩
        have hM := HMay.out
        have hX := HX4.out
        rw [if_pos hE] at hM hX
        have hep : ep.toNat = en_ := by omega
        rw [hep] at hM hX
        have HR := Lib.hid (encode_yes AD kd en_ sn lb mD cD D hM HMD.out w6 HBV6.out)
        have HEP : Hid ((eb ep.toNat sn L).take (k + 1) = (eb ep.toNat sn L).take k ++ [en kd en_ sn lb D]) := Lib.hid (by rw [hep]; exact take_at hX)
        have HEL := Lib.hid (en_len (k := kd) (e := en_) (s := sn) (l := lb) (L := D) hM.n)
        have HE := Lib.hid hE
        have HEQ := Lib.hid hep
        clear hE hM hX hep
        subst hen
        go_wp2_with fail
        refine HR.out.mono ?_
        rintro e w7 ⟨g7, rfl, hg7, hv7, hA7⟩
        have HO7 := Lib.hid (HO6.out.on kR hA7)
        have HR7 : Hid (rgd (ob (.slice B k d)) w7 (en kd en_ sn lb D, some ⟨g7, 0, none⟩, 64)) := Lib.hid ⟨new_bv HO6.out hg7 hv7, Nat.le_of_eq HEL.out⟩
        obtain ⟨wy, hwy⟩ : ∃ wy, w7.alloc (.cells #[.slice (some ⟨g7, 0, none⟩) 64 64] 39) = wy := ⟨_, rfl⟩
        obtain ⟨qy, hqy⟩ : ∃ q, w7.heap.size = q := ⟨_, rfl⟩
        have hAy : At w7 wy := by rw [← hwy]; exact (At.start w7).alloc _
        have HOY := Lib.hid (HO7.out.on kR hAy)
        have HRY := Lib.hid (kR.mv _ _ _ _ HR7.out (Mv.of_below _ hAy))
        have HQY : Hid (wy.heap[qy]? = some (.cells #[.slice (some ⟨g7, 0, none⟩) 64 64] 39 (0, 0))) := Lib.hid (by rw [← hwy, ← hqy]; exact heap_alloc_new w7 _)
        have hk1 : k + 1 ≤ 1000000 := by omega
        have HG7 : Hid (w5.heap.size ≤ g7) := Lib.hid (Nat.le_trans (Nat.le_trans HO.out.at_.size HA6.out.size) hg7)
        clear hA7 hg7 hv7 hAy
        go_wp2_with (at_builtin; refine Ow.append kR rfl HOY.out (.tmp 41) (.tmp 43) rfl k 1 (k + 1) HL.out.1 rfl (some ⟨qy, 0, none⟩) 1 [(en kd en_ sn lb D, some ⟨g7, 0, none⟩, 64)] rfl (fun x hx => by rw [List.mem_singleton.1 hx]; exact HRY.out) rfl (fun h => by cases h) (one_kept (vs := #[.slice (some ⟨g7, 0, none⟩) 64 64]) (by show [Value.slice _ _ _] = _; rw [HEL.out]) HQY.out) rfl hk1 ?_; intro A' c' w' HG)
        go_roundw
        case rel => exact ⟨k + 1, c', A', _, by omega, by go_num, rfl, Lib.hid ⟨by rw [List.length_append, HL.out.1]; rfl, by rw [List.map_append, HL.out.2, HEP.out]; rfl⟩, Lib.hid (fun _ => HE.out), Lib.hid HG.out.ow, Lib.hid (fun x hx a ha => by
          rcases List.mem_append.1 hx with hx | hx
          · exact HNW.out x hx a ha
          · rw [List.mem_singleton.1 hx] at ha
            injection ha with ha
            rw [← ha]; exact HG7.out)⟩
        case measure => simp [RowKit.intOf]; omega
    · have hkt : k = t := by omega
      have HLL : Hid (l.length = k ∧ l.map (·.1) = eb ep.toNat (sn : Int).toNat L) := Lib.hid ⟨HL.out.1, by rw [HL.out.2, HSN.out, List.take_of_length_le (by rw [eb_len, ← HTL.out, HT1.out]; omega)]⟩
      have HE := Lib.hid (HK.out (by omega))
      subst hkt
      go_wp2_with fail
      try rw [Exit.noGoto_ret]
      go_ret2
      exact Or.inl ⟨⟨HBS.out, HE.out⟩, B, d, l, rfl, HLL.out.1, HLL.out.2, fun x hx a ha => Nat.le_trans HW5.out.size (HNW.out x hx a ha), HO.out.base HW5.out⟩

end Go.Proofs.Ytgmekkenodiclaa
