/- Proved: whether a block of an extent was written later. -/
import Derived.Test.YtcffoebpgjonmaaEWi
namespace Go.Proofs.Ytcffoebpgjonmaa.Em
open Go.RowKit Go.Maps Go.Sort Go.Shelf
open Iv (Va vaB vaB_yes vaB_no valid_any after_any)

attribute [local go_sem] Oper.semAt_some

noncomputable def wrB (S : St) (a n t : Int) : Bool := vaB a n && @decide (∃ x : Bk S a n, t < (nw (S.V x.1)).1) (Classical.propDecidable _)

theorem at_grown {w w' : World} (h : At w w') : w.grownBy w' none := ⟨h.os, h.tape, h.output, h.size, fun k hk _ => h.block k hk⟩
theorem at_keeps {w w' : World} (h : At w w') : KeepsOthers w w' := KeepsOthers.of_grownBy (at_grown h) (fun j o e => by cases e)
theorem at_kw {w w' : World} {B : Nat} (h : At w w') (hB : B < w.heap.size) : Kw B w w' := ⟨(at_keeps h).walks, h.block B hB⟩

set_option maxHeartbeats 1000000 in
set_option maxRecDepth 100000 in
/-- An extent that may not be. -/
theorem written_no (p : Option Addr) (a n t : Int) (hv : ¬ Va (a, n)) (w : World) : Calls Try.prog 52 #[.pointer p, .agg #[.int .i64 a, .int .i64 n], .int .i64 t] w (Gives (.bool false) w) := by
  have HV := Lib.hid (fun W => valid_any a n W)
  rw [vaB_no hv] at HV
  clear hv
  have HC : Hid (∀ W, At (((w.alloc (.cells #[.int .i64 a, .int .i64 n] 49)).alloc (.cells #[.int .i64 t] 3)).alloc (.cells #[.bool false] 4)) W → W.heap[w.heap.size + 2]? = some (.cells #[.bool false] 4 (0, 0)) ∧ At w W) := Lib.hid fun W hW => ⟨hW.keep (by
    have := heap_alloc_new ((w.alloc (.cells #[.int .i64 a, .int .i64 n] 49)).alloc (.cells #[.int .i64 t] 3)) (.cells #[.bool false] 4)
    simpa using this), ((((At.start w).alloc _).alloc _).alloc _).next hW⟩
  go_enter Try.func52, Try.ntmps52
  go_wp2_with fail
  refine (HV.out _).mono ?_
  rintro e w1 ⟨rfl, hA⟩
  obtain ⟨h1, h2⟩ := HC.out w1 hA
  have H1 := Lib.hid h1
  have H2 := Lib.hid h2
  clear hA h1 h2
  have c1 : w1.cell? ⟨w.heap.size + 2, 0, none⟩ = some (.bool false) := (cell_at H1.out 0).trans rfl
  have f1 : w1.frozen? ⟨w.heap.size + 2, 0, none⟩ = false := free_at H1.out 0
  have HE : Hid (At w (w1.setCell ⟨w.heap.size + 2, 0, none⟩ (.bool false))) := Lib.hid (Below.setCell (p := ⟨w.heap.size + 2, 0, none⟩) H2.out (by show w.heap.size ≤ w.heap.size + 2; omega) _)
  have HC2 : Hid ((w1.setCell ⟨w.heap.size + 2, 0, none⟩ (.bool false)).cell? ⟨w.heap.size + 2, 0, none⟩ = some (.bool false)) := Lib.hid ((cell_at (heap_set H1.out 0 (.bool false)) 0).trans rfl)
  go_wp2
  refine bodyPost_ret (v := .bool false) (by simp [results, Try.f52, go_sem, HC2.out]) rfl ⟨rfl, HE.out⟩

set_option maxHeartbeats 4000000 in
set_option maxRecDepth 100000 in
theorem written_any {w : World} {b : Nat} {S : St} {F : Nat → Prop} {mb : Nat} {D : DataW Value} {hd : Nat → Value} (h : Mq w b S F mb D hd) (a n t : Int) (hv : Va (a, n)) :
    Calls Try.prog 52 #[.pointer (some ⟨b, 0, none⟩), .agg #[.int .i64 a, .int .i64 n], .int .i64 t] w (Gives (.bool (wrB S a n t)) w) := by
  refine (callsIn_wide (n := 8)).1 ?_
  have hWB : wrB S a n t = @decide (∃ x : Bk S a n, t < (nw (S.V x.1)).1) (Classical.propDecidable _) := by unfold wrB; rw [vaB_yes hv]; rfl
  have HWB := Lib.hid hWB
  clear hWB
  have HV : Hid (∀ W, CallsIn Fence.wide 7 Try.prog 55 #[.agg #[.int .i64 a, .int .i64 n]] W (Gives (.bool true) W)) := Lib.hid (fun W => by
    have := valid_any a n W
    rw [vaB_yes hv] at this
    exact callsIn_wide.2 this)
  have HWI := Lib.hid (fun W => callsIn_wide (n := 7).2 (within_any (some ⟨b, 0, none⟩) a n W))
  obtain ⟨e1, e2, e3, e4, e5⟩ := hv
  simp only at e1 e2 e3 e4 e5
  have hA0 : At w (((w.alloc (.cells #[.int .i64 a, .int .i64 n] 49)).alloc (.cells #[.int .i64 t] 3)).alloc (.cells #[.bool false] 4)) := (((At.start w).alloc _).alloc _).alloc _
  have HA0 := Lib.hid hA0
  have HBX : Hid ((((w.alloc (.cells #[.int .i64 a, .int .i64 n] 49)).alloc (.cells #[.int .i64 t] 3)).alloc (.cells #[.bool false] 4)).heap[w.heap.size]? = some (.cells #[.int .i64 a, .int .i64 n] 49 (0, 0))) := Lib.hid (At.keep (((At.start _).alloc _).alloc _) (heap_alloc_new w _))
  have HTX : Hid ((((w.alloc (.cells #[.int .i64 a, .int .i64 n] 49)).alloc (.cells #[.int .i64 t] 3)).alloc (.cells #[.bool false] 4)).heap[w.heap.size + 1]? = some (.cells #[.int .i64 t] 3 (0, 0))) := Lib.hid (by
    have := At.keep ((At.start _).alloc (.cells #[.bool false] 4)) (heap_alloc_new (w.alloc (.cells #[.int .i64 a, .int .i64 n] 49)) (.cells #[.int .i64 t] 3))
    simpa using this)
  have HRX : Hid ((((w.alloc (.cells #[.int .i64 a, .int .i64 n] 49)).alloc (.cells #[.int .i64 t] 3)).alloc (.cells #[.bool false] 4)).heap[w.heap.size + 1 + 1]? = some (.cells #[.bool false] 4 (0, 0))) := Lib.hid (by
    have := heap_alloc_new ((w.alloc (.cells #[.int .i64 a, .int .i64 n] 49)).alloc (.cells #[.int .i64 t] 3)) (.cells #[.bool false] 4)
    simpa using this)
  have H := Lib.hid h
  clear hA0 h
  have hfV : Fence.wide.fn 55 := trivial
  have hfW : Fence.wide.fn 67 := trivial
  refine callsIn_of_wp_marks Try.func52 rfl trivial ?_ rfl
  simp only [Try.ntmps52, List.size_toArray, List.length_cons, List.length_nil, Nat.reduceAdd, Nat.reduceSub, Array.replicate_succ, Array.replicate_zero, List.push_toArray, List.append_toArray, List.nil_append, List.cons_append]
  gi_wp2_with fail
  generalize (((w.alloc (.cells #[.int .i64 a, .int .i64 n] 49)).alloc (.cells #[.int .i64 t] 3)).alloc (.cells #[.bool false] 4)) = wa at HA0 HBX HTX HRX ⊢
  refine (HV.out _).mono ?_
  rintro e w1 ⟨rfl, hA⟩
  have HA1 : Hid (At w w1) := Lib.hid (HA0.out.next hA)
  have HBX1 := Lib.hid (At.keep hA HBX.out)
  have HTX1 := Lib.hid (At.keep hA HTX.out)
  have HRX1 := Lib.hid (At.keep hA HRX.out)
  clear hA HBX HTX HRX HA0 HV
  obtain ⟨X, hX⟩ : ∃ X, X = w.heap.size := ⟨_, rfl⟩
  have HX := Lib.hid hX
  rw [← hX] at HBX1 HTX1 HRX1 ⊢
  clear hX
  have c1 : w1.cell? ⟨X, 0, none⟩ = some (.int .i64 a) := (cell_at HBX1.out 0).trans rfl
  have c2 : w1.cell? ⟨X, 1, none⟩ = some (.int .i64 n) := (cell_at HBX1.out 1).trans rfl
  gi_wp2_with fail
  refine (HWI.out _).mono ?_
  rintro e w' ⟨rfl, rfl⟩
  have hA2 : At w1 ((w1.alloc (.cells #[.pointer (some ⟨b, 0, none⟩)] 26)).alloc (.cells #[.int .i64 a, .int .i64 n] 49)) := ((At.start w1).alloc _).alloc _
  have hP1 := At.keep ((At.start _).alloc (.cells #[.int .i64 a, .int .i64 n] 49)) (heap_alloc_new w1 (.cells #[.pointer (some ⟨b, 0, none⟩)] 26))
  have hP2 := heap_alloc_new (w1.alloc (.cells #[.pointer (some ⟨b, 0, none⟩)] 26)) (.cells #[.int .i64 a, .int .i64 n] 49)
  rw [World.size_alloc] at hP2
  obtain ⟨B1, hB1⟩ : ∃ B1, B1 = w1.heap.size := ⟨_, rfl⟩
  rw [← hB1] at hP1 hP2 ⊢
  have hsz : ((w1.alloc (.cells #[.pointer (some ⟨b, 0, none⟩)] 26)).alloc (.cells #[.int .i64 a, .int .i64 n] 49)).heap.size = B1 + 2 := by rw [hB1]; simp
  have hBl : X + 3 ≤ B1 := by have := lt_heap HRX1.out; omega
  clear hB1
  generalize ((w1.alloc (.cells #[.pointer (some ⟨b, 0, none⟩)] 26)).alloc (.cells #[.int .i64 a, .int .i64 n] 49)) = wv at hA2 hP1 hP2 hsz ⊢
  have HAV : Hid (At w wv) := Lib.hid (HA1.out.next hA2)
  have HTX2 := Lib.hid (At.keep hA2 HTX1.out)
  have HRX2 := Lib.hid (At.keep hA2 HRX1.out)
  have HP1 := Lib.hid hP1
  have HP2 := Lib.hid hP2
  have HSZ := Lib.hid hsz
  have HBL := Lib.hid hBl
  clear hA2 hP1 hP2 hsz hBl HA1 HBX1 HTX1 HRX1 c1 c2 HWI
  gi_wp2_with fail
  have t0 : wv.cell? ⟨X + 1, 0, none⟩ = some (.int .i64 t) := (cell_at HTX2.out 0).trans rfl
  have r0 : wv.cell? ⟨X + 1 + 1, 0, none⟩ = some (.bool false) := (cell_at HRX2.out 0).trans rfl
  have f0 : wv.frozen? ⟨X + 1 + 1, 0, none⟩ = false := free_at HRX2.out 0
  refine wpIn_rangeFunc_ownF rfl (by omega) (gf := 73) (lb := #[.pointer (some ⟨B1, 0, none⟩), .pointer (some ⟨B1 + 1, 0, none⟩)]) rfl trivial (enters_of Try.func73 (by kernel_rfl) rfl)
    (within1_in (H.out.on HAV.out) a n e1 e2 e3 e4 B1 (B1 + 1) HP1.out HP2.out) Kw.t (Kw.b (by rw [HSZ.out]; omega)) (Below.refl _ _) (fun _ => rfl)
    (fun pre W => ((∀ x ∈ pre, (nw (S.V x.1)).1 ≤ t) ∧ W.cell? ⟨X + 1, 0, none⟩ = some (.int .i64 t) ∧ W.cell? ⟨X + 1 + 1, 0, none⟩ = some (.bool false) ∧ W.frozen? ⟨X + 1 + 1, 0, none⟩ = false ∧ B1 + 1 < W.heap.size) ∧ Below w.heap.size w W)
    (fun c _ W => (c = .ret ∧ (∃ x : Bk S a n, t < (nw (S.V x.1)).1) ∧ W.cell? ⟨X + 1 + 1, 0, none⟩ = some (.bool true)) ∧ Below w.heap.size w W)
    (OwnFrom.and (Own.from (fun s A B row hs hg hr => ⟨hs.1, cell_kept hs.2.1 hg hr, cell_kept hs.2.2.1 hg hr, (frozen_kept hs.2.2.1 hg hr).trans hs.2.2.2.1, Nat.lt_of_lt_of_le hs.2.2.2.2 hg.size⟩) _) (ownFrom_below (Nat.le_refl _) (by have := HAV.out.size; exact this)))
    (fun c => OwnFrom.and (Own.from (fun s A B row hs hg hr => ⟨hs.1, hs.2.1, cell_kept hs.2.2 hg hr⟩) _) (ownFrom_below (Nat.le_refl _) (by have := HAV.out.size; exact this)))
    ⟨⟨by simp, t0, r0, f0, by rw [HSZ.out]; omega⟩, HAV.out⟩
    (fun x => { tmps := #[.pointer (some ⟨b, 0, none⟩), .agg #[.int .i64 a, .int .i64 n], .int .i64 t, undef, .pointer (some ⟨X, 0, none⟩), .pointer (some ⟨X + 1, 0, none⟩), .pointer (some ⟨X + 1 + 1, 0, none⟩), undef, hd x.1, .agg #[.int .i64 a, .int .i64 n], .bool true, .bool false, .pointer (some ⟨b, 0, none⟩), .agg #[.int .i64 a, .int .i64 n], .func (.func 73) #[] #[.pointer (some ⟨B1, 0, none⟩), .pointer (some ⟨B1 + 1, 0, none⟩)], .int .i64 (x.1 : Int), hd x.1, undef, undef, undef, undef, undef], defers := [] }) ?assign ?body ?done ?stop
  case assign =>
    intro l x W K hK
    gi_wp2
    exact hK
  case body =>
    rintro l pre x W ⟨⟨hp, hct, hcr, hfr, hsz⟩, hB⟩ _
    have hm := H.out.on hB
    obtain ⟨A, c, hhd, _, _, hvv⟩ := hm.vv x.1
    have hlen := hm.ok.b x.1
    have hc1 := hm.ok.c1
    have h0 : 0 < (S.V x.1).length := List.length_pos_iff.2 x.2.1
    have hav := hm.allV x.1
    have HNW := Lib.hid (fun V (hV : At W V) => CallsIn.inRound l (callsIn_wide (n := 5).2 (newest_any (hvv.on hV) hav h0 (by omega) c)))
    have HCC : Hid (∀ V, At W V → V.cell? ⟨X + 1, 0, none⟩ = some (.int .i64 t) ∧ V.cell? ⟨X + 1 + 1, 0, none⟩ = some (.bool false) ∧ V.frozen? ⟨X + 1 + 1, 0, none⟩ = false) := Lib.hid (fun V hV =>
      ⟨(Below.cell hV (p := ⟨X + 1, 0, none⟩) (World.block_lt_of_cell? W _ hct)).trans hct, (Below.cell hV (p := ⟨X + 1 + 1, 0, none⟩) (World.block_lt_of_cell? W _ hcr)).trans hcr, (Below.frozen hV (p := ⟨X + 1 + 1, 0, none⟩) (World.block_lt_of_cell? W _ hcr)).trans hfr⟩)
    obtain ⟨v, hvn⟩ : ∃ v, v = nw (S.V x.1) := ⟨_, rfl⟩
    rw [← hvn] at HNW
    have hfl := field_time v (by rw [hvn]; exact hm.allV x.1 _ (nw_mem _ x.2.1))
    have HVN := Lib.hid hvn
    have HB := Lib.hid hB
    obtain ⟨m, hmm⟩ : ∃ m, m = (S.V x.1).length := ⟨_, rfl⟩
    rw [← hmm] at hhd HNW
    rw [hhd]
    have HHP := Lib.hid hp
    clear hm hhd hvv hlen hc1 h0 hvn hmm hp hB hav
    by_cases hgt : t < v.1
    · have hmix : Try.prog.follows .mixedOrders = true := by kernel_rfl
      have hfN : Fence.wide.fn 68 := trivial
      gi_wp2_with fail
      gi_region_with_o (gi_at_call 68; refine (HNW.out _ ((At.start W).drewN 1)).mono ?_; rintro e w3 ⟨rfl, hA3⟩; obtain ⟨d1, d2, d3⟩ := HCC.out w3 (((At.start W).drewN 1).next hA3))
      all_goals
        have HA3 : Hid (At W w3) := Lib.hid (((At.start W).drewN 1).next hA3)
        clear hA3
        gi_wp2
        exact ⟨(at_keeps HA3.out).trans (KeepsOthers.setCell _ _ _), ⟨rfl, ⟨x, by rw [← HVN.out]; exact hgt⟩, (World.cell?_setCell_same' _ _ _ (by rw [d2]; rfl))⟩, (HB.out.trans (Below.mono HA3.out HB.out.size)).setCell (p := ⟨X + 1 + 1, 0, none⟩) (by show w.heap.size ≤ X + 1 + 1; have := HX.out; omega) _⟩
    · have hgf : decide (t < v.1) = false := decide_eq_false hgt
      have hmix : Try.prog.follows .mixedOrders = true := by kernel_rfl
      have hfN : Fence.wide.fn 68 := trivial
      gi_wp2_with fail
      gi_region_with_o (gi_at_call 68; refine (HNW.out _ ((At.start W).drewN 1)).mono ?_; rintro e w3 ⟨rfl, hA3⟩; obtain ⟨d1, d2, d3⟩ := HCC.out w3 (((At.start W).drewN 1).next hA3))
      all_goals
        have HA3 : Hid (At W w3) := Lib.hid (((At.start W).drewN 1).next hA3)
        clear hA3
        gi_wp2
        exact ⟨at_keeps HA3.out, at_kw HA3.out hsz, ⟨fun y hy => (List.mem_append.1 hy).elim (HHP.out y) (fun e => by rw [List.mem_singleton] at e; subst e; rw [← HVN.out]; omega), d1, d2, d3, Nat.lt_of_lt_of_le hsz HA3.out.size⟩, HB.out.trans (Below.mono HA3.out HB.out.size)⟩
  case done =>
    rintro D ys W hD hall ⟨⟨hne, _, hcr, hfr, _⟩, hB⟩ hK
    have HB := Lib.hid hB
    have hwb : wrB S a n t = false := by
      rw [HWB.out]
      exact @decide_eq_false _ (Classical.propDecidable _) (fun ⟨x, hx⟩ => by have := hne x (hall x); omega)
    have HWF := Lib.hid hwb
    have HK := Lib.hid hK
    clear hB hne hall hwb hK
    gi_wp2
    have hK' := (KeepsOthers.setCell W ⟨X + 1 + 1, 0, none⟩ (.bool false)).same D _ HK.out rfl
    refine ⟨by simp, .inl ⟨_, _, rfl, run_takeDeferred hK', ?_⟩⟩
    have hc5 := cell_kept (World.cell?_setCell_same' W ⟨X + 1 + 1, 0, none⟩ (.bool false) (by rw [hcr]; rfl)) (grownBy_putObj' _ D (.deferred none)) (fun r e => by cases e; exact ⟨_, hK', rfl⟩)
    refine ⟨.bool false, ?_, by rw [HWF.out], (HB.out.setCell (p := ⟨X + 1 + 1, 0, none⟩) (by show w.heap.size ≤ X + 1 + 1; have := HX.out; omega) _).trans (belowK_b (w := w) (Nat.le_refl _) _ D _ _ (by have := HAV.out.size; omega) hK' rfl rfl)⟩
    simp [results, Try.f52, go_sem, hc5]
  case stop =>
    rintro D c pre W hD _ ⟨⟨rfl, hin, hcr⟩, hB⟩ hK
    have hwb : wrB S a n t = true := by
      rw [HWB.out]
      exact @decide_eq_true _ (Classical.propDecidable _) hin
    have HWF := Lib.hid hwb
    have HK := Lib.hid hK
    have HB := Lib.hid hB
    clear hwb hK hB hin
    gi_wp2
    refine ⟨by simp, .inl ⟨_, _, rfl, run_takeDeferred HK.out, ?_⟩⟩
    have hc5 := cell_kept hcr (grownBy_putObj' _ D (.deferred none)) (fun r e => by cases e; exact ⟨_, HK.out, rfl⟩)
    refine ⟨.bool true, ?_, by rw [HWF.out], HB.out.trans (belowK_b (w := w) (Nat.le_refl _) W D _ _ (by have := HAV.out.size; omega) HK.out rfl rfl)⟩
    simp [results, Try.f52, go_sem, hc5]

end Go.Proofs.Ytcffoebpgjonmaa.Em
