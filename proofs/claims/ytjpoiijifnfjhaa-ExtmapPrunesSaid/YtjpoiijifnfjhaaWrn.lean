/- Proved: of no map nothing was written later. -/
import Derived.Test.YtjpoiijifnfjhaaWri
namespace Go.Proofs.Ytjpoiijifnfjhaa
open Go.RowKit Go.Maps Go.Sort Go.Shelf

attribute [local go_sem] Oper.semAt_some

set_option maxHeartbeats 4000000 in
set_option maxRecDepth 100000 in
theorem written_nil (w : World) (a n t : Int) (hv : Va (a, n)) :
    Calls Try.prog 20 #[.pointer none, .agg #[.int .i64 a, .int .i64 n], .int .i64 t] w (Gives (.bool false) w) := by
  refine (callsIn_wide (n := 8)).1 ?_
  have HV : Hid (∀ W, CallsIn Fence.wide 7 Try.prog 36 #[.agg #[.int .i64 a, .int .i64 n]] W (Gives (.bool true) W)) := Lib.hid (fun W => by
    have := valid_any a n W
    rw [vaB_yes hv] at this
    exact callsIn_wide.2 this)
  have HWI := Lib.hid (fun W => callsIn_wide (n := 7).2 (within_any none a n W))
  obtain ⟨e1, e2, e3, e4, e5⟩ := hv
  simp only at e1 e2 e3 e4 e5
  have hA0 : At w (((w.alloc (.cells #[.int .i64 a, .int .i64 n] 48)).alloc (.cells #[.int .i64 t] 3)).alloc (.cells #[.bool false] 4)) := (((At.start w).alloc _).alloc _).alloc _
  have HA0 := Lib.hid hA0
  have HBX : Hid ((((w.alloc (.cells #[.int .i64 a, .int .i64 n] 48)).alloc (.cells #[.int .i64 t] 3)).alloc (.cells #[.bool false] 4)).heap[w.heap.size]? = some (.cells #[.int .i64 a, .int .i64 n] 48 (0, 0))) := Lib.hid (At.keep (((At.start _).alloc _).alloc _) (heap_alloc_new w _))
  have HTX : Hid ((((w.alloc (.cells #[.int .i64 a, .int .i64 n] 48)).alloc (.cells #[.int .i64 t] 3)).alloc (.cells #[.bool false] 4)).heap[w.heap.size + 1]? = some (.cells #[.int .i64 t] 3 (0, 0))) := Lib.hid (by
    have := At.keep ((At.start _).alloc (.cells #[.bool false] 4)) (heap_alloc_new (w.alloc (.cells #[.int .i64 a, .int .i64 n] 48)) (.cells #[.int .i64 t] 3))
    simpa using this)
  have HRX : Hid ((((w.alloc (.cells #[.int .i64 a, .int .i64 n] 48)).alloc (.cells #[.int .i64 t] 3)).alloc (.cells #[.bool false] 4)).heap[w.heap.size + 1 + 1]? = some (.cells #[.bool false] 4 (0, 0))) := Lib.hid (by
    have := heap_alloc_new ((w.alloc (.cells #[.int .i64 a, .int .i64 n] 48)).alloc (.cells #[.int .i64 t] 3)) (.cells #[.bool false] 4)
    simpa using this)
  clear hA0
  have hfV : Fence.wide.fn 36 := trivial
  have hfW : Fence.wide.fn 34 := trivial
  refine callsIn_of_wp_marks Try.func20 rfl trivial ?_ rfl
  simp only [Try.ntmps20, List.size_toArray, List.length_cons, List.length_nil, Nat.reduceAdd, Nat.reduceSub, Array.replicate_succ, Array.replicate_zero, List.push_toArray, List.append_toArray, List.nil_append, List.cons_append]
  gi_wp2_with fail
  generalize (((w.alloc (.cells #[.int .i64 a, .int .i64 n] 48)).alloc (.cells #[.int .i64 t] 3)).alloc (.cells #[.bool false] 4)) = wa at HA0 HBX HTX HRX ⊢
  refine (HV.out _).mono ?_
  rintro e w1 ⟨rfl, hA⟩
  have HA1 : Hid (At w w1) := Lib.hid (HA0.out.next hA)
  have HBX1 := Lib.hid (At.keep hA HBX.out)
  have HTX1 := Lib.hid (At.keep hA HTX.out)
  have HRX1 := Lib.hid (At.keep hA HRX.out)
  clear hA HBX HTX HRX HA0 HV
  obtain ⟨X, hX⟩ : ∃ X, X = w.heap.size := ⟨_, rfl⟩
  have HX := Lib.hid hX
  rw [← hX] at HBX1 HTX1 HRX1 ⊢
  clear hX
  have c1 : w1.cell? ⟨X, 0, none⟩ = some (.int .i64 a) := (cell_at HBX1.out 0).trans rfl
  have c2 : w1.cell? ⟨X, 1, none⟩ = some (.int .i64 n) := (cell_at HBX1.out 1).trans rfl
  gi_wp2_with fail
  refine (HWI.out _).mono ?_
  rintro e w' ⟨rfl, rfl⟩
  have hA2 : At w1 ((w1.alloc (.cells #[.pointer none] 25)).alloc (.cells #[.int .i64 a, .int .i64 n] 48)) := ((At.start w1).alloc _).alloc _
  have hP1 := At.keep ((At.start _).alloc (.cells #[.int .i64 a, .int .i64 n] 48)) (heap_alloc_new w1 (.cells #[.pointer none] 25))
  have hP2 := heap_alloc_new (w1.alloc (.cells #[.pointer none] 25)) (.cells #[.int .i64 a, .int .i64 n] 48)
  rw [World.size_alloc] at hP2
  obtain ⟨B1, hB1⟩ : ∃ B1, B1 = w1.heap.size := ⟨_, rfl⟩
  rw [← hB1] at hP1 hP2 ⊢
  have hsz : ((w1.alloc (.cells #[.pointer none] 25)).alloc (.cells #[.int .i64 a, .int .i64 n] 48)).heap.size = B1 + 2 := by rw [hB1]; simp
  have hBl : X + 3 ≤ B1 := by have := lt_heap HRX1.out; omega
  clear hB1
  generalize ((w1.alloc (.cells #[.pointer none] 25)).alloc (.cells #[.int .i64 a, .int .i64 n] 48)) = wv at hA2 hP1 hP2 hsz ⊢
  have HAV : Hid (At w wv) := Lib.hid (HA1.out.next hA2)
  have HTX2 := Lib.hid (At.keep hA2 HTX1.out)
  have HRX2 := Lib.hid (At.keep hA2 HRX1.out)
  have HP1 := Lib.hid hP1
  have HP2 := Lib.hid hP2
  have HSZ := Lib.hid hsz
  have HBL := Lib.hid hBl
  clear hA2 hP1 hP2 hsz hBl HA1 HBX1 HTX1 HRX1 c1 c2 HWI
  gi_wp2_with fail
  have t0 : wv.cell? ⟨X + 1, 0, none⟩ = some (.int .i64 t) := (cell_at HTX2.out 0).trans rfl
  have r0 : wv.cell? ⟨X + 1 + 1, 0, none⟩ = some (.bool false) := (cell_at HRX2.out 0).trans rfl
  have f0 : wv.frozen? ⟨X + 1 + 1, 0, none⟩ = false := free_at HRX2.out 0
  refine wpIn_rangeFunc_ownF rfl (by omega) (gf := 43) (lb := #[.pointer (some ⟨B1, 0, none⟩), .pointer (some ⟨B1 + 1, 0, none⟩)]) rfl trivial (enters_of Try.func43 (by kernel_rfl) rfl)
    (within1_nil a n e1 e2 e3 e4 B1 (B1 + 1) HP1.out HP2.out (fun _ => nl) (st0 1)) Kw.t (Kw.b (by rw [HSZ.out]; omega)) (Below.refl _ _) (fun _ => rfl)
    (fun _ W => (True ∧ W.cell? ⟨X + 1, 0, none⟩ = some (.int .i64 t) ∧ W.cell? ⟨X + 1 + 1, 0, none⟩ = some (.bool false) ∧ W.frozen? ⟨X + 1 + 1, 0, none⟩ = false ∧ B1 + 1 < W.heap.size) ∧ Below w.heap.size w W)
    (fun _ _ _ => False)
    (OwnFrom.and (Own.from (fun s A B row hs hg hr => ⟨hs.1, cell_kept hs.2.1 hg hr, cell_kept hs.2.2.1 hg hr, (frozen_kept hs.2.2.1 hg hr).trans hs.2.2.2.1, Nat.lt_of_lt_of_le hs.2.2.2.2 hg.size⟩) _) (ownFrom_below (Nat.le_refl _) (by have := HAV.out.size; exact this)))
    (fun _ _ _ _ _ hs _ _ => hs)
    ⟨⟨trivial, t0, r0, f0, by rw [HSZ.out]; omega⟩, HAV.out⟩
    (fun x => { tmps := #[.pointer none, .agg #[.int .i64 a, .int .i64 n], .int .i64 t, undef, .pointer (some ⟨X, 0, none⟩), .pointer (some ⟨X + 1, 0, none⟩), .pointer (some ⟨X + 1 + 1, 0, none⟩), undef, nl, .agg #[.int .i64 a, .int .i64 n], .bool true, .bool false, .pointer none, .agg #[.int .i64 a, .int .i64 n], .func (.func 43) #[] #[.pointer (some ⟨B1, 0, none⟩), .pointer (some ⟨B1 + 1, 0, none⟩)], .int .i64 (x.1 : Int), nl, undef, undef, undef, undef, undef], defers := [] }) ?assign ?body ?done ?stop
  case assign =>
    intro l x W K hK
    gi_wp2
    exact hK
  case body =>
    intro l pre x W _ hlt
    exact absurd hlt (Nat.not_lt_zero _)
  case done =>
    rintro D ys W hD _ ⟨⟨_, _, hcr, hfr, _⟩, hB⟩ hK
    have HB := Lib.hid hB
    have HK := Lib.hid hK
    clear hB hK
    gi_wp2
    have hK' := (KeepsOthers.setCell W ⟨X + 1 + 1, 0, none⟩ (.bool false)).same D _ HK.out rfl
    refine ⟨by simp, .inl ⟨_, _, rfl, run_takeDeferred hK', ?_⟩⟩
    have hc5 := cell_kept (World.cell?_setCell_same' W ⟨X + 1 + 1, 0, none⟩ (.bool false) (by rw [hcr]; rfl)) (grownBy_putObj' _ D (.deferred none)) (fun r e => by cases e; exact ⟨_, hK', rfl⟩)
    refine ⟨.bool false, ?_, rfl, (HB.out.setCell (p := ⟨X + 1 + 1, 0, none⟩) (by show w.heap.size ≤ X + 1 + 1; have := HX.out; omega) _).trans (belowK_b (w := w) (Nat.le_refl _) _ D _ _ (by have := HAV.out.size; omega) hK' rfl rfl)⟩
    simp [results, Try.f20, go_sem, hc5]
  case stop =>
    rintro D c pre W _ h
    exact h.elim

end Go.Proofs.Ytjpoiijifnfjhaa
