/- Proved: how a version is built of its time and its bytes, and a slice of one version; a version's bytes out of a slice.
Apply takes a transaction in, or tells why not.
New makes a map in which nothing is written. -/
import Derived.Test.YtcffoebpgjonmaaERe
import Derived.Great.BuildSlice
import Derived.Laws.Cover3
import Derived.OrdersHeld
import Derived.Deep.RegionHeld
import Derived.Deep.AppendLies
namespace Go.Proofs.Ytcffoebpgjonmaa.Em
open Go.RowKit

theorem uncons {α : Type} {n : Nat} : ∀ {l : List α}, l.length = n + 1 → ∃ a r, l = a :: r ∧ r.length = n
  | [], h => by cases h
  | a :: r, h => ⟨a, r, rfl, by simpa using h⟩
theorem forty {α : Type} {l : List α} (h : l.length = 40) : ∃ a0 a1 a2 a3 a4 a5 a6 a7 a8 a9 b0 b1 b2 b3 b4 b5 b6 b7 b8 b9 c0 c1 c2 c3 c4 c5 c6 c7 c8 c9 d0 d1 d2 d3 d4 d5 d6 d7 d8 d9 : α, l = [a0, a1, a2, a3, a4, a5, a6, a7, a8, a9, b0, b1, b2, b3, b4, b5, b6, b7, b8, b9, c0, c1, c2, c3, c4, c5, c6, c7, c8, c9, d0, d1, d2, d3, d4, d5, d6, d7, d8, d9] := by
  obtain ⟨a0, r0, rfl, h0⟩ := uncons h
  obtain ⟨a1, r1, rfl, h1⟩ := uncons h0
  obtain ⟨a2, r2, rfl, h2⟩ := uncons h1
  obtain ⟨a3, r3, rfl, h3⟩ := uncons h2
  obtain ⟨a4, r4, rfl, h4⟩ := uncons h3
  obtain ⟨a5, r5, rfl, h5⟩ := uncons h4
  obtain ⟨a6, r6, rfl, h6⟩ := uncons h5
  obtain ⟨a7, r7, rfl, h7⟩ := uncons h6
  obtain ⟨a8, r8, rfl, h8⟩ := uncons h7
  obtain ⟨a9, r9, rfl, h9⟩ := uncons h8
  obtain ⟨b0, r10, rfl, h10⟩ := uncons h9
  obtain ⟨b1, r11, rfl, h11⟩ := uncons h10
  obtain ⟨b2, r12, rfl, h12⟩ := uncons h11
  obtain ⟨b3, r13, rfl, h13⟩ := uncons h12
  obtain ⟨b4, r14, rfl, h14⟩ := uncons h13
  obtain ⟨b5, r15, rfl, h15⟩ := uncons h14
  obtain ⟨b6, r16, rfl, h16⟩ := uncons h15
  obtain ⟨b7, r17, rfl, h17⟩ := uncons h16
  obtain ⟨b8, r18, rfl, h18⟩ := uncons h17
  obtain ⟨b9, r19, rfl, h19⟩ := uncons h18
  obtain ⟨c0, r20, rfl, h20⟩ := uncons h19
  obtain ⟨c1, r21, rfl, h21⟩ := uncons h20
  obtain ⟨c2, r22, rfl, h22⟩ := uncons h21
  obtain ⟨c3, r23, rfl, h23⟩ := uncons h22
  obtain ⟨c4, r24, rfl, h24⟩ := uncons h23
  obtain ⟨c5, r25, rfl, h25⟩ := uncons h24
  obtain ⟨c6, r26, rfl, h26⟩ := uncons h25
  obtain ⟨c7, r27, rfl, h27⟩ := uncons h26
  obtain ⟨c8, r28, rfl, h28⟩ := uncons h27
  obtain ⟨c9, r29, rfl, h29⟩ := uncons h28
  obtain ⟨d0, r30, rfl, h30⟩ := uncons h29
  obtain ⟨d1, r31, rfl, h31⟩ := uncons h30
  obtain ⟨d2, r32, rfl, h32⟩ := uncons h31
  obtain ⟨d3, r33, rfl, h33⟩ := uncons h32
  obtain ⟨d4, r34, rfl, h34⟩ := uncons h33
  obtain ⟨d5, r35, rfl, h35⟩ := uncons h34
  obtain ⟨d6, r36, rfl, h36⟩ := uncons h35
  obtain ⟨d7, r37, rfl, h37⟩ := uncons h36
  obtain ⟨d8, r38, rfl, h38⟩ := uncons h37
  obtain ⟨d9, r39, rfl, h39⟩ := uncons h38
  obtain rfl := List.eq_nil_of_length_eq_zero h39
  exact ⟨_, _, _, _, _, _, _, _, _, _, _, _, _, _, _, _, _, _, _, _, _, _, _, _, _, _, _, _, _, _, _, _, _, _, _, _, _, _, _, _, rfl⟩
theorem built_ver (t : Int) (L : List Nat) (h : L.length = 40) : Try.prog.built 70 [(0, .int .i64 t), (1, .agg (L.map bt).toArray)] = some (vc (t, L)).toArray := by
  obtain ⟨a0, a1, a2, a3, a4, a5, a6, a7, a8, a9, b0, b1, b2, b3, b4, b5, b6, b7, b8, b9, c0, c1, c2, c3, c4, c5, c6, c7, c8, c9, d0, d1, d2, d3, d4, d5, d6, d7, d8, d9, rfl⟩ := forty h
  kernel_rfl
theorem run_built (t : Int) (L : List Nat) (h : L.length = 40) (w : World) : (Instr.build 70 #[(0, .int .i64 t), (1, .agg (L.map bt).toArray)]).run Try.prog w = .ok (.agg (vc (t, L)).toArray) w := run_build w _ _ _ (built_ver t L h)
theorem fill_ver (v : Ver) (h : v.2.length = 40) (z : Array Value) : Instr.fill (fun i => some (i * 41, 41)) ((Array.range (1 * 41)).map (z[· % z.size]!)) [(0, .agg (vc v).toArray)] = some (vc v).toArray := by
  have := Great.fill_whole (s := 41) (by omega) [.agg (vc v).toArray] ((Array.range (1 * 41)).map (z[· % z.size]!)) (fun u hu => by
    rcases List.mem_singleton.1 hu with rfl
    simp [Value.cells, vc_len h]) (by simp)
  simpa [Value.cells] using this
theorem run_slice (v : Ver) (h : v.2.length = 40) (w : World) : (Instr.buildSlice 71 1 #[(0, .agg (vc v).toArray)]).run Try.prog w = .ok (.slice (some ⟨w.heap.size, 0, none⟩) 1 1) (w.alloc (.cells (vc v).toArray 70)) := by
  obtain ⟨i, z, hi, hz, h1, _, _⟩ := ver_parts
  exact run_buildSlice w _ _ 1 _ _ i z Try.underlying71 hi hz (by rw [h1]; omega) (by rw [h1]; omega) (by rw [h1]; exact fill_ver v h z.cells)
theorem size_data : (Try.prog.info? 68).map (·.size) = some 40 := by kernel_rfl
theorem run_at (g : Option Addr) (c : Nat) (w : World) : (Instr.arrayAt 68 (.slice g 40 c)).run Try.prog w = .ok (.pointer g) w := run_arrayAt w _ _ 40 _ 40 c Try.underlying68 (Nat.le_refl _)

theorem yields_build {ops : Array Oper} {S : World → Prop} {a : Act} {o : Oper} (hw : Region.wanted o (yielded ops a.tmps) = true) (parts : Array (Nat × Operand)) (ho : o.op = .build 70 parts) (t : Int) (L : List Nat) (h : L.length = 40)
    (hb : (parts.map fun (i, x) => (i, a.eval x)).toList = [(0, .int .i64 t), (1, .agg (L.map bt).toArray)]) : YieldsIf Try.prog ops S o (.agg (vc (t, L)).toArray) a :=
  .inl ⟨hw, fun w _ => by
    unfold execOp
    simp only [ho, Sem.run_bind, run_build w _ _ _ (by rw [hb]; exact built_ver t L h), Result.andThen_ok]
    rfl⟩
theorem yields_load_ver {ops : Array Oper} {S : World → Prop} {a : Act} {o : Oper} (hw : Region.wanted o (yielded ops a.tmps) = true) (x : Operand) (ho : o.op = .load 70 x) (b f : Nat) (hx : a.eval x = .pointer (some ⟨b, f, none⟩)) (v : Ver) (hl : v.2.length = 40)
    (hS : ∀ w, S w → w.rangeAt b f (vc v)) : YieldsIf Try.prog ops S o (.agg (vc v).toArray) a :=
  yieldsIf_load_mid hw _ x ho b f hx (vc v) _ hS Try.underlying70 rfl (by rw [size_ver, vc_len hl])
theorem drew_row (w : World) (c c' : Array Value) (t : TypeId) : ((w.alloc (.cells c t)).drew).setRow w.heap.size c' = (w.alloc (.cells c' t)).drew := by
  show ((w.alloc (.cells c t)).setRow w.heap.size c').drew = _
  rw [World.setRow_alloc_new]
theorem range_drew {w : World} {b o : Nat} {cs : List Value} (h : w.rangeAt b o cs) : w.drew.rangeAt b o cs := h

section
variable {o : Oper} {a : Act} {w : World} {K : Act → World → Prop} {Q : Exit → Act → World → Prop}
theorem wp_look (m x : Operand) (ho : o.op = .lookup 62 m x false) (mv key v : Value) (hm : a.eval m = mv) (hx : a.eval x = key) (hrun : (Instr.lookup 62 mv key false).run Try.prog w = .ok v w) (h : K (a.put o.dst v) w) : o.wp Try.prog a w K Q := by
  unfold Oper.wp execOp
  simp only [ho, hm, hx, Sem.run_bind, hrun, Result.andThen_ok]
  exact h
theorem wp_slice (parts : Array (Nat × Operand)) (ho : o.op = .buildSlice 71 1 parts) (v : Ver) (hl : v.2.length = 40) (hp : (parts.map fun (i, x) => (i, a.eval x)) = #[(0, .agg (vc v).toArray)])
    (h : K (a.put o.dst (.slice (some ⟨w.heap.size, 0, none⟩) 1 1)) (w.alloc (.cells (vc v).toArray 70))) : o.wp Try.prog a w K Q := by
  unfold Oper.wp execOp
  simp only [ho, hp, Sem.run_bind, run_slice v hl w, Result.andThen_ok]
  exact h
theorem wp_update (m x y : Operand) (ho : o.op = .mapUpdate 62 m x y) (mv key v : Value) (w' : World) (hm : a.eval m = mv) (hx : a.eval x = key) (hy : a.eval y = v) (hrun : (Instr.mapUpdate 62 mv key v).run Try.prog w = .ok () w') (h : K (a.put o.dst undef) w') : o.wp Try.prog a w K Q := by
  unfold Oper.wp execOp
  simp only [ho, hm, hx, hy, Sem.run_bind, hrun, Result.andThen_ok]
  exact h
end

end Go.Proofs.Ytcffoebpgjonmaa.Em

namespace Go.Proofs.Ytcffoebpgjonmaa.Em
open Go.RowKit

set_option maxHeartbeats 400000 in
theorem apply_no {w : World} (p : Option Addr) (T : Int) (A : Option Addr) (n c : Nat) (z : Int) (hz : z ≠ 0) (hr : ∀ W, At w W → Calls Try.prog 25 #[.pointer p, .agg #[.int .i64 T, .slice A n c]] W (Gives (.int .i64 z) W)) :
    Calls Try.prog 12 #[.pointer p, .agg #[.int .i64 T, .slice A n c]] w (Gives (.int .i64 z) w) := by
  have HR := Lib.hid hr
  have hA0 : At w (w.alloc (.cells #[.int .i64 T, .slice A n c] 36)) := (At.start w).alloc _
  have HA0 := Lib.hid hA0
  have b0 : (w.alloc (.cells #[.int .i64 T, .slice A n c] 36)).cell? ⟨w.heap.size, 0, none⟩ = some (.int .i64 T) := (cell_at (heap_alloc_new w _) 0).trans rfl
  have b1 : (w.alloc (.cells #[.int .i64 T, .slice A n c] 36)).cell? ⟨w.heap.size, 1, none⟩ = some (.slice A n c) := (cell_at (heap_alloc_new w _) 1).trans rfl
  have hz1 : (z == 0) = false := by simp; exact hz
  have hz2 : (z != 0) = true := by simp; exact hz
  clear hr hA0 hz
  go_enter Try.func12, Try.ntmps12
  go_wp2_with fail
  refine (HR.out _ HA0.out).mono ?_
  rintro e w' ⟨rfl, hA⟩
  have HA := Lib.hid (HA0.out.next hA)
  clear hA
  go_wp2
  go_ret
  exact ⟨rfl, HA.out⟩

/-- The call takes it in. -/
def Takes (F : Nat → Prop) (b : Nat) (S' : St) (w : World) (e : Ending) (w' : World) : Prop := ∃ F', e = .returned (.int .i64 0) ∧ Mp w' b S' F' ∧ Did F w F' w'
theorem keep_type {w : World} {F : Nat → Prop} {S : St} {mb : Nat} {D : DataW Value} {hd : Nat → Value} (h : Mr w S F mb D hd) (k : Nat) {g : Nat} {cs : Array Value} {t : TypeId} (hg : w.heap[g]? = some (.cells cs t (0, 0))) (ht : t ≠ 70) : (hd k).ownBlock ≠ some g ∧ g ≠ mb := by
  constructor
  · intro e
    obtain ⟨cs', hc⟩ := (h.row k).type e
    rw [hg] at hc
    injection hc with hc
    injection hc with _ hc
    exact ht hc
  · rintro rfl
    obtain ⟨es, clock, hb, _⟩ := h.own
    rw [hg] at hb; cases hb

set_option maxHeartbeats 4000000 in
set_option maxRecDepth 100000 in
theorem apply_ok {w : World} {b : Nat} {S : St} {F : Nat → Prop} {mb : Nat} {D : DataW Value} {hd : Nat → Value} (h : Mq w b S F mb D hd) (T : Int) (A : Option Addr) (P : List Pt) (n c : Nat) (hn : P.length = n) (hl : n ≤ 1000000) (hP : ∀ W, Mv F w W → PV W A P)
    (hB : ∀ p ∈ P, ∀ c ∈ p.2, c < 256) (hf : Fine S T P) (hrf : rf S T P = 0) (hc : S.c < 20000) :
    Calls Try.prog 12 #[.pointer (some ⟨b, 0, none⟩), .agg #[.int .i64 T, .slice A n c]] w (Takes F b (ap S T P) w) := by
  have HR := Lib.hid (fun W (hW : At w W) => refuses_any (h.on hW) T A P n c hn (hP W (Mv.of_below F hW)) hl)
  rw [hrf] at HR
  have hA0 : At w (w.alloc (.cells #[.int .i64 T, .slice A n c] 36)) := (At.start w).alloc _
  have HA0 := Lib.hid hA0
  have b0 : (w.alloc (.cells #[.int .i64 T, .slice A n c] 36)).cell? ⟨w.heap.size, 0, none⟩ = some (.int .i64 T) := (cell_at (heap_alloc_new w _) 0).trans rfl
  have b1 : (w.alloc (.cells #[.int .i64 T, .slice A n c] 36)).cell? ⟨w.heap.size, 1, none⟩ = some (.slice A n c) := (cell_at (heap_alloc_new w _) 1).trans rfl
  have HX := Lib.hid (heap_alloc_new w (.cells #[.int .i64 T, .slice A n c] 36))
  have H := Lib.hid h
  have HOK := Lib.hid (fun m => hf.okm h.ok hc hB m)
  have HF := Lib.hid hf
  have HP := Lib.hid hP
  have HN := Lib.hid hn
  clear hA0 h hrf hB hf hP hc hn
  obtain ⟨X, hX⟩ : ∃ X, X = w.heap.size := ⟨_, rfl⟩
  rw [← hX] at b0 b1 HX
  have HXX := Lib.hid hX
  go_enter Try.func12, Try.ntmps12
  go_wp2_with fail
  rw [← hX]
  clear hX
  refine (HR.out _ HA0.out).mono ?_
  rintro e w1 ⟨rfl, hA⟩
  have HA1 : Hid (At w w1) := Lib.hid (HA0.out.next hA)
  have HX1 : Hid (w1.heap[X]? = some (.cells #[.int .i64 T, .slice A n c] 36 (0, 0))) := Lib.hid (At.keep hA HX.out)
  clear hA b0 b1 HX HR HA0
  have b0 : w1.cell? ⟨X, 0, none⟩ = some (.int .i64 T) := (cell_at HX1.out 0).trans rfl
  have b1 : w1.cell? ⟨X, 1, none⟩ = some (.slice A n c) := (cell_at HX1.out 1).trans rfl
  have HM1 := Lib.hid (H.out.on HA1.out)
  have HB1 := Lib.hid HM1.out.box
  go_wp2
  go_loopw [18] (fun i wr => ∃ (j : Nat) (Fj : Nat → Prop) (Dj : DataW Value) (hdj : Nat → Value), j ≤ n ∧ i = .int .i64 (j : Int) ∧ Hid (Mr wr (apm S T P j) Fj mb Dj hdj) ∧ Hid (Did F w Fj wr) ∧ Hid (Fj b) ∧ Hid (wr.heap[b]? = some (.cells #[.int .i64 (S.n : Int), .map (some mb), .int .i64 S.last] 64 (0, 0))) ∧ Hid (wr.heap[X]? = some (.cells #[.int .i64 T, .slice A n c] 36 (0, 0)))) (fun i _ => n - (RowKit.intOf i).toNat)
  case atStart => exact ⟨0, F, D, hd, Nat.zero_le _, rfl, Lib.hid (HM1.out.toMr.st (HOK.out 0) rfl rfl), Lib.hid (Did.of_at HA1.out), Lib.hid HM1.out.fb, HB1, HX1⟩
  case round =>
    obtain ⟨j, Fj, Dj, hdj, hjn, rfl, HM, HD, HFB, HBX, HXX⟩ := hrel
    clear b0 b1
    have m0 : wr.cell? ⟨b, 1, none⟩ = some (.map (some mb)) := (cell_at HBX.out 1).trans rfl
    have b0 : wr.cell? ⟨X, 0, none⟩ = some (.int .i64 T) := (cell_at HXX.out 0).trans rfl
    by_cases hlt : j < n
    · obtain ⟨g, o, rfl, _, hc⟩ := (HP.out wr HD.out.mv).pos (by rw [HN.out]; omega)
      obtain ⟨p0, B, cb, p1, hbv⟩ := hc j (by rw [HN.out]; exact hlt)
      have hlo := HF.out.lo j (by rw [HN.out]; exact hlt)
      have hhi := HF.out.hi j (by rw [HN.out]; exact hlt)
      have hlen := HF.out.len j (by rw [HN.out]; exact hlt)
      obtain ⟨k, hk⟩ : ∃ k : Nat, (P.getD j pz).1 = (k : Int) := ⟨(P.getD j pz).1.toNat, by omega⟩
      obtain ⟨d, hd'⟩ : ∃ d, d = (P.getD j pz).2 := ⟨_, rfl⟩
      rw [hk] at p0 hlo hhi
      rw [← hd'] at p1 hlen hbv
      rw [hlen] at p1
      obtain ⟨pb, po, rfl, hpl, hpc⟩ := hbv.pos (by omega)
      have hkn : k < S.n := by omega
      have g1 : (0 : Int) ≤ (j : Int) := by omega
      have g2 : (j : Int) < (n : Int) := by omega
      have HK := Lib.hid hk
      have HDD := Lib.hid hd'
      have HLN := Lib.hid hlen
      have HRG : Hid (wr.rangeAt pb po (d.map bt)) := Lib.hid (fun i u hu => by
        obtain ⟨ad, he, _, hcc⟩ := hbv.cells (by omega)
        injection he with he
        subst he
        have := hcc i u hu
        rwa [Go.WideShapes.add_plain] at this)
      clear hc hlo hhi hk hd' hlen hbv hpl hpc
      go_wp2_with fail
      obtain ⟨p, hp⟩ : ∃ p, p = wr.heap.size := ⟨_, rfl⟩
      rw [← hp]
      have hAb : At wr (wr.alloc (.cells #[.int .i64 (k : Int), .slice (some ⟨pb, po, none⟩) 40 cb] 61)) := (At.start wr).alloc _
      have HPB : Hid ((wr.alloc (.cells #[.int .i64 (k : Int), .slice (some ⟨pb, po, none⟩) 40 cb] 61)).heap[p]? = some (.cells #[.int .i64 (k : Int), .slice (some ⟨pb, po, none⟩) 40 cb] 61 (0, 0))) := Lib.hid (by rw [hp]; exact heap_alloc_new _ _)
      have HMb := Lib.hid (HM.out.on hAb)
      have HDb := Lib.hid (HD.out.next hAb)
      have HBXb := Lib.hid (hAb.keep HBX.out)
      have HXXb := Lib.hid (hAb.keep HXX.out)
      have HRGb := Lib.hid (range_alloc HRG.out (.cells #[.int .i64 (k : Int), .slice (some ⟨pb, po, none⟩) 40 cb] 61))
      clear hAb hp HM HD HBX HXX HRG m0 b0 p0 p1
      generalize wr.alloc (.cells #[.int .i64 (k : Int), .slice (some ⟨pb, po, none⟩) 40 cb] 61) = wb at HPB HMb HDb HBXb HXXb HRGb ⊢
      have c1 : wb.cell? ⟨X, 0, none⟩ = some (.int .i64 T) := (cell_at HXXb.out 0).trans rfl
      have c2 : wb.cell? ⟨p, 1, none⟩ = some (.slice (some ⟨pb, po, none⟩) 40 cb) := (cell_at HPB.out 1).trans rfl
      refine wp_region_held_drew (S := fun W => W.cell? ⟨X, 0, none⟩ = some (.int .i64 T) ∧ W.cell? ⟨p, 1, none⟩ = some (.slice (some ⟨pb, po, none⟩) 40 cb) ∧ W.rangeAt pb po (d.map bt)) (by kernel_rfl) ⟨c1, c2, HRGb.out⟩ (fun hHeld => ?_)
      refine wpAnyH_take (i := 0) (v := .pointer (some ⟨X, 0, none⟩)) rfl (by kernel_rfl) (by kernel_rfl) (by kernel_rfl) (fun _ _ _ h => h) (Or.inl ⟨by rfl, fun w _ => by kernel_rfl⟩) hHeld ?_
      simp only [List.getElem_toArray, List.getElem_cons_zero, Act.put, List.setIfInBounds_toArray, List.set_cons_zero, List.set_cons_succ]
      refine wpAnyH_take (i := 1) (v := .int .i64 T) rfl (by kernel_rfl) (by kernel_rfl) (by kernel_rfl) (fun _ _ _ h => h) (Or.inl ⟨by rfl, fun w hw => by have h1 := hw.1; go_simp⟩) hHeld ?_
      simp only [List.getElem_toArray, List.getElem_cons_zero, List.getElem_cons_succ, Act.put, List.setIfInBounds_toArray, List.set_cons_zero, List.set_cons_succ]
      refine wpAnyH_take (i := 2) (v := .pointer (some ⟨p, 1, none⟩)) rfl (by kernel_rfl) (by kernel_rfl) (by kernel_rfl) (fun _ _ _ h => h) (Or.inl ⟨by rfl, fun w _ => by kernel_rfl⟩) hHeld ?_
      simp only [List.getElem_toArray, List.getElem_cons_zero, List.getElem_cons_succ, Act.put, List.setIfInBounds_toArray, List.set_cons_zero, List.set_cons_succ]
      refine wpAnyH_take (i := 3) (v := .slice (some ⟨pb, po, none⟩) 40 cb) rfl (by kernel_rfl) (by kernel_rfl) (by kernel_rfl) (fun _ _ _ h => h) (Or.inl ⟨by rfl, fun w hw => by have h1 := hw.2.1; go_simp⟩) hHeld ?_
      simp only [List.getElem_toArray, List.getElem_cons_zero, List.getElem_cons_succ, Act.put, List.setIfInBounds_toArray, List.set_cons_zero, List.set_cons_succ]
      refine wpAnyH_take (i := 4) (v := .pointer (some ⟨pb, po, none⟩)) rfl (by kernel_rfl) (by kernel_rfl) (by kernel_rfl) (fun _ _ _ h => h) (Or.inl ⟨by rfl, fun w _ => by kernel_rfl⟩) hHeld ?_
      simp only [List.getElem_toArray, List.getElem_cons_zero, List.getElem_cons_succ, Act.put, List.setIfInBounds_toArray, List.set_cons_zero, List.set_cons_succ]
      refine wpAnyH_take (i := 5) (v := .agg (d.map bt).toArray) rfl (by kernel_rfl) (by kernel_rfl) (by kernel_rfl) (fun _ _ _ h => h) (yieldsIf_load_mid (by kernel_rfl) 68 (.tmp 26) (by kernel_rfl) pb po (by kernel_rfl) (d.map bt) _ (fun w hw => hw.2.2) Try.underlying68 rfl (by rw [size_data, List.length_map, HLN.out])) hHeld ?_
      simp only [List.getElem_toArray, List.getElem_cons_zero, List.getElem_cons_succ, Act.put, List.setIfInBounds_toArray, List.set_cons_zero, List.set_cons_succ]
      refine wpAnyH_take (i := 6) (v := .agg (vc (T, d)).toArray) rfl (by kernel_rfl) (by kernel_rfl) (by kernel_rfl) (fun _ _ _ h => h) (yields_build (by kernel_rfl) #[(0, .tmp 23), (1, .tmp 27)] (by kernel_rfl) T d HLN.out (by kernel_rfl)) hHeld ?_
      simp only [List.getElem_toArray, List.getElem_cons_zero, List.getElem_cons_succ, Act.put, List.setIfInBounds_toArray, List.set_cons_zero, List.set_cons_succ]
      clear hHeld
      refine wpAnyH_ready (rs := [7]) (by kernel_rfl) (by simp) ?_
      refine AllReadyH.cons (o := { dst := some 8, op := Op.alloc 70, type := 0, pos := "extmap.go:48", after := #[], guard := none }) rfl (fun K hK => ?_) AllReadyH.nil
      go_simp
      refine hK.out _ _ ⟨(cell_at ((((At.start wb).alloc _).drewN 1).keep HXXb.out) 0).trans rfl, (cell_at ((((At.start wb).alloc _).drewN 1).keep HPB.out) 1).trans rfl, range_drew (range_alloc HRGb.out _)⟩ (fun hHeld => ?_)
      clear hK K hHeld
      refine wpAnyH_ready (rs := [8]) (by kernel_rfl) (by simp) ?_
      refine AllReadyH.cons rfl (fun K hK => ?_) AllReadyH.nil
      rw [if_pos (by kernel_rfl)]
      refine wp_store_row _ (.tmp 8) (.tmp 28) (by kernel_rfl) wb.heap.size (vc (T, d)).toArray (by kernel_rfl) (by kernel_rfl) 70 _ (heap_alloc_new wb _) (by rw [size_ver, List.size_toArray, vc_len HLN.out]) (show (41 : Nat) = _ by rw [List.size_toArray, vc_len HLN.out]) (all_oneCell_toArray (vc_cells _)) ?_
      rw [drew_row]
      refine hK.out _ _ ⟨(cell_at ((((At.start wb).alloc _).drewN 1).keep HXXb.out) 0).trans rfl, (cell_at ((((At.start wb).alloc _).drewN 1).keep HPB.out) 1).trans rfl, range_drew (range_alloc HRGb.out _)⟩ (fun hHeld => ?_)
      clear hK K hHeld
      simp only [List.getElem_toArray, List.getElem_cons_zero, List.getElem_cons_succ, Act.put]
      refine wpAnyH_done (by kernel_rfl) ?_ _
      obtain ⟨q, hq⟩ : ∃ q, q = wb.heap.size := ⟨_, rfl⟩
      rw [← hq]
      have hAq : At wb (wb.alloc (.cells (vc (T, d)).toArray 70)).drew := ((At.start wb).alloc _).drewN 1
      have HQ : Hid ((wb.alloc (.cells (vc (T, d)).toArray 70)).drew.heap[q]? = some (.cells (vc (T, d)).toArray 70 (0, 0))) := Lib.hid (by rw [hq]; exact heap_alloc_new _ _)
      have HQN : Hid (¬ Fj q) := Lib.hid (fun hf => by have := HMb.out.ft q hf; omega)
      have HMq := Lib.hid (HMb.out.on hAq)
      have HDq := Lib.hid (HDb.out.next hAq)
      have HBXq := Lib.hid (hAq.keep HBXb.out)
      have HXXq := Lib.hid (hAq.keep HXXb.out)
      have HPq := Lib.hid (hAq.keep HPB.out)
      clear hAq hq HMb HDb HBXb HXXb HPB HRGb c1 c2
      generalize (wb.alloc (.cells (vc (T, d)).toArray 70)).drew = wq at HQ HMq HDq HBXq HXXq HPq ⊢
      go_wp2_with fail
      have hle := (HOK.out j).b k
      have hcc := (HOK.out j).c1
      obtain ⟨L, hL⟩ : ∃ L, L = (apm S T P j).V k := ⟨_, rfl⟩
      rw [← hL] at hle
      have hll : L.length ≤ 20000 := Nat.le_trans hle hcc
      clear hle hcc
      obtain ⟨i0, z0, hi0, hz0, hz1, hz2, hz3⟩ := ver_parts
      have m1 : wq.cell? ⟨b, 1, none⟩ = some (.map (some mb)) := (cell_at HBXq.out 1).trans rfl
      have p1 : wq.cell? ⟨p, 0, none⟩ = some (.int .i64 (k : Int)) := (cell_at HPq.out 0).trans rfl
      have HRGq : Hid (wq.rangeAt q 0 (vc (T, d))) := Lib.hid (fun i u hu => by rw [Nat.zero_add, cell_at HQ.out, List.getElem?_toArray]; exact hu)
      refine wp_region_held_drew (S := fun W => W.cell? ⟨b, 1, none⟩ = some (.map (some mb)) ∧ W.cell? ⟨p, 0, none⟩ = some (.int .i64 (k : Int)) ∧ W.rangeAt q 0 (vc (T, d))) (by kernel_rfl) ⟨m1, p1, HRGq.out⟩ (fun hHeld => ?_)
      refine wpAnyH_take (i := 0) (v := .pointer (some ⟨b, 0, none⟩)) rfl (by kernel_rfl) (by kernel_rfl) (by kernel_rfl) (fun _ _ _ h => h) (Or.inl ⟨by kernel_rfl, fun w _ => by kernel_rfl⟩) hHeld ?_
      simp only [List.getElem_toArray, List.getElem_cons_zero, Act.put, List.setIfInBounds_toArray, List.set_cons_zero, List.set_cons_succ]
      refine wpAnyH_take (i := 1) (v := .pointer (some ⟨b, 0, none⟩)) rfl (by kernel_rfl) (by kernel_rfl) (by kernel_rfl) (fun _ _ _ h => h) (Or.inl ⟨by kernel_rfl, fun w _ => by kernel_rfl⟩) hHeld ?_
      simp only [List.getElem_toArray, List.getElem_cons_zero, List.getElem_cons_succ, Act.put, List.setIfInBounds_toArray, List.set_cons_zero, List.set_cons_succ]
      refine wpAnyH_take (i := 2) (v := .pointer (some ⟨b, 1, none⟩)) rfl (by kernel_rfl) (by kernel_rfl) (by kernel_rfl) (fun _ _ _ h => h) (Or.inl ⟨by kernel_rfl, fun w _ => by kernel_rfl⟩) hHeld ?_
      simp only [List.getElem_toArray, List.getElem_cons_zero, List.getElem_cons_succ, Act.put, List.setIfInBounds_toArray, List.set_cons_zero, List.set_cons_succ]
      refine wpAnyH_take (i := 3) (v := .map (some mb)) rfl (by kernel_rfl) (by kernel_rfl) (by kernel_rfl) (fun _ _ _ h => h) (Or.inl ⟨by kernel_rfl, fun w hw => by have h1 := hw.1; go_simp⟩) hHeld ?_
      simp only [List.getElem_toArray, List.getElem_cons_zero, List.getElem_cons_succ, Act.put, List.setIfInBounds_toArray, List.set_cons_zero, List.set_cons_succ]
      refine wpAnyH_take (i := 4) (v := .pointer (some ⟨p, 0, none⟩)) rfl (by kernel_rfl) (by kernel_rfl) (by kernel_rfl) (fun _ _ _ h => h) (Or.inl ⟨by kernel_rfl, fun w _ => by kernel_rfl⟩) hHeld ?_
      simp only [List.getElem_toArray, List.getElem_cons_zero, List.getElem_cons_succ, Act.put, List.setIfInBounds_toArray, List.set_cons_zero, List.set_cons_succ]
      refine wpAnyH_take (i := 5) (v := .int .i64 (k : Int)) rfl (by kernel_rfl) (by kernel_rfl) (by kernel_rfl) (fun _ _ _ h => h) (Or.inl ⟨by kernel_rfl, fun w hw => by have h1 := hw.2.1; go_simp⟩) hHeld ?_
      simp only [List.getElem_toArray, List.getElem_cons_zero, List.getElem_cons_succ, Act.put, List.setIfInBounds_toArray, List.set_cons_zero, List.set_cons_succ]
      refine wpAnyH_take (i := 6) (v := .pointer (some ⟨b, 0, none⟩)) rfl (by kernel_rfl) (by kernel_rfl) (by kernel_rfl) (fun _ _ _ h => h) (Or.inl ⟨by kernel_rfl, fun w _ => by kernel_rfl⟩) hHeld ?_
      simp only [List.getElem_toArray, List.getElem_cons_zero, List.getElem_cons_succ, Act.put, List.setIfInBounds_toArray, List.set_cons_zero, List.set_cons_succ]
      refine wpAnyH_take (i := 7) (v := .pointer (some ⟨b, 0, none⟩)) rfl (by kernel_rfl) (by kernel_rfl) (by kernel_rfl) (fun _ _ _ h => h) (Or.inl ⟨by kernel_rfl, fun w _ => by kernel_rfl⟩) hHeld ?_
      simp only [List.getElem_toArray, List.getElem_cons_zero, List.getElem_cons_succ, Act.put, List.setIfInBounds_toArray, List.set_cons_zero, List.set_cons_succ]
      refine wpAnyH_take (i := 8) (v := .pointer (some ⟨b, 1, none⟩)) rfl (by kernel_rfl) (by kernel_rfl) (by kernel_rfl) (fun _ _ _ h => h) (Or.inl ⟨by kernel_rfl, fun w _ => by kernel_rfl⟩) hHeld ?_
      simp only [List.getElem_toArray, List.getElem_cons_zero, List.getElem_cons_succ, Act.put, List.setIfInBounds_toArray, List.set_cons_zero, List.set_cons_succ]
      refine wpAnyH_take (i := 9) (v := .map (some mb)) rfl (by kernel_rfl) (by kernel_rfl) (by kernel_rfl) (fun _ _ _ h => h) (Or.inl ⟨by kernel_rfl, fun w hw => by have h1 := hw.1; go_simp⟩) hHeld ?_
      simp only [List.getElem_toArray, List.getElem_cons_zero, List.getElem_cons_succ, Act.put, List.setIfInBounds_toArray, List.set_cons_zero, List.set_cons_succ]
      refine wpAnyH_take (i := 10) (v := .pointer (some ⟨p, 0, none⟩)) rfl (by kernel_rfl) (by kernel_rfl) (by kernel_rfl) (fun _ _ _ h => h) (Or.inl ⟨by kernel_rfl, fun w _ => by kernel_rfl⟩) hHeld ?_
      simp only [List.getElem_toArray, List.getElem_cons_zero, List.getElem_cons_succ, Act.put, List.setIfInBounds_toArray, List.set_cons_zero, List.set_cons_succ]
      refine wpAnyH_take (i := 11) (v := .int .i64 (k : Int)) rfl (by kernel_rfl) (by kernel_rfl) (by kernel_rfl) (fun _ _ _ h => h) (Or.inl ⟨by kernel_rfl, fun w hw => by have h1 := hw.2.1; go_simp⟩) hHeld ?_
      simp only [List.getElem_toArray, List.getElem_cons_zero, List.getElem_cons_succ, Act.put, List.setIfInBounds_toArray, List.set_cons_zero, List.set_cons_succ]
      refine wpAnyH_take (i := 13) (v := .agg (vc (T, d)).toArray) rfl (by kernel_rfl) (by kernel_rfl) (by kernel_rfl) (fun _ _ _ h => h) (yields_load_ver (by kernel_rfl) (.tmp 8) (by kernel_rfl) q 0 (by kernel_rfl) (T, d) HLN.out (fun w hw => hw.2.2)) hHeld ?_
      simp only [List.getElem_toArray, List.getElem_cons_zero, List.getElem_cons_succ, Act.put, List.setIfInBounds_toArray, List.set_cons_zero, List.set_cons_succ]
      clear hHeld m1 p1
      have HLK : Hid (∀ W, At wq W → (Instr.lookup 62 (.map (some mb)) (.int .i64 (k : Int)) false).run Try.prog W = .ok (hdj k) W) := Lib.hid (fun W hW => (HMq.out.on hW).look (by have h1 : S.n ≤ 1048576 := H.out.ok.n2; omega))
      have HNE : Hid (∀ g cs t, wq.heap[g]? = some (.cells cs t (0, 0)) → t ≠ 70 → (hdj k).ownBlock ≠ some g ∧ g ≠ mb) := Lib.hid (fun g cs t hg ht => keep_type HMq.out k hg ht)
      have HNQ : Hid ((hdj k).ownBlock ≠ some q ∧ q ≠ mb) := Lib.hid ⟨fun e => HQN.out (HMq.out.fr k q e), fun e => by
        obtain ⟨es, clock, hb, _⟩ := HMq.out.own
        have := HQ.out
        rw [e, hb] at this; cases this⟩
      have HRW : Hid (Vo ((wq.drew).alloc (.cells (vc (T, d)).toArray 70)) (hdj k) L) := Lib.hid (by rw [hL]; exact (HMq.out.row k).on (((At.start wq).drewN 1).alloc _))
      obtain ⟨N, hN⟩ : ∃ N, N = wq.heap.size := ⟨_, rfl⟩
      have HNW : Hid (∀ j u, (vc (T, d))[j]? = some u → ((wq.drew).alloc (.cells (vc (T, d)).toArray 70)).cell? ((⟨N, 0, none⟩ : Addr).add j) = some u) := Lib.hid (World.news_of_block (cs := (vc (T, d)).toArray) (t := 70) (fr := (0, 0)) (by rw [hN]; exact heap_alloc_new wq.drew _))
      have HNS : Hid (((wq.drew).alloc (.cells (vc (T, d)).toArray 70)).heap.size = N + 1) := Lib.hid (by rw [hN]; simp)
      have HZ := Lib.hid (And.intro hi0 (And.intro hz0 (And.intro hz1 (And.intro hz2 hz3))))
      have HLL := Lib.hid hL
      have HWN := Lib.hid hN
      clear hi0 hz0 hz1 hz2 hz3 hL
      refine wpAnyH_ready (rs := [12, 14]) (by kernel_rfl) (by simp) ?_
      refine AllReadyH.cons rfl (fun K hK => ?_) ?_
      · rw [if_pos (by kernel_rfl)]
        refine wp_look (.tmp 38) (.tmp 40) (by kernel_rfl) (.map (some mb)) (.int .i64 (k : Int)) (hdj k) (by kernel_rfl) (by kernel_rfl) (HLK.out _ ((At.start wq).drewN 1)) ?_
        refine hK.out _ _ ⟨(cell_at (((At.start wq).drewN 1).keep HBXq.out) 1).trans rfl, (cell_at (((At.start wq).drewN 1).keep HPq.out) 0).trans rfl, fun i u hu => by rw [Nat.zero_add]; refine (cell_at (((At.start wq).drewN 1).keep HQ.out) i).trans ?_; rw [List.getElem?_toArray]; exact hu⟩ (fun hHeld => ?_)
        clear hK K hHeld
        simp only [List.getElem_toArray, List.getElem_cons_zero, List.getElem_cons_succ, Act.put, List.setIfInBounds_toArray, List.set_cons_zero, List.set_cons_succ]
        refine wpAnyH_ready (rs := [14]) (by kernel_rfl) (by simp) ?_
        refine AllReadyH.cons rfl (fun K hK => ?_) AllReadyH.nil
        rw [if_pos (by kernel_rfl)]
        refine wp_slice #[(0, .tmp 42)] (by kernel_rfl) (T, d) HLN.out (by kernel_rfl) ?_
        refine hK.out _ _ ⟨(cell_at ((((At.start wq).drewN 1).alloc _).keep HBXq.out) 1).trans rfl, (cell_at ((((At.start wq).drewN 1).alloc _).keep HPq.out) 0).trans rfl, fun i u hu => by rw [Nat.zero_add]; refine (cell_at ((((At.start wq).drewN 1).alloc _).keep HQ.out) i).trans ?_; rw [List.getElem?_toArray]; exact hu⟩ (fun hHeld => ?_)
        clear hK K hHeld
        simp only [List.getElem_toArray, List.getElem_cons_zero, List.getElem_cons_succ, Act.put, List.setIfInBounds_toArray, List.set_cons_zero, List.set_cons_succ]
        rw [show (wq.drew).heap.size = N from hN.symm]
        clear hN
        refine wpAnyH_ready (rs := [15]) (by kernel_rfl) (by simp) ?_
        refine AllReadyH.cons rfl (fun K hK => ?_) AllReadyH.nil
        refine step_append_lies _ (by kernel_rfl) (.tmp 41) (.tmp 43) 71 (by kernel_rfl) 0 70 i0 z0 41 48 Try.underlying71 HZ.out.1 HZ.out.2.1 HZ.out.2.2.1 HZ.out.2.2.2.1 HZ.out.2.2.2.2 (by omega) (hdj k) L.length (vl L) (by kernel_rfl) HRW.out ⟨N, 0, none⟩ 1 1 (vc (T, d)) (by kernel_rfl) (by rw [vc_len HLN.out]) HNW.out (vc_cells _) (by omega) (by unfold maxLen; omega) (by omega) (Nat.zero_le _) (N + 1) HNS.out ?_
        intro gg cap w2 hown2 hgrow hat2 hlt2
        have hmv : Mv (fun g => (hdj k).ownBlock = some g) wq w2 := (Mv.of_below _ (((At.start wq).drewN 1).alloc _)).grown hgrow fun i hi => Or.inl hi
        have HMV := Lib.hid hmv
        have HO2 : Hid (Vo w2 (.slice (some ⟨gg, 0, none⟩) (L.length + 1) cap) (L ++ [(T, d)])) := Lib.hid (by
          unfold Vo
          rw [vl_app, vl_one, List.length_append]; exact hown2)
        have HAT : Hid (∀ g, (Value.slice (some ⟨gg, 0, none⟩) (L.length + 1) cap).ownBlock = some g → (hdj k).ownBlock = some g ∨ wq.heap.size ≤ g) := Lib.hid (fun g hg => by
          injection hg with hg
          simp only at hg
          rcases hat2 with h1 | h1
          · left; rw [h1, hg]
          · right; rw [← HWN.out]; omega)
        clear hown2 hgrow hat2 hlt2 hmv
        refine hK.out _ _ ⟨(cell_at (HMV.out.keep HBXq.out (HNE.out _ _ _ HBXq.out (by decide)).1) 1).trans rfl, (cell_at (HMV.out.keep HPq.out (HNE.out _ _ _ HPq.out (by decide)).1) 0).trans rfl, fun i u hu => by rw [Nat.zero_add]; refine (cell_at (HMV.out.keep HQ.out HNQ.out.1) i).trans ?_; rw [List.getElem?_toArray]; exact hu⟩ (fun hHeld => ?_)
        clear hK K hHeld
        simp only [List.getElem_toArray, List.getElem_cons_zero, List.getElem_cons_succ, Act.put, List.setIfInBounds_toArray, List.set_cons_zero, List.set_cons_succ]
        have hj1 : j < P.length := by rw [HN.out]; exact hlt
        obtain ⟨w3, hrun, hr3, hd3, hm3⟩ := HMq.out.store hkn HMV.out HO2.out HAT.out (S' := apm S T P (j + 1)) (HOK.out (j + 1)) rfl (fun i => by rw [apm_step hj1 HK.out i, HLL.out, HDD.out]) (by simp)
        have HR3 := Lib.hid hr3
        have HD3 := Lib.hid hd3
        have HM3 := Lib.hid hm3
        have HRUN := Lib.hid hrun
        clear hr3 hd3 hm3 hrun hj1
        refine wpAnyH_ready (rs := [16]) (by kernel_rfl) (by simp) ?_
        refine AllReadyH.cons rfl (fun K hK => ?_) AllReadyH.nil
        rw [if_pos (by kernel_rfl)]
        refine wp_update (.tmp 32) (.tmp 34) (.tmp 44) (by kernel_rfl) (.map (some mb)) (.int .i64 (k : Int)) (.slice (some ⟨gg, 0, none⟩) (L.length + 1) cap) w3 (by kernel_rfl) (by kernel_rfl) (by kernel_rfl) HRUN.out ?_
        have HB3 := Lib.hid (HM3.out.keep (HMV.out.keep HBXq.out (HNE.out _ _ _ HBXq.out (by decide)).1) (HNE.out _ _ _ HBXq.out (by decide)).2)
        have HP3 := Lib.hid (HM3.out.keep (HMV.out.keep HPq.out (HNE.out _ _ _ HPq.out (by decide)).1) (HNE.out _ _ _ HPq.out (by decide)).2)
        have HQ3 := Lib.hid (HM3.out.keep (HMV.out.keep HQ.out HNQ.out.1) HNQ.out.2)
        have HX3 := Lib.hid (HM3.out.keep (HMV.out.keep HXXq.out (HNE.out _ _ _ HXXq.out (by decide)).1) (HNE.out _ _ _ HXXq.out (by decide)).2)
        refine hK.out _ _ ⟨(cell_at HB3.out 1).trans rfl, (cell_at HP3.out 0).trans rfl, fun i u hu => by rw [Nat.zero_add]; refine (cell_at HQ3.out i).trans ?_; rw [List.getElem?_toArray]; exact hu⟩ (fun hHeld => ?_)
        clear hK K hHeld
        simp only [List.getElem_toArray, List.getElem_cons_zero, List.getElem_cons_succ, Act.put]
        refine wpAnyH_done (by kernel_rfl) ?_ _
        have HDE := Lib.hid (HDq.out.trans HD3.out)
        have HFE : Hid (Fj b ∨ (Value.slice (some ⟨gg, 0, none⟩) (L.length + 1) cap).ownBlock = some b) := Lib.hid (Or.inl HFB.out)
        clear HMq HDq HBXq HXXq HPq HQ HP3 HQ3 HD3 HM3 HRUN HLK HNE HNQ HRW HNW HNS HZ HAT HO2 HMV
        go_wp2
        go_roundw
        case rel => exact ⟨j + 1, _, _, _, by omega, by go_num, HR3, HDE, HFE, HB3, HX3⟩
        case measure => simp [RowKit.intOf]; omega
      · refine AllReadyH.cons rfl (fun K hK => ?_) AllReadyH.nil
        rw [if_pos (by kernel_rfl)]
        refine wp_slice #[(0, .tmp 42)] (by kernel_rfl) (T, d) HLN.out (by kernel_rfl) ?_
        refine hK.out _ _ ⟨(cell_at ((((At.start wq).drewN 1).alloc _).keep HBXq.out) 1).trans rfl, (cell_at ((((At.start wq).drewN 1).alloc _).keep HPq.out) 0).trans rfl, fun i u hu => by rw [Nat.zero_add]; refine (cell_at ((((At.start wq).drewN 1).alloc _).keep HQ.out) i).trans ?_; rw [List.getElem?_toArray]; exact hu⟩ (fun hHeld => ?_)
        clear hK K hHeld
        simp only [List.getElem_toArray, List.getElem_cons_zero, List.getElem_cons_succ, Act.put, List.setIfInBounds_toArray, List.set_cons_zero, List.set_cons_succ]
        refine wpAnyH_ready (rs := [12]) (by kernel_rfl) (by simp) ?_
        refine AllReadyH.cons rfl (fun K hK => ?_) AllReadyH.nil
        rw [if_pos (by kernel_rfl)]
        refine wp_look (.tmp 38) (.tmp 40) (by kernel_rfl) (.map (some mb)) (.int .i64 (k : Int)) (hdj k) (by kernel_rfl) (by kernel_rfl) (HLK.out _ (((At.start wq).drewN 1).alloc _)) ?_
        refine hK.out _ _ ⟨(cell_at ((((At.start wq).drewN 1).alloc _).keep HBXq.out) 1).trans rfl, (cell_at ((((At.start wq).drewN 1).alloc _).keep HPq.out) 0).trans rfl, fun i u hu => by rw [Nat.zero_add]; refine (cell_at ((((At.start wq).drewN 1).alloc _).keep HQ.out) i).trans ?_; rw [List.getElem?_toArray]; exact hu⟩ (fun hHeld => ?_)
        clear hK K hHeld
        simp only [List.getElem_toArray, List.getElem_cons_zero, List.getElem_cons_succ, Act.put, List.setIfInBounds_toArray, List.set_cons_zero, List.set_cons_succ]
        rw [show (wq.drew).heap.size = N from hN.symm]
        clear hN
        refine wpAnyH_ready (rs := [15]) (by kernel_rfl) (by simp) ?_
        refine AllReadyH.cons rfl (fun K hK => ?_) AllReadyH.nil
        refine step_append_lies _ (by kernel_rfl) (.tmp 41) (.tmp 43) 71 (by kernel_rfl) 0 70 i0 z0 41 48 Try.underlying71 HZ.out.1 HZ.out.2.1 HZ.out.2.2.1 HZ.out.2.2.2.1 HZ.out.2.2.2.2 (by omega) (hdj k) L.length (vl L) (by kernel_rfl) HRW.out ⟨N, 0, none⟩ 1 1 (vc (T, d)) (by kernel_rfl) (by rw [vc_len HLN.out]) HNW.out (vc_cells _) (by omega) (by unfold maxLen; omega) (by omega) (Nat.zero_le _) (N + 1) HNS.out ?_
        intro gg cap w2 hown2 hgrow hat2 hlt2
        have hmv : Mv (fun g => (hdj k).ownBlock = some g) wq w2 := (Mv.of_below _ (((At.start wq).drewN 1).alloc _)).grown hgrow fun i hi => Or.inl hi
        have HMV := Lib.hid hmv
        have HO2 : Hid (Vo w2 (.slice (some ⟨gg, 0, none⟩) (L.length + 1) cap) (L ++ [(T, d)])) := Lib.hid (by
          unfold Vo
          rw [vl_app, vl_one, List.length_append]; exact hown2)
        have HAT : Hid (∀ g, (Value.slice (some ⟨gg, 0, none⟩) (L.length + 1) cap).ownBlock = some g → (hdj k).ownBlock = some g ∨ wq.heap.size ≤ g) := Lib.hid (fun g hg => by
          injection hg with hg
          simp only at hg
          rcases hat2 with h1 | h1
          · left; rw [h1, hg]
          · right; rw [← HWN.out]; omega)
        clear hown2 hgrow hat2 hlt2 hmv
        refine hK.out _ _ ⟨(cell_at (HMV.out.keep HBXq.out (HNE.out _ _ _ HBXq.out (by decide)).1) 1).trans rfl, (cell_at (HMV.out.keep HPq.out (HNE.out _ _ _ HPq.out (by decide)).1) 0).trans rfl, fun i u hu => by rw [Nat.zero_add]; refine (cell_at (HMV.out.keep HQ.out HNQ.out.1) i).trans ?_; rw [List.getElem?_toArray]; exact hu⟩ (fun hHeld => ?_)
        clear hK K hHeld
        simp only [List.getElem_toArray, List.getElem_cons_zero, List.getElem_cons_succ, Act.put, List.setIfInBounds_toArray, List.set_cons_zero, List.set_cons_succ]
        have hj1 : j < P.length := by rw [HN.out]; exact hlt
        obtain ⟨w3, hrun, hr3, hd3, hm3⟩ := HMq.out.store hkn HMV.out HO2.out HAT.out (S' := apm S T P (j + 1)) (HOK.out (j + 1)) rfl (fun i => by rw [apm_step hj1 HK.out i, HLL.out, HDD.out]) (by simp)
        have HR3 := Lib.hid hr3
        have HD3 := Lib.hid hd3
        have HM3 := Lib.hid hm3
        have HRUN := Lib.hid hrun
        clear hr3 hd3 hm3 hrun hj1
        refine wpAnyH_ready (rs := [16]) (by kernel_rfl) (by simp) ?_
        refine AllReadyH.cons rfl (fun K hK => ?_) AllReadyH.nil
        rw [if_pos (by kernel_rfl)]
        refine wp_update (.tmp 32) (.tmp 34) (.tmp 44) (by kernel_rfl) (.map (some mb)) (.int .i64 (k : Int)) (.slice (some ⟨gg, 0, none⟩) (L.length + 1) cap) w3 (by kernel_rfl) (by kernel_rfl) (by kernel_rfl) HRUN.out ?_
        have HB3 := Lib.hid (HM3.out.keep (HMV.out.keep HBXq.out (HNE.out _ _ _ HBXq.out (by decide)).1) (HNE.out _ _ _ HBXq.out (by decide)).2)
        have HP3 := Lib.hid (HM3.out.keep (HMV.out.keep HPq.out (HNE.out _ _ _ HPq.out (by decide)).1) (HNE.out _ _ _ HPq.out (by decide)).2)
        have HQ3 := Lib.hid (HM3.out.keep (HMV.out.keep HQ.out HNQ.out.1) HNQ.out.2)
        have HX3 := Lib.hid (HM3.out.keep (HMV.out.keep HXXq.out (HNE.out _ _ _ HXXq.out (by decide)).1) (HNE.out _ _ _ HXXq.out (by decide)).2)
        refine hK.out _ _ ⟨(cell_at HB3.out 1).trans rfl, (cell_at HP3.out 0).trans rfl, fun i u hu => by rw [Nat.zero_add]; refine (cell_at HQ3.out i).trans ?_; rw [List.getElem?_toArray]; exact hu⟩ (fun hHeld => ?_)
        clear hK K hHeld
        simp only [List.getElem_toArray, List.getElem_cons_zero, List.getElem_cons_succ, Act.put]
        refine wpAnyH_done (by kernel_rfl) ?_ _
        have HDE := Lib.hid (HDq.out.trans HD3.out)
        have HFE : Hid (Fj b ∨ (Value.slice (some ⟨gg, 0, none⟩) (L.length + 1) cap).ownBlock = some b) := Lib.hid (Or.inl HFB.out)
        clear HMq HDq HBXq HXXq HPq HQ HP3 HQ3 HD3 HM3 HRUN HLK HNE HNQ HRW HNW HNS HZ HAT HO2 HMV
        go_wp2
        go_roundw
        case rel => exact ⟨j + 1, _, _, _, by omega, by go_num, HR3, HDE, HFE, HB3, HX3⟩
        case measure => simp [RowKit.intOf]; omega
    · have hj : j = n := by omega
      have m2 : wr.cell? ⟨b, 2, none⟩ = some (.int .i64 S.last) := (cell_at HBX.out 2).trans rfl
      have f2 : wr.frozen? ⟨b, 2, none⟩ = false := free_at HBX.out 2
      have hm : Mv (fun g => g = b) wr (wr.setCell ⟨b, 2, none⟩ (.int .i64 T)) := Mv.set (F := fun g => g = b) (Mv.refl _ wr) (p := ⟨b, 2, none⟩) (Or.inl rfl) _
      have hr : Mr (wr.setCell ⟨b, 2, none⟩ (.int .i64 T)) (ap S T P) Fj mb Dj hdj := by
        rw [← apm_all, HN.out, ← hj]
        exact HM.out.mvf hm (fun e => (keep_type HM.out 0 HBX.out (by decide)).2 e.symm) fun k g hg e => (keep_type HM.out k HBX.out (by decide)).1 (by rw [hg, e])
      have hbx := heap_set HBX.out 2 (.int .i64 T)
      have HE : Hid (Takes F b (ap S T P) w (.returned (.int .i64 0)) (wr.setCell ⟨b, 2, none⟩ (.int .i64 T))) := Lib.hid ⟨Fj, rfl, ⟨mb, Dj, hdj, ⟨hr, hbx, HFB.out⟩⟩, HD.out.trans ⟨hm.more fun g hg => Or.inl (by rw [hg]; exact HFB.out), fun g hg => Or.inl hg⟩⟩
      clear hm hr hbx hj
      go_wp2
      go_ret
      exact HE.out

end Go.Proofs.Ytcffoebpgjonmaa.Em

namespace Go.Proofs.Ytcffoebpgjonmaa.Em
open Go.RowKit

/-- The state of a new map. -/
def st0 (n : Nat) : St := ⟨n, 0, fun _ => [], 0⟩
theorem st0_ok {n : Nat} (h1 : 1 ≤ n) (h2 : n ≤ 1048576) : Ok (st0 n) :=
  ⟨h1, h2, Int.le_refl _, by show (0 : Int) ≤ 1099511627776; omega, fun _ v hv => (by cases hv), fun _ _ => rfl, fun _ => Nat.le_refl _, Nat.zero_le _⟩
def News (n : Nat) (w : World) (e : Ending) (w' : World) : Prop := ∃ b F, e = .returned (.tuple #[.pointer (some ⟨b, 0, none⟩), .int .i64 0]) ∧ Mp w' b (st0 n) F ∧ (∀ g, F g → w.heap.size ≤ g) ∧ At w w'
set_option maxHeartbeats 1000000 in
theorem new_any (n : Nat) (h1 : 1 ≤ n) (h2 : n ≤ 1048576) (w : World) : Calls Try.prog 10 #[.int .i64 (n : Int)] w (News n w) := by
  have HO := Lib.hid (st0_ok h1 h2)
  have hmm := @run_makeMap Try.prog
  have g1 : decide ((n : Int) < 1) = false := decide_eq_false (by omega)
  have g2 : decide ((1048576 : Int) < (n : Int)) = false := decide_eq_false (by omega)
  go_enter Try.func10, Try.ntmps10
  go_wp2
  go_ret2
  refine ⟨w.heap.size + 1, fun g => g = w.heap.size ∨ g = w.heap.size + 1, ?_, ⟨w.heap.size, .map [], fun _ => nl, ⟨⟨HO.out, ?_, fun _ => rfl, fun k => ?_, fun l hl => ?_, fun _ => Vo.nil _, fun _ _ g _ h => (by cases h), Or.inl rfl, fun _ g h => (by cases h), fun g hg => ?_⟩, ?_, Or.inr rfl⟩⟩, fun g hg => ?_, ?_⟩
  · rfl
  · exact (World.ownsMap_made w Try.prog 3 raw).alloc _
  · exact ⟨fun h => (nomatch h), fun h => absurd rfl h⟩
  · cases hl
  · rcases hg with rfl | rfl
    · simp; omega
    · simp
  · have := heap_alloc_new (w.alloc (.map #[] 0)) (.cells #[.int .i64 (n : Int), .map (some w.heap.size), .int .i64 0] 64)
    rw [World.size_alloc] at this
    exact this
  · rcases hg with rfl | rfl
    · exact Nat.le_refl _
    · omega
  · exact ((At.start w).alloc _).alloc _

end Go.Proofs.Ytcffoebpgjonmaa.Em
