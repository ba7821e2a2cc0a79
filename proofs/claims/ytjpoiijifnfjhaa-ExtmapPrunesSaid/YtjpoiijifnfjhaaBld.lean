/- Proved: how a version is built of its time and its bytes, and a slice of one version; a version's bytes out of a slice. -/
import Derived.Test.YtjpoiijifnfjhaaRef
import Derived.Great.BuildSlice
import Derived.Laws.Cover3
import Derived.OrdersHeld
import Derived.Deep.RegionHeld
namespace Go.Proofs.Ytjpoiijifnfjhaa
open Go.RowKit

theorem uncons {α : Type} {n : Nat} : ∀ {l : List α}, l.length = n + 1 → ∃ a r, l = a :: r ∧ r.length = n
  | [], h => by cases h
  | a :: r, h => ⟨a, r, rfl, by simpa using h⟩
theorem forty {α : Type} {l : List α} (h : l.length = 40) : ∃ a0 a1 a2 a3 a4 a5 a6 a7 a8 a9 b0 b1 b2 b3 b4 b5 b6 b7 b8 b9 c0 c1 c2 c3 c4 c5 c6 c7 c8 c9 d0 d1 d2 d3 d4 d5 d6 d7 d8 d9 : α, l = [a0, a1, a2, a3, a4, a5, a6, a7, a8, a9, b0, b1, b2, b3, b4, b5, b6, b7, b8, b9, c0, c1, c2, c3, c4, c5, c6, c7, c8, c9, d0, d1, d2, d3, d4, d5, d6, d7, d8, d9] := by
  obtain ⟨a0, r0, rfl, h0⟩ := uncons h
  obtain ⟨a1, r1, rfl, h1⟩ := uncons h0
  obtain ⟨a2, r2, rfl, h2⟩ := uncons h1
  obtain ⟨a3, r3, rfl, h3⟩ := uncons h2
  obtain ⟨a4, r4, rfl, h4⟩ := uncons h3
  obtain ⟨a5, r5, rfl, h5⟩ := uncons h4
  obtain ⟨a6, r6, rfl, h6⟩ := uncons h5
  obtain ⟨a7, r7, rfl, h7⟩ := uncons h6
  obtain ⟨a8, r8, rfl, h8⟩ := uncons h7
  obtain ⟨a9, r9, rfl, h9⟩ := uncons h8
  obtain ⟨b0, r10, rfl, h10⟩ := uncons h9
  obtain ⟨b1, r11, rfl, h11⟩ := uncons h10
  obtain ⟨b2, r12, rfl, h12⟩ := uncons h11
  obtain ⟨b3, r13, rfl, h13⟩ := uncons h12
  obtain ⟨b4, r14, rfl, h14⟩ := uncons h13
  obtain ⟨b5, r15, rfl, h15⟩ := uncons h14
  obtain ⟨b6, r16, rfl, h16⟩ := uncons h15
  obtain ⟨b7, r17, rfl, h17⟩ := uncons h16
  obtain ⟨b8, r18, rfl, h18⟩ := uncons h17
  obtain ⟨b9, r19, rfl, h19⟩ := uncons h18
  obtain ⟨c0, r20, rfl, h20⟩ := uncons h19
  obtain ⟨c1, r21, rfl, h21⟩ := uncons h20
  obtain ⟨c2, r22, rfl, h22⟩ := uncons h21
  obtain ⟨c3, r23, rfl, h23⟩ := uncons h22
  obtain ⟨c4, r24, rfl, h24⟩ := uncons h23
  obtain ⟨c5, r25, rfl, h25⟩ := uncons h24
  obtain ⟨c6, r26, rfl, h26⟩ := uncons h25
  obtain ⟨c7, r27, rfl, h27⟩ := uncons h26
  obtain ⟨c8, r28, rfl, h28⟩ := uncons h27
  obtain ⟨c9, r29, rfl, h29⟩ := uncons h28
  obtain ⟨d0, r30, rfl, h30⟩ := uncons h29
  obtain ⟨d1, r31, rfl, h31⟩ := uncons h30
  obtain ⟨d2, r32, rfl, h32⟩ := uncons h31
  obtain ⟨d3, r33, rfl, h33⟩ := uncons h32
  obtain ⟨d4, r34, rfl, h34⟩ := uncons h33
  obtain ⟨d5, r35, rfl, h35⟩ := uncons h34
  obtain ⟨d6, r36, rfl, h36⟩ := uncons h35
  obtain ⟨d7, r37, rfl, h37⟩ := uncons h36
  obtain ⟨d8, r38, rfl, h38⟩ := uncons h37
  obtain ⟨d9, r39, rfl, h39⟩ := uncons h38
  obtain rfl := List.eq_nil_of_length_eq_zero h39
  exact ⟨_, _, _, _, _, _, _, _, _, _, _, _, _, _, _, _, _, _, _, _, _, _, _, _, _, _, _, _, _, _, _, _, _, _, _, _, _, _, _, _, rfl⟩
theorem built_ver (t : Int) (L : List Nat) (h : L.length = 40) : Try.prog.built 65 [(0, .int .i64 t), (1, .agg (L.map bt).toArray)] = some (vc (t, L)).toArray := by
  obtain ⟨a0, a1, a2, a3, a4, a5, a6, a7, a8, a9, b0, b1, b2, b3, b4, b5, b6, b7, b8, b9, c0, c1, c2, c3, c4, c5, c6, c7, c8, c9, d0, d1, d2, d3, d4, d5, d6, d7, d8, d9, rfl⟩ := forty h
  kernel_rfl
theorem run_built (t : Int) (L : List Nat) (h : L.length = 40) (w : World) : (Instr.build 65 #[(0, .int .i64 t), (1, .agg (L.map bt).toArray)]).run Try.prog w = .ok (.agg (vc (t, L)).toArray) w := run_build w _ _ _ (built_ver t L h)
theorem fill_ver (v : Ver) (h : v.2.length = 40) (z : Array Value) : Instr.fill (fun i => some (i * 41, 41)) ((Array.range (1 * 41)).map (z[· % z.size]!)) [(0, .agg (vc v).toArray)] = some (vc v).toArray := by
  have := Great.fill_whole (s := 41) (by omega) [.agg (vc v).toArray] ((Array.range (1 * 41)).map (z[· % z.size]!)) (fun u hu => by
    rcases List.mem_singleton.1 hu with rfl
    simp [Value.cells, vc_len h]) (by simp)
  simpa [Value.cells] using this
theorem run_slice (v : Ver) (h : v.2.length = 40) (w : World) : (Instr.buildSlice 66 1 #[(0, .agg (vc v).toArray)]).run Try.prog w = .ok (.slice (some ⟨w.heap.size, 0, none⟩) 1 1) (w.alloc (.cells (vc v).toArray 65)) := by
  obtain ⟨i, z, hi, hz, h1, _, _⟩ := ver_parts
  exact run_buildSlice w _ _ 1 _ _ i z Try.underlying66 hi hz (by rw [h1]; omega) (by rw [h1]; omega) (by rw [h1]; exact fill_ver v h z.cells)
theorem size_data : (Try.prog.info? 63).map (·.size) = some 40 := by kernel_rfl
theorem run_at (g : Option Addr) (c : Nat) (w : World) : (Instr.arrayAt 63 (.slice g 40 c)).run Try.prog w = .ok (.pointer g) w := run_arrayAt w _ _ 40 _ 40 c Try.underlying63 (Nat.le_refl _)

theorem yields_build {ops : Array Oper} {S : World → Prop} {a : Act} {o : Oper} (hw : Region.wanted o (yielded ops a.tmps) = true) (parts : Array (Nat × Operand)) (ho : o.op = .build 65 parts) (t : Int) (L : List Nat) (h : L.length = 40)
    (hb : (parts.map fun (i, x) => (i, a.eval x)).toList = [(0, .int .i64 t), (1, .agg (L.map bt).toArray)]) : YieldsIf Try.prog ops S o (.agg (vc (t, L)).toArray) a :=
  .inl ⟨hw, fun w _ => by
    unfold execOp
    simp only [ho, Sem.run_bind, run_build w _ _ _ (by rw [hb]; exact built_ver t L h), Result.andThen_ok]
    rfl⟩
theorem yields_load_ver {ops : Array Oper} {S : World → Prop} {a : Act} {o : Oper} (hw : Region.wanted o (yielded ops a.tmps) = true) (x : Operand) (ho : o.op = .load 65 x) (b f : Nat) (hx : a.eval x = .pointer (some ⟨b, f, none⟩)) (v : Ver) (hl : v.2.length = 40)
    (hS : ∀ w, S w → w.rangeAt b f (vc v)) : YieldsIf Try.prog ops S o (.agg (vc v).toArray) a :=
  yieldsIf_load_mid hw _ x ho b f hx (vc v) _ hS Try.underlying65 rfl (by rw [size_ver, vc_len hl])
theorem drew_row (w : World) (c c' : Array Value) (t : TypeId) : ((w.alloc (.cells c t)).drew).setRow w.heap.size c' = (w.alloc (.cells c' t)).drew := by
  show ((w.alloc (.cells c t)).setRow w.heap.size c').drew = _
  rw [World.setRow_alloc_new]
theorem range_drew {w : World} {b o : Nat} {cs : List Value} (h : w.rangeAt b o cs) : w.drew.rangeAt b o cs := h

section
variable {o : Oper} {a : Act} {w : World} {K : Act → World → Prop} {Q : Exit → Act → World → Prop}
theorem wp_look (m x : Operand) (ho : o.op = .lookup 60 m x false) (mv key v : Value) (hm : a.eval m = mv) (hx : a.eval x = key) (hrun : (Instr.lookup 60 mv key false).run Try.prog w = .ok v w) (h : K (a.put o.dst v) w) : o.wp Try.prog a w K Q := by
  unfold Oper.wp execOp
  simp only [ho, hm, hx, Sem.run_bind, hrun, Result.andThen_ok]
  exact h
theorem wp_slice (parts : Array (Nat × Operand)) (ho : o.op = .buildSlice 66 1 parts) (v : Ver) (hl : v.2.length = 40) (hp : (parts.map fun (i, x) => (i, a.eval x)) = #[(0, .agg (vc v).toArray)])
    (h : K (a.put o.dst (.slice (some ⟨w.heap.size, 0, none⟩) 1 1)) (w.alloc (.cells (vc v).toArray 65))) : o.wp Try.prog a w K Q := by
  unfold Oper.wp execOp
  simp only [ho, hp, Sem.run_bind, run_slice v hl w, Result.andThen_ok]
  exact h
theorem wp_update (m x y : Operand) (ho : o.op = .mapUpdate 60 m x y) (mv key v : Value) (w' : World) (hm : a.eval m = mv) (hx : a.eval x = key) (hy : a.eval y = v) (hrun : (Instr.mapUpdate 60 mv key v).run Try.prog w = .ok () w') (h : K (a.put o.dst undef) w') : o.wp Try.prog a w K Q := by
  unfold Oper.wp execOp
  simp only [ho, hm, hx, hy, Sem.run_bind, hrun, Result.andThen_ok]
  exact h
end

end Go.Proofs.Ytjpoiijifnfjhaa
