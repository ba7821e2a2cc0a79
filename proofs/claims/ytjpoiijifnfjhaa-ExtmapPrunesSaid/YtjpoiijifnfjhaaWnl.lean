/- Proved: of no map nothing comes. -/
import Derived.Test.YtjpoiijifnfjhaaWit
namespace Go.Proofs.Ytjpoiijifnfjhaa
open Go.RowKit Go.Maps Go.Sort Go.Shelf

set_option maxRecDepth 100000 in
set_option maxHeartbeats 2000000 in
theorem within1_nil {w : World} (a n : Int) (ha0 : 0 ≤ a) (ha1 : a ≤ 1048576) (hn0 : 1 ≤ n) (hn1 : n ≤ 1048576) (B1 B2 : Nat)
    (hB1 : w.heap[B1]? = some (.cells #[.pointer none] 25 (0, 0))) (hB2 : w.heap[B2]? = some (.cells #[.int .i64 a, .int .i64 n] 48 (0, 0))) (hd : Nat → Value) (S : St) :
    SeqStopsK Fence.wide 7 Try.prog 43 #[.pointer (some ⟨B1, 0, none⟩), .pointer (some ⟨B2, 0, none⟩)] (encB (S := S) (a := a) (n := n) hd) (Kw B2) (fun xs => xs = []) (fun _ => False) 0 w := by
  intro l J Jx W hW hJ hJx hY h0
  have e1 := At.keep hW hB1
  have e2 := At.keep hW hB2
  have c1 : W.cell? ⟨B1, 0, none⟩ = some (.pointer none) := (cell_at e1 0).trans rfl
  have c2 : W.cell? ⟨B2, 0, none⟩ = some (.int .i64 a) := (cell_at e2 0).trans rfl
  have c3 : W.cell? ⟨B2, 1, none⟩ = some (.int .i64 n) := (cell_at e2 1).trans rfl
  have HAll := Lib.hid (fun V => show CallsIn Fence.wide 6 Try.prog 30 #[.pointer none] V (fun e w' => e = .returned (.map none) ∧ w' = V) from callsIn_wide.2 ((all_nil V).mono fun _ _ ⟨h1, h2⟩ => ⟨h1, h2.symm⟩))
  have HE2 := Lib.hid e2
  have HJ := Lib.hid hJ
  have H0 := Lib.hid h0
  clear hW hJ hJx hY h0 e1 e2 hB1 hB2
  have hfA : Fence.wide.fn 30 := trivial
  have hen : a + n ≤ 2097152 := by omega
  refine callsIn_of_wp Try.func43 rfl trivial ?_ rfl
  simp only [Try.ntmps43, List.size_toArray, List.length_cons, List.length_nil, Nat.reduceAdd, Nat.reduceSub, Array.replicate_succ, Array.replicate_zero, List.push_toArray, List.append_toArray, List.nil_append, List.cons_append]
  gi_wp2_with fail
  gi_big_quiet_th ((gi_at_call 30; exact CallsIn.quiet_of_same (HAll.out _)))
  obtain ⟨V, hVV⟩ : ∃ V, V = W.drewN nq := ⟨_, rfl⟩
  have HJV : Hid (J [] (V.alloc (.mapIter none 0 #[] 0))) := Lib.hid (HJ.out [] _ _ none (HJ.out [] W V none H0.out (by rw [hVV]; exact ⟨rfl, rfl, rfl, Nat.le_refl _, fun _ _ _ => rfl⟩) (fun r e => by cases e)) (World.grownBy_alloc V _ none) (fun r e => by cases e))
  have d3 : V.cell? ⟨B2, 1, none⟩ = some (.int .i64 n) := by rw [hVV]; exact c3
  rw [← hVV]
  clear hVV c1 c2 c3 H0 HE2
  have hln := Maps.len_nil (P := Try.prog) (w := V) Try.underlying60 3
  have hrg := run_range_nilMap (P := Try.prog) V 60 3 66 Try.underlying60
  have hnx : ∀ ty, (Instr.next (.pointer (some ⟨V.heap.size, 0, none⟩)) false ty).run Try.prog (V.alloc (.mapIter none 0 #[] 0)) = _ := fun ty => run_next_nilMap _ ty 0 0 #[]
  have hbig : (0 : Int) < n := by omega
  gi_wp2
  refine wpIn_loop_rounds 1 ?_
  rw [roundsIn_succ]
  gi_wp2
  refine bodyPost_ret (results_none rfl _ _ _) rfl ?_
  exact ⟨⟨_, rfl⟩, .inl ⟨[], rfl, HJV.out⟩⟩

theorem field_time (v : Ver) (h : v.2.length = 40) (w : World) : (Instr.field 65 (.agg (vc v).toArray) 0).run Try.prog w = .ok (.int .i64 v.1) w := by
  obtain ⟨t, L⟩ := v
  obtain ⟨a0, a1, a2, a3, a4, a5, a6, a7, a8, a9, b0, b1, b2, b3, b4, b5, b6, b7, b8, b9, c0, c1, c2, c3, c4, c5, c6, c7, c8, c9, d0, d1, d2, d3, d4, d5, d6, d7, d8, d9, rfl⟩ := forty h
  kernel_rfl

end Go.Proofs.Ytjpoiijifnfjhaa
