/- Proved: two batches that read alike are the same by the document's own words. -/
import Derived.Test.YtgmekkenodiclaaDe
import Derived.Test.YtgmekkenodiclaaRde
namespace Go.Proofs.Ytgmekkenodiclaa
open Go.RowKit

open BigFrame in
/-- A conversion of bytes to a string, in a quiet walk. -/
theorem quiet_conv {C : World → Prop} {a : Act} {o : Oper} {K : Act → Prop} (_ : o.guard = o.guard) (x : Operand) (h : o.op = .convert 39 9 x) (v : Value) (s : ByteArray) (hx : a.eval x = v) (hc : ∀ w, C w → (convert 39 9 v).run Try.prog w = .ok (.string s) w) (hk : K (a.put o.dst (.string s))) : o.quiet Try.prog a C K :=
  ⟨_, fun w hw => by
    unfold Oper.quietAt execOp
    simp only [h, hx, Sem.run_bind, hc w hw, Result.andThen_ok]
    exact ⟨rfl, rfl⟩, hk⟩

set_option maxHeartbeats 1000000 in
set_option maxRecDepth 100000 in
theorem samePuts_any (A1 A2 : Option Addr) (P : List Pt) (n c1 c2 : Nat) (hn : P.length = n) (hl : n ≤ 1000000) (h40 : ∀ p ∈ P, p.2.length = 40) (w : World) (h1 : PV w A1 P) (h2 : PV w A2 P) :
    Calls Try.prog 26 #[.slice A1 n c1, .slice A2 n c2] w fun e w' => e = .returned (.bool true) ∧ ∃ m, w' = w.drewN m := by
  have HN := Lib.hid hn
  have H1 := Lib.hid h1
  have H2 := Lib.hid h2
  have H40 := Lib.hid h40
  clear hn h1 h2 h40
  go_enter Try.func26, Try.ntmps26
  go_wp2
  go_loopw [5] (fun c5 wr => ∃ k : Nat, k ≤ n ∧ c5 = .int .i64 (k : Int) ∧ ∃ m, wr = w.drewN m) (fun c5 _ => n - (RowKit.intOf c5).toNat)
  case atStart => exact ⟨0, Nat.zero_le _, rfl, 0, rfl⟩
  case round =>
    obtain ⟨k, hk, rfl, m, rfl⟩ := hrel
    by_cases hlt : k < n
    · have hkP : k < P.length := by rw [HN.out]; exact hlt
      obtain ⟨b1, o1, rfl, _, q1⟩ := H1.out.pos (by omega)
      obtain ⟨b2, o2, rfl, _, q2⟩ := H2.out.pos (by omega)
      obtain ⟨e1, B1, d1, e2, v1⟩ := q1 k hkP
      obtain ⟨e3, B2, d2, e4, v2⟩ := q2 k hkP
      have h40 := H40.out _ (pt_mem hkP)
      have cv1 : ∀ m j, (convert 39 9 (.slice B1 40 d1)).run Try.prog ((w.drewN m).drewN j) = .ok (.string (str (P.getD k pz).2)) ((w.drewN m).drewN j) := fun m j => conv_bv (n := 40) (c := d1) ((v1.drewN m).drewN j) h40 (by omega)
      have cv2 : ∀ m j, (convert 39 9 (.slice B2 40 d2)).run Try.prog ((w.drewN m).drewN j) = .ok (.string (str (P.getD k pz).2)) ((w.drewN m).drewN j) := fun m j => conv_bv (n := 40) (c := d2) ((v2.drewN m).drewN j) h40 (by omega)
      rw [h40] at e2 e4
      obtain ⟨s, hs⟩ : ∃ s, s = str (P.getD k pz).2 := ⟨_, rfl⟩
      simp only [← hs] at cv1 cv2
      obtain ⟨z, hz⟩ : ∃ z, z = (P.getD k pz).1 := ⟨_, rfl⟩
      rw [← hz] at e1 e3
      have g1 : (0 : Int) ≤ (k : Int) := by omega
      have g2 : (k : Int) < (n : Int) := by omega
      clear q1 q2 v1 v2 hs hz h40 hkP
      go_wp2
      refine wp_region_quiet_lit (by kernel_rfl) (by kernel_rfl) ?_
      repeat (go_big_quiet_step (fail))
      go_big_quiet_want
      refine quiet_conv rfl (.tmp 33) rfl (.slice B1 40 d1) s (by kernel_rfl) (fun w' hw' => by obtain ⟨j, rfl⟩ := hw'; exact cv1 m j) ?_
      simp only [Act.put, List.setIfInBounds_toArray, List.set_cons_zero, List.set_cons_succ]
      go_big_quiet_on
      repeat (go_big_quiet_step (fail))
      go_big_quiet_want
      refine quiet_conv rfl (.tmp 39) rfl (.slice B2 40 d2) s (by kernel_rfl) (fun w' hw' => by obtain ⟨j, rfl⟩ := hw'; exact cv2 m j) ?_
      simp only [Act.put, List.setIfInBounds_toArray, List.set_cons_zero, List.set_cons_succ]
      go_big_quiet_on
      repeat (go_big_quiet_step (fail))
      refine wpQuiet_nil ?_
      rintro w' ⟨nq, rfl⟩
      go_wp2
      go_roundw
      case rel => exact ⟨k + 1, by omega, by go_num, _, rfl⟩
      case measure => simp [RowKit.intOf]; omega
    · have hkn : k = n := by omega
      subst hkn
      go_wp2
      go_ret
      exact ⟨rfl, _, rfl⟩

set_option maxHeartbeats 2000000 in
set_option maxRecDepth 100000 in
theorem sameBatch_any (s : Int) (A1 A2 : Option Addr) (L : List Tx) (n c1 c2 : Nat) (hn : L.length = n) (hl : n ≤ 1000) (hp : ∀ x ∈ L, x.2.length ≤ 1000000 ∧ ∀ p ∈ x.2, p.2.length = 40) (w : World) (h1 : TV w A1 L) (h2 : TV w A2 L) :
    Calls Try.prog 12 #[.agg #[.int .i64 s, .slice A1 n c1], .agg #[.int .i64 s, .slice A2 n c2]] w (Gives (.bool true) w) := by
  have HN := Lib.hid hn
  have HP := Lib.hid hp
  obtain ⟨q1, hq1⟩ : ∃ q, w.heap.size = q := ⟨_, rfl⟩
  obtain ⟨w1, hw1⟩ : ∃ w1, w.alloc (.cells #[.int .i64 s, .slice A1 n c1] 27) = w1 := ⟨_, rfl⟩
  obtain ⟨q2, hq2⟩ : ∃ q, w1.heap.size = q := ⟨_, rfl⟩
  obtain ⟨w2, hw2⟩ : ∃ w2, w1.alloc (.cells #[.int .i64 s, .slice A2 n c2] 27) = w2 := ⟨_, rfl⟩
  have h12 : At w1 w2 := by rw [← hw2]; exact (At.start w1).alloc _
  have HA : Hid (At w w2) := Lib.hid (At.next (by rw [← hw1]; exact (At.start w).alloc _) h12)
  have HB1 : Hid (Bb w2 q1 s (.slice A1 n c1)) := Lib.hid ((show Bb w1 q1 s (.slice A1 n c1) by rw [← hw1, ← hq1]; exact bb_new _ _ _).on h12)
  have HB2 : Hid (Bb w2 q2 s (.slice A2 n c2)) := Lib.hid (by rw [← hw2, ← hq2]; exact bb_new _ _ _)
  have H1 := Lib.hid (h1.on HA.out)
  have H2 := Lib.hid (h2.on HA.out)
  obtain ⟨b0, b1⟩ := HB1.out.cells
  obtain ⟨d0, d1⟩ := HB2.out.cells
  clear hn h1 h2 h12 hp
  go_enter Try.func12, Try.ntmps12
  go_wp2_with fail
  go_loopw [5] (fun c5 wr => ∃ k : Nat, k ≤ n ∧ c5 = .int .i64 (k : Int) ∧ Hid (At w2 wr)) (fun c5 _ => n - (RowKit.intOf c5).toNat)
  case atStart => exact ⟨0, Nat.zero_le _, rfl, Lib.hid (At.start w2)⟩
  case round =>
    clear b0 b1 d0 d1
    obtain ⟨k, hk, rfl, HAW⟩ := hrel
    obtain ⟨b0, b1⟩ := (HB1.out.on HAW.out).cells
    obtain ⟨d0, d1⟩ := (HB2.out.on HAW.out).cells
    by_cases hlt : k < n
    · have hkL : k < L.length := by rw [HN.out]; exact hlt
      obtain ⟨g1, o1, rfl, _, q3⟩ := (H1.out.on HAW.out).pos (by omega)
      obtain ⟨g2, o2, rfl, _, q4⟩ := (H2.out.on HAW.out).pos (by omega)
      obtain ⟨e1, B1, f1, e2, v1⟩ := q3 k hkL
      obtain ⟨e3, B2, f2, e4, v2⟩ := q4 k hkL
      have hpp := HP.out _ (tx_mem hkL)
      obtain ⟨x, hx⟩ : ∃ x, x = L.getD k txz := ⟨_, rfl⟩
      rw [← hx] at e1 e2 e3 e4 v1 v2 hpp
      obtain ⟨T, P⟩ := x
      simp only at e1 e2 e3 e4 v1 v2 hpp
      obtain ⟨p, hpl⟩ : ∃ p, P.length = p := ⟨_, rfl⟩
      rw [hpl] at e2 e4 hpp
      have HS := Lib.hid (fun z => samePuts_any B1 B2 P p f1 f2 hpl hpp.1 hpp.2 (wr.drewN z) (v1.on ((At.start wr).drewN z)) (v2.on ((At.start wr).drewN z)))
      have g3 : (0 : Int) ≤ (k : Int) := by omega
      have g4 : (k : Int) < (n : Int) := by omega
      clear q3 q4 v1 v2 hx hpp hpl hkL
      have HAZ : Hid (∀ z, At w2 (wr.drewN z)) := Lib.hid fun z => HAW.out.drewN z
      go_wp2_with fail
      go_quiet ((go_at_call 26; exact Calls.quiet_of (HS.out _)))
      go_wp2_with fail
      go_roundw
      case rel => exact ⟨k + 1, by omega, by go_num, Lib.hid (HAZ.out _)⟩
      case measure => simp [RowKit.intOf]; omega
    · have hkn : k = n := by omega
      subst hkn
      go_wp2_with fail
      try rw [Exit.noGoto_ret]
      go_ret
      exact ⟨rfl, HA.out.next HAW.out⟩

end Go.Proofs.Ytgmekkenodiclaa
