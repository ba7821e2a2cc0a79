/- Proved: SamePuts tells of two lists of blocks that read alike that they are the same. -/
import Derived.Test.YthaiddhbifakhaaTot
import Derived.Laws.BytesArg
namespace Go.Proofs.Ythaiddhbifakhaa
open Go.RowKit

/-- Bytes as a string. -/
def str (L : List Nat) : ByteArray := strOfNums (L.map fun c : Nat => (c : Int))
theorem conv_bv {w : World} {A : Option Addr} {L : List Nat} {n c : Nat} (h : BV w A L) (hl : L.length = n) (h0 : 0 < n) : (convert 38 9 (.slice A n c)).run Try.prog w = .ok (.string (str L)) w := by
  obtain ⟨b, o, rfl, _, hc⟩ := h.pos (by omega)
  refine run_convert_bytes_arg w 38 5 Try.underlying38 Try.underlying5 b o n c (L.map fun c : Nat => (c : Int)) (by rw [List.length_map, hl]) (fun i hi => ?_) 9 Try.underlying9
  rw [hc i (by omega)]
  simp only [List.getD_eq_getElem?_getD, List.getElem?_map, List.getElem?_eq_getElem (show i < L.length by omega)]
  rfl

open BigFrame in
/-- A conversion of bytes to a string, in a quiet walk. -/
theorem quiet_conv {C : World → Prop} {a : Act} {o : Oper} {K : Act → Prop} (_ : o.guard = o.guard) (x : Operand) (h : o.op = .convert 38 9 x) (v : Value) (s : ByteArray) (hx : a.eval x = v) (hc : ∀ w, C w → (convert 38 9 v).run Try.prog w = .ok (.string s) w) (hk : K (a.put o.dst (.string s))) : o.quiet Try.prog a C K :=
  ⟨_, fun w hw => by
    unfold Oper.quietAt execOp
    simp only [h, hx, Sem.run_bind, hc w hw, Result.andThen_ok]
    exact ⟨rfl, rfl⟩, hk⟩

set_option maxHeartbeats 1000000 in
set_option maxRecDepth 100000 in
theorem samePuts_any (A1 A2 : Option Addr) (P : List Pt) (n c1 c2 : Nat) (hn : P.length = n) (hl : n ≤ 1000000) (h40 : ∀ p ∈ P, p.2.length = 40) (w : World) (h1 : PV w A1 P) (h2 : PV w A2 P) :
    Calls Try.prog 19 #[.slice A1 n c1, .slice A2 n c2] w fun e w' => e = .returned (.bool true) ∧ ∃ m, w' = w.drewN m := by
  have HN := Lib.hid hn
  have H1 := Lib.hid h1
  have H2 := Lib.hid h2
  have H40 := Lib.hid h40
  clear hn h1 h2 h40
  go_enter Try.func19, Try.ntmps19
  go_wp2
  go_loopw [5] (fun c5 wr => ∃ k : Nat, k ≤ n ∧ c5 = .int .i64 (k : Int) ∧ ∃ m, wr = w.drewN m) (fun c5 _ => n - (RowKit.intOf c5).toNat)
  case atStart => exact ⟨0, Nat.zero_le _, rfl, 0, rfl⟩
  case round =>
    obtain ⟨k, hk, rfl, m, rfl⟩ := hrel
    by_cases hlt : k < n
    · have hkP : k < P.length := by rw [HN.out]; exact hlt
      obtain ⟨b1, o1, rfl, _, q1⟩ := H1.out.pos (by omega)
      obtain ⟨b2, o2, rfl, _, q2⟩ := H2.out.pos (by omega)
      obtain ⟨e1, B1, d1, e2, v1⟩ := q1 k hkP
      obtain ⟨e3, B2, d2, e4, v2⟩ := q2 k hkP
      have h40 := H40.out _ (pt_mem hkP)
      have cv1 : ∀ m j, (convert 38 9 (.slice B1 40 d1)).run Try.prog ((w.drewN m).drewN j) = .ok (.string (str (P.getD k pz).2)) ((w.drewN m).drewN j) := fun m j => conv_bv (n := 40) (c := d1) ((v1.drewN m).drewN j) h40 (by omega)
      have cv2 : ∀ m j, (convert 38 9 (.slice B2 40 d2)).run Try.prog ((w.drewN m).drewN j) = .ok (.string (str (P.getD k pz).2)) ((w.drewN m).drewN j) := fun m j => conv_bv (n := 40) (c := d2) ((v2.drewN m).drewN j) h40 (by omega)
      rw [h40] at e2 e4
      obtain ⟨s, hs⟩ : ∃ s, s = str (P.getD k pz).2 := ⟨_, rfl⟩
      simp only [← hs] at cv1 cv2
      obtain ⟨z, hz⟩ : ∃ z, z = (P.getD k pz).1 := ⟨_, rfl⟩
      rw [← hz] at e1 e3
      have g1 : (0 : Int) ≤ (k : Int) := by omega
      have g2 : (k : Int) < (n : Int) := by omega
      clear q1 q2 v1 v2 hs hz h40 hkP
      go_wp2
      refine wp_region_quiet_lit (by kernel_rfl) (by kernel_rfl) ?_
      repeat (go_big_quiet_step (fail))
      go_big_quiet_want
      refine quiet_conv rfl (.tmp 33) rfl (.slice B1 40 d1) s (by kernel_rfl) (fun w' hw' => by obtain ⟨j, rfl⟩ := hw'; exact cv1 m j) ?_
      simp only [Act.put, List.setIfInBounds_toArray, List.set_cons_zero, List.set_cons_succ]
      go_big_quiet_on
      repeat (go_big_quiet_step (fail))
      go_big_quiet_want
      refine quiet_conv rfl (.tmp 39) rfl (.slice B2 40 d2) s (by kernel_rfl) (fun w' hw' => by obtain ⟨j, rfl⟩ := hw'; exact cv2 m j) ?_
      simp only [Act.put, List.setIfInBounds_toArray, List.set_cons_zero, List.set_cons_succ]
      go_big_quiet_on
      repeat (go_big_quiet_step (fail))
      refine wpQuiet_nil ?_
      rintro w' ⟨nq, rfl⟩
      go_wp2
      go_roundw
      case rel => exact ⟨k + 1, by omega, by go_num, _, rfl⟩
      case measure => simp [RowKit.intOf]; omega
    · have hkn : k = n := by omega
      subst hkn
      go_wp2
      go_ret
      exact ⟨rfl, _, rfl⟩

end Go.Proofs.Ythaiddhbifakhaa
