/- Proved: the two maps of the law, the landed one and the document's own, each in its state; what Apply of either leaves of both. -/
import Derived.Test.YtcffoebpgjonmaaAw
import Derived.Test.YtcffoebpgjonmaaSm
namespace Go.Proofs.Ytcffoebpgjonmaa
open Go.RowKit
open Em (Did)
open Iv (In Nm Is Vm Va Sv EV Ow allB nf)

set_option maxHeartbeats 1000000 in
theorem rnewm_ok (n : Nat) (h1 : 1 ≤ n) (h2 : n ≤ 1048576) (w : World) : Calls Try.prog 11 #[.int .i64 (n : Int)] w fun e w' =>
    e = .returned (.tuple #[.pointer (some ⟨w.heap.size, 0, none⟩), .int .i64 0]) ∧ w' = w.alloc (.cells #[.int .i64 (n : Int), .slice none 0 0, .int .i64 0] 67) := by
  have g1 : decide ((n : Int) < 1) = false := decide_eq_false (by omega)
  have g2 : decide ((1048576 : Int) < (n : Int)) = false := decide_eq_false (by omega)
  clear h1 h2
  go_enter Try.func11, Try.ntmps11
  go_wp2
  go_ret2
  exact ⟨rfl, rfl⟩

/-- The landed map at b in the state M, the document's at d in the state M2 with at most N versions, made since w0. -/
structure Py (w0 w : World) (b : Nat) (F : Nat → Prop) (d : Nat) (P : Nat → Prop) (M M2 : Em.St) (N : Nat) : Prop where
  m : Em.Mp w b M F
  x : Rm w d M2 N P
  fg : ∀ g, F g → w0.heap.size ≤ g
  pg : ∀ g, P g → w0.heap.size ≤ g ∧ g < w.heap.size
  dis : ∀ g, F g → ¬ P g
  at_ : At w0 w
section
variable {w0 w w' : World} {b d N : Nat} {F P : Nat → Prop} {M M2 : Em.St}
theorem Py.on (h : Py w0 w b F d P M M2 N) (hA : At w w') : Py w0 w' b F d P M M2 N := ⟨h.m.on hA, h.x.on hA, h.fg, fun g hg => ⟨(h.pg g hg).1, Nat.lt_of_lt_of_le (h.pg g hg).2 hA.size⟩, h.dis, h.at_.next hA⟩
theorem Py.apply (h : Py w0 w b F d P M M2 N) (T : Int) (X : Option Addr) (Q : List Pt) (n c : Nat) (hn : Q.length = n) (hl : n ≤ 1000000) (hv : PV w0 X Q) (hB : AllBy Q) (hc : M.c < 20000) :
    Calls Try.prog 12 #[.pointer (some ⟨b, 0, none⟩), .agg #[.int .i64 T, .slice X n c]] w fun e w' => ∃ z F', e = .returned (.int .i64 z) ∧ Py w0 w' b F' d P (Em.took M T Q) M2 N := by
  refine (Em.apply_any h.m h.at_ h.fg T X Q n c hn hl hv hB hc).mono ?_
  rintro e w' ⟨F', rfl, hm, hd⟩
  refine ⟨_, F', rfl, hm, h.x.mv hd.mv fun g hp hf => h.dis g hf hp, fun g hg => ?_, fun g hg => ⟨(h.pg g hg).1, Nat.lt_of_lt_of_le (h.pg g hg).2 hd.mv.size⟩, fun g hf hp => ?_, hd.at_ h.at_ h.fg⟩
  · rcases hd.new g hg with h1 | h1
    · exact h.fg g h1
    · exact Nat.le_trans h.at_.size h1
  · rcases hd.new g hf with h1 | h1
    · exact h.dis g h1 hp
    · have := (h.pg g hp).2; omega
theorem Py.rapply (h : Py w0 w b F d P M M2 N) (T : Int) (X : Option Addr) (Q : List Pt) (n c : Nat) (hn : Q.length = n) (hl : n ≤ 1000000) (hv : PV w0 X Q) (hB : AllBy Q) (hc : M2.c < 20000) (hN : N ≤ 50000000) :
    Calls Try.prog 13 #[.pointer (some ⟨d, 0, none⟩), .agg #[.int .i64 T, .slice X n c]] w fun e w' => ∃ z P', e = .returned (.int .i64 z) ∧ Py w0 w' b F d P' M (Em.took M2 T Q) (N + n) := by
  refine (rapply_any (h.x.more fun g _ hg => Or.inl hg) (P := fun g => P g ∨ w.heap.size ≤ g) (fun g hg => Or.inr hg) hc hN T X Q n c hn hl (hv.on h.at_) hB).mono ?_
  rintro e w' ⟨⟨z, rfl⟩, hr, hm⟩
  have hpd : P d := by obtain ⟨v, X, hq, _⟩ := h.x; exact hq.pd
  refine ⟨z, fun g => (P g ∨ w.heap.size ≤ g) ∧ g < w'.heap.size, rfl, h.m.mv hm fun g hg e => ?_, hr.more fun g hg hp => ⟨hp, hg⟩, h.fg, fun g hg => ⟨?_, hg.2⟩, fun g hf hp => ?_, hm.at_ h.at_ fun g hg => by rw [hg]; exact (h.pg d hpd).1⟩
  · rw [e] at hg; exact h.dis d hg hpd
  · rcases hg.1 with h1 | h1
    · exact (h.pg g h1).1
    · exact Nat.le_trans h.at_.size h1
  · rcases hp.1 with h1 | h1
    · exact h.dis g hf h1
    · have := h.m.ft g hf; omega
/-- In the beginning. -/
theorem py_new {w1 : World} {n : Nat} (h : Em.Mp w1 b (Em.st0 n) F) (hF : ∀ g, F g → w0.heap.size ≤ g) (hA : At w0 w1) : Py w0 (w1.alloc (.cells #[.int .i64 (n : Int), .slice none 0 0, .int .i64 0] 67)) b F w1.heap.size (fun g => g = w1.heap.size) (Em.st0 n) (Em.st0 n) 0 := by
  have hA2 : At w1 (w1.alloc (.cells #[.int .i64 (n : Int), .slice none 0 0, .int .i64 0] 67)) := (At.start w1).alloc _
  refine ⟨h.on hA2, ⟨.slice none 0 0, [], ⟨h.ok, heap_alloc_new w1 _, Vr.nil _, ⟨List.Pairwise.nil, fun k => rfl, fun v hv => by cases hv⟩, rfl, fun g hg => (by cases hg), fun x hx => (by cases hx)⟩, Nat.le_refl _⟩, hF, fun g hg => ⟨by rw [hg]; exact hA.size, by rw [hg]; simp⟩, fun g hf hp => ?_, hA.next hA2⟩
  have := h.ft g hf
  omega
end
theorem pb_by {P : List Pt} (h : PB P) : AllBy P := fun p hp => (h p hp).1

end Go.Proofs.Ytcffoebpgjonmaa
