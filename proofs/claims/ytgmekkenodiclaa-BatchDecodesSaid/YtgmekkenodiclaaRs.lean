/- Proved: slices of rows of bytes: those from the m-th on, those up to the m-th. -/
import Derived.Test.YtgmekkenodiclaaMk
namespace Go.Proofs.Ytgmekkenodiclaa
open Go.RowKit

/-- What is behind the m-th: where it lies, how many, its room. -/
structure Cutr (A : Option Addr) (n m : Nat) (X : Option Addr) (p r : Nat) : Prop where
  len : p = n - m
  cap : p ≤ r
  none : X = none → p = 0 ∧ r = 0
  rv : ∀ W L, RV W A L → L.length = n → RV W X (L.drop m)
theorem run_rfrom (w : World) (A : Option Addr) (n c m : Nat) (hm : m ≤ n) (hc : n ≤ c) (hz : A = none → n = 0 ∧ c = 0) : ∃ X p r, (Instr.sliceAt 22 (.slice A n c) (some (.int .i64 (m : Int))) none none).run Try.prog w = .ok (.slice X p r) w ∧ Cutr A n m X p r := by
  have ht : Try.prog.underlying 22 = some (.slice (Try.prog.elem 22)) := by kernel_rfl
  have hs : (sizeOf (Try.prog.elem 22)).run Try.prog w = .ok 1 w := by kernel_rfl
  have h := run_slice_l (P := Try.prog) w 22 A n c ht .i64 (m : Int) (by omega) (by omega)
  rw [run_sliceAt_slice (P := Try.prog) w _ _ _ _ _ ht, h, hs]
  cases A with
  | none =>
    obtain ⟨rfl, rfl⟩ := hz rfl
    obtain rfl : m = 0 := by omega
    exact ⟨none, 0, 0, by simp [sliced, Result.andThen], rfl, Nat.le_refl _, fun _ => ⟨rfl, rfl⟩, fun W L _ hL => Or.inl (by rw [List.eq_nil_of_length_eq_zero hL]; rfl)⟩
  | some a =>
    by_cases e : c = m
    · refine ⟨some a, n - m, c - m, ?_, rfl, by omega, (fun h => by cases h), fun W L _ hL => Or.inl (List.drop_eq_nil_of_le (by omega))⟩
      simp [sliced, Result.andThen, e]
    · refine ⟨some (a.add m), n - m, c - m, ?_, rfl, by omega, (fun h => by cases h), fun W L hp hL => ?_⟩
      · simp [sliced, Result.andThen, e]
      · rcases Nat.eq_zero_or_pos L.length with h0 | h0
        · left; rw [List.eq_nil_of_length_eq_zero h0]; simp
        · obtain ⟨g, o, he, _, _⟩ := hp.pos h0
          injection he with he
          subst he
          rw [Go.WideShapes.add_plain]
          exact hp.drop m
theorem rows_from {w : World} {ops : Array Oper} {rest : List Oper} {o : Oper} {a : Act} {Q : Exit → Act → World → Prop} (hgd : o.guard = none) (x lo : Operand)
    (ho : o.op = .slice 22 x (some lo) none none) (A : Option Addr) (n c : Nat) (m : Nat) (hx : a.eval x = .slice A n c) (hlo : a.eval lo = .int .i64 (m : Int)) (hm : m ≤ n) (hc : n ≤ c) (hz : A = none → n = 0 ∧ c = 0)
    (h : ∀ X p r, Hid (Cutr A n m X p r) → wpList Try.prog ops Q rest (a.put o.dst (.slice X p r)) w) : wpList Try.prog ops Q (o :: rest) a w := by
  refine wpList_plain hgd fun K hK => ?_
  obtain ⟨X, p, r, hr, h2⟩ := run_rfrom w A n c m hm hc hz
  unfold Oper.wp
  simp [execOp, ho, hx, hlo, hr, Result.andThen]
  exact hK _ _ (h X p r (Lib.hid h2))
theorem run_rto (w : World) (A : Option Addr) (n c m : Nat) (hm : m ≤ n) (hc : n ≤ c) (hz : A = none → n = 0 ∧ c = 0) : (Instr.sliceAt 22 (.slice A n c) none (some (.int .i64 (m : Int))) none).run Try.prog w = .ok (.slice A m c) w := by
  have ht : Try.prog.underlying 22 = some (.slice (Try.prog.elem 22)) := by kernel_rfl
  have hs : (sizeOf (Try.prog.elem 22)).run Try.prog w = .ok 1 w := by kernel_rfl
  have h := run_slice_h (P := Try.prog) w 22 A n c ht .i64 (m : Int) (by omega) (by omega)
  rw [run_sliceAt_slice (P := Try.prog) w _ _ _ _ _ ht, h, hs]
  cases A with
  | none => obtain ⟨rfl, rfl⟩ := hz rfl; obtain rfl : m = 0 := by omega
            simp [sliced, Result.andThen]
  | some a =>
    by_cases e : c = 0
    · simp [sliced, Result.andThen, e]
    · have h0 : a.add 0 = a := by obtain ⟨b, f, s⟩ := a; cases s <;> simp [Addr.add]
      simp [sliced, Result.andThen, h0]
theorem rows_to {w : World} {ops : Array Oper} {rest : List Oper} {o : Oper} {a : Act} {Q : Exit → Act → World → Prop} (hgd : o.guard = none) (x hi : Operand)
    (ho : o.op = .slice 22 x none (some hi) none) (A : Option Addr) (n c : Nat) (m : Nat) (hx : a.eval x = .slice A n c) (hlo : a.eval hi = .int .i64 (m : Int)) (hm : m ≤ n) (hc : n ≤ c) (hz : A = none → n = 0 ∧ c = 0)
    (h : wpList Try.prog ops Q rest (a.put o.dst (.slice A m c)) w) : wpList Try.prog ops Q (o :: rest) a w := by
  refine wpList_plain hgd fun K hK => ?_
  have hr := run_rto w A n c m hm hc hz
  unfold Oper.wp
  simp [execOp, ho, hx, hlo, hr, Result.andThen]
  exact hK _ _ h


end Go.Proofs.Ytgmekkenodiclaa
