/- Proved: slices of blocks to be written: the first n, those from the n-th on; what they are as a row's elements; an or of two bytes. -/
import Derived.Test.YtgmekkenodiclaaDb
import Derived.Laws.BitsAllLaws
namespace Go.Proofs.Ytgmekkenodiclaa
open Go.RowKit

theorem i64_or_nat (a b : Nat) (ha : a < 9223372036854775808) (hb : b < 9223372036854775808) : bits .or .i64 (a : Int) (b : Int) = ((a ||| b : Nat) : Int) := by
  have hx : a ||| b < 2 ^ 63 := Nat.or_lt_two_pow (by omega) (by omega)
  show IntKind.i64.wrap ((BitVec.ofInt 64 (a : Int) ||| BitVec.ofInt 64 (b : Int)).toNat : Int) = _
  rw [BitVec.toNat_or, ofInt_u64 a (by omega), ofInt_u64 b (by omega), IntKind.wrap_i64]
  omega
theorem or_two (x y : Nat) (hx : x < 256) (hy : y < 256) : bits .or .i64 (x : Int) ((y : Int) * 256) = ((x + 256 * y : Nat) : Int) := by
  have e : ((y : Int) * 256) = ((2 ^ 8 * y : Nat) : Int) := by omega
  rw [e, i64_or_nat _ _ (by omega) (by omega), Nat.or_comm, ← Nat.two_pow_add_eq_or_of_lt (by omega : x < 2 ^ 8) y]
  omega

/-- What is behind the m-th: where it lies, how many, its room. -/
structure Cutp (A : Option Addr) (n m : Nat) (X : Option Addr) (p r : Nat) : Prop where
  len : p = n - m
  cap : p ≤ r
  none : X = none → p = 0 ∧ r = 0
  pv : ∀ W P, PV W A P → P.length = n → PV W X (P.drop m)
theorem run_pfrom (w : World) (A : Option Addr) (n c m : Nat) (hm : m ≤ n) (hc : n ≤ c) (hz : A = none → n = 0 ∧ c = 0) : ∃ X p r, (Instr.sliceAt 42 (.slice A n c) (some (.int .i64 (m : Int))) none none).run Try.prog w = .ok (.slice X p r) w ∧ Cutp A n m X p r := by
  have ht : Try.prog.underlying 42 = some (.slice (Try.prog.elem 42)) := by kernel_rfl
  have hs : (sizeOf (Try.prog.elem 42)).run Try.prog w = .ok 2 w := by kernel_rfl
  have h := run_slice_l (P := Try.prog) w 42 A n c ht .i64 (m : Int) (by omega) (by omega)
  rw [run_sliceAt_slice (P := Try.prog) w _ _ _ _ _ ht, h, hs]
  cases A with
  | none =>
    obtain ⟨rfl, rfl⟩ := hz rfl
    obtain rfl : m = 0 := by omega
    exact ⟨none, 0, 0, by simp [sliced, Result.andThen], rfl, Nat.le_refl _, fun _ => ⟨rfl, rfl⟩, fun W P _ hP => Or.inl (by rw [List.eq_nil_of_length_eq_zero hP]; rfl)⟩
  | some a =>
    by_cases e : c = m
    · refine ⟨some a, n - m, c - m, ?_, rfl, by omega, (fun h => by cases h), fun W P _ hP => Or.inl (List.drop_eq_nil_of_le (by omega))⟩
      simp [sliced, Result.andThen, e]
    · refine ⟨some (a.add (m * 2)), n - m, c - m, ?_, rfl, by omega, (fun h => by cases h), fun W P hp hP => ?_⟩
      · simp [sliced, Result.andThen, e]
      · rcases Nat.eq_zero_or_pos P.length with h0 | h0
        · left; rw [List.eq_nil_of_length_eq_zero h0]; simp
        · obtain ⟨g, o, he, _, _⟩ := hp.pos h0
          injection he with he
          subst he
          rw [Go.WideShapes.add_plain]
          exact hp.drop m
theorem puts_from {w : World} {ops : Array Oper} {rest : List Oper} {o : Oper} {a : Act} {Q : Exit → Act → World → Prop} (hgd : o.guard = none) (x lo : Operand)
    (ho : o.op = .slice 42 x (some lo) none none) (A : Option Addr) (n c : Nat) (m : Nat) (hx : a.eval x = .slice A n c) (hlo : a.eval lo = .int .i64 (m : Int)) (hm : m ≤ n) (hc : n ≤ c) (hz : A = none → n = 0 ∧ c = 0)
    (h : ∀ X p r, Hid (Cutp A n m X p r) → wpList Try.prog ops Q rest (a.put o.dst (.slice X p r)) w) : wpList Try.prog ops Q (o :: rest) a w := by
  refine wpList_plain hgd fun K hK => ?_
  obtain ⟨X, p, r, hr, h2⟩ := run_pfrom w A n c m hm hc hz
  unfold Oper.wp
  simp [execOp, ho, hx, hlo, hr, Result.andThen]
  exact hK _ _ (h X p r (Lib.hid h2))
theorem run_pto (w : World) (A : Option Addr) (n c m : Nat) (hm : m ≤ n) (hc : n ≤ c) (hz : A = none → n = 0 ∧ c = 0) : (Instr.sliceAt 42 (.slice A n c) none (some (.int .i64 (m : Int))) none).run Try.prog w = .ok (.slice A m c) w := by
  have ht : Try.prog.underlying 42 = some (.slice (Try.prog.elem 42)) := by kernel_rfl
  have hs : (sizeOf (Try.prog.elem 42)).run Try.prog w = .ok 2 w := by kernel_rfl
  have h := run_slice_h (P := Try.prog) w 42 A n c ht .i64 (m : Int) (by omega) (by omega)
  rw [run_sliceAt_slice (P := Try.prog) w _ _ _ _ _ ht, h, hs]
  cases A with
  | none => obtain ⟨rfl, rfl⟩ := hz rfl; obtain rfl : m = 0 := by omega
            simp [sliced, Result.andThen]
  | some a =>
    by_cases e : c = 0
    · simp [sliced, Result.andThen, e]
    · have h0 : a.add 0 = a := by obtain ⟨b, f, s⟩ := a; cases s <;> simp [Addr.add]
      simp [sliced, Result.andThen, h0]
theorem puts_to {w : World} {ops : Array Oper} {rest : List Oper} {o : Oper} {a : Act} {Q : Exit → Act → World → Prop} (hgd : o.guard = none) (x hi : Operand)
    (ho : o.op = .slice 42 x none (some hi) none) (A : Option Addr) (n c : Nat) (m : Nat) (hx : a.eval x = .slice A n c) (hlo : a.eval hi = .int .i64 (m : Int)) (hm : m ≤ n) (hc : n ≤ c) (hz : A = none → n = 0 ∧ c = 0)
    (h : wpList Try.prog ops Q rest (a.put o.dst (.slice A m c)) w) : wpList Try.prog ops Q (o :: rest) a w := by
  refine wpList_plain hgd fun K hK => ?_
  have hr := run_pto w A n c m hm hc hz
  unfold Oper.wp
  simp [execOp, ho, hx, hlo, hr, Result.andThen]
  exact hK _ _ h

/-- Blocks that came in, as they lie. -/
theorem pv_pl {w : World} {A : Option Addr} {P : List Pt} (h : PV w A P) : ∃ l : List Pl, l.map (·.1) = P ∧ (∀ x ∈ l, BV w x.2.1 x.1.2) ∧ ∀ W, At w W → ∀ a, A = some a → ∀ j u, (l.flatMap pcs)[j]? = some u → W.cell? (a.add j) = some u := by
  rcases Nat.eq_zero_or_pos P.length with h0 | h0
  · exact ⟨[], by rw [List.eq_nil_of_length_eq_zero h0]; rfl, fun _ h => (by cases h), fun W _ a _ j u hj => by simp at hj⟩
  · obtain ⟨g, o, rfl, hg, hc⟩ := h.pos h0
    obtain ⟨G, hG⟩ : ∃ G : Nat → Option Addr × Nat, ∀ j, j < P.length → w.cell? ⟨g, o + j * 2 + 1, none⟩ = some (.slice (G j).1 (P.getD j pz).2.length (G j).2) ∧ BV w (G j).1 (P.getD j pz).2 :=
      ⟨fun j => if h : j < P.length then ((hc j h).2.choose, (hc j h).2.choose_spec.choose) else (none, 0), fun j hj => by simp only [dif_pos hj]; exact (hc j hj).2.choose_spec.choose_spec⟩
    have hl : ∀ j, j < P.length → ((List.range P.length).map fun j => (P.getD j pz, G j))[j]? = some (P.getD j pz, G j) := fun j hj => by
      rw [List.getElem?_map, List.getElem?_range hj]; rfl
    refine ⟨(List.range P.length).map fun j => (P.getD j pz, G j), ?_, fun x hx => ?_, fun W hW a ha j u hj => ?_⟩
    · refine List.ext_getElem (by simp) fun j h1 h2 => ?_
      simp only [List.getElem_map, List.getElem_range]
      rw [List.getD_eq_getElem?_getD, List.getElem?_eq_getElem h2]; rfl
    · obtain ⟨j, hj, rfl⟩ := List.mem_map.1 hx
      exact (hG j (List.mem_range.1 hj)).2
    · injection ha with ha
      subst ha
      have hlt : j < P.length * 2 := by
        have := (List.getElem?_eq_some_iff.1 hj).1
        rw [flat_len (s := 2) (fun _ => rfl)] at this
        simpa using this
      have hd : j = (j / 2) * 2 + j % 2 := by omega
      have hj2 : j / 2 < P.length := by omega
      rw [hd, flat_at (s := 2) (fun _ => rfl) _ (j / 2) (j % 2) _ (hl _ hj2) (by omega)] at hj
      rw [Go.WideShapes.add_plain]
      have hcell : W.cell? ⟨g, o + j, none⟩ = w.cell? ⟨g, o + j, none⟩ := Below.cell hW (p := ⟨g, o + j, none⟩) hg
      rw [hcell]
      rcases Nat.mod_two_eq_zero_or_one j with e | e
      · rw [e] at hj
        have hu : Value.int .i64 (P.getD (j / 2) pz).1 = u := by simpa [pcs] using hj
        rw [← hu, show o + j = o + j / 2 * 2 by omega]
        exact (hc _ hj2).1
      · rw [e] at hj
        have hu : Value.slice (G (j / 2)).1 (P.getD (j / 2) pz).2.length (G (j / 2)).2 = u := by simpa [pcs] using hj
        rw [← hu, show o + j = o + j / 2 * 2 + 1 by omega]
        exact (hG _ hj2).1
/-- A row of blocks, made just now, whose bytes lie outside of F, lies outside of F. -/
theorem OP.pvf {w0 w : World} {v : Value} {l : List Pl} (h : OP w0 w v l) {F : Nat → Prop} (hF : ∀ g, F g → g < w0.heap.size) (hd : ∀ x ∈ l, BVf F w x.2.1 x.1.2) : ∃ A c, v = .slice A l.length c ∧ PVf F w A (l.map (·.1)) := by
  obtain ⟨A, c, rfl, hc, hn, hs⟩ := h.form
  refine ⟨A, c, rfl, ?_⟩
  cases A with
  | none => left; rw [List.eq_nil_of_length_eq_zero (hn rfl).1]; rfl
  | some a =>
    obtain ⟨h1, h2, g, rfl⟩ := hs a rfl
    refine Or.inr ⟨g, 0, rfl, h1, fun hg => by have := hF g hg; simp only at h2; omega, fun j hj => ?_⟩
    rw [List.length_map] at hj
    have e : (l.map (·.1)).getD j pz = (l[j]).1 := by rw [List.getD_eq_getElem?_getD, List.getElem?_map, List.getElem?_eq_getElem hj]; rfl
    have k0 := h.cell kP (List.getElem?_eq_getElem hj) (i := 0) (u := .int .i64 (l[j]).1.1) rfl
    have k1 := h.cell kP (List.getElem?_eq_getElem hj) (i := 1) (u := .slice (l[j]).2.1 (l[j]).1.2.length (l[j]).2.2) rfl
    rw [e, Nat.zero_add]
    exact ⟨k0, _, _, k1, hd _ (List.getElem_mem hj)⟩

end Go.Proofs.Ytgmekkenodiclaa
