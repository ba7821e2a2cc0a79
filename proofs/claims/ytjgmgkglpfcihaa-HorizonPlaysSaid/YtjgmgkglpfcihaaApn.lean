/- Proved: an append of ints to a row of the call's own, of whatever slice of ints, nil too: in a walk, and in a region that draws. -/
import Derived.Test.YtjgmgkglpfcihaaDoc
namespace Go.Proofs.Ytjgmgkglpfcihaa
open Go.RowKit

/-- A row of ints of the call's own. -/
def OI (w : World) (B : Nat) (v : Value) (n : Nat) (R : List Int) : Prop := w.ownsRow B 3 1 v n (R.map encZ)
theorem OI.nil (w : World) (B : Nat) : OI w B (.slice none 0 0) 0 [] := World.ownsRow_nil w B _ _
theorem OI.made {w : World} {B : Nat} (hB : B ≤ w.heap.size) : OI (w.alloc (.cells #[] 3)) B (.slice (some ⟨w.heap.size, 0, none⟩) 0 0) 0 [] := World.ownsRow_made w #[] 0 hB (by unfold maxLen; omega) rfl
theorem OI.mv {w w' : World} {F : Nat → Prop} {B n : Nat} {v : Value} {R : List Int} (h : OI w B v n R) (hm : Mv F w w') (hF : ∀ g, v.ownBlock = some g → ¬ F g) : OI w' B v n R := by
  refine ⟨h.1, ?_⟩
  rcases h.2 with h | ⟨g, cap, cur, hv, hB, hh, hr⟩
  · exact Or.inl h
  · exact Or.inr ⟨g, cap, cur, hv, hB, hm.keep hh (hF g (by rw [hv]; rfl)), hr⟩
theorem OI.on {w w' : World} {B n : Nat} {v : Value} {R : List Int} (h : OI w B v n R) (ha : At w w') : OI w' B v n R := h.mv (Mv.of_below (fun _ => False) ha) fun _ _ => id
theorem OI.ir {w : World} {B n : Nat} {A : Option Addr} {c : Nat} {R : List Int} (h : OI w B (.slice A n c) n R) : IR w A n c R := by
  obtain ⟨A', c', e, hi⟩ := own_ir h
  injection e with e1 _ e3
  subst e1 e3
  exact hi
theorem OI.len {w : World} {B n : Nat} {v : Value} {R : List Int} (h : OI w B v n R) : R.length = n := by have := h.1; simpa using this
theorem OI.lt {w : World} {B n : Nat} {v : Value} {R : List Int} (h : OI w B v n R) {g : Nat} (hg : v.ownBlock = some g) : B ≤ g ∧ g < w.heap.size := World.ownsRow.lt h g hg
theorem OI.less {w : World} {B B' n : Nat} {v : Value} {R : List Int} (h : OI w B v n R) (hB : B' ≤ B) : OI w B' v n R := ownsRow_base_a h hB

/-- What an append has done. -/
structure Apd (w : World) (B : Nat) (v : Value) (v' : Value) (q : Nat) (R : List Int) (w' : World) : Prop where
  own : OI w' B v' q R
  mv : Mv (fun g => v.ownBlock = some g) w w'
  at_ : v'.ownBlock = v.ownBlock ∨ v'.ownBlock = some w.heap.size
theorem run_ints (w : World) (base : Nat) (ty : TypeId) (v : Value) (n : Nat) (xs : List Int) (hown : OI w base v n xs) (A : Option Addr) (m c : Nat) (L : List Int) (hz : A = none → m = 0 ∧ c = 0) (hv : IV w A L) (hl : L.length = m) (h63 : n + m ≤ 3000000) (hbase : base ≤ w.heap.size) :
    ∃ A' c' q w', (Builtin.append_ #[27, 27] ty #[v, .slice A m c]).run Try.prog w = .ok (.slice A' q c') w' ∧ Apd w base v (.slice A' q c') q (xs ++ L) w' := by
  obtain ⟨i0, hi, hz0, hz1, hz2⟩ := info_parts info_int
  cases A with
  | none =>
    obtain ⟨rfl, rfl⟩ := hz rfl
    obtain rfl : L = [] := List.eq_nil_of_length_eq_zero hl
    obtain ⟨A', c', rfl, _⟩ := own_ir hown
    exact ⟨A', c', n, w, run_append_owned_none (P := Try.prog) (w := w) base 27 ty 3 i0 1 Try.underlying27 hi _ n _ hown, by rw [List.append_nil]; exact ⟨hown, Mv.refl _ _, Or.inl rfl⟩⟩
  | some ad =>
    obtain ⟨v', w', hr, h2, h3, _, h5⟩ := run_append_own_at (P := Try.prog) w base 27 ty 3 i0 (.int .i64 0) 1 8 Try.underlying27 hi hz0 hz1 hz2 rfl (by decide) v n (xs.map encZ) hown ad m c (L.map encZ) (by rw [List.length_map, hl, Nat.mul_one]) hv.src (int_one _) (by unfold maxLen; omega) (by omega) hbase
    rw [← List.map_append] at h2
    obtain ⟨A', c', rfl, _⟩ := own_ir h2
    exact ⟨A', c', n + m, w', hr, h2, ⟨h3.os, h3.tape, h3.output, h3.size, fun k hk hF => h3.block k hk (fun e => hF e.symm)⟩, h5⟩
/-- An append in a walk. -/
theorem ints_append {w : World} {ops : Array Oper} {rest : List Oper} {o : Oper} {a : Act} {Q : Exit → Act → World → Prop} (hgd : o.guard = none) (s x : Operand)
    (ho : o.op = .call { callee := .builtin .append, args := #[s, x], argTypes := #[27, 27] }) (base : Nat) (v : Value) (n : Nat) (xs : List Int) (hs : a.eval s = v) (hown : OI w base v n xs)
    (A : Option Addr) (m c : Nat) (L : List Int) (hx : a.eval x = .slice A m c) (hz : A = none → m = 0 ∧ c = 0) (hv : IV w A L) (hl : L.length = m) (h63 : n + m ≤ 3000000) (hbase : base ≤ w.heap.size)
    (h : ∀ A' c' q w', Hid (Apd w base v (.slice A' q c') q (xs ++ L) w') → wpList Try.prog ops Q rest (a.put o.dst (.slice A' q c')) w') : wpList Try.prog ops Q (o :: rest) a w := by
  refine wpList_plain hgd fun K hK => ?_
  obtain ⟨A', c', q, w', hr, h2⟩ := run_ints w base o.type v n xs hown A m c L hz hv hl h63 hbase
  unfold Oper.wp execOp
  simp only [ho, resolve, invoke, builtin, Sem.run_bind, Sem.run_pure, Result.andThen_ok, List.map_toArray, List.map_cons, List.map_nil, hs, hx, hr]
  exact hK _ _ (h A' c' q w' (Lib.hid h2))
/-- An append in a region that draws. -/
theorem step_ints {w : World} {ops : Array Oper} {o : Oper} {a : Act} {K : Act → World → Prop} {Q : Exit → Act → World → Prop} {E : Prop} (hgd : o.guard = none) (s x : Operand)
    (ho : o.op = .call { callee := .builtin .append, args := #[s, x], argTypes := #[27, 27] }) (base : Nat) (v : Value) (n : Nat) (xs : List Int) (hown : OI w base v n xs) (hs : a.eval s = v)
    (A : Option Addr) (m c : Nat) (L : List Int) (hx : a.eval x = .slice A m c) (hz : A = none → m = 0 ∧ c = 0) (hv : IV w A L) (hl : L.length = m) (h63 : n + m ≤ 3000000) (hbase : base ≤ w.heap.size)
    (h : ∀ A' c' q w', Hid (Apd w base v (.slice A' q c') q (xs ++ L) w') → K (a.put o.dst (.slice A' q c')) w') : if Region.wanted o (yielded ops a.tmps) = true then Oper.wp Try.prog o a w K Q else E := by
  rw [if_pos (by simp [Region.wanted, hgd])]
  obtain ⟨A', c', q, w', hr, h2⟩ := run_ints w base o.type v n xs hown A m c L hz hv hl h63 hbase
  unfold Oper.wp execOp
  simp only [ho, resolve, invoke, builtin, Sem.run_bind, Sem.run_pure, Result.andThen_ok, List.map_toArray, List.map_cons, List.map_nil, hs, hx, hr]
  exact h A' c' q w' (Lib.hid h2)
theorem one_iv (w : World) (x : Int) : IV (w.alloc (.cells #[.int .i64 x] 3)) (some ⟨w.heap.size, 0, none⟩) [x] :=
  Or.inr ⟨w.heap.size, 0, rfl, by simp, fun j hj => by
    have : j = 0 := by simpa using hj
    subst this
    exact (cell_at (heap_alloc_new w _) 0).trans rfl⟩

/-- What is cut off behind m of n. -/
structure Frm (g n m : Nat) (X : Option Addr) (p : Nat) : Prop where
  ne : X ≠ none
  len : p = n - m
  iv : ∀ W R, IV W (some ⟨g, 0, none⟩) R → R.length = n → IV W X (R.drop m)
theorem run_from (w : World) (g n c m : Nat) (l : Int) (hl : l = (m : Int)) (hm : m ≤ n) (hc : n ≤ c) : ∃ X p r, (Instr.sliceAt 27 (.slice (some ⟨g, 0, none⟩) n c) (some (.int .i64 l)) none none).run Try.prog w = .ok (.slice X p r) w ∧ Frm g n m X p := by
  subst hl
  obtain ⟨i0, hi, hz0, hz1, hz2⟩ := info_parts info_int
  have ht : Try.prog.underlying 27 = some (.slice (Try.prog.elem 27)) := by kernel_rfl
  have hs : (sizeOf (Try.prog.elem 27)).run Try.prog w = .ok 1 w := by kernel_rfl
  have h := run_slice_l (P := Try.prog) w 27 (some ⟨g, 0, none⟩) n c ht .i64 (m : Int) (by omega) (by omega)
  rw [run_sliceAt_slice (P := Try.prog) w _ _ _ _ _ ht, h, hs]
  by_cases e : c = m
  · refine ⟨some ⟨g, 0, none⟩, n - m, c - m, ?_, by simp, rfl, fun W R _ hR => Or.inl (by simp; omega)⟩
    simp [sliced, Result.andThen, e]
  · refine ⟨some ⟨g, 0 + m, none⟩, n - m, c - m, ?_, by simp, rfl, fun W R hi _ => hi.drop m⟩
    simp [sliced, Result.andThen, e, Addr.add]
    omega
theorem slice_from {w : World} {ops : Array Oper} {rest : List Oper} {o : Oper} {a : Act} {Q : Exit → Act → World → Prop} (hgd : o.guard = none) (x lo : Operand)
    (ho : o.op = .slice 27 x (some lo) none none) (g n c : Nat) (l : Int) (m : Nat) (hx : a.eval x = .slice (some ⟨g, 0, none⟩) n c) (hlo : a.eval lo = .int .i64 l) (hl : l = (m : Int)) (hm : m ≤ n) (hc : n ≤ c)
    (h : ∀ X p r, Hid (Frm g n m X p) → wpList Try.prog ops Q rest (a.put o.dst (.slice X p r)) w) : wpList Try.prog ops Q (o :: rest) a w := by
  refine wpList_plain hgd fun K hK => ?_
  obtain ⟨X, p, r, hr, h2⟩ := run_from w g n c m l hl hm hc
  unfold Oper.wp
  simp [execOp, ho, hx, hlo, hr, Result.andThen]
  exact hK _ _ (h X p r (Lib.hid h2))
theorem step_from {w : World} {ops : Array Oper} {o : Oper} {a : Act} {K : Act → World → Prop} {Q : Exit → Act → World → Prop} {E : Prop} (hgd : o.guard = none) (x lo : Operand)
    (ho : o.op = .slice 27 x (some lo) none none) (g n c : Nat) (l : Int) (m : Nat) (hx : a.eval x = .slice (some ⟨g, 0, none⟩) n c) (hlo : a.eval lo = .int .i64 l) (hl : l = (m : Int)) (hm : m ≤ n) (hc : n ≤ c)
    (h : ∀ X p r, Hid (Frm g n m X p) → K (a.put o.dst (.slice X p r)) w) : if Region.wanted o (yielded ops a.tmps) = true then Oper.wp Try.prog o a w K Q else E := by
  rw [if_pos (by simp [Region.wanted, hgd])]
  obtain ⟨X, p, r, hr, h2⟩ := run_from w g n c m l hl hm hc
  unfold Oper.wp
  simp [execOp, ho, hx, hlo, hr, Result.andThen]
  exact h X p r (Lib.hid h2)

end Go.Proofs.Ytjgmgkglpfcihaa
