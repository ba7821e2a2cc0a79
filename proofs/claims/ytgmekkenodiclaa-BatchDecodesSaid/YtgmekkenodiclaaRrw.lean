/- Proved: plain facts of batches written one behind the other; two rows of a call's own that are grown side by side: rows of bytes, ints; slices of rows. -/
import Derived.Test.YtgmekkenodiclaaMk
import Derived.Test.YtgmekkenodiclaaInb
namespace Go.Proofs.Ytgmekkenodiclaa
open Go.RowKit

/-- The first n batches, written. -/
def allR (M : List Bt) (n : Nat) : List (List Nat) := (M.take n).flatMap fun b => eb 1 b.1.toNat b.2
def eN (M : List Bt) (n : Nat) : Nat := (allR M n).length
theorem allR_zero (M : List Bt) : allR M 0 = [] := rfl
theorem bt_split {M : List Bt} {n : Nat} (h : n < M.length) : M.take (n + 1) = M.take n ++ [M.getD n btz] := by
  rw [List.take_succ_eq_append_getElem h, List.getD_eq_getElem?_getD, List.getElem?_eq_getElem h]; rfl
theorem allR_more {M : List Bt} {n : Nat} (h : n < M.length) : allR M (n + 1) = allR M n ++ eb 1 (M.getD n btz).1.toNat (M.getD n btz).2 := by
  rw [allR, bt_split h, List.flatMap_append]
  show _ ++ (_ ++ []) = _
  rw [List.append_nil]; rfl
theorem eN_more {M : List Bt} {n : Nat} (h : n < M.length) : eN M (n + 1) = eN M n + (tot (M.getD n btz).2 + 1) := by
  rw [eN, allR_more h, List.length_append, eb_len]; rfl
theorem eN_zero (M : List Bt) : eN M 0 = 0 := rfl
theorem eN_lt {M : List Bt} : ∀ {i j : Nat}, i < j → j ≤ M.length → eN M i < eN M j
  | i, 0, h, _ => absurd h (Nat.not_lt_zero i)
  | i, j + 1, h, hj => by
    have h1 := eN_more (M := M) (n := j) (by omega)
    by_cases e : i = j
    · subst e; omega
    · have := eN_lt (M := M) (i := i) (j := j) (by omega) (by omega); omega
theorem allR_cut {M : List Bt} {n : Nat} (h : n < M.length) : ∃ R, allR M M.length = allR M n ++ (eb 1 (M.getD n btz).1.toNat (M.getD n btz).2 ++ R) := by
  refine ⟨(M.drop (n + 1)).flatMap fun b => eb 1 b.1.toNat b.2, ?_⟩
  have h1 : M.take M.length = M.take n ++ (M.getD n btz :: M.drop (n + 1)) := by
    rw [List.take_length]
    conv => lhs; rw [← List.take_append_drop n M, List.drop_eq_getElem_cons h]
    rw [List.getD_eq_getElem?_getD, List.getElem?_eq_getElem h]; rfl
  rw [allR, h1, List.flatMap_append, List.flatMap_cons]; rfl
/-- What is left of them, cut at c, behind the first n. -/
def lf (M : List Bt) (c n : Nat) : List (List Nat) := ((allR M M.length).take c).drop (eN M n)
theorem lf_at {M : List Bt} {c n : Nat} (h : n < M.length) : ∃ R, lf M c n = (eb 1 (M.getD n btz).1.toNat (M.getD n btz).2 ++ R).take (c - eN M n) := by
  obtain ⟨R, hR⟩ := allR_cut h
  exact ⟨R, by rw [lf, List.drop_take, hR, eN, List.drop_left' rfl]⟩
theorem lf_len {M : List Bt} {c n : Nat} (hc : c ≤ eN M M.length) : (lf M c n).length = c - eN M n := by
  rw [lf, List.length_drop, List.length_take, Nat.min_eq_left (by exact hc)]
/-- The next one is whole. -/
theorem lf_rok {M : List Bt} {c n : Nat} (h : n < M.length) (hb : Bk (M.getD n btz).1 (M.getD n btz).2) (hp : Pb (fla (M.getD n btz).2)) (hc : eN M (n + 1) ≤ c) (hc2 : c ≤ eN M M.length) : Rok (lf M c n) 1 (M.getD n btz).1.toNat (M.getD n btz).2 := by
  have hs := hb.s1
  have hb' : Bk (((M.getD n btz).1.toNat : Nat) : Int) (M.getD n btz).2 := by rw [Int.toNat_of_nonneg (by omega)]; exact hb
  have h1 := eN_more h
  obtain ⟨R, hR⟩ := lf_at (c := c) h
  refine ⟨hb', hp, by omega, by rw [lf_len hc2]; omega, ?_⟩
  rw [hR, List.take_take, Nat.min_eq_left (by omega), List.take_left' (eb_len _ _ _)]
/-- The next one is cut. -/
theorem lf_part {M : List Bt} {c n : Nat} (h : n < M.length) (hb : Bk (M.getD n btz).1 (M.getD n btz).2) (hp : Pb (fla (M.getD n btz).2)) (hc : c < eN M (n + 1)) (hc2 : c ≤ eN M M.length) : Dk (lf M c n) (lf M c n).length := by
  have hs := hb.s1
  have hb' : Bk (((M.getD n btz).1.toNat : Nat) : Int) (M.getD n btz).2 := by rw [Int.toNat_of_nonneg (by omega)]; exact hb
  have h1 := eN_more h
  obtain ⟨R, hR⟩ := lf_at (c := c) h
  have hw : Rok (eb 1 (M.getD n btz).1.toNat (M.getD n btz).2 ++ R) 1 (M.getD n btz).1.toNat (M.getD n btz).2 := ⟨hb', hp, by omega, by rw [List.length_append, eb_len]; omega, List.take_left' (eb_len _ _ _)⟩
  intro j hj
  rw [lf_len hc2] at hj
  rw [hR, row_take hj, row_take (show 0 < c - eN M n by omega)]
  have h2 := hw.rows.1 j (by omega)
  have h3 := hw.head
  rw [h3.1, h3.2]; exact h2
/-- What is cut begins with no batch. -/
theorem dk_no {R : List (List Nat)} (h : Dk R R.length) : ∀ e s L, ¬ Rok R e s L := fun e s L hr => by
  have h1 := hr.n
  have h2 := (h (tot L) (by omega)).k
  have h3 := hr.last.1.k
  omega
theorem rok_same {R : List (List Nat)} {e s e' s' : Nat} {L L' : List Tx} (h : Rok R e s L) (h' : Rok R e' s' L') : e = e' ∧ s = s' := by
  obtain ⟨a, b⟩ := h.head
  obtain ⟨c, d⟩ := h'.head
  exact ⟨a.symm.trans c, b.symm.trans d⟩

/-- Ints, in a row of the call's own. -/
def ics (x : Int) : List Value := [.int .i64 x]
def igd (_ : Nat → Prop) (_ : World) (_ : Int) : Prop := True
theorem info_int : (Try.prog.info? 3).map (fun i => (i.zero, i.size, i.bytes)) = some (some (.int .i64 0), 1, 8) := by kernel_rfl
theorem kI : Kn 41 3 1 8 ics igd := ⟨Try.underlying41, info_of info_int rfl, by omega, by omega, fun _ => rfl, fun _ u hu => by rw [List.mem_singleton.1 hu]; rfl, fun _ _ _ _ _ _ => trivial, fun _ _ _ _ _ _ => trivial⟩
abbrev OI := @Ow Int 3 1 ics igd
/-- Rows of bytes, and ints beside them. -/
structure Tw (w wr : World) (vA : Value) (lA : List Rl) (vE : Value) (lE : List Int) : Prop where
  a : @Ow Rl 39 1 rcs (gx (ob vE) rgd) w wr vA lA
  e : OI w wr vE lE
theorem Tw.on {w wr wx : World} {vA vE : Value} {lA : List Rl} {lE : List Int} (h : Tw w wr vA lA vE lE) (hA : At wr wx) : Tw w wx vA lA vE lE := ⟨h.a.on (kR.x _) hA, h.e.on kI hA⟩
theorem own_two {w : World} {B n s B' n' s' : Nat} {e e' : TypeId} {v v' : Value} {xs xs' : List Value} (h : w.ownsRow B e s v n xs) (h' : w.ownsRow B' e' s' v' n' xs') (he : e ≠ e') : ∀ g, ob v g → ¬ ob v' g := fun g hg => by
  rcases h.2 with ⟨rfl, _⟩ | ⟨g1, cap, cur, rfl, _, hh, _⟩
  · cases hg
  · have hg : some g1 = some g := hg
    injection hg with hg
    subst hg
    exact ob_far h' hh he
theorem Tw.stepA {w wy w' : World} {vA vE vA' : Value} {lA lA' : List Rl} {lE : List Int} (h : Tw w wy vA lA vE lE) (hG : Gr 39 1 rcs (gx (ob vE) rgd) w wy vA w' vA' lA') : Tw w w' vA' lA' vE lE := by
  refine ⟨hG.ow, ⟨⟨h.e.row.1, ?_⟩, fun _ _ => trivial, h.e.new, hG.ow.at_⟩⟩
  rcases h.e.row.2 with h1 | ⟨g, cap, cur, hv', hB, hh, hr⟩
  · exact Or.inl h1
  · exact Or.inr ⟨g, cap, cur, hv', hB, hG.mv.keep hh (own_two h.e.row h.a.row (by decide) g (by rw [hv']; rfl)), hr⟩
theorem Tw.stepE {w wy w' : World} {vA vE vE' : Value} {lA : List Rl} {lE lE' : List Int} (h : Tw w wy vA lA vE lE) (hG : Gr 3 1 ics igd w wy vE w' vE' lE') : Tw w w' vA lA vE' lE' := by
  have h1 : @Ow Rl 39 1 rcs (gx (fun j => ob vE j ∨ j = wy.heap.size) rgd) w wy vA lA := ⟨h.a.row, fun x hx => kR.re _ _ _ _ (h.a.gd x hx) fun g hg ho => by
    rcases ho with ho | ho | ho
    · exact Or.inl ho
    · exact Or.inr ho
    · omega, h.a.new, h.a.at_⟩
  have h2 := h1.mvx kR hG.mv (fun g hg => Or.inl hg) (fun g hg => own_two h.e.row h.a.row (by decide) g hg) hG.ow.at_
  refine ⟨⟨h2.row, fun x hx => kR.re _ _ _ _ (h2.gd x hx) fun g _ ho => ?_, h2.new, h2.at_⟩, hG.ow⟩
  rcases ho with ho | ho
  · exact Or.inl ho
  · rcases hG.at_ with e | e
    · exact Or.inr (Or.inl (by unfold ob at ho ⊢; rw [← e]; exact ho))
    · unfold ob at ho
      rw [e] at ho
      injection ho with ho
      exact Or.inr (Or.inr ho.symm)
/-- Rows that are new lie beside both. -/
theorem Tw.fresh {w wr w' : World} {vA vE : Value} {lA : List Rl} {lE : List Int} (h : Tw w wr vA lA vE lE) {x : Rl} {F : Nat → Prop} (hx : rgd F w' x) (hn : ∀ a, x.2.1 = some a → wr.heap.size ≤ a.block) : gx (ob vE) rgd (ob vA) w' x := by
  refine ⟨?_, hx.2⟩
  rcases hx.1 with h1 | ⟨b, o, he, h2, _, h4⟩
  · exact Or.inl h1
  · have hb := hn _ he
    refine Or.inr ⟨b, o, he, h2, fun ho => ?_, h4⟩
    simp only at hb
    rcases ho with ho | ho
    · have := (h.a.row.lt b ho).2; omega
    · have := (h.e.row.lt b ho).2; omega
/-- Rows of a row of the call's own, their cells. -/
theorem or_cells {w0 w : World} {v : Value} {l : List Rl} (h : OR w0 w v l) {W : World} (hW : At w W) : ∀ A n c, v = .slice A n c → ∀ a, A = some a → ∀ j u, (l.flatMap rcs)[j]? = some u → W.cell? (a.add j) = some u := fun A n c hv a ha j u hj => by
  subst hv ha
  have := (h.on kR hW).row.cells (g := a.block)
  obtain ⟨A', c', he, _, _, hs⟩ := h.form
  injection he with he1 _ _
  obtain ⟨_, _, g, rfl⟩ := hs a he1.symm
  exact this rfl j u hj

end Go.Proofs.Ytgmekkenodiclaa
