/- Proved: plain facts on blocks laid one behind the other; a drawn region in a round whose operations defer nothing; a version stored, a row copied, inside a fence. -/
import Derived.Test.YtjpoiijifnfjhaaPly
import Derived.Test.YtjpoiijifnfjhaaWit
import Derived.Laws.CopyRow
namespace Go.Proofs.Ytjpoiijifnfjhaa
open Go.RowKit Go.Maps Go.Sort Go.Shelf

/-- The bytes L of n blocks from a on, as they are read at t. -/
structure Rg (S : St) (a n : Nat) (t : Int) (L : List Nat) : Prop where
  len : L.length = n * 40
  byte : AllB L
  at_ : ∀ i, i < n → ∀ j, j < 40 → L.getD (i * 40 + j) 0 = (rdv (S.V (a + i)) t).2.getD j 0
theorem blocks_eq {n : Nat} {L M : List Nat} (hL : L.length = n * 40) (hM : M.length = n * 40) (h : ∀ i, i < n → ∀ j, j < 40 → L.getD (i * 40 + j) 0 = M.getD (i * 40 + j) 0) : L = M := by
  refine eq_of_at (by rw [hL, hM]) fun p hp => ?_
  have h1 := h (p / 40) (by omega) (p % 40) (Nat.mod_lt _ (by omega))
  rwa [show p / 40 * 40 + p % 40 = p by omega] at h1
theorem Rg.one {S S' : St} {a n : Nat} {t : Int} {L M : List Nat} (h : Rg S a n t L) (k : Rg S' a n t M) (hs : ∀ i, i < n → (rdv (S.V (a + i)) t).2 = (rdv (S'.V (a + i)) t).2) : L = M :=
  blocks_eq h.len k.len fun i hi j hj => by rw [h.at_ i hi j hj, k.at_ i hi j hj, hs i hi]
theorem Rg.block {S : St} {a n : Nat} {t : Int} {L : List Nat} (h : Rg S a n t L) (hS : Ok S) {i : Nat} (hi : i < n) : (L.drop (i * 40)).take 40 = (rdv (S.V (a + i)) t).2 := by
  have hl := h.len
  have hr := hS.rd_len (a + i) t
  refine eq_of_at (by rw [List.length_take, List.length_drop, hr]; omega) fun j hj => ?_
  rw [List.length_take, List.length_drop] at hj
  rw [← h.at_ i hi j (by omega)]
  simp only [List.getD_eq_getElem?_getD, List.getElem?_take, List.getElem?_drop, if_pos (show j < 40 by omega)]

/-- Some blocks have been laid, the others are noughts. -/
structure Rp (S : St) (a n : Nat) (t : Int) (P : Nat → Prop) (Q : List Nat) : Prop where
  len : Q.length = n * 40
  byte : AllB Q
  some_ : ∀ i, i < n → P (a + i) → ∀ j, j < 40 → Q.getD (i * 40 + j) 0 = (rdv (S.V (a + i)) t).2.getD j 0
  none_ : ∀ i, i < n → ¬ P (a + i) → ∀ j, j < 40 → Q.getD (i * 40 + j) 0 = 0
theorem zr_at (n p : Nat) : (zr n).getD p 0 = 0 := by
  unfold zr
  rw [List.getD_eq_getElem?_getD, List.getElem?_replicate]
  split <;> rfl
theorem Rp.start (S : St) (a n : Nat) (t : Int) : Rp S a n t (fun _ => False) (zr (n * 40)) :=
  ⟨zr_len _, allB_zr _, fun _ _ h => h.elim, fun _ _ _ _ _ => zr_at _ _⟩
/-- 40 bytes are laid at a place. -/
def lay (Q : List Nat) (o : Nat) (D : List Nat) : List Nat := Q.take o ++ (D ++ Q.drop (o + 40))
theorem lay_len {Q : List Nat} {o : Nat} {D : List Nat} (hD : D.length = 40) (ho : o + 40 ≤ Q.length) : (lay Q o D).length = Q.length := by
  unfold lay; simp [hD]; omega
theorem lay_at {Q : List Nat} {o : Nat} {D : List Nat} (hD : D.length = 40) (ho : o + 40 ≤ Q.length) (p : Nat) : (lay Q o D).getD p 0 = if o ≤ p ∧ p < o + 40 then D.getD (p - o) 0 else Q.getD p 0 := by
  unfold lay
  simp only [List.getD_eq_getElem?_getD]
  by_cases h1 : p < o
  · rw [if_neg (by omega), List.getElem?_append_left (by rw [List.length_take]; omega), List.getElem?_take, if_pos h1]
  · rw [List.getElem?_append_right (by rw [List.length_take]; omega), List.length_take, Nat.min_eq_left (by omega)]
    by_cases h2 : p < o + 40
    · rw [if_pos (by omega), List.getElem?_append_left (by omega)]
    · rw [if_neg (by omega), List.getElem?_append_right (by omega), List.getElem?_drop, hD]
      congr 2; omega
theorem Rp.lay {S : St} {a n : Nat} {t : Int} {P P' : Nat → Prop} {Q : List Nat} (h : Rp S a n t P Q) (hS : Ok S) {i : Nat} (hi : i < n) (hP : ∀ k, P' k ↔ P k ∨ k = a + i) : Rp S a n t P' (lay Q (i * 40) (rdv (S.V (a + i)) t).2) := by
  have hD := hS.rd_len (a + i) t
  have hl := h.len
  have ho : i * 40 + 40 ≤ Q.length := by omega
  refine ⟨by rw [lay_len hD ho, hl], allB_app (allB_take h.byte _) (allB_app (hS.rd_byte _ _) (allB_drop h.byte _)), fun k hk hp j hj => ?_, fun k hk hp j hj => ?_⟩
  · rw [lay_at hD ho]
    by_cases e : k = i
    · subst e; rw [if_pos (by omega), Nat.add_sub_cancel_left]
    · rw [if_neg (by omega)]
      exact h.some_ k hk (((hP _).1 hp).resolve_right (by omega)) j hj
  · have hn : ¬ P (a + k) ∧ ¬ (a + k = a + i) := ⟨fun x => hp ((hP _).2 (Or.inl x)), fun x => hp ((hP _).2 (Or.inr x))⟩
    rw [lay_at hD ho, if_neg (by omega)]
    exact h.none_ k hk hn.1 j hj
theorem Rp.all {S : St} {a n : Nat} {t : Int} {P : Nat → Prop} {Q : List Nat} (h : Rp S a n t P Q) (hP : ∀ i, i < n → S.V (a + i) ≠ [] → P (a + i)) : Rg S a n t Q :=
  ⟨h.len, h.byte, fun i hi j hj => by
    by_cases e : P (a + i)
    · exact h.some_ i hi e j hj
    · have h0 : S.V (a + i) = [] := Classical.byContradiction fun x => e (hP i hi x)
      rw [h.none_ i hi e j hj, h0, rdv_nil]
      exact (zr_at 40 j).symm⟩
theorem map_lay (Q : List Nat) (o : Nat) (D : List Nat) (hD : D.length = 40) : ((Q.map bt).take o ++ ((D.map bt) ++ (Q.map bt).drop (o + (D.map bt).length))) = (lay Q o D).map bt := by
  unfold lay
  simp [hD, List.map_take, List.map_drop]

theorem op_round {n : Nat} {P : Program} {ops : Array Oper} {Q : Exit → Act → World → Prop} {i : Nat} {K : Act → World → Prop} {a : Act} {w : World} (l : Nat) (hnd : ∀ o, ops[i]? = some o → ∀ c, o.op ≠ .defer c) (h : wpOpIn Fence.wide n P ops Q i K a w) : wpOpIn (Fence.wide.inRound l) n P ops Q i K a w := by
  unfold wpOpIn at *
  split
  · rename_i ho
    simp only [ho] at h
    exact h
  · rename_i o ho
    simp only [ho] at h
    split
    · rename_i hw
      simp only [hw, if_true] at h
      unfold Oper.wpIn at *
      refine ⟨h.1, ?_⟩
      have h2 := h.2
      rw [Oper.semAt_eq _ _ _ (hnd o ho)] at h2 ⊢
      generalize (execOp a.eval o).run P w = r at *
      cases r with
      | ok x w' => cases x <;> exact h2
      | halt x w' => cases x <;> exact h2
    · rename_i hw
      simp only [hw] at h
      exact h
/-- A drawn region in a round goes as outside of it, where nothing in it is deferred. -/
theorem any_round {n : Nat} {P : Program} {md : Region.Mode} {ops : Array Oper} {Q : Exit → Act → World → Prop} (l : Nat) (hnd : ∀ (i : Nat) (o : Oper), ops[i]? = some o → ∀ c, o.op ≠ .defer c) :
    ∀ (fuel : Nat) (listed : Array Bool) (a : Act) (w : World), wpAnyIn Fence.wide n P md ops Q fuel listed a w → wpAnyIn (Fence.wide.inRound l) n P md ops Q fuel listed a w
  | 0, _, _, _, h => h
  | fuel + 1, _, _, _, h => ⟨h.1, fun i hi => op_round l (hnd i) (wpOpIn_mono (fun a w => any_round l hnd fuel _ a w) (h.2 i hi))⟩

/-- A version is stored whole into a block that was made last, inside a fence. -/
theorem store_ver_in {f : Fence} {nf : Nat} {ops : Array Oper} {rest : List Oper} {op : Oper} {a : Act} {w : World} {Q : Exit → Act → World → Prop} (hgd : op.guard = none) (x y : Operand) (ho : op.op = .store 65 x y) (v : Ver) (hl : v.2.length = 40) (W : World) (zs : Array Value) (hw : w = W.alloc (.cells zs 65)) (hz : zs.size = 41)
    (hx : a.eval x = .pointer (some ⟨W.heap.size, 0, none⟩)) (hy : a.eval y = .agg (vc v).toArray) (h : wpListIn f nf Try.prog ops Q rest (a.put op.dst undef) (W.alloc (.cells (vc v).toArray 65))) : wpListIn f nf Try.prog ops Q (op :: rest) a w := by
  subst hw
  refine wpListIn_plain hgd fun K' hK' => ?_
  unfold Oper.wpIn
  refine ⟨by simp [Oper.about, ho], ?_⟩
  rw [Oper.semAt_plain f _ _ (by rw [ho]; intro c hc'; cases hc')]
  have hrun := run_storeVar_row (P := Try.prog) (W.alloc (.cells zs 65)) W.heap.size _ 65 zs (vc v).toArray (heap_alloc_new _ _) (by rw [size_ver, List.size_toArray, vc_len hl]) (by rw [hz, List.size_toArray, vc_len hl]) (all_oneCell_toArray (vc_cells v))
  unfold execOp
  simp only [ho, hx, hy, Instr.storeAt, Instr.sureAddr, Sem.run_bind, Sem.run_pure, Result.andThen_ok, hrun]
  rw [World.setRow_alloc_new]
  exact hK' _ _ h

/-- 40 bytes are copied into a row, inside a fence. -/
theorem copy_in {nf : Nat} {o : Oper} {a : Act} {w : World} {K : Act → World → Prop} {Q : Exit → Act → World → Prop} (d s : Operand) (dT sT : TypeId)
    (ho : o.op = .call { callee := .builtin .copy, args := #[d, s], argTypes := #[dT, sT] }) (elem : TypeId) (hu : Try.prog.underlying dT = some (.slice elem)) (hsz : (Try.prog.info? elem).map (·.size) = some 1)
    (g off dLen dCap : Nat) (ad : Addr) (sCap : Nat) (hd : a.eval d = .slice (some ⟨g, off, none⟩) dLen dCap) (hs : a.eval s = .slice (some ad) 40 sCap)
    (L D : List Nat) (t : TypeId) (hg : w.heap[g]? = some (.cells (L.map bt).toArray t (0, 0))) (hD : D.length = 40) (hn : 40 ≤ dLen)
    (hsrc : ∀ j v, (D.map bt)[j]? = some v → w.cell? (ad.add j) = some v) (hfit : off + 40 ≤ L.length)
    (h : K (a.put o.dst (goInt 40)) (w.setRow g ((lay L off D).map bt).toArray)) : Oper.wpIn Fence.wide nf Try.prog o a w K Q := by
  have hrun := run_copy_row (P := Try.prog) w dT sT o.type elem g off dLen dCap ad 40 sCap (L.map bt).toArray t (D.map bt) hu hsz hg (by rw [List.length_map, hD]; exact (Nat.min_eq_left hn).symm) hsrc (by simp [hD]; omega) (bt_one D)
  unfold Oper.wpIn
  refine ⟨fun _ _ => trivial, ?_⟩
  rw [Oper.semAt_plain Fence.wide _ _ (by rw [ho]; intro c hc'; cases hc')]
  have hm := map_lay L off D hD
  rw [← List.append_assoc] at hm
  rw [hm] at hrun
  simp [execOp, ho, resolve, invoke, builtin, hd, hs, hrun, Result.andThen]
  rw [hD]
  exact h

theorem heap_kept {W W' : World} {row : Option Nat} {g : Nat} {cs : Array Value} {t : TypeId} {fr : Nat × Nat} (h : W.heap[g]? = some (.cells cs t fr)) (hg : W.grownBy W' row) (hrow : ∀ r, row = some r → ∃ o : Obj, W.heap[r]? = some o ∧ o.isCells = false) : W'.heap[g]? = some (.cells cs t fr) :=
  (grownBy_keeps_cells hg hrow h rfl).trans h
theorem mv_keeps {W W' : World} {G : Nat} {cs : Array Value} {t : TypeId} {fr : Nat × Nat} (hm : Mv (fun g => g = G) W W') (hG : W.heap[G]? = some (.cells cs t fr)) : KeepsOthers W W' :=
  ⟨hm.size, fun j o ho hc => hm.keep ho fun e => by subst e; rw [hG] at ho; injection ho with ho; subst ho; cases hc⟩

end Go.Proofs.Ytjpoiijifnfjhaa
