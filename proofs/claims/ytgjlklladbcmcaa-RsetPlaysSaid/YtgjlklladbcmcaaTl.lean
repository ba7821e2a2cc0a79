/- Proved: a region that draws its order: what is read ahead of an operation that waits for the reading may be read first, though a later one writes it. -/
import Derived.Test.YtgjlklladbcmcaaMem
import Derived.OrdersHeld
import Derived.Deep.RegionHeld
namespace Go.Proofs.Ytgjlklladbcmcaa
open Go

section
variable {P : Program} {ops : Array Oper} {Q : Exit → Act → World → Prop} {T : World → Prop} {p : Nat}
/-- Whatever order is picked from here on; and T holds behind each operation till number p has come up. -/
def Till (P : Program) (ops : Array Oper) (Q : Exit → Act → World → Prop) (T : World → Prop) (p : Nat) : Nat → Array Bool → Act → World → Prop
  | 0, d, a, w => Region.ready .any ops d = [] ∧ Q .normal a w
  | n + 1, d, a, w => (Region.ready .any ops d = [] → Q .normal a w) ∧
    ∀ j ∈ Region.ready .any ops d, wpOp P ops Q j (fun a' w' => ((d.setIfInBounds j true).getD p true = false → T w') ∧ Till P ops Q T p n (d.setIfInBounds j true) a' w') a w
theorem till_any : ∀ (n : Nat) (d : Array Bool) (a : Act) (w : World), Till P ops Q T p n d a w → wpAny P .any ops Q n d a w
  | 0, _, _, _, h => h
  | n + 1, _, _, _, h => ⟨h.1, fun j hj => wpOp_mono (fun a' w' h' => till_any n _ a' w' h'.2) (h.2 j hj)⟩
/-- Number p waits for number i. -/
def waits (ops : Array Oper) (p i : Nat) : Bool := match ops[p]? with
  | some o => o.after.any fun e => Region.binds .any e && e.on == i
  | none => false
theorem waits_not {i : Nat} {d : Array Bool} (h : waits ops p i = true) (hi : i ∈ Region.ready .any ops d) : p ∉ Region.ready .any ops d := fun hp => by
  obtain ⟨_, o, ho, hall⟩ := mem_ready.1 hp
  unfold waits at h
  rw [ho] at h
  obtain ⟨e, he, hb⟩ := Array.any_eq_true'.1 h
  rw [Bool.and_eq_true, beq_iff_eq] at hb
  have h1 := hall e he hb.1
  have h0 := (mem_ready.1 hi).1
  rw [hb.2] at h1
  rcases Nat.lt_or_ge i d.size with h' | h'
  · simp [h'] at h0 h1; rw [h0] at h1; cases h1
  · simp [Array.getElem?_eq_none h'] at h1
theorem till_set {d : Array Bool} {j : Nat} (h : j ≠ p) (h0 : d.getD p true = false) : (d.setIfInBounds j true).getD p true = false := by rw [getD_set_ne true h]; exact h0
theorem till_first {i : Nat} {oi : Oper} {v : Value} (hi : ops[i]? = some oi) (hs : ∀ (j : Nat) (o : Oper) cs b, ops[j]? = some o → o.op ≠ .select cs b) (hQ : ∀ c a w, Q (.panic c) (a.put oi.dst v) w → Q (.panic c) a w) (hw : waits ops p i = true) :
    ∀ (n : Nat) (d : Array Bool) (a : Act) (w : World), (∀ j oj, ops[j]? = some oj → j ≠ i → d.getD j true = false → (∀ e ∈ oj.after, Region.binds .any e = true → e.on ≠ i) → oi.apart ops oj = true) →
      i ∈ Region.ready .any ops d → d.getD p true = false → YieldsIf P ops T oi v a → T w → Till P ops Q T p n (d.setIfInBounds i true) (a.put oi.dst v) w → Till P ops Q T p (n + 1) d a w
  | 0, d, a, w, _, hr, _, hy, hT, H => ⟨fun h => (by rw [h] at hr; cases hr), fun j hj => by
    by_cases e : j = i
    · subst e; exact hy.wpOp hi hT ⟨fun _ => hT, H⟩
    · have := ready_mono hj e
      rw [H.1] at this
      cases this⟩
  | n + 1, d, a, w, hf, hr, hd, hy, hT, H => ⟨fun h => (by rw [h] at hr; cases hr), fun j hj => by
    by_cases e : j = i
    · subst e; exact hy.wpOp hi hT ⟨fun _ => hT, H⟩
    · have hjp : j ≠ p := fun e' => waits_not hw hr (by rw [← e']; exact hj)
      have hip : i ≠ p := fun e' => waits_not hw hr (by rw [← e']; exact hr)
      obtain ⟨hun, oj, hoj, hall⟩ := mem_ready.1 hj
      have hno : ∀ x ∈ oj.after, Region.binds .any x = true → x.on ≠ i := fun x hx hb hxi => by
        have h1 := hall x hx hb
        have h0 := (mem_ready.1 hr).1
        rw [hxi] at h1
        rcases Nat.lt_or_ge i d.size with h' | h'
        · simp [h'] at h0 h1; rw [h0] at h1; cases h1
        · simp [Array.getElem?_eq_none h'] at h1
      have hstep := wpOp_putIf hoj (hf j oj hoj e hun hno) (fun cs b => hs i oi cs b hi) (fun cs b => hs j oj cs b hoj) hQ hy (H.2 j (ready_mono hj e))
      refine wpOp_mono (fun a' w' h3 => ?_) hstep
      have hT' := h3.2.1 (till_set hjp (till_set hip hd))
      refine ⟨fun _ => hT', till_first hi hs hQ hw n _ a' w' (fun k ok hk hki hkun hkno => ?_) (ready_mono hr (Ne.symm e)) (till_set hjp hd) h3.1 hT' (by rw [Array.setIfInBounds_comm _ _ e]; exact h3.2.2)⟩
      refine hf k ok hk hki ?_ hkno
      by_cases ejk : j = k
      · subst ejk; exact hun
      · rwa [getD_set_ne true ejk] at hkun⟩
/-- Take number i first. -/
theorem till_take {i n : Nat} {oi : Oper} {v : Value} {d : Array Bool} {a : Act} {w : World} (hi : ops[i]? = some oi) (hs : Region.noSelect ops = true) (hf : Region.free .any ops d i = true) (hr : (Region.ready .any ops d).contains i = true) (hw : (waits ops p i && !d.getD p true) = true)
    (hQ : ∀ c a w, Q (.panic c) (a.put oi.dst v) w → Q (.panic c) a w) (hT : T w) (hy : YieldsIf P ops T oi v a) (h : Till P ops Q T p n (d.setIfInBounds i true) (a.put oi.dst v) w) : Till P ops Q T p (n + 1) d a w := by
  rw [Bool.and_eq_true, Bool.not_eq_true'] at hw
  exact till_first hi (Region.noSelect_spec hs) hQ hw.1 n d a w (Region.free_spec hi hf) (by simpa using hr) hw.2 hy hT h
/-- One alone may come up. -/
theorem till_one {j n : Nat} {o : Oper} {d : Array Bool} {a : Act} {w : World} (hr : Region.ready .any ops d = [j]) (ho : ops[j]? = some o)
    (h : ∀ K' : Act → World → Prop, Shut (∀ a w, ((d.setIfInBounds j true).getD p true = false → T w) → Till P ops Q T p n (d.setIfInBounds j true) a w → K' a w) → if Region.wanted o (yielded ops a.tmps) = true then Oper.wp P o a w K' Q else K' (a.put o.dst undef) w) : Till P ops Q T p (n + 1) d a w :=
  ⟨fun h0 => (by rw [hr] at h0; cases h0), fun k hk => by
    rw [hr, List.mem_singleton] at hk
    subst hk
    exact wpOp_step ho fun K' hK => h K' fun a w h1 h2 => hK a w ⟨h1, h2⟩⟩
theorem till_done {n : Nat} {d : Array Bool} {a : Act} {w : World} (hr : Region.ready .any ops d = []) (h : Q .normal a w) : Till P ops Q T p n d a w := by
  cases n with
  | zero => exact ⟨hr, h⟩
  | succ n => exact ⟨fun _ => h, by rw [hr]; simp⟩
/-- The beginning. -/
theorem wp_till {id : Nat} {a : Act} {w : World} (hm : P.follows .mixedOrders = true) (T : World → Prop) (p : Nat) (h : Till P ops Q T p ops.size (Array.replicate ops.size false) a w.drew) : (Code.region id ops true).wp P Q a w :=
  wp_region_any hm (till_any _ _ _ _ h)
end

end Go.Proofs.Ytgjlklladbcmcaa
