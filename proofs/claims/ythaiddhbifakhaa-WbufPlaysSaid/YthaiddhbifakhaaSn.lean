/- Proved: words for the set of numbers that a call has seen; how many blocks of a vector are new. -/
import Derived.Test.YthaiddhbifakhaaRef
import Derived.Great.BuildSlice
import Derived.Laws.Cover3
import Derived.OrdersHeld
import Derived.Deep.RegionHeld
namespace Go.Proofs.Ythaiddhbifakhaa
open Go.RowKit

/-- The block sb holds the set of the numbers L. -/
structure Sn (w : World) (sb : Nat) (L : List Int) (D : DataW Value) : Prop where
  own : w.ownsMap Try.prog 3 unitElem sb L.length D
  has : ∀ x, Maps.has D (ky x) = true ↔ x ∈ L
theorem zero_unit (w : World) : (zeroValue 94).run Try.prog w = .ok (.agg #[]) w := by kernel_rfl
section
variable {w w' : World} {sb : Nat} {L : List Int} {D : DataW Value}
theorem Sn.lt (h : Sn w sb L D) : sb < w.heap.size := by
  obtain ⟨es, clock, hb, _⟩ := h.own
  exact lt_heap hb
theorem Sn.mv {G : Nat → Prop} (h : Sn w sb L D) (hm : Mv G w w') (hG : ¬ G sb) : Sn w' sb L D := ⟨own_mv h.own hm hG, h.has⟩
theorem Sn.on (h : Sn w sb L D) (hm : At w w') : Sn w' sb L D := h.mv (Mv.of_below (fun _ => False) hm) id
theorem Sn.look (h : Sn w sb L D) {k : Int} (hk : (ky k).wf = true) : (Instr.lookup 93 (.map (some sb)) (.int .i64 k) true).run Try.prog w = .ok (.tuple #[.agg #[], .bool (decide (k ∈ L))]) w := by
  obtain ⟨v, ps, hrun, hv⟩ := h.own.look_ok int_key Try.underlying93 (zero_unit w) (zd := .agg []) (zp := []) unitElem_mk (key_of hk)
  obtain ⟨rfl, _⟩ := unitElem_inv hv
  have hh : Maps.has D (ky k) = decide (k ∈ L) := by
    by_cases e : k ∈ L
    · rw [(h.has k).2 e, decide_eq_true e]
    · rw [decide_eq_false e]
      cases hh : Maps.has D (ky k)
      · rfl
      · exact absurd ((h.has k).1 hh) e
  rw [hrun, hh]
theorem Sn.store (h : Sn w sb L D) {k : Int} (hk : (ky k).wf = true) (hl : L.length ≤ 1000000) :
    ∃ w2, (Instr.mapUpdate 93 (.map (some sb)) (.int .i64 k) (.agg #[])).run Try.prog w = .ok () w2 ∧ (∃ D', Sn w2 sb (L ++ [k]) D') ∧ Mv (fun g => g = sb) w w2 := by
  obtain ⟨w2, hrun, hown2, hturn⟩ := h.own.store int_key Try.underlying93 (by unfold maxLen; omega) (key_of hk) (unitElem_mk (H := Value))
  have hm2 : Mv (fun g => g = sb) w w2 := (Mv.refl _ w).grown hturn.grown fun g hg => by injection hg with hg; exact Or.inl hg.symm
  have hmap := h.own.isMap
  refine ⟨w2, hrun, ⟨_, by rw [List.length_append]; exact hown2, fun x => ?_⟩, hm2⟩
  rw [List.mem_append, List.mem_singleton]
  by_cases e : x = k
  · subst e; rw [Maps.has_put_same hmap (own_isKey _)]; simp
  · rw [Maps.has_put_other (fun y => e (ky_inj y)), h.has x]; simp [e]
end
theorem sn_new (w : World) : Sn (w.alloc (.map #[] 0)) w.heap.size [] (.map []) := ⟨World.ownsMap_made w Try.prog 3 unitElem, fun _ => ⟨fun h => (nomatch h), fun h => (nomatch h)⟩⟩

theorem make_hint (n : Int) (w : World) : (Instr.makeMap 93 (some (.int .i64 n))).run Try.prog w = .ok (.map (some w.heap.size)) (w.alloc (.map #[] 0)) := by
  unfold Instr.makeMap
  simp [run_underlying Try.underlying93, asInt]
  rfl

/-- The numbers of the first ones. -/
def kz (P : List Pt) : List Int := P.map fun p : Pt => p.1
/-- Why they are refused together. -/
noncomputable def tz (S : St) (P : List Pt) : Int := open Classical in if ¬ Un P then 4 else if S.most < (((us S).length + fr S P : Nat) : Int) then 7 else 0
theorem un_more {P : List Pt} {k : Nat} (h : k < P.length) (hu : Un (P.take k)) (hx : ¬ (P.getD k pz).1 ∈ kz (P.take k)) : Un (P.take (k + 1)) := by
  unfold Un at hu ⊢
  rw [take_one P k h, List.map_append]
  refine List.nodup_append.2 ⟨hu, by simp, fun a ha b hb e => ?_⟩
  rw [List.map_cons, List.map_nil, List.mem_singleton] at hb
  exact hx (by rw [← hb, ← e]; exact ha)
theorem un_not {P : List Pt} {k : Nat} (h : k < P.length) (hx : (P.getD k pz).1 ∈ kz (P.take k)) : ¬ Un P := fun hu => by
  unfold Un at hu
  rw [← List.take_append_drop k P, List.map_append] at hu
  refine (List.nodup_append.1 hu).2.2 _ hx (P.getD k pz).1 (List.mem_map.2 ⟨_, ?_, rfl⟩) rfl
  rw [List.getD_eq_getElem?_getD, List.getElem?_eq_getElem h, List.drop_eq_getElem_cons h]
  exact List.mem_cons_self
theorem kz_take {P : List Pt} {k : Nat} (h : k < P.length) : kz (P.take (k + 1)) = kz (P.take k) ++ [(P.getD k pz).1] := by
  unfold kz; rw [take_one P k h, List.map_append]; rfl
theorem drew_row (w : World) (c c' : Array Value) (t : TypeId) : ((w.alloc (.cells c t)).drew).setRow w.heap.size c' = (w.alloc (.cells c' t)).drew := by
  show ((w.alloc (.cells c t)).setRow w.heap.size c').drew = _
  rw [World.setRow_alloc_new]

end Go.Proofs.Ythaiddhbifakhaa
