/- Proved: the landed allocator and the document's side by side: each call answers the same of both, and they are alike behind it. -/
import Derived.Test.YtheldhbdhadliaaDot
import Derived.Test.YtheldhbdhadliaaIsl
namespace Go.Proofs.Ytheldhbdhadliaa
open Go.RowKit

/-- The landed allocator, the document's, and a step that lies in memory. -/
structure Py (w : World) (b z d f g n sp s : Nat) (x y : Int) (L M : List St) (wr : World) : Prop where
  al : Al wr b z n sp L
  ra : Ra wr d f g n sp M
  st : wr.heap[s]? = some (.cells #[.int .i64 x, .int .i64 y] 32 (0, 0))
  stands : At w wr
  nz : w.heap.size ≤ z
  nf : w.heap.size ≤ f
  ng : w.heap.size ≤ g
section
variable {w wr wx : World} {b z d f g n sp s : Nat} {x y : Int} {L M L' M' : List St}
theorem Py.next (p : Py w b z d f g n sp s x y L M wr) (ha : At wr wx) : Py w b z d f g n sp s x y L M wx := ⟨p.al.on ha, p.ra.on ha, ha.keep p.st, p.stands.next ha, p.nz, p.nf, p.ng⟩
theorem Py.cells (p : Py w b z d f g n sp s x y L M wr) : wr.cell? ⟨s, 0, none⟩ = some (.int .i64 x) ∧ wr.cell? ⟨s, 1, none⟩ = some (.int .i64 y) := by
  simp only [cell_at p.st]; exact ⟨rfl, rfl⟩
theorem Py.turnA (p : Py w b z d f g n sp s x y L M wr) (ha : Al wx b z n sp L') (hm : Mv (fun v => v = z) wr wx) : Py w b z d f g n sp s x y L' M wx :=
  ⟨ha, p.ra.keep hm (cells_ne p.ra.box p.al.zon (by decide)) (cells_ne p.ra.isf p.al.zon (by decide)) (cells_ne p.ra.wea p.al.zon (by decide)), hm.keep p.st (cells_ne p.st p.al.zon (by decide)), hm.at_ p.stands (by rintro g rfl; exact p.nz), p.nz, p.nf, p.ng⟩
theorem Py.turnR (p : Py w b z d f g n sp s x y L M wr) (ha : Ra wx d f g n sp M') (hm : Mv (fun v => v = f ∨ v = g) wr wx) : Py w b z d f g n sp s x y L M' wx :=
  ⟨p.al.keep hm (fun e => e.elim (cells_ne p.al.box p.ra.isf (by decide)) (cells_ne p.al.box p.ra.wea (by decide))) (fun e => e.elim (cells_ne p.al.zon p.ra.isf (by decide)) (cells_ne p.al.zon p.ra.wea (by decide))), ha,
    hm.keep p.st (fun e => e.elim (cells_ne p.st p.ra.isf (by decide)) (cells_ne p.st p.ra.wea (by decide))), hm.at_ p.stands (by
      rintro v (rfl | rfl)
      · exact p.nf
      · exact p.ng), p.nz, p.nf, p.ng⟩
end

section
variable (w : World) (b z d f g n sp s : Nat) (x y : Int)
/-- What a call on the landed one gives, whatever the other one is. -/
def GA (F : Nat) (ar : Array Value) (v : Value) (L L' : List St) : Prop := ∀ M wr, Py w b z d f g n sp s x y L M wr → Calls Try.prog F ar wr fun e w' => e = .returned v ∧ Py w b z d f g n sp s x y L' M w'
def GR (F : Nat) (ar : Array Value) (v : Value) (M M' : List St) : Prop := ∀ L wr, Py w b z d f g n sp s x y L M wr → Calls Try.prog F ar wr fun e w' => e = .returned v ∧ Py w b z d f g n sp s x y L M' w'
theorem take_both (r : Bool) (L : List St) (hL : L.length = n) (i : Nat) (hlo : Lo L i) : ∃ (k e : Nat) (L' : List St),
    GA w b z d f g n sp s x y 11 #[.pointer (some ⟨b, 0, none⟩), .bool r] (.tuple #[.int .i64 (k : Int), .int .i64 (e : Int)]) L L' ∧
    GR w b z d f g n sp s x y 12 #[.pointer (some ⟨d, 0, none⟩), .bool r] (.tuple #[.int .i64 (k : Int), .int .i64 (e : Int)]) L L' ∧ L'.length = n ∧ Lo L' i := by
  by_cases h : nf L = 0 ∨ r = false ∧ nf L ≤ sp
  · refine ⟨0, 9, L, fun M wr p => ?_, fun M wr p => ?_, hL, hlo⟩
    · exact (take_none p.al r h).mono fun e w' ⟨he, ha, hm⟩ => ⟨he, p.turnA ha hm⟩
    · exact (rtake_none p.ra r h).mono fun e w' ⟨he, ha, hm⟩ => ⟨he, p.turnR ha hm⟩
  · have h0 : 0 < nf L := by
      rcases Nat.eq_zero_or_pos (nf L) with e | e
      · exact absurd (Or.inl e) h
      · exact e
    have hr : r = false → sp < nf L := fun e => by
      rcases Nat.lt_or_ge sp (nf L) with h1 | h1
      · exact h1
      · exact absurd (Or.inr ⟨e, h1⟩) h
    obtain ⟨k, hk⟩ := least_some h0
    have hkn := hk.1
    rw [hL] at hk
    refine ⟨k, 0, tk L k, fun M wr p => ?_, fun M wr p => ?_, by rw [tk_len]; exact hL, hlo.tk hkn⟩
    · exact (take_some p.al r k h0 hr hk).mono fun e w' ⟨he, ha, hm⟩ => ⟨he, p.turnA ha hm⟩
    · exact (rtake_some p.ra r k h0 hr hk).mono fun e w' ⟨he, ha, hm⟩ => ⟨he, p.turnR ha hm⟩
theorem free_both (L : List St) (hL : L.length = n) (i : Nat) (hi : i ≤ 1000) (hlo : Lo L i) : ∃ (e : Nat) (L' : List St),
    GA w b z d f g n sp s x y 13 #[.pointer (some ⟨b, 0, none⟩), .int .i64 y] (.int .i64 (e : Int)) L L' ∧
    GR w b z d f g n sp s x y 14 #[.pointer (some ⟨d, 0, none⟩), .int .i64 y] (.int .i64 (e : Int)) L L' ∧ L'.length = n ∧ Lo L' (i + 1) := by
  by_cases h : 0 ≤ y ∧ y < (n : Int)
  · obtain ⟨k, rfl⟩ := Int.eq_ofNat_of_zero_le h.1
    have hk : k < n := by omega
    have hkl : k < L.length := by omega
    by_cases ht : (sa L k).t = true
    · have hw : (sa L k).w ≤ 1000000 := Nat.le_trans (hlo k hkl) (by omega)
      refine ⟨0, fre L k, fun M wr p => ?_, fun M wr p => ?_, by rw [fre_len]; exact hL, hlo.fre hkl⟩
      · exact (free_ok p.al k hk ht hw).mono fun e w' ⟨he, ha, hm⟩ => ⟨he, p.turnA ha hm⟩
      · exact (rfree_ok p.ra k hk ht hw).mono fun e w' ⟨he, ha, hm⟩ => ⟨he, p.turnR ha hm⟩
    · have ht : (sa L k).t = false := by simpa using ht
      refine ⟨14, L, fun M wr p => ?_, fun M wr p => ?_, hL, hlo.more (Nat.le_succ i)⟩
      · exact (free_none p.al k hk ht).mono fun e w' ⟨he, hw⟩ => ⟨he, by rw [← hw]; exact p⟩
      · exact (rfree_none p.ra k hk ht).mono fun e w' ⟨he, hw⟩ => ⟨he, by rw [← hw]; exact p⟩
  · refine ⟨1, L, fun M wr p => ?_, fun M wr p => ?_, hL, hlo.more (Nat.le_succ i)⟩
    · exact (free_arg p.al y h).mono fun e w' ⟨he, hw⟩ => ⟨he, by rw [← hw]; exact p⟩
    · exact (rfree_arg p.ra y h).mono fun e w' ⟨he, hw⟩ => ⟨he, by rw [← hw]; exact p⟩
theorem mark_both (L : List St) (hL : L.length = n) (i : Nat) (hlo : Lo L i) : ∃ (e : Nat) (L' : List St),
    GA w b z d f g n sp s x y 15 #[.pointer (some ⟨b, 0, none⟩), .int .i64 y] (.int .i64 (e : Int)) L L' ∧
    GR w b z d f g n sp s x y 16 #[.pointer (some ⟨d, 0, none⟩), .int .i64 y] (.int .i64 (e : Int)) L L' ∧ L'.length = n ∧ Lo L' i := by
  by_cases h : 0 ≤ y ∧ y < (n : Int)
  · obtain ⟨k, rfl⟩ := Int.eq_ofNat_of_zero_le h.1
    have hk : k < n := by omega
    have hkl : k < L.length := by omega
    by_cases ht : (sa L k).t = true
    · refine ⟨14, L, fun M wr p => ?_, fun M wr p => ?_, hL, hlo⟩
      · exact (mark_none p.al k hk ht).mono fun e w' ⟨he, hw⟩ => ⟨he, by rw [← hw]; exact p⟩
      · exact (rmark_none p.ra k hk ht).mono fun e w' ⟨he, hw⟩ => ⟨he, by rw [← hw]; exact p⟩
    · have ht : (sa L k).t = false := by simpa using ht
      refine ⟨0, tk L k, fun M wr p => ?_, fun M wr p => ?_, by rw [tk_len]; exact hL, hlo.tk hkl⟩
      · exact (mark_ok p.al k hk ht).mono fun e w' ⟨he, ha, hm⟩ => ⟨he, p.turnA ha hm⟩
      · exact (rmark_ok p.ra k hk ht).mono fun e w' ⟨he, ha, hm⟩ => ⟨he, p.turnR ha hm⟩
  · refine ⟨1, L, fun M wr p => ?_, fun M wr p => ?_, hL, hlo⟩
    · exact (mark_arg p.al y h).mono fun e w' ⟨he, hw⟩ => ⟨he, by rw [← hw]; exact p⟩
    · exact (rmark_arg p.ra y h).mono fun e w' ⟨he, hw⟩ => ⟨he, by rw [← hw]; exact p⟩
end
/-- The two, with no step. -/
structure Pz (w : World) (b z d f g n sp : Nat) (L : List St) (wr : World) : Prop where
  al : Al wr b z n sp L
  ra : Ra wr d f g n sp L
  stands : At w wr
  nz : w.heap.size ≤ z
  nf : w.heap.size ≤ f
  ng : w.heap.size ≤ g
theorem Pz.step {w wr : World} {b z d f g n sp : Nat} {L : List St} (p : Pz w b z d f g n sp L wr) (x y : Int) : Py w b z d f g n sp wr.heap.size x y L L (wr.alloc (.cells #[.int .i64 x, .int .i64 y] 32)) :=
  ⟨p.al.on ((At.start _).alloc _), p.ra.on ((At.start _).alloc _), heap_alloc_new _ _, p.stands.alloc _, p.nz, p.nf, p.ng⟩
theorem Py.z {w wr : World} {b z d f g n sp s : Nat} {x y : Int} {L : List St} (p : Py w b z d f g n sp s x y L L wr) : Pz w b z d f g n sp L wr := ⟨p.al, p.ra, p.stands, p.nz, p.nf, p.ng⟩
theorem Pz.start {w w1 w2 : World} {b z d f g n sp : Nat} (h : Nw w b z n sp w1) (k : Rn w1 d f g n sp (nw n) w2) : Pz w b z d f g n sp (nw n) w2 :=
  ⟨h.al.on k.stands, k.ra, h.stands.next k.stands, h.nz, Nat.le_trans h.stands.size k.nf, Nat.le_trans h.stands.size k.ng⟩

end Go.Proofs.Ytheldhbdhadliaa
