/- Proved: what the laws want: Encode answers one of two ways; Decode of what may be and of what may not; a bit turned in a row of a call's own. -/
import Derived.Test.YtgmekkenodiclaaSam
import Derived.Laws.OwnMore
namespace Go.Proofs.Ytgmekkenodiclaa
open Go.RowKit

/-- A block's numbers are those of a block that may be, or Encode tells why not. -/
theorem encode_ways (k e s l : Int) (n : Nat) (L : List Nat) (hl : L.length = n) (hL : AllB L) :
    (∃ k' e' s' l' : Nat, k = (k' : Int) ∧ e = (e' : Int) ∧ s = (s' : Int) ∧ l = (l' : Int) ∧ May k' e' s' l' L) ∨
    (¬ (Nums k e s l ∧ n ≤ 40) ∧ ∃ r : Nat, (r = 1 ∨ r = 3) ∧ (r = 1 ↔ ¬ Nums k e s l) ∧ ∀ (A : Option Addr) (c : Nat) (w : World), Calls Try.prog 30 #[.agg #[.int .i64 k, .int .i64 e, .int .i64 s, .int .i64 l, .slice A n c]] w (Gives (.tuple #[.slice none 0 0, .int .i64 (r : Int)]) w)) := by
  by_cases h : Nums k e s l
  · by_cases h40 : n ≤ 40
    · obtain ⟨h1, h2, h3, h4⟩ := h
      exact Or.inl ⟨k.toNat, e.toNat, s.toNat, l.toNat, by omega, by omega, by omega, by omega, ⟨by omega, by omega, by omega, by omega, by omega, by omega, hL⟩⟩
    · refine Or.inr ⟨fun hh => h40 hh.2, 3, Or.inr rfl, ⟨fun h3 => absurd h3 (by decide), fun hh => absurd h hh⟩, fun A c w => ?_⟩
      exact encode_len A k e s l n c h.1 h.2.1 h.2.2.1 h.2.2.2 (by omega) w
  · exact Or.inr ⟨fun hh => h hh.1, 1, Or.inl rfl, ⟨fun _ => h, fun _ => rfl⟩, fun A c w => encode_arg A k e s l n c h w⟩

theorem decode_bad (A : Option Addr) (c : Nat) (P : List Nat) (hP : P.length = 64) (hB : AllB P) (hg : ¬ Good P) (w : World) (hx : BV w A P) (hc : 64 ≤ c) :
    Calls Try.prog 21 #[.slice A 64 c] w (Gives (.tuple #[.agg #[.int .i64 0, .int .i64 0, .int .i64 0, .int .i64 0, .slice none 0 0], .int .i64 13]) w) := by
  refine (decode_row A c P hP hB w hx hc).mono ?_
  rintro x w' (⟨h, _⟩ | ⟨_, rfl, h⟩)
  · exact absurd h hg
  · exact ⟨rfl, h⟩
theorem decode_short (A : Option Addr) (n c : Nat) (w : World) (h : n ≠ 64) :
    Calls Try.prog 21 #[.slice A n c] w (Gives (.tuple #[.agg #[.int .i64 0, .int .i64 0, .int .i64 0, .int .i64 0, .slice none 0 0], .int .i64 3]) w) := decode_len A n c w h
/-- What was written is read. -/
theorem decode_en (A : Option Addr) (c k e s l : Nat) (L : List Nat) (hm : May k e s l L) (w : World) (hx : BV w A (en k e s l L)) (hc : 64 ≤ c) :
    Calls Try.prog 21 #[.slice A 64 c] w fun x w' => ∃ A' c', x = .returned (.tuple #[.agg #[.int .i64 (k : Int), .int .i64 (e : Int), .int .i64 (s : Int), .int .i64 (l : Int), .slice A' L.length c'], .int .i64 0]) ∧ BV w' A' L ∧ At w w' := by
  obtain ⟨hg, p1, p2, p3, p4, p5⟩ := en_good hm
  refine (decode_row A c _ (en_len hm.n) (en_byte hm) w hx hc).mono ?_
  rintro x w' (⟨_, A', n, c', rfl, hn, hv, h⟩ | ⟨h, _⟩)
  · rw [p5] at hn hv
    subst hn
    rw [p1, p2, p3, p4]
    exact ⟨A', c', rfl, hv, h⟩
  · exact absurd hg h

theorem own_cell {w : World} {B g cap n : Nat} {S : List Nat} (h : w.ownsRow B 5 1 (.slice (some ⟨g, 0, none⟩) n cap) n (S.map bt)) (j : Nat) (hj : j < n) :
    w.cell? ⟨g, j, none⟩ = some (.int .u8 ((S.getD j 0 : Nat) : Int)) := by
  have hl : S.length = n := by simpa using h.1
  rw [h.cellAt j (by omega), List.getElem?_map, List.getD_eq_getElem?_getD, List.getElem?_eq_getElem (by omega)]
  rfl
theorem own_set {w wr : World} {g cap n : Nat} {S : List Nat} (k y : Nat) (hg : w.heap.size ≤ g)
    (h : wr.ownsRow w.heap.size 5 1 (.slice (some ⟨g, 0, none⟩) n cap) n (S.map bt)) (hb : At w wr) :
    Hid ((wr.setCell ⟨g, k, none⟩ (.int .u8 (y : Int))).ownsRow w.heap.size 5 1 (.slice (some ⟨g, 0, none⟩) n cap) n ((S.set k y).map bt)) ∧ Hid (At w (wr.setCell ⟨g, k, none⟩ (.int .u8 (y : Int)))) := by
  refine ⟨Lib.hid ?_, Lib.hid (Below.setCell hb hg _)⟩
  rw [List.map_set]; exact (h.stored k (bt y)).1
theorem allB_set {L : List Nat} (h : AllB L) (k : Nat) {y : Nat} (hy : y < 256) : AllB (L.set k y) := by
  intro c hc
  rcases List.mem_or_eq_of_mem_set hc with hc | rfl
  · exact h c hc
  · exact hy

end Go.Proofs.Ytgmekkenodiclaa
