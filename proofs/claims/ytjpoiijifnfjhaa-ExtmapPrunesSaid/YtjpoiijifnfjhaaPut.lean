/- Proved: words for a list of blocks to be written; whether their numbers rise; whether one has another length. -/
import Derived.Test.YtjpoiijifnfjhaaGet
namespace Go.Proofs.Ytjpoiijifnfjhaa
open Go.RowKit

/-- The slice at A reads as the list P of blocks to be written. -/
def PV (w : World) (A : Option Addr) (P : List Pt) : Prop :=
  P = [] ∨ ∃ g o, A = some ⟨g, o, none⟩ ∧ g < w.heap.size ∧ ∀ j, j < P.length → w.cell? ⟨g, o + j * 2, none⟩ = some (.int .i64 (P.getD j pz).1) ∧ ∃ B c, w.cell? ⟨g, o + j * 2 + 1, none⟩ = some (.slice B (P.getD j pz).2.length c) ∧ BV w B (P.getD j pz).2
theorem PV.pos {w : World} {A : Option Addr} {P : List Pt} (h : PV w A P) (h0 : 0 < P.length) : ∃ g o, A = some ⟨g, o, none⟩ ∧ g < w.heap.size ∧ ∀ j, j < P.length → w.cell? ⟨g, o + j * 2, none⟩ = some (.int .i64 (P.getD j pz).1) ∧ ∃ B c, w.cell? ⟨g, o + j * 2 + 1, none⟩ = some (.slice B (P.getD j pz).2.length c) ∧ BV w B (P.getD j pz).2 := by
  rcases h with rfl | h
  · simp at h0
  · exact h
theorem PV.on {w w' : World} {A : Option Addr} {P : List Pt} (h : PV w A P) (hb : At w w') : PV w' A P := by
  rcases h with h | ⟨g, o, rfl, hlt, hc⟩
  · exact Or.inl h
  · refine Or.inr ⟨g, o, rfl, Nat.lt_of_lt_of_le hlt hb.size, fun j hj => ?_⟩
    obtain ⟨h1, B, c, h2, h3⟩ := hc j hj
    exact ⟨(Below.cell hb (p := ⟨g, o + j * 2, none⟩) hlt).trans h1, B, c, (Below.cell hb (p := ⟨g, o + j * 2 + 1, none⟩) hlt).trans h2, h3.below hb⟩
theorem PV.nil (w : World) (A : Option Addr) : PV w A [] := Or.inl rfl

noncomputable def rsB (P : List Pt) : Bool := @decide (Rs P) (Classical.propDecidable _)
theorem rsB_yes {P : List Pt} (h : Rs P) : rsB P = true := @decide_eq_true _ (Classical.propDecidable _) h
theorem rsB_no {P : List Pt} (h : ¬ Rs P) : rsB P = false := @decide_eq_false _ (Classical.propDecidable _) h
set_option maxHeartbeats 1000000 in
theorem rises_any {w : World} {A : Option Addr} {P : List Pt} (h : PV w A P) (hl : P.length ≤ 1000000) (h1 : 1 ≤ P.length) (c : Nat) :
    Calls Try.prog 38 #[.slice A P.length c] w fun e w' => e = .returned (.bool (rsB P)) ∧ ∃ m, w' = w.drewN m := by
  obtain ⟨n, hn⟩ : ∃ n, n = P.length := ⟨_, rfl⟩
  have HP := Lib.hid h
  rw [← hn] at hl h1 ⊢
  have HN := Lib.hid hn
  clear h hn
  go_enter Try.func38, Try.ntmps38
  go_wp2
  go_loopw [3] (fun k wr => ∃ j : Nat, 1 ≤ j ∧ j ≤ n ∧ k = .int .i64 (j : Int) ∧ Hid (∀ i, 1 ≤ i → i < j → (P.getD (i - 1) pz).1 < (P.getD i pz).1) ∧ ∃ m, wr = w.drewN m) (fun k _ => n - (RowKit.intOf k).toNat)
  case atStart => exact ⟨1, by omega, by omega, rfl, Lib.hid (fun i a b => absurd a (by omega)), 0, rfl⟩
  case round =>
    obtain ⟨j, j1, jn, rfl, HR, m, rfl⟩ := hrel
    by_cases hlt : j < n
    · obtain ⟨g, o, rfl, hg, hc⟩ := HP.out.pos (by rw [← HN.out]; omega)
      have c1 := (hc j (by rw [← HN.out]; exact hlt)).1
      obtain ⟨i, hi⟩ : ∃ i, i = j - 1 := ⟨_, rfl⟩
      have c2 := (hc i (by rw [← HN.out]; omega)).1
      have hij : (j : Int) - 1 = (i : Int) := by omega
      have g1 : (0 : Int) ≤ (j : Int) := by omega
      have g2 : (j : Int) < (n : Int) := by omega
      have g3 : (0 : Int) ≤ (i : Int) := by omega
      have g4 : (i : Int) < (n : Int) := by omega
      have hwr : IntKind.i64.wrap ((j : Int) - 1) = (i : Int) := by rw [hij]; exact IntWalk.i64_in _ (by omega)
      obtain ⟨x, hx⟩ : ∃ x, x = (P.getD j pz).1 := ⟨_, rfl⟩
      obtain ⟨y, hy⟩ : ∃ y, y = (P.getD i pz).1 := ⟨_, rfl⟩
      rw [← hx] at c1
      rw [← hy] at c2
      have HX := Lib.hid hx
      have HY := Lib.hid hy
      have HI := Lib.hid hi
      clear hc hx hy hi
      by_cases hxy : x ≤ y
      · have hno : rsB P = false := rsB_no fun h => by
          have := h j j1 (by rw [← HN.out]; exact hlt)
          rw [← HI.out, ← HX.out, ← HY.out] at this; omega
        have HNO := Lib.hid hno
        clear hno
        go_wp2
        go_quiet (fail)
        go_wp2
        go_ret
        exact ⟨by rw [HNO.out]; rfl, _, World.drewN_drewN _ _ _⟩
      · have hxf : decide (x ≤ y) = false := decide_eq_false hxy
        go_wp2
        go_quiet (fail)
        go_wp2
        go_roundw
        case rel => exact ⟨j + 1, by omega, by omega, by go_num, Lib.hid (fun k a b => by
          by_cases e : k = j
          · subst e; rw [← HI.out, ← HX.out, ← HY.out]; omega
          · exact HR.out k a (by omega)), _, rfl⟩
        case measure => simp [RowKit.intOf]; omega
    · have hy : rsB P = true := rsB_yes fun k a b => HR.out k a (by rw [← HN.out] at b; omega)
      have HY := Lib.hid hy
      have hlt' : decide ((j : Int) < (n : Int)) = false := decide_eq_false (by omega)
      clear hy
      go_wp2
      go_ret
      exact ⟨by rw [HY.out]; rfl, m, rfl⟩

end Go.Proofs.Ytjpoiijifnfjhaa
