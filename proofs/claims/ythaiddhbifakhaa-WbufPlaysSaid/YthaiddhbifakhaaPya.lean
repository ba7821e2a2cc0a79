/- Proved: the landed buffer and the document's own beside each other; what the two answer alike. -/
import Derived.Test.YthaiddhbifakhaaTot
import Derived.Test.YthaiddhbifakhaaSam
import Derived.Test.YthaiddhbifakhaaWt
import Derived.Test.YthaiddhbifakhaaSet
import Derived.Test.YthaiddhbifakhaaISa
import Derived.Test.YthaiddhbifakhaaRt
namespace Go.Proofs.Ythaiddhbifakhaa
open Go.RowKit

/-- The two buffers; S and T are their states. -/
structure Py (w0 : World) (b mb d : Nat) (S T : St) (wx : World) : Prop where
  bo : Bo w0 wx b mb S
  rb : Rb wx d T
  nd : w0.heap.size ≤ d
section
variable {w0 wx wy : World} {b mb d : Nat} {S T S' T' : St}
theorem Py.on (h : Py w0 b mb d S T wx) (ha : At wx wy) : Py w0 b mb d S T wy := ⟨h.bo.on ha, h.rb.on ha, h.nd⟩
theorem Py.turnB (h : Py w0 b mb d S T wx) (hb : Bf wy b mb S') (hm : Mv (fun g => g = mb) wx wy) : Py w0 b mb d S' T wy := by
  obtain ⟨es, clock, hmap⟩ := h.bo.bf.map
  exact ⟨h.bo.wrote hb hm, h.rb.mvm hmap hm, h.nd⟩
theorem Py.turnR (h : Py w0 b mb d S T wx) (hr : Rb wy d T') (hm : Mv (fun g => g = d) wx wy) : Py w0 b mb d S T' wy := by
  obtain ⟨cs, hd⟩ := h.rb.box
  have hbd : b ≠ d := cells_ne h.bo.bf.box hd (by decide)
  have hmd : mb ≠ d := fun e => h.bo.bf.far hd e.symm
  exact ⟨⟨h.bo.bf.mv hm hbd hmd, hm.at_ h.bo.at_ (fun g hg => by rw [hg]; exact h.nd), h.bo.hb, h.bo.hm⟩, hr, h.nd⟩
theorem Py.writeB (h : Py w0 b mb d S T wx) (A : Option Addr) (P : List Pt) (n c : Nat) (hn : P.length = n) (hl : n ≤ 1000000) (hP : PV w0 A P) (hB : AllBy P) :
    Calls Try.prog 12 #[.pointer (some ⟨b, 0, none⟩), .slice A n c] wx fun e w' => e = .returned (.int .i64 (rf S P)) ∧ Py w0 b mb d (wr S P) T w' :=
  (write_any h.bo.bf A P n c hn hl (hP.on h.bo.at_) hB).mono fun _ _ ⟨he, hb, hm⟩ => ⟨he, h.turnB hb hm⟩
theorem Py.writeR (h : Py w0 b mb d S T wx) (A : Option Addr) (P : List Pt) (n c : Nat) (hn : P.length = n) (hl : n ≤ 1000000) (hP : PV w0 A P) (hB : AllBy P) :
    Calls Try.prog 13 #[.pointer (some ⟨d, 0, none⟩), .slice A n c] wx fun e w' => e = .returned (.int .i64 (rf T P)) ∧ Py w0 b mb d S (wr T P) w' :=
  (rwrite_any h.rb A P n c hn hl (fun W hW => hP.on (hW.at_ h.bo.at_ (fun g hg => by rw [hg]; exact h.nd))) hB).mono fun _ _ ⟨he, hb, hm⟩ => ⟨he, h.turnR hb hm⟩
/-- Where the document's buffer keeps its row. -/
theorem Py.row (h : Py w0 b mb d S T wx) : ∃ A c, Hid (PV wx A (ls T)) ∧ wx.cell? ⟨d, 2, none⟩ = some (.slice A (us T).length c) := by
  obtain ⟨v, l, h⟩ := h.rb
  obtain ⟨A, c, rfl, hp⟩ := h.od.pv
  rw [h.is] at hp
  exact ⟨A, c, Lib.hid hp, by rw [← h.len]; exact h.cells.2.2⟩
theorem py_start {n : Nat} {m : Int} (h : Bo w0 wx b mb (st0 n m)) (h1 : 1 ≤ n) (h2 : n ≤ 1048576) (h3 : 0 ≤ m) :
    Py w0 b mb wx.heap.size (st0 n m) (st0 n m) (wx.alloc (.cells #[.int .i64 (n : Int), .int .i64 m, .slice none 0 0] 37)) :=
  ⟨h.on ((At.start wx).alloc _), ⟨.slice none 0 0, [], st0_ok h1 h2 h3, heap_alloc_new wx _, ⟨World.ownsRow_nil _ _ _ _, fun x hx => by cases hx⟩, by unfold ls; rw [us_st0]; rfl⟩, h.at_.size⟩
end
theorem wr_len (S : St) (P : List Pt) : (us (wr S P)).length ≤ (us S).length + P.length := by
  by_cases h : rf S P = 0
  · rw [wr_yes h, us_fr P (fine_of h).rng (fun p hp e => by have := (fine_of h).len p hp; rw [e] at this; cases this) (fine_of h).un]
    have := fr_le S P
    omega
  · rw [wr_no h]; omega

set_option maxHeartbeats 1000000 in
theorem rnew_ok (n : Nat) (m : Int) (h1 : 1 ≤ n) (h2 : n ≤ 1048576) (h3 : 0 ≤ m) (w : World) : Calls Try.prog 11 #[.int .i64 (n : Int), .int .i64 m] w fun e w' =>
    e = .returned (.tuple #[.pointer (some ⟨w.heap.size, 0, none⟩), .int .i64 0]) ∧ w' = w.alloc (.cells #[.int .i64 (n : Int), .int .i64 m, .slice none 0 0] 37) := by
  have g1 : decide ((n : Int) < 1) = false := decide_eq_false (by omega)
  have g2 : decide ((1048576 : Int) < (n : Int)) = false := decide_eq_false (by omega)
  have g3 : decide (m < 0) = false := decide_eq_false (by omega)
  clear h1 h2 h3
  go_enter Try.func11, Try.ntmps11
  go_wp2
  go_ret2
  exact ⟨rfl, rfl⟩
set_option maxHeartbeats 1000000 in
theorem rnew_bad (n m : Int) (h : ¬ May n m) (w : World) : Calls Try.prog 11 #[.int .i64 n, .int .i64 m] w fun e w' => e = .returned (.tuple #[.pointer none, .int .i64 1]) ∧ w = w' := by
  by_cases h1 : 1 ≤ n
  · have g1 : decide (n < 1) = false := decide_eq_false (by omega)
    by_cases h2 : n ≤ 1048576
    · have g2 : decide ((1048576 : Int) < n) = false := decide_eq_false (by omega)
      have h3 : m < 0 := by
        have : ¬ 0 ≤ m := fun h3 => h ⟨h1, h2, h3⟩
        omega
      clear h h1 h2
      go_enter Try.func11, Try.ntmps11
      go_wp2
      go_ret2
      exact ⟨rfl, rfl⟩
    · have h2' : (1048576 : Int) < n := by omega
      clear h h1 h2
      go_enter Try.func11, Try.ntmps11
      go_wp2
      go_ret2
      exact ⟨rfl, rfl⟩
  · have h1' : n < 1 := by omega
    clear h h1
    go_enter Try.func11, Try.ntmps11
    go_wp2
    go_ret2
    exact ⟨rfl, rfl⟩

/-- The two Gets. -/
theorem gets_alike (S : St) (x : Int) (hok : Ok S) (hx : (ky x).wf = true) : ∃ (n : Nat) (r : Bool), (gi S x).length = n ∧ n ≤ 40 ∧ AllB (gi S x) ∧
    (∀ w b mb, Bf w b mb S → Calls Try.prog 15 #[.pointer (some ⟨b, 0, none⟩), .int .i64 x] w fun e w' => ∃ A c, e = .returned (.tuple #[.slice A n c, .bool r]) ∧ BV w' A (gi S x) ∧ At w w') ∧
    (∀ w d, Rb w d S → Calls Try.prog 16 #[.pointer (some ⟨d, 0, none⟩), .int .i64 x] w fun e w' => ∃ A c, e = .returned (.tuple #[.slice A n c, .bool r]) ∧ BV w' A (gi S x) ∧ w = w') := by
  by_cases hg : gi S x = []
  · refine ⟨0, false, by rw [hg]; rfl, by omega, by rw [hg]; exact fun _ h => (by cases h), fun w b mb hb => (get_no hb x hx hg).mono fun e w' ⟨he, hm⟩ => ⟨none, 0, he, by rw [hg]; exact BV.nil _ _, (At.start w).next hm⟩, fun w d hd => (rget_rb hd x).mono fun e w' ⟨hw, h⟩ => ?_⟩
    rcases h with ⟨_, he⟩ | ⟨h0, _⟩
    · exact ⟨none, 0, he, by rw [hg]; exact BV.nil _ _, hw⟩
    · exact absurd hg h0
  · obtain ⟨k, hk, hkg⟩ := gi_pos S hg
    have hv := hok.v k hkg
    have eg : gi S x = S.g k := by rw [hk, gi_nat]
    refine ⟨40, true, by rw [eg]; exact hv.1, by omega, by rw [eg]; exact hv.2, fun w b mb hb => (get_yes hb x hx hg).mono fun e w' ⟨g, c, he, _, hbv, ha⟩ => ⟨_, c, he, hbv, ha⟩, fun w d hd => (rget_rb hd x).mono fun e w' ⟨hw, h⟩ => ?_⟩
    rcases h with ⟨h0, _⟩ | ⟨_, g, c, he, hbv⟩
    · exact absurd h0 hg
    · exact ⟨_, c, he, by rw [← hw]; exact hbv, hw⟩

end Go.Proofs.Ythaiddhbifakhaa
