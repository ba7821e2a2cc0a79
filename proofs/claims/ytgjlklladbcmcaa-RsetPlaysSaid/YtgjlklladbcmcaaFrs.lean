/- Proved: fresh hands back the law's world: a map, a buffer and a view in which nothing is, and the document's own three. -/
import Derived.Test.YtgjlklladbcmcaaFre
namespace Go.Proofs.Ytgjlklladbcmcaa
open Go.RowKit
open Em (Did)

theorem Al.add {w0 w w' : World} {F : Nat → Nat → Prop} (h : Al w0 w F) (i : Nat) (G : Nat → Prop) (hA : At w w') (hG : ∀ g, G g → w.heap.size ≤ g ∧ g < w'.heap.size) : Al w0 w' (upd F i G) :=
  h.step i ⟨Mv.of_below _ hA, fun g hg => Or.inr (hG g hg).1⟩ fun g hg => (hG g hg).2
/-- The document's own three, in which nothing is. -/
structure Dn0 (w : World) (A : Ad) (n : Nat) (t : Int) : Prop where
  x : w.heap[A.dx]? = some (.cells #[.int .i64 (n : Int), .slice none 0 0, .int .i64 0] 111 (0, 0))
  y : w.heap[A.dy]? = some (.cells #[.int .i64 (n : Int), .int .i64 16, .slice none 0 0] 102 (0, 0))
  z : w.heap[A.dz]? = some (.cells #[.pointer (some ⟨A.dx, 0, none⟩), .pointer (some ⟨A.dy, 0, none⟩), .int .i64 t, .int .i64 64, .slice none 0 0, .slice none 0 0] 62 (0, 0))
theorem Dn0.on {w w' : World} {A : Ad} {n : Nat} {t : Int} (h : Dn0 w A n t) (hA : At w w') : Dn0 w' A n t := ⟨hA.keep h.x, hA.keep h.y, hA.keep h.z⟩
/-- What fresh hands back. -/
def FreshP (n : Nat) (t : Int) (w : World) (e : Ending) (w' : World) : Prop :=
  ∃ A F, e = .returned (.tuple #[.pointer (some ⟨A.bw, 0, none⟩), .bool true]) ∧ Ww w w' F A (Em.st0 n) (st0 n 16) t [] [] ∧ Dn0 w' A n t ∧ F 3 A.dx ∧ F 4 A.dy ∧ F 5 A.dz
/-- The six objects made one after another. -/
theorem fresh_world {w w1 w2 w5 : World} {n : Nat} {t : Int} {bm bb mb bv : Nat} {FM : Nat → Prop} (h1 : Em.Mp w1 bm (Em.st0 n) FM) (hF : ∀ g, FM g → w.heap.size ≤ g) (hA1 : At w w1) (h2 : Bf w2 bb mb (st0 n 16)) (hb : w1.heap.size ≤ bb) (hm : w1.heap.size ≤ mb) (hA2 : At w1 w2)
    (hv : VP w5 bv bm bb t [] [] (fun g => ((w2.alloc (.cells #[.int .i64 (n : Int), .slice none 0 0, .int .i64 0] 111)).alloc (.cells #[.int .i64 (n : Int), .int .i64 16, .slice none 0 0] 102)).heap.size ≤ g ∧ g < w5.heap.size)) (hA5 : At ((w2.alloc (.cells #[.int .i64 (n : Int), .slice none 0 0, .int .i64 0] 111)).alloc (.cells #[.int .i64 (n : Int), .int .i64 16, .slice none 0 0] 102)) w5) :
    ∃ A F, A = ⟨w5.heap.size + 1, bm, bb, mb, bv, w2.heap.size, w2.heap.size + 1, w5.heap.size⟩ ∧ Ww w ((w5.alloc (.cells #[.pointer (some ⟨w2.heap.size, 0, none⟩), .pointer (some ⟨w2.heap.size + 1, 0, none⟩), .int .i64 t, .int .i64 64, .slice none 0 0, .slice none 0 0] 62)).alloc (.cells #[.pointer (some ⟨bm, 0, none⟩), .pointer (some ⟨bb, 0, none⟩), .pointer (some ⟨bv, 0, none⟩), .pointer (some ⟨w2.heap.size, 0, none⟩), .pointer (some ⟨w2.heap.size + 1, 0, none⟩), .pointer (some ⟨w5.heap.size, 0, none⟩)] 43)) F A (Em.st0 n) (st0 n 16) t [] [] ∧ Dn0 ((w5.alloc (.cells #[.pointer (some ⟨w2.heap.size, 0, none⟩), .pointer (some ⟨w2.heap.size + 1, 0, none⟩), .int .i64 t, .int .i64 64, .slice none 0 0, .slice none 0 0] 62)).alloc (.cells #[.pointer (some ⟨bm, 0, none⟩), .pointer (some ⟨bb, 0, none⟩), .pointer (some ⟨bv, 0, none⟩), .pointer (some ⟨w2.heap.size, 0, none⟩), .pointer (some ⟨w2.heap.size + 1, 0, none⟩), .pointer (some ⟨w5.heap.size, 0, none⟩)] 43)) A n t ∧ F 3 A.dx ∧ F 4 A.dy ∧ F 5 A.dz := by
  obtain ⟨w3, hw3⟩ : ∃ w3, w3 = w2.alloc (.cells #[.int .i64 (n : Int), .slice none 0 0, .int .i64 0] 111) := ⟨_, rfl⟩
  rw [← hw3] at hv hA5
  obtain ⟨w4, hw4⟩ : ∃ w4, w4 = w3.alloc (.cells #[.int .i64 (n : Int), .int .i64 16, .slice none 0 0] 102) := ⟨_, rfl⟩
  rw [← hw4] at hv hA5
  obtain ⟨w6, hw6⟩ : ∃ w6, w6 = w5.alloc (.cells #[.pointer (some ⟨w2.heap.size, 0, none⟩), .pointer (some ⟨w2.heap.size + 1, 0, none⟩), .int .i64 t, .int .i64 64, .slice none 0 0, .slice none 0 0] 62) := ⟨_, rfl⟩
  rw [← hw6]
  obtain ⟨w7, hw7⟩ : ∃ w7, w7 = w6.alloc (.cells #[.pointer (some ⟨bm, 0, none⟩), .pointer (some ⟨bb, 0, none⟩), .pointer (some ⟨bv, 0, none⟩), .pointer (some ⟨w2.heap.size, 0, none⟩), .pointer (some ⟨w2.heap.size + 1, 0, none⟩), .pointer (some ⟨w5.heap.size, 0, none⟩)] 43) := ⟨_, rfl⟩
  rw [← hw7]
  have s3 : w3.heap.size = w2.heap.size + 1 := by rw [hw3]; simp
  have s4 : w4.heap.size = w2.heap.size + 2 := by rw [hw4, World.size_alloc, s3]
  have s6 : w6.heap.size = w5.heap.size + 1 := by rw [hw6]; simp
  have s7 : w7.heap.size = w5.heap.size + 2 := by rw [hw7, World.size_alloc, s6]
  have a3 : At w2 w3 := by rw [hw3]; exact (At.start _).alloc _
  have a4 : At w3 w4 := by rw [hw4]; exact (At.start _).alloc _
  have a6 : At w5 w6 := by rw [hw6]; exact (At.start _).alloc _
  have a7 : At w6 w7 := by rw [hw7]; exact (At.start _).alloc _
  have b3 : w3.heap[w2.heap.size]? = some (.cells #[.int .i64 (n : Int), .slice none 0 0, .int .i64 0] 111 (0, 0)) := by rw [hw3]; exact heap_alloc_new _ _
  have b4 : w4.heap[w2.heap.size + 1]? = some (.cells #[.int .i64 (n : Int), .int .i64 16, .slice none 0 0] 102 (0, 0)) := by rw [hw4, ← s3]; exact heap_alloc_new _ _
  have b6 : w6.heap[w5.heap.size]? = some (.cells #[.pointer (some ⟨w2.heap.size, 0, none⟩), .pointer (some ⟨w2.heap.size + 1, 0, none⟩), .int .i64 t, .int .i64 64, .slice none 0 0, .slice none 0 0] 62 (0, 0)) := by rw [hw6]; exact heap_alloc_new _ _
  have b7 : w7.heap[w5.heap.size + 1]? = some (.cells #[.pointer (some ⟨bm, 0, none⟩), .pointer (some ⟨bb, 0, none⟩), .pointer (some ⟨bv, 0, none⟩), .pointer (some ⟨w2.heap.size, 0, none⟩), .pointer (some ⟨w2.heap.size + 1, 0, none⟩), .pointer (some ⟨w5.heap.size, 0, none⟩)] 43 (0, 0)) := by rw [hw7, ← s6]; exact heap_alloc_new _ _
  clear hw3 hw4 hw6 hw7
  obtain ⟨hbl, hml⟩ := h2.lt
  have al := ((((((((Al.start w).add 0 FM hA1 fun g hg => ⟨hF g hg, h1.ft g hg⟩).add 1 (fun g => g = bb ∨ g = mb) hA2 fun g hg => by
    rcases hg with rfl | rfl
    · exact ⟨hb, hbl⟩
    · exact ⟨hm, hml⟩).add 3 (fun g => g = w2.heap.size) a3 fun g hg => by subst hg; omega).add 4 (fun g => g = w2.heap.size + 1) a4 fun g hg => by subst hg; omega).add 2 (fun g => w4.heap.size ≤ g ∧ g < w5.heap.size) hA5 fun g hg => hg).add 5 (fun g => g = w5.heap.size) a6 fun g hg => by subst hg; omega).add 6 (fun g => g = w5.heap.size + 1) a7 fun g hg => by subst hg; omega)
  have a27 : At w2 w7 := (((a3.next a4).next hA5).next a6).next a7
  refine ⟨_, _, rfl, ⟨?_, h2.on a27, ?_, ?_, b7, ?_, al⟩, ⟨(((a4.next hA5).next a6).next a7).keep b3, ((hA5.next a6).next a7).keep b4, a7.keep b6⟩, ?_, ?_, ?_⟩
  · simp only [upd, show (0 : Nat) ≠ 6 by decide, show (0 : Nat) ≠ 5 by decide, show (0 : Nat) ≠ 2 by decide, show (0 : Nat) ≠ 4 by decide, show (0 : Nat) ≠ 3 by decide, show (0 : Nat) ≠ 1 by decide, if_false, if_true]
    exact h1.on (hA2.next a27)
  · simp [upd]
  · simp only [upd, show (2 : Nat) ≠ 6 by decide, show (2 : Nat) ≠ 5 by decide, if_false, if_true]
    exact hv.on (a6.next a7)
  · simp [upd]
  · simp [upd]
  · simp [upd]
  · simp [upd]

set_option maxHeartbeats 2000000 in
set_option maxRecDepth 100000 in
theorem fresh_any (n : Nat) (h1 : 1 ≤ n) (h2 : n ≤ 1048576) (t : Int) (w : World) : Calls Try.prog 10 #[.int .i64 (n : Int), .int .i64 t] w (FreshP n t w) := by
  have HN1 := Lib.hid (Em.new_any n h1 h2)
  have HN2 := Lib.hid (new_ok n 16 h1 h2 (by omega))
  have HN3 := Lib.hid (rnewm_ok n h1 h2)
  have HN4 := Lib.hid (rnewb_ok n 16 h1 h2 (by omega))
  go_enter Try.func10, Try.ntmps10
  go_wp2_with fail
  refine (HN1.out w).mono ?_
  rintro e w1 ⟨bm, FM, rfl, hm1, hF, hA1⟩
  have H1 := Lib.hid (And.intro hm1 (And.intro hF hA1))
  clear hm1 hF hA1
  go_wp2_with fail
  refine (HN2.out w1).mono ?_
  rintro e w2 ⟨bb, mb, rfl, hb2, hbb, hmb, hA2⟩
  have H2 := Lib.hid (And.intro hb2 (And.intro hbb (And.intro hmb hA2)))
  clear hb2 hbb hmb hA2
  go_wp2_with fail
  refine (HN3.out w2).mono ?_
  rintro e w3 ⟨rfl, rfl⟩
  go_wp2_with fail
  refine (HN4.out _).mono ?_
  rintro e w4 ⟨rfl, rfl⟩
  go_wp2_with fail
  refine (newv_any bm bb t _).mono ?_
  rintro e w5 ⟨bv, rfl, hv, hA5⟩
  obtain ⟨A, F, hAe, hWw, hD, f3, f4, f5⟩ := fresh_world H1.out.1 H1.out.2.1 H1.out.2.2 H2.out.1 H2.out.2.1 H2.out.2.2.1 H2.out.2.2.2 hv hA5
  have HF := Lib.hid (And.intro hWw (And.intro hD (And.intro f3 (And.intro f4 f5))))
  have HAE := Lib.hid hAe
  clear hv hA5 hWw hD f3 f4 f5 hAe H1 H2
  go_wp2_with fail
  refine (rnewv_ok _ _ t _).mono ?_
  rintro e w6 ⟨rfl, rfl⟩
  go_wp2
  generalize (w5.alloc (.cells #[.pointer (some ⟨w2.heap.size, 0, none⟩), .pointer (some ⟨w2.heap.size + 1, 0, none⟩), .int .i64 t, .int .i64 64, .slice none 0 0, .slice none 0 0] 62)).alloc (.cells #[.pointer (some ⟨bm, 0, none⟩), .pointer (some ⟨bb, 0, none⟩), .pointer (some ⟨bv, 0, none⟩), .pointer (some ⟨w2.heap.size, 0, none⟩), .pointer (some ⟨w2.heap.size + 1, 0, none⟩), .pointer (some ⟨w5.heap.size, 0, none⟩)] 43) = w7 at HF ⊢
  have c2 : w7.cell? ⟨w5.heap.size + 1, 2, none⟩ = some (.pointer (some ⟨bv, 0, none⟩)) := by
    have := HF.out.1.cells.2.2.1
    rw [HAE.out] at this; exact this
  have HE : Hid (∀ m, FreshP n t w (.returned (.tuple #[.pointer (some ⟨w5.heap.size + 1, 0, none⟩), .bool true])) (w7.drewN m)) := Lib.hid fun m =>
    ⟨A, F, by rw [HAE.out], HF.out.1.on ((At.start w7).drewN m), HF.out.2.1.on ((At.start w7).drewN m), HF.out.2.2⟩
  clear HF HAE
  go_quiet (fail)
  go_wp2
  go_ret2
  exact HE.out _

end Go.Proofs.Ytgjlklladbcmcaa
