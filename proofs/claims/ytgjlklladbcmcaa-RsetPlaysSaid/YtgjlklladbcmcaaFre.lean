/- Proved: fresh makes a map, a buffer and a view, and the document's own three, each in blocks of its own. -/
import Derived.Test.YtgjlklladbcmcaaReb
import Derived.Test.YtgjlklladbcmcaaRes
namespace Go.Proofs.Ytgjlklladbcmcaa
open Go.RowKit
open Em (Did)

/-- Where the law's objects lie. -/
structure Ad where
  bw : Nat
  bm : Nat
  bb : Nat
  mb : Nat
  bv : Nat
  dx : Nat
  dy : Nat
  dz : Nat
/-- The law's world: the three landed objects in their states, and the struct that points to all six. -/
structure Ww (w0 w : World) (F : Nat → Nat → Prop) (A : Ad) (M : Em.St) (B : St) (t : Int) (L : List (Int × Int)) (R : List Rd) : Prop where
  m : Em.Mp w A.bm M (F 0)
  b : Bf w A.bb A.mb B
  f1 : F 1 A.bb ∧ F 1 A.mb
  v : VP w A.bv A.bm A.bb t L R (F 2)
  box : w.heap[A.bw]? = some (.cells #[.pointer (some ⟨A.bm, 0, none⟩), .pointer (some ⟨A.bb, 0, none⟩), .pointer (some ⟨A.bv, 0, none⟩), .pointer (some ⟨A.dx, 0, none⟩), .pointer (some ⟨A.dy, 0, none⟩), .pointer (some ⟨A.dz, 0, none⟩)] 43 (0, 0))
  f6 : F 6 A.bw
  al : Al w0 w F
section
variable {w0 w w' : World} {F : Nat → Nat → Prop} {A : Ad} {M M' : Em.St} {B B' : St} {t : Int} {L L' : List (Int × Int)} {R R' : List Rd}
theorem Ww.on (h : Ww w0 w F A M B t L R) (hA : At w w') : Ww w0 w' F A M B t L R := ⟨h.m.on hA, h.b.on hA, h.f1, h.v.on hA, hA.keep h.box, h.f6, h.al.on hA⟩
theorem Ww.back {wa : World} (h : Ww w0 w F A M B t L R) (hA : At wa w0) : Ww wa w F A M B t L R := ⟨h.m, h.b, h.f1, h.v, h.box, h.f6, h.al.back hA⟩
theorem Ww.cells (h : Ww w0 w F A M B t L R) : w.cell? ⟨A.bw, 0, none⟩ = some (.pointer (some ⟨A.bm, 0, none⟩)) ∧ w.cell? ⟨A.bw, 1, none⟩ = some (.pointer (some ⟨A.bb, 0, none⟩)) ∧ w.cell? ⟨A.bw, 2, none⟩ = some (.pointer (some ⟨A.bv, 0, none⟩)) ∧ w.cell? ⟨A.bw, 3, none⟩ = some (.pointer (some ⟨A.dx, 0, none⟩)) ∧ w.cell? ⟨A.bw, 4, none⟩ = some (.pointer (some ⟨A.dy, 0, none⟩)) ∧ w.cell? ⟨A.bw, 5, none⟩ = some (.pointer (some ⟨A.dz, 0, none⟩)) :=
  ⟨(cell_at h.box 0).trans rfl, (cell_at h.box 1).trans rfl, (cell_at h.box 2).trans rfl, (cell_at h.box 3).trans rfl, (cell_at h.box 4).trans rfl, (cell_at h.box 5).trans rfl⟩
theorem Ww.at_ (h : Ww w0 w F A M B t L R) : At w0 w := h.al.at_
/-- The map was turned. -/
theorem Ww.turnM {G : Nat → Prop} (h : Ww w0 w F A M B t L R) (hm : Em.Mp w' A.bm M' G) (hd : Did (F 0) w G w') : Ww w0 w' (upd F 0 G) A M' B t L R :=
  ⟨by rw [upd_at]; exact hm, h.b.mv hd.mv (h.al.far (by decide) _ h.f1.1) (h.al.far (by decide) _ h.f1.2), by rw [upd_ne _ _ (by decide)]; exact h.f1, by rw [upd_ne _ _ (by decide)]; exact h.v.mv hd.mv (h.al.far (by decide)), hd.mv.keep h.box (h.al.far (by decide) _ h.f6), by rw [upd_ne _ _ (by decide)]; exact h.f6, h.al.step 0 hd hm.ft⟩
/-- The buffer was turned. -/
theorem Ww.turnB (h : Ww w0 w F A M B t L R) (hb : Bf w' A.bb A.mb B') (hm : Mv (fun g => g = A.mb) w w') : Ww w0 w' F A M B' t L R := by
  have hm1 : Mv (F 1) w w' := hm.more fun g hg => Or.inl (by rw [hg]; exact h.f1.2)
  have hd : Did (F 1) w (F 1) w' := ⟨hm1, fun _ h => Or.inl h⟩
  have hal := h.al.step 1 hd fun g hg => Nat.lt_of_lt_of_le (h.al.lt 1 g hg) hm.size
  have hu : upd F 1 (F 1) = F := by
    funext j
    by_cases e : j = 1
    · rw [e, upd_at]
    · rw [upd_ne _ _ e]
  rw [hu] at hal
  exact ⟨h.m.mv hm1 (h.al.far (by decide)), hb, h.f1, h.v.mv hm1 (h.al.far (by decide)), hm1.keep h.box (h.al.far (by decide) _ h.f6), h.f6, hal⟩
/-- The blocks that a step of the view may lay: all new ones but g. -/
def nf2 (F : Nat → Nat → Prop) (w w' : World) (g : Nat) : Nat → Prop := fun q => ((F 2 q ∨ w.heap.size ≤ q) ∧ q ≠ g) ∧ q < w'.heap.size
/-- The view was turned. -/
theorem Ww.turnV {g : Nat} (h : Ww w0 w F A M B t L R) (hv : VP w' A.bv A.bm A.bb t L' R' (fun q => (F 2 q ∨ w.heap.size ≤ q) ∧ q ≠ g)) (hm : Mv (fun q => F 2 q ∨ w.heap.size ≤ q) w w') : Ww w0 w' (upd F 2 (nf2 F w w' g)) A M B t L' R' := by
  have hm2 : Mv (F 2) w w' := hm.more fun g hg => hg
  have hd : Did (F 2) w (nf2 F w w' g) w' := ⟨hm2, fun g hg => hg.1.1⟩
  exact ⟨by rw [upd_ne _ _ (by decide)]; exact h.m.mv hm2 (h.al.far (by decide)), h.b.mv hm2 (h.al.far (by decide) _ h.f1.1) (h.al.far (by decide) _ h.f1.2), by rw [upd_ne _ _ (by decide)]; exact h.f1, by rw [upd_at]; exact hv.more fun g hg hp => ⟨hp, hg⟩, hm2.keep h.box (h.al.far (by decide) _ h.f6), by rw [upd_ne _ _ (by decide)]; exact h.f6, h.al.step 2 hd fun g hg => hg.2⟩
end

/-- A new view. -/
def NewsV (bm bb : Nat) (t : Int) (w : World) (e : Ending) (w' : World) : Prop := ∃ bv, e = .returned (.pointer (some ⟨bv, 0, none⟩)) ∧ VP w' bv bm bb t [] [] (fun g => w.heap.size ≤ g ∧ g < w'.heap.size) ∧ At w w'
set_option maxHeartbeats 1000000 in
theorem newv_any (bm bb : Nat) (t : Int) (w : World) : Calls Try.prog 24 #[.pointer (some ⟨bm, 0, none⟩), .pointer (some ⟨bb, 0, none⟩), .int .i64 t] w (NewsV bm bb t w) := by
  go_enter Try.func24, Try.ntmps24
  go_wp2_with fail
  refine (Iv.new_any 64 w).mono ?_
  rintro e w1 ⟨rfl, hs, hA⟩
  have HS := Lib.hid hs
  have HA : Hid (At w w1) := Lib.hid hA
  clear hs hA
  have HE : Hid (NewsV bm bb t w (.returned (.pointer (some ⟨w1.heap.size, 0, none⟩))) (w1.alloc (.cells #[.pointer (some ⟨bm, 0, none⟩), .pointer (some ⟨bb, 0, none⟩), .int .i64 t, .pointer (some ⟨w.heap.size, 0, none⟩), .slice none 0 0] 90))) := Lib.hid
    ⟨_, rfl, ⟨w.heap.size, .slice none 0 0, .slice none 0 0, [], heap_alloc_new w1 _, HS.out.on ((At.start w1).alloc _), Rw.nil _, rfl, ⟨HA.out.size, by simp⟩, (fun g hg => hg.elim (fun e => by rw [e]; exact ⟨Nat.le_refl _, by have := lt_heap HS.out.box; simp; omega⟩) (fun e => by cases e)), fun g hg => (by cases hg), fun x hx => (by cases hx), fun x hx => (by cases hx)⟩, HA.out.alloc _⟩
  go_wp2
  go_ret
  exact HE.out
set_option maxHeartbeats 400000 in
theorem newv_nil (bb : Option Addr) (t : Int) (w : World) : Calls Try.prog 24 #[.pointer none, .pointer bb, .int .i64 t] w fun e w' => e = .returned (.pointer none) ∧ w = w' := by
  go_enter Try.func24, Try.ntmps24
  go_wp2
  go_ret
  exact ⟨rfl, rfl⟩
set_option maxHeartbeats 1000000 in
theorem rnewm_ok (n : Nat) (h1 : 1 ≤ n) (h2 : n ≤ 1048576) (w : World) : Calls Try.prog 31 #[.int .i64 (n : Int)] w fun e w' =>
    e = .returned (.tuple #[.pointer (some ⟨w.heap.size, 0, none⟩), .int .i64 0]) ∧ w' = w.alloc (.cells #[.int .i64 (n : Int), .slice none 0 0, .int .i64 0] 111) := by
  have g1 : decide ((n : Int) < 1) = false := decide_eq_false (by omega)
  have g2 : decide ((1048576 : Int) < (n : Int)) = false := decide_eq_false (by omega)
  clear h1 h2
  go_enter Try.func31, Try.ntmps31
  go_wp2
  go_ret2
  exact ⟨rfl, rfl⟩
set_option maxHeartbeats 1000000 in
theorem rnewb_ok (n : Nat) (m : Int) (h1 : 1 ≤ n) (h2 : n ≤ 1048576) (h3 : 0 ≤ m) (w : World) : Calls Try.prog 32 #[.int .i64 (n : Int), .int .i64 m] w fun e w' =>
    e = .returned (.tuple #[.pointer (some ⟨w.heap.size, 0, none⟩), .int .i64 0]) ∧ w' = w.alloc (.cells #[.int .i64 (n : Int), .int .i64 m, .slice none 0 0] 102) := by
  have g1 : decide ((n : Int) < 1) = false := decide_eq_false (by omega)
  have g2 : decide ((1048576 : Int) < (n : Int)) = false := decide_eq_false (by omega)
  have g3 : decide (m < 0) = false := decide_eq_false (by omega)
  clear h1 h2 h3
  go_enter Try.func32, Try.ntmps32
  go_wp2
  go_ret2
  exact ⟨rfl, rfl⟩
set_option maxHeartbeats 1000000 in
theorem rnewv_ok (dx dy : Nat) (t : Int) (w : World) : Calls Try.prog 33 #[.pointer (some ⟨dx, 0, none⟩), .pointer (some ⟨dy, 0, none⟩), .int .i64 t] w fun e w' =>
    e = .returned (.pointer (some ⟨w.heap.size, 0, none⟩)) ∧ w' = w.alloc (.cells #[.pointer (some ⟨dx, 0, none⟩), .pointer (some ⟨dy, 0, none⟩), .int .i64 t, .int .i64 64, .slice none 0 0, .slice none 0 0] 62) := by
  go_enter Try.func33, Try.ntmps33
  go_wp2
  go_ret
  exact ⟨rfl, rfl⟩

end Go.Proofs.Ytgjlklladbcmcaa
