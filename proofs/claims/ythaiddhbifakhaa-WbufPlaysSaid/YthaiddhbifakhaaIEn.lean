/- Proved: where a row's extents end at a block or past it, and where they start past it. -/
import Derived.Test.YthaiddhbifakhaaISe
import Derived.Deep.RegionHeld3
import Derived.Deep.DrawnRows
namespace Go.Proofs.Ythaiddhbifakhaa.Iv
open Go.RowKit

/-- What a test on a row reads: its slice and its block, each in a cell of its own. -/
structure Sd (W : World) (x y : Nat) (A : Option Addr) (n c : Nat) (L : List (Int × Int)) (b : Int) : Prop where
  sl : W.cell? ⟨x, 0, none⟩ = some (.slice A n c)
  bk : W.cell? ⟨y, 0, none⟩ = some (.int .i64 b)
  ev : EV W A L
  len : L.length = n
  xy : x < W.heap.size ∧ y < W.heap.size
theorem Sd.on {W W' : World} {x y n c : Nat} {A : Option Addr} {L : List (Int × Int)} {b : Int} (h : Sd W x y A n c L b) (ha : At W W') : Sd W' x y A n c L b :=
  ⟨(Below.cell ha (p := ⟨x, 0, none⟩) h.xy.1).trans h.sl, (Below.cell ha (p := ⟨y, 0, none⟩) h.xy.2).trans h.bk, h.ev.on ha, h.len, Nat.lt_of_lt_of_le h.xy.1 ha.size, Nat.lt_of_lt_of_le h.xy.2 ha.size⟩
theorem Sd.at_ {W : World} {x y n c : Nat} {A : Option Addr} {L : List (Int × Int)} {b : Int} (h : Sd W x y A n c L b) {k : Nat} (hk : k < n) :
    ∃ g o, A = some ⟨g, o, none⟩ ∧ W.cell? ⟨g, o + k * 2, none⟩ = some (.int .i64 (L.getD k (0, 0)).1) ∧ W.cell? ⟨g, o + k * 2 + 1, none⟩ = some (.int .i64 (L.getD k (0, 0)).2) := by
  obtain ⟨g, o, rfl, _, hc⟩ := h.ev.pos (by rw [h.len]; omega)
  exact ⟨g, o, rfl, hc k (by rw [h.len]; exact hk)⟩

set_option maxHeartbeats 1000000 in
set_option maxRecDepth 100000 in
theorem ends_test {w W : World} {x y n c : Nat} {A : Option Addr} {L : List (Int × Int)} {b : Int} (h : Sd W x y A n c L b) (ha : At w W) (hL : ∀ e ∈ L, Vm e) {k : Nat} (hk : k < n) :
    Calls Try.prog 60 #[.int .i64 (k : Int), .pointer (some ⟨x, 0, none⟩), .pointer (some ⟨y, 0, none⟩)] W fun e w' => e = .returned (.bool (pe L b k)) ∧ At w w' := by
  obtain ⟨g, o, rfl, c1, c2⟩ := h.at_ hk
  have c3 := h.sl
  have c4 := h.bk
  have hv := hL _ (getD_mem (by rw [h.len]; exact hk))
  unfold Vm at hv
  have HP : Hid (pe L b k = decide (b ≤ (L.getD k (0, 0)).1 + (L.getD k (0, 0)).2)) := Lib.hid rfl
  have HA := Lib.hid ha
  have g1 : (0 : Int) ≤ (k : Int) := by omega
  have g2 : (k : Int) < (n : Int) := by omega
  clear h hL ha
  generalize (L.getD k (0, 0)).1 = p at c1 hv HP
  generalize (L.getD k (0, 0)).2 = q at c2 hv HP
  obtain ⟨v1, v2, v3⟩ := hv
  have HN : Hid (∀ m, At w ((W.alloc (.cells #[.int .i64 p, .int .i64 q] 75)).drewN m)) := Lib.hid (fun m => (HA.out.alloc _).drewN m)
  go_enter Try.func60, Try.ntmps60
  go_wp2
  go_region_held3 (fun w' => w'.cell? ⟨x, 0, none⟩ = some (.slice (some ⟨g, o, none⟩) n c) ∧ w'.cell? ⟨y, 0, none⟩ = some (.int .i64 b) ∧ w'.cell? ⟨g, o + k * 2, none⟩ = some (.int .i64 p) ∧ w'.cell? ⟨g, o + k * 2 + 1, none⟩ = some (.int .i64 q)) (go_keep)
    (first | (go_at_call 47; refine (after_any _ _ _ (by omega) (by omega) (by omega) (by omega)).mono ?_; rintro e w' ⟨rfl, rfl⟩))
  go_wp2
  go_ret
  exact ⟨by rw [HP.out]; rfl, HN.out 1⟩

set_option maxHeartbeats 1000000 in
set_option maxRecDepth 100000 in
theorem starts_test {w W : World} {x y n c : Nat} {A : Option Addr} {L : List (Int × Int)} {b : Int} (h : Sd W x y A n c L b) (ha : At w W) {k : Nat} (hk : k < n) :
    Calls Try.prog 61 #[.int .i64 (k : Int), .pointer (some ⟨x, 0, none⟩), .pointer (some ⟨y, 0, none⟩)] W fun e w' => e = .returned (.bool (ps L b k)) ∧ At w w' := by
  obtain ⟨g, o, rfl, c1, c2⟩ := h.at_ hk
  have c3 := h.sl
  have c4 := h.bk
  have HP : Hid (ps L b k = decide (b < (L.getD k (0, 0)).1)) := Lib.hid rfl
  have HA := Lib.hid ha
  have g1 : (0 : Int) ≤ (k : Int) := by omega
  have g2 : (k : Int) < (n : Int) := by omega
  clear h ha c2
  generalize (L.getD k (0, 0)).1 = p at c1 HP
  have HN : Hid (∀ m, At w (W.drewN m)) := Lib.hid (fun m => HA.out.drewN m)
  go_enter Try.func61, Try.ntmps61
  go_wp2
  go_quiet (fail)
  go_wp2
  go_ret
  exact ⟨by rw [HP.out]; rfl, HN.out _⟩

theorem enters_ends : ∀ args w, (callFunc 60 args).run Try.prog w = .ok (.enter 60 args) w := enters_of Try.func60 (by kernel_rfl) rfl
theorem enters_starts : ∀ args w, (callFunc 61 args).run Try.prog w = .ok (.enter 61 args) w := enters_of Try.func61 (by kernel_rfl) rfl
/-- The two boxes of a search. -/
theorem sd_new {w : World} {A : Option Addr} {n c : Nat} {L : List (Int × Int)} (b : Int) (hl : L.length = n) (hx : EV w A L) :
    Sd ((w.alloc (.cells #[.slice A n c] 47)).alloc (.cells #[.int .i64 b] 3)) w.heap.size (w.heap.size + 1) A n c L b := by
  refine ⟨?_, ?_, hx.on (((At.start w).alloc _).alloc _), hl, by simp; omega, by simp⟩
  · rw [World.cell?_alloc_lt _ _ _ (by simp), cell_at (heap_alloc_new w _)]; rfl
  · have h := heap_alloc_new (w.alloc (.cells #[.slice A n c] 47)) (.cells #[.int .i64 b] 3)
    rw [show (w.alloc (.cells #[.slice A n c] 47)).heap.size = w.heap.size + 1 by simp] at h
    rw [cell_at h]; rfl

set_option maxHeartbeats 1000000 in
set_option maxRecDepth 100000 in
theorem ends_any (A : Option Addr) (n c : Nat) (L : List (Int × Int)) (b : Int) (w : World) (hn : n ≤ 1000000) (hl : L.length = n) (hx : EV w A L) (hL : ∀ e ∈ L, Vm e) :
    Calls Try.prog 45 #[.slice A n c, .int .i64 b] w (Found (pe L b) n w) := by
  have hs := sd_new (c := c) b hl hx
  have HB : Hid (At w ((w.alloc (.cells #[.slice A n c] 47)).alloc (.cells #[.int .i64 b] 3))) := Lib.hid (((At.start w).alloc _).alloc _)
  have hse := search_any n hn 60 (.pointer (some ⟨w.heap.size, 0, none⟩)) (.pointer (some ⟨w.heap.size + 1, 0, none⟩)) (pe L b) _ (fun W hW k hk => ends_test (hs.on hW) (At.start W) hL hk) enters_ends
  have HS := Lib.hid hse
  clear hs hse hl hx hL
  go_enter Try.func45, Try.ntmps45
  go_wp2_with fail
  refine HS.out.mono ?_
  rintro e w' ⟨i, hi, rfl, hA⟩
  have HI := Lib.hid (And.intro hi (HB.out.next hA))
  clear hi hA
  go_wp2
  go_ret
  exact ⟨i, HI.out.1, rfl, HI.out.2⟩

set_option maxHeartbeats 1000000 in
set_option maxRecDepth 100000 in
theorem starts_any (A : Option Addr) (n c : Nat) (L : List (Int × Int)) (b : Int) (w : World) (hn : n ≤ 1000000) (hl : L.length = n) (hx : EV w A L) :
    Calls Try.prog 46 #[.slice A n c, .int .i64 b] w (Found (ps L b) n w) := by
  have hs := sd_new (c := c) b hl hx
  have HB : Hid (At w ((w.alloc (.cells #[.slice A n c] 47)).alloc (.cells #[.int .i64 b] 3))) := Lib.hid (((At.start w).alloc _).alloc _)
  have hse := search_any n hn 61 (.pointer (some ⟨w.heap.size, 0, none⟩)) (.pointer (some ⟨w.heap.size + 1, 0, none⟩)) (ps L b) _ (fun W hW k hk => starts_test (hs.on hW) (At.start W) hk) enters_starts
  have HS := Lib.hid hse
  clear hs hse hl hx
  go_enter Try.func46, Try.ntmps46
  go_wp2_with fail
  refine HS.out.mono ?_
  rintro e w' ⟨i, hi, rfl, hA⟩
  have HI := Lib.hid (And.intro hi (HB.out.next hA))
  clear hi hA
  go_wp2
  go_ret
  exact ⟨i, HI.out.1, rfl, HI.out.2⟩

end Go.Proofs.Ythaiddhbifakhaa.Iv
