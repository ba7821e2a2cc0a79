/- Proved: the law FrameApart answers true at any two blocks and leaves what there was as it was: unlike blocks are written unlike; a body with a nought more at its end is another one. -/
import Derived.Test.YtkohkpmpbcgodaaLaw
import Derived.Test.YtkohkpmpbcgodaaApp
import Derived.Deep.RegionHeld3
import Derived.Deep.DrawnRows
namespace Go.Proofs.Ytkohkpmpbcgodaa
open Go.RowKit
attribute [local go_sem ↓] Go.wp_at_zero Go.wp_at_succ

set_option maxHeartbeats 1000000 in
set_option maxRecDepth 100000 in
theorem apart_big1 (k e s l k' e' s' l' : Int) (A A' : Option Addr) (n c n' c' : Nat) (h : 39 < n) (w : World) :
    Calls Try.prog 7 #[.agg #[.int .i64 k, .int .i64 e, .int .i64 s, .int .i64 l, .slice A n c], .agg #[.int .i64 k', .int .i64 e', .int .i64 s', .int .i64 l', .slice A' n' c']] w (Gives (.bool true) w) := by
  have q : decide ((39 : Int) < (n : Int)) = true := decide_eq_true (by omega)
  have HA := Lib.hid (((At.start w).alloc (.cells #[.int .i64 k, .int .i64 e, .int .i64 s, .int .i64 l, .slice A n c] 24)).alloc (.cells #[.int .i64 k', .int .i64 e', .int .i64 s', .int .i64 l', .slice A' n' c'] 24))
  go_enter Try.func7, Try.ntmps7
  go_wp2_with (go_at_call 8; refine (awake_any _).mono ?_; rintro x w' ⟨rfl, hb⟩)
  go_ret
  exact ⟨rfl, HA.out.next hb⟩

set_option maxHeartbeats 1000000 in
set_option maxRecDepth 100000 in
theorem apart_big2 (k e s l k' e' s' l' : Int) (A A' : Option Addr) (n c n' c' : Nat) (h0 : n ≤ 39) (h : 300 < n') (w : World) :
    Calls Try.prog 7 #[.agg #[.int .i64 k, .int .i64 e, .int .i64 s, .int .i64 l, .slice A n c], .agg #[.int .i64 k', .int .i64 e', .int .i64 s', .int .i64 l', .slice A' n' c']] w (Gives (.bool true) w) := by
  have q0 : decide ((39 : Int) < (n : Int)) = false := decide_eq_false (by omega)
  have q : decide ((300 : Int) < (n' : Int)) = true := decide_eq_true (by omega)
  have HA := Lib.hid (((At.start w).alloc (.cells #[.int .i64 k, .int .i64 e, .int .i64 s, .int .i64 l, .slice A n c] 24)).alloc (.cells #[.int .i64 k', .int .i64 e', .int .i64 s', .int .i64 l', .slice A' n' c'] 24))
  go_enter Try.func7, Try.ntmps7
  go_wp2_with (go_at_call 8; refine (awake_any _).mono ?_; rintro x w' ⟨rfl, hb⟩)
  go_ret
  exact ⟨rfl, HA.out.next hb⟩

/-- Encode hands back a slice and a number. -/
theorem encode_some (k e s l : Int) (A : Option Addr) (n c : Nat) (L : List Nat) (hl : L.length = n) (hL : AllB L) : ∃ r : Nat, (r = 0 ↔ Nums k e s l ∧ n ≤ 40) ∧
    ∀ w, BV w A L → Calls Try.prog 9 #[.agg #[.int .i64 k, .int .i64 e, .int .i64 s, .int .i64 l, .slice A n c]] w fun x w' => ∃ B m d, x = .returned (.tuple #[.slice B m d, .int .i64 (r : Int)]) ∧ At w w' := by
  rcases encode_ways k e s l n L hl hL with ⟨k', e', s', l', rfl, rfl, rfl, rfl, hm⟩ | ⟨hn, r, hr, _, he⟩
  · have h1 := hm.k1; have h2 := hm.k4; have h3 := hm.e32; have h4 := hm.s40; have h5 := hm.l20; have h6 := hm.n
    refine ⟨0, ⟨fun _ => ⟨⟨by omega, by omega, by omega, by omega⟩, by omega⟩, fun _ => rfl⟩, fun w hx => ?_⟩
    refine (encode_yes A k' e' s' l' n c L hm hl w hx).mono ?_
    rintro x w' ⟨g, rfl, _, _, h⟩
    exact ⟨_, _, _, rfl, h⟩
  · refine ⟨r, ⟨fun h => by omega, fun h => absurd h hn⟩, fun w _ => ?_⟩
    refine (he A c w).mono ?_
    rintro x w' ⟨rfl, h⟩
    exact ⟨_, _, _, rfl, h⟩

set_option maxHeartbeats 1000000 in
set_option maxRecDepth 100000 in
theorem apart_no1 (k e s l k' e' s' l' : Int) (A A' : Option Addr) (n c n' c' : Nat) (L L' : List Nat) (h39 : n ≤ 39) (h300 : n' ≤ 300) (ra rb : Nat) (h : ra ≠ 0)
    (h1 : ∀ w, BV w A L → Calls Try.prog 9 #[.agg #[.int .i64 k, .int .i64 e, .int .i64 s, .int .i64 l, .slice A n c]] w fun x w' => ∃ B m d, x = .returned (.tuple #[.slice B m d, .int .i64 (ra : Int)]) ∧ At w w')
    (h2 : ∀ w, BV w A' L' → Calls Try.prog 9 #[.agg #[.int .i64 k', .int .i64 e', .int .i64 s', .int .i64 l', .slice A' n' c']] w fun x w' => ∃ B m d, x = .returned (.tuple #[.slice B m d, .int .i64 (rb : Int)]) ∧ At w w') (w : World) (hx : BV w A L) (hy : BV w A' L') :
    Calls Try.prog 7 #[.agg #[.int .i64 k, .int .i64 e, .int .i64 s, .int .i64 l, .slice A n c], .agg #[.int .i64 k', .int .i64 e', .int .i64 s', .int .i64 l', .slice A' n' c']] w (Gives (.bool true) w) := by
  have q1 : ((ra : Int) != 0) = true := by simp; omega
  have q2 : decide ((39 : Int) < (n : Int)) = false := decide_eq_false (by omega)
  have q3 : decide ((300 : Int) < (n' : Int)) = false := decide_eq_false (by omega)
  have HA := Lib.hid (((At.start w).alloc (.cells #[.int .i64 k, .int .i64 e, .int .i64 s, .int .i64 l, .slice A n c] 24)).alloc (.cells #[.int .i64 k', .int .i64 e', .int .i64 s', .int .i64 l', .slice A' n' c'] 24))
  have HE1 := Lib.hid h1
  have HE2 := Lib.hid h2
  have HX := Lib.hid hx
  have HY := Lib.hid hy
  clear h1 h2 hx hy
  go_enter Try.func7, Try.ntmps7
  go_wp2_with fail
  obtain ⟨wa, hwa⟩ : ∃ wa, wa = (w.alloc (.cells #[.int .i64 k, .int .i64 e, .int .i64 s, .int .i64 l, .slice A n c] 24)).alloc (.cells #[.int .i64 k', .int .i64 e', .int .i64 s', .int .i64 l', .slice A' n' c'] 24) := ⟨_, rfl⟩
  obtain ⟨b1, hb1⟩ : ∃ b, b = w.heap.size := ⟨_, rfl⟩
  have B1 : Bx wa b1 24 k e s l (.slice A n c) := by rw [hwa, hb1]; exact (bx_new _ _ _ _ _ _ _).on ((Below.refl _ _).alloc (Nat.le_refl _) _)
  have B2 : Bx wa (b1 + 1) 24 k' e' s' l' (.slice A' n' c') := by
    rw [hwa, hb1]
    have := bx_new (w.alloc (.cells #[.int .i64 k, .int .i64 e, .int .i64 s, .int .i64 l, .slice A n c] 24)) 24 k' e' s' l' (.slice A' n' c')
    simpa using this
  rw [← hwa, ← hb1]
  rw [← hwa] at HA
  have HB2 := Lib.hid B2
  clear hwa hb1 B1 B2
  refine (made_any _ _ _ _ A n c _).mono ?_
  rintro x w1 ⟨rfl, a1⟩
  have A1 := Lib.hid (HA.out.next a1)
  have HB3 := Lib.hid (HB2.out.on a1)
  clear a1
  go_wp2_with fail
  refine (HE1.out _ (A1.out.bv HX.out)).mono ?_
  rintro x w2 ⟨B, m, d, rfl, a2⟩
  have A2 := Lib.hid (A1.out.next a2)
  have HB4 := HB3.out.on a2
  obtain ⟨c0, c1, c2, c3, c4⟩ := HB4.cells
  clear a2 HB4 HB3 HB2
  go_wp2_with fail
  refine (made_any _ _ _ _ A' n' c' _).mono ?_
  rintro x w3 ⟨rfl, a3⟩
  have A3 := Lib.hid (A2.out.next a3)
  clear a3
  go_wp2_with fail
  refine (HE2.out _ (A3.out.bv HY.out)).mono ?_
  rintro x w4 ⟨B', m', d', rfl, a4⟩
  have A4 := Lib.hid (A3.out.next a4)
  clear a4
  go_wp2_with fail
  refine (awake_any _).mono ?_
  rintro x w5 ⟨rfl, a5⟩
  have A5 := Lib.hid (A4.out.next a5)
  clear a5
  go_wp2
  go_ret
  exact ⟨rfl, A5.out⟩

set_option maxHeartbeats 1000000 in
set_option maxRecDepth 100000 in
theorem apart_no2 (k e s l k' e' s' l' : Int) (A A' : Option Addr) (n c n' c' : Nat) (L L' : List Nat) (h39 : n ≤ 39) (h300 : n' ≤ 300) (rb : Nat) (h : rb ≠ 0)
    (h1 : ∀ w, BV w A L → Calls Try.prog 9 #[.agg #[.int .i64 k, .int .i64 e, .int .i64 s, .int .i64 l, .slice A n c]] w fun x w' => ∃ B m d, x = .returned (.tuple #[.slice B m d, .int .i64 0]) ∧ At w w')
    (h2 : ∀ w, BV w A' L' → Calls Try.prog 9 #[.agg #[.int .i64 k', .int .i64 e', .int .i64 s', .int .i64 l', .slice A' n' c']] w fun x w' => ∃ B m d, x = .returned (.tuple #[.slice B m d, .int .i64 (rb : Int)]) ∧ At w w') (w : World) (hx : BV w A L) (hy : BV w A' L') :
    Calls Try.prog 7 #[.agg #[.int .i64 k, .int .i64 e, .int .i64 s, .int .i64 l, .slice A n c], .agg #[.int .i64 k', .int .i64 e', .int .i64 s', .int .i64 l', .slice A' n' c']] w (Gives (.bool true) w) := by
  have q1 : ((rb : Int) != 0) = true := by simp; omega
  have q2 : decide ((39 : Int) < (n : Int)) = false := decide_eq_false (by omega)
  have q3 : decide ((300 : Int) < (n' : Int)) = false := decide_eq_false (by omega)
  have HA := Lib.hid (((At.start w).alloc (.cells #[.int .i64 k, .int .i64 e, .int .i64 s, .int .i64 l, .slice A n c] 24)).alloc (.cells #[.int .i64 k', .int .i64 e', .int .i64 s', .int .i64 l', .slice A' n' c'] 24))
  have HE1 := Lib.hid h1
  have HE2 := Lib.hid h2
  have HX := Lib.hid hx
  have HY := Lib.hid hy
  clear h1 h2 hx hy
  go_enter Try.func7, Try.ntmps7
  go_wp2_with fail
  obtain ⟨wa, hwa⟩ : ∃ wa, wa = (w.alloc (.cells #[.int .i64 k, .int .i64 e, .int .i64 s, .int .i64 l, .slice A n c] 24)).alloc (.cells #[.int .i64 k', .int .i64 e', .int .i64 s', .int .i64 l', .slice A' n' c'] 24) := ⟨_, rfl⟩
  obtain ⟨b1, hb1⟩ : ∃ b, b = w.heap.size := ⟨_, rfl⟩
  have B1 : Bx wa b1 24 k e s l (.slice A n c) := by rw [hwa, hb1]; exact (bx_new _ _ _ _ _ _ _).on ((Below.refl _ _).alloc (Nat.le_refl _) _)
  have B2 : Bx wa (b1 + 1) 24 k' e' s' l' (.slice A' n' c') := by
    rw [hwa, hb1]
    have := bx_new (w.alloc (.cells #[.int .i64 k, .int .i64 e, .int .i64 s, .int .i64 l, .slice A n c] 24)) 24 k' e' s' l' (.slice A' n' c')
    simpa using this
  rw [← hwa, ← hb1]
  rw [← hwa] at HA
  have HB2 := Lib.hid B2
  clear hwa hb1 B1 B2
  refine (made_any _ _ _ _ A n c _).mono ?_
  rintro x w1 ⟨rfl, a1⟩
  have A1 := Lib.hid (HA.out.next a1)
  have HB3 := Lib.hid (HB2.out.on a1)
  clear a1
  go_wp2_with fail
  refine (HE1.out _ (A1.out.bv HX.out)).mono ?_
  rintro x w2 ⟨B, m, d, rfl, a2⟩
  have A2 := Lib.hid (A1.out.next a2)
  have HB4 := HB3.out.on a2
  obtain ⟨c0, c1, c2, c3, c4⟩ := HB4.cells
  clear a2 HB4 HB3 HB2
  go_wp2_with fail
  refine (made_any _ _ _ _ A' n' c' _).mono ?_
  rintro x w3 ⟨rfl, a3⟩
  have A3 := Lib.hid (A2.out.next a3)
  clear a3
  go_wp2_with fail
  refine (HE2.out _ (A3.out.bv HY.out)).mono ?_
  rintro x w4 ⟨B', m', d', rfl, a4⟩
  have A4 := Lib.hid (A3.out.next a4)
  clear a4
  go_wp2_with fail
  refine (awake_any _).mono ?_
  rintro x w5 ⟨rfl, a5⟩
  have A5 := Lib.hid (A4.out.next a5)
  clear a5
  go_wp2
  go_ret
  exact ⟨rfl, A5.out⟩

theorem at_drew {w w' : World} (h : At w.drew w') : At w w' := ⟨h.os, h.tape, h.output, h.size, h.block⟩
theorem more_byte {L : List Nat} (h : AllB L) : AllB (L ++ [0]) := allB_app h (fun c hc => by simp at hc; omega)
theorem zero_one : AllB [0] := fun c hc => by simp at hc; omega
theorem more_may {k e s l : Nat} {L : List Nat} (h : May k e s l L) (h39 : L.length ≤ 39) : May k e s l (L ++ [0]) := ⟨h.k1, h.k4, h.e32, h.s40, h.l20, by simp; omega, more_byte h.b⟩
theorem more_ne {k e s l : Nat} {L : List Nat} (h : May k e s l L) (h39 : L.length ≤ 39) : en k e s l L ≠ en k e s l (L ++ [0]) := fun he => by
  have := congrArg List.length ((en_inj h (more_may h h39)).1 he).2.2.2.2
  simp at this
theorem box_cells10 {w : World} {b1 b2 t : Nat} {k e s l k' e' s' l' : Int} {v v' : Value} (h1 : Bx w b1 t k e s l v) (h2 : Bx w b2 t k' e' s' l' v') :
    w.cell? ⟨b1, 0, none⟩ = some (.int .i64 k) ∧ w.cell? ⟨b1, 1, none⟩ = some (.int .i64 e) ∧ w.cell? ⟨b1, 2, none⟩ = some (.int .i64 s) ∧ w.cell? ⟨b1, 3, none⟩ = some (.int .i64 l) ∧ w.cell? ⟨b1, 4, none⟩ = some v ∧
    w.cell? ⟨b2, 0, none⟩ = some (.int .i64 k') ∧ w.cell? ⟨b2, 1, none⟩ = some (.int .i64 e') ∧ w.cell? ⟨b2, 2, none⟩ = some (.int .i64 s') ∧ w.cell? ⟨b2, 3, none⟩ = some (.int .i64 l') ∧ w.cell? ⟨b2, 4, none⟩ = some v' := by
  obtain ⟨x0, x1, x2, x3, x4⟩ := h1.cells
  obtain ⟨y0, y1, y2, y3, y4⟩ := h2.cells
  exact ⟨x0, x1, x2, x3, x4, y0, y1, y2, y3, y4⟩

set_option maxHeartbeats 4000000 in
set_option maxRecDepth 100000 in
theorem apart_yes (k e s l k' e' s' l' : Nat) (A A' : Option Addr) (n c n' c' : Nat) (L L' : List Nat) (h39 : n ≤ 39) (hm : May k e s l L) (hm' : May k' e' s' l' L') (hl : L.length = n) (hl' : L'.length = n') (hz : A = none → n = 0 ∧ c = 0) (w : World) (hx : BV w A L) (hy : BV w A' L') :
    Calls Try.prog 7 #[.agg #[.int .i64 (k : Int), .int .i64 (e : Int), .int .i64 (s : Int), .int .i64 (l : Int), .slice A n c], .agg #[.int .i64 (k' : Int), .int .i64 (e' : Int), .int .i64 (s' : Int), .int .i64 (l' : Int), .slice A' n' c']] w (Gives (.bool true) w) := by
  have hn' : n' ≤ 40 := by rw [← hl']; exact hm'.n
  have q2 : decide ((39 : Int) < (n : Int)) = false := decide_eq_false (by omega)
  have q3 : decide ((300 : Int) < (n' : Int)) = false := decide_eq_false (by omega)
  have HE1 := Lib.hid (fun w' (h : At w w') => encode_yes A k e s l n c L hm hl w' (h.bv hx))
  have HE2 := Lib.hid (fun w' (h : At w w') => encode_yes A' k' e' s' l' n' c' L' hm' hl' w' (h.bv hy))
  have HE3 := Lib.hid (fun A'' c'' w' hv => encode_yes A'' k e s l (n + 1) c'' (L ++ [0]) (more_may hm (by omega)) (by simp [hl]) w' hv)
  have hinj := en_inj hm hm'
  have hne := more_ne hm (by omega)
  have HL := Lib.hid hl
  have HL' := Lib.hid hl'
  have HLB := Lib.hid hm.b
  have HLB' := Lib.hid hm'.b
  have HX := Lib.hid hx
  have HY := Lib.hid hy
  have HZ := Lib.hid hz
  have hpz := en_some k e s l L hm.k1
  have hmr := more_may hm (by omega)
  have HPL : Hid ((en k e s l L).length = 64) := Lib.hid (en_len hm.n)
  have HPB : Hid (AllB (en k e s l L)) := Lib.hid (en_byte hm)
  have HQL : Hid ((en k' e' s' l' L').length = 64) := Lib.hid (en_len hm'.n)
  have HQB : Hid (AllB (en k' e' s' l' L')) := Lib.hid (en_byte hm')
  have HRL : Hid ((en k e s l (L ++ [0])).length = 64) := Lib.hid (en_len hmr.n)
  have HRB : Hid (AllB (en k e s l (L ++ [0]))) := Lib.hid (en_byte hmr)
  obtain ⟨P, hP⟩ : ∃ P, P = en k e s l L := ⟨_, rfl⟩
  obtain ⟨Q, hQ⟩ : ∃ P, P = en k' e' s' l' L' := ⟨_, rfl⟩
  obtain ⟨R, hR⟩ : ∃ P, P = en k e s l (L ++ [0]) := ⟨_, rfl⟩
  rw [← hP] at HE1 hinj hne hpz HPL HPB
  rw [← hQ] at HE2 hinj HQL HQB
  rw [← hR] at HE3 hne HRL HRB
  obtain ⟨x, hxe⟩ : ∃ x, x = decide (P = Q) := ⟨_, rfl⟩
  have HXE := Lib.hid hxe
  have HXS : Hid (decide ((k : Int) = (k' : Int) ∧ (e : Int) = (e' : Int) ∧ (s : Int) = (s' : Int) ∧ (l : Int) = (l' : Int) ∧ L = L') = x) := Lib.hid (by
    rw [hxe]
    congr 1
    rw [hinj]
    simp only [Int.natCast_inj])
  have HPR : Hid (decide (P = R) = false) := Lib.hid (decide_eq_false hne)
  have HPZ := Lib.hid hpz
  clear hm hm' hl hl' hx hy hz hP hQ hR hinj hne hpz hmr hxe
  go_enter Try.func7, Try.ntmps7
  go_wp2_with fail
  obtain ⟨wa, hwa⟩ : ∃ wa, wa = (w.alloc (.cells #[.int .i64 (k : Int), .int .i64 (e : Int), .int .i64 (s : Int), .int .i64 (l : Int), .slice A n c] 24)).alloc (.cells #[.int .i64 (k' : Int), .int .i64 (e' : Int), .int .i64 (s' : Int), .int .i64 (l' : Int), .slice A' n' c'] 24) := ⟨_, rfl⟩
  obtain ⟨b1, hb1⟩ : ∃ b, b = w.heap.size := ⟨_, rfl⟩
  have B1 : Bx wa b1 24 (k : Int) (e : Int) (s : Int) (l : Int) (.slice A n c) := by rw [hwa, hb1]; exact (bx_new _ _ _ _ _ _ _).on ((Below.refl _ _).alloc (Nat.le_refl _) _)
  have B2 : Bx wa (b1 + 1) 24 (k' : Int) (e' : Int) (s' : Int) (l' : Int) (.slice A' n' c') := by
    rw [hwa, hb1]
    have := bx_new (w.alloc (.cells #[.int .i64 (k : Int), .int .i64 (e : Int), .int .i64 (s : Int), .int .i64 (l : Int), .slice A n c] 24)) 24 (k' : Int) (e' : Int) (s' : Int) (l' : Int) (.slice A' n' c')
    simpa using this
  have HAw : At w wa := by rw [hwa]; exact ((At.start w).alloc _).alloc _
  obtain ⟨b2, hb2⟩ : ∃ b, b = b1 + 1 := ⟨_, rfl⟩
  rw [← hb2] at B2
  rw [← hwa, ← hb1, ← hb2]
  have HA := Lib.hid HAw
  have BA := Lib.hid B1
  have BB := Lib.hid B2
  clear hwa hb1 hb2 B1 B2 HAw
  refine (made_any _ _ _ _ A n c _).mono ?_
  rintro x1 w1 ⟨rfl, a1⟩
  have G1 := Lib.hid a1
  clear a1
  go_wp2_with fail
  refine (HE1.out _ (HA.out.next G1.out)).mono ?_
  rintro x2 w2 ⟨gp, rfl, _, hv2, a2⟩
  have G2 : Hid (At wa w2) := Lib.hid (At.next G1.out a2)
  have HVP := Lib.hid hv2
  obtain ⟨c0, c1, c2, c3, c4⟩ := (BB.out.on G2.out).cells
  clear a2 G1 hv2
  go_wp2_with fail
  refine (made_any _ _ _ _ A' n' c' _).mono ?_
  rintro x3 w3 ⟨rfl, a3⟩
  have G3 := Lib.hid a3
  clear a3 c0 c1 c2 c3 c4
  go_wp2_with fail
  refine (HE2.out _ (HA.out.next (At.next G2.out G3.out))).mono ?_
  rintro x4 w4 ⟨gq, rfl, _, hv4, a4⟩
  have G4 : Hid (At wa w4) := Lib.hid (At.next (At.next G2.out G3.out) a4)
  have HVP4 := Lib.hid (HVP.out.below (Below.trans G3.out (a4.mono G3.out.size)))
  have HVQ := Lib.hid hv4
  clear a4 hv4 HVP G2 G3
  obtain ⟨c0, c1, c2, c3, c4⟩ := (BA.out.on G4.out).cells
  obtain ⟨x9, hx9⟩ : ∃ x, x = w4.heap.size := ⟨_, rfl⟩
  obtain ⟨w5, hw5⟩ : ∃ w5, w5 = w4.alloc (.cells #[.int .i64 (k : Int), .int .i64 (e : Int), .int .i64 (s : Int), .int .i64 (l : Int), .slice A n c] 24) := ⟨_, rfl⟩
  have X5 : Hid (Bx w5 x9 24 (k : Int) (e : Int) (s : Int) (l : Int) (.slice A n c)) := Lib.hid (by rw [hw5, hx9]; exact bx_new _ _ _ _ _ _ _)
  have g5 : At w4 w5 := by rw [hw5]; exact (At.start w4).alloc _
  have G5 : Hid (At wa w5) := Lib.hid (At.next G4.out g5)
  have HS5 : Hid (x9 + 1 = w5.heap.size) := Lib.hid (by rw [hw5, hx9]; simp)
  have c5 : ((w4.alloc (.cells #[.int .i64 (k : Int), .int .i64 (e : Int), .int .i64 (s : Int), .int .i64 (l : Int), .slice A n c] 24)).alloc (.cells #[] 5)).cell? ⟨b1, 4, none⟩ = some (.slice A n c) := by
    rw [← hw5]
    exact ((BA.out.on G5.out).on ((Below.refl _ _).alloc (Nat.le_refl _) _)).cells.2.2.2.2
  have HM := Lib.hid (made_own w5)
  have HW5 := Lib.hid hw5
  have HX9 := Lib.hid hx9
  have G4s : Hid (wa.heap.size ≤ w4.heap.size) := Lib.hid G4.out.size
  have G45 : Hid (At w4 w5) := Lib.hid g5
  have HVPW : Hid (∀ w', At w4 w' → BV w' (some ⟨gp, 0, none⟩) P) := Lib.hid (fun _ h => HVP4.out.below h)
  have HVQW : Hid (∀ w', At w4 w' → BV w' (some ⟨gq, 0, none⟩) Q) := Lib.hid (fun _ h => HVQ.out.below h)
  clear g5 hw5 hx9 HVP4 HVQ G4
  go_wp2_with (first
    | (at_builtin; rw [← HW5.out, ← HX9.out, HS5.out]; refine list_append rfl (.tmp 43) (.tmp 45) rfl w5.heap.size _ 0 [] rfl HM.out A n c L rfl HZ.out ((HA.out.next (At.alloc G5.out _)).bv HX.out) HL.out (by omega) (by simp) ?_; intro v7 w7 ho7 hb7; rw [Nat.zero_add, List.nil_append] at ho7; have G7 := hb7 w5 ((At.start w5).alloc _) (Nat.le_refl _); clear hb7)
    | (at_builtin; refine list_append rfl (.tmp 46) (.tmp 47) rfl w5.heap.size _ n L rfl (ho7.alloc _) (some ⟨w7.heap.size, 0, none⟩) 1 1 [0] rfl (fun h => by cases h) (row_new w7 #[.int .u8 0] [0] rfl).bv rfl (by omega) (by simp; have := G7.size; omega) ?_; intro v8 w8 ho8 hb8; obtain ⟨A8, c8, rfl, hl8, hv8⟩ := own_view ho8; have G8 := hb8 w5 (At.alloc G7 _) (Nat.le_refl _); have HX8 := Lib.hid (X5.out.on G8); obtain ⟨e0, e1, e2, e3, e4⟩ := HX8.out.cells; have f4 := HX8.out.free 4; clear hb8 G7 ho7))
  obtain ⟨w9, hw9⟩ : ∃ w9, w9 = w8.setCell ⟨x9, 4, none⟩ (.slice A8 (n + 1) c8) := ⟨_, rfl⟩
  rw [← hw9]
  have lx : x9 < w5.heap.size := by have := HS5.out; omega
  have ho9 : w9.ownsRow w5.heap.size 5 1 (.slice A8 (n + 1) c8) (n + 1) ((L ++ [0]).map bt) := by rw [hw9]; exact ownsRow_setCell_below ho8 (a := ⟨x9, 4, none⟩) lx _
  have wax : wa.heap.size ≤ x9 := by rw [HX9.out]; exact G4s.out
  have G9 : Hid (At wa w9) := Lib.hid (by rw [hw9]; exact Below.setCell (p := ⟨x9, 4, none⟩) (At.next G5.out G8) wax _)
  have HVP9 : Hid (BV w9 (some ⟨gp, 0, none⟩) P) := Lib.hid (by rw [hw9]; exact HVPW.out _ (Below.setCell (p := ⟨x9, 4, none⟩) (At.next G45.out G8) (by rw [← HX9.out]; exact Nat.le_refl _) _))
  have HVQ9 : Hid (BV w9 (some ⟨gq, 0, none⟩) Q) := Lib.hid (by rw [hw9]; exact HVQW.out _ (Below.setCell (p := ⟨x9, 4, none⟩) (At.next G45.out G8) (by rw [← HX9.out]; exact Nat.le_refl _) _))
  have HV9 := Lib.hid (own_bv ho9).2
  clear hw9 ho8 ho9 G8 HX8 e0 e1 e2 e3 e4 f4 hl8 hv8
  refine (made_any _ _ _ _ A8 (n + 1) c8 _).mono ?_
  rintro x10 w10 ⟨rfl, a10⟩
  have HV10 := Lib.hid (HV9.out.below a10)
  have G10 := Lib.hid a10
  clear a10
  go_wp2_with fail
  refine (HE3.out A8 c8 w10 HV10.out).mono ?_
  rintro x11 w11 ⟨gr, rfl, _, hv11, a11⟩
  have G911 : At w9 w11 := At.next G10.out a11
  have HA11 := Lib.hid (HA.out.next (At.next G9.out G911))
  have BA11 := Lib.hid ((BA.out.on G9.out).on G911)
  have BB11 := Lib.hid ((BB.out.on G9.out).on G911)
  have VP := Lib.hid (HVP9.out.below G911)
  have VQ := Lib.hid (HVQ9.out.below G911)
  have VR := Lib.hid hv11
  clear hv11 a11 G911 G10 G9 HVP9 HVQ9 HV9 HV10 HVPW HVQW c0 c1 c2 c3 c4 c5
  have K1 := Lib.hid (bytes_all (some ⟨gp, 0, none⟩) (some ⟨gq, 0, none⟩) 64 64 64 64 P Q w11.drew (by omega) HPL.out HQL.out HPB.out HQB.out (VP.out.drewN 1) (VQ.out.drewN 1))
  rw [← HXE.out] at K1
  have K2 := Lib.hid (fun w' (h : At w11 w') => same_any (k : Int) (e : Int) (s : Int) (l : Int) (k' : Int) (e' : Int) (s' : Int) (l' : Int) A A' n c n' c' L L' (by omega) HL.out HL'.out HLB.out HLB'.out w' ((HA11.out.next h).bv HX.out) ((HA11.out.next h).bv HY.out))
  rw [HXS.out] at K2
  have K3 := Lib.hid (fun w' (h : At w11 w') => bytes_all (some ⟨gp, 0, none⟩) (some ⟨gr, 0, none⟩) 64 64 64 64 P R w' (by omega) HPL.out HRL.out HPB.out HRB.out (VP.out.below h) (VR.out.below h))
  rw [HPR.out] at K3
  have K4 := Lib.hid (fun w' (h : At w11 w') => plain_any (some ⟨gp, 0, none⟩) 64 64 P (by omega) HPL.out HPB.out w' (VP.out.below h))
  rw [HPZ.out, Bool.and_false] at K4
  obtain ⟨x0, x1, x2, x3, x4, y0, y1, y2, y3, y4⟩ := box_cells10 BA11.out BB11.out
  go_wp2_with fail
  go_region_held3 (fun w' => w'.cell? ⟨b1, 0, none⟩ = some (.int .i64 (k : Int)) ∧ w'.cell? ⟨b1, 1, none⟩ = some (.int .i64 (e : Int)) ∧ w'.cell? ⟨b1, 2, none⟩ = some (.int .i64 (s : Int)) ∧ w'.cell? ⟨b1, 3, none⟩ = some (.int .i64 (l : Int)) ∧ w'.cell? ⟨b1, 4, none⟩ = some (.slice A n c) ∧
      w'.cell? ⟨b2, 0, none⟩ = some (.int .i64 (k' : Int)) ∧ w'.cell? ⟨b2, 1, none⟩ = some (.int .i64 (e' : Int)) ∧ w'.cell? ⟨b2, 2, none⟩ = some (.int .i64 (s' : Int)) ∧ w'.cell? ⟨b2, 3, none⟩ = some (.int .i64 (l' : Int)) ∧ w'.cell? ⟨b2, 4, none⟩ = some (.slice A' n' c'))
    (first | go_keep | exact box_cells10 (BA11.out.on h12) (BB11.out.on h12) | exact box_cells10 (BA11.out.on h13) (BB11.out.on h13) | exact box_cells10 (BA11.out.on h14) (BB11.out.on h14) | exact box_cells10 (BA11.out.on h15) (BB11.out.on h15) | exact box_cells10 (BA11.out.on h16) (BB11.out.on h16))
    (first
      | (go_at_call 14; (with_reducible refine K1.out.mono ?_); rintro z12 w12 ⟨rfl, h12⟩; replace h12 := at_drew h12)
      | (go_at_call 10; refine (made_any (k : Int) (e : Int) (s : Int) (l : Int) A n c w12).mono ?_; rintro z13 w13 ⟨rfl, h13⟩; replace h13 := At.next h12 h13)
      | (go_at_call 15; (with_reducible refine (K2.out _ h13).mono ?_); rintro z14 w14 ⟨rfl, h14⟩; replace h14 := At.next h13 h14)
      | (go_at_call 14; (with_reducible refine (K3.out _ h14).mono ?_); rintro z15 w15 ⟨rfl, h15⟩; replace h15 := At.next h14 h15)
      | (go_at_call 16; (with_reducible refine (K4.out _ h15).mono ?_); rintro z16 w' ⟨rfl, rfl⟩)
      | (go_at_call 8; refine (awake_any w15).mono ?_; rintro z17 w16 ⟨rfl, h16⟩; replace h16 := At.next h15 h16))
  go_wp2
  go_ret
  exact ⟨rfl, HA11.out.next h16⟩


theorem apart_any (k e s l k' e' s' l' : Int) (A A' : Option Addr) (n c n' c' : Nat) (L L' : List Nat) (hl : L.length = n) (hl' : L'.length = n') (hL : AllB L) (hL' : AllB L') (hz : A = none → n = 0 ∧ c = 0) (w : World) (hx : BV w A L) (hy : BV w A' L') :
    Calls Try.prog 7 #[.agg #[.int .i64 k, .int .i64 e, .int .i64 s, .int .i64 l, .slice A n c], .agg #[.int .i64 k', .int .i64 e', .int .i64 s', .int .i64 l', .slice A' n' c']] w (Gives (.bool true) w) := by
  by_cases h39 : 39 < n
  · exact apart_big1 k e s l k' e' s' l' A A' n c n' c' h39 w
  by_cases h300 : 300 < n'
  · exact apart_big2 k e s l k' e' s' l' A A' n c n' c' (by omega) h300 w
  obtain ⟨ra, hra, ha⟩ := encode_some k e s l A n c L hl hL
  obtain ⟨rb, hrb, hb⟩ := encode_some k' e' s' l' A' n' c' L' hl' hL'
  by_cases h1 : ra = 0
  · subst h1
    by_cases h2 : rb = 0
    · subst h2
      obtain ⟨⟨⟨_, _⟩, ⟨_, _⟩, ⟨_, _⟩, ⟨_, _⟩⟩, h40⟩ := hra.1 rfl
      obtain ⟨⟨⟨_, _⟩, ⟨_, _⟩, ⟨_, _⟩, ⟨_, _⟩⟩, h40'⟩ := hrb.1 rfl
      obtain ⟨k, rfl⟩ : ∃ m : Nat, k = (m : Int) := ⟨k.toNat, by omega⟩
      obtain ⟨e, rfl⟩ : ∃ m : Nat, e = (m : Int) := ⟨e.toNat, by omega⟩
      obtain ⟨s, rfl⟩ : ∃ m : Nat, s = (m : Int) := ⟨s.toNat, by omega⟩
      obtain ⟨l, rfl⟩ : ∃ m : Nat, l = (m : Int) := ⟨l.toNat, by omega⟩
      obtain ⟨k', rfl⟩ : ∃ m : Nat, k' = (m : Int) := ⟨k'.toNat, by omega⟩
      obtain ⟨e', rfl⟩ : ∃ m : Nat, e' = (m : Int) := ⟨e'.toNat, by omega⟩
      obtain ⟨s', rfl⟩ : ∃ m : Nat, s' = (m : Int) := ⟨s'.toNat, by omega⟩
      obtain ⟨l', rfl⟩ : ∃ m : Nat, l' = (m : Int) := ⟨l'.toNat, by omega⟩
      exact apart_yes k e s l k' e' s' l' A A' n c n' c' L L' (by omega) ⟨by omega, by omega, by omega, by omega, by omega, by omega, hL⟩ ⟨by omega, by omega, by omega, by omega, by omega, by omega, hL'⟩ hl hl' hz w hx hy
    · exact apart_no2 k e s l k' e' s' l' A A' n c n' c' L L' (by omega) (by omega) rb h2 ha hb w hx hy
  · exact apart_no1 k e s l k' e' s' l' A A' n c n' c' L L' (by omega) (by omega) ra rb h1 ha hb w hx hy

end Go.Proofs.Ytkohkpmpbcgodaa
