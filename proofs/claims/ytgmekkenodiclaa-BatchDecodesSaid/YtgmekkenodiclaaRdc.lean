/- Proved: what the document's own Decode of 64 bytes answers, with the room of the body that it hands back. -/
import Derived.Test.YtgmekkenodiclaaRde
import Derived.Test.YtgmekkenodiclaaDc
namespace Go.Proofs.Ytgmekkenodiclaa
open Go.RowKit
attribute [local go_sem ↓] Go.wp_at_zero Go.wp_at_succ

set_option maxHeartbeats 2000000 in
set_option maxRecDepth 100000 in
theorem rdecode_row2 (A : Option Addr) (c : Nat) (P : List Nat) (hP : P.length = 64) (hB : AllB P) (w : World) (hx : BV w A P) (hc : 64 ≤ c) :
    Calls Try.prog 23 #[.slice A 64 c] w (Reads2 P w) := by
  obtain ⟨b1, o1, rfl, hlt, p1⟩ := hx.pos (by rw [hP]; omega)
  have HLT := Lib.hid hlt
  have HP := Lib.hid hP
  have HB := Lib.hid hB
  have HX := Lib.hid hx
  have HP1 := Lib.hid p1
  obtain ⟨k, hk⟩ : ∃ k, k = fk P := ⟨_, rfl⟩
  obtain ⟨n, hn⟩ : ∃ n, n = fn P := ⟨_, rfl⟩
  obtain ⟨e, he⟩ : ∃ e, e = fe P := ⟨_, rfl⟩
  obtain ⟨s, hs⟩ : ∃ s, s = fs P := ⟨_, rfl⟩
  obtain ⟨l, hl⟩ : ∃ l, l = fl P := ⟨_, rfl⟩
  have k256 : k < 256 := by rw [hk]; exact allB_at hB 0
  have n256 : n < 256 := by rw [hn]; exact allB_at hB 1
  have e32 : e < 4294967296 := by
    have := gt_lt _ (part_byte hB 2 4)
    rw [four_len P hP _ (by omega)] at this
    rw [he]; exact this
  have s64 : s < 18446744073709551616 := by
    have := gt_lt _ (part_byte hB 6 8)
    rw [eight_len P hP] at this
    rw [hs]; exact this
  have l32 : l < 4294967296 := by
    have := gt_lt _ (part_byte hB 14 4)
    rw [four_len P hP _ (by omega)] at this
    rw [hl]; exact this
  obtain ⟨r, hr⟩ : ∃ r, r = w.heap.size := ⟨_, rfl⟩
  obtain ⟨w1, hw1⟩ : ∃ w1, w1 = w.alloc (.cells #[.int .i64 0, .int .i64 0, .int .i64 0, .int .i64 0, .slice none 0 0] 63) := ⟨_, rfl⟩
  have R1 : Hid (Bx w1 r 63 0 0 0 0 (.slice none 0 0)) := Lib.hid (by rw [hw1, hr]; exact bx_new _ _ _ _ _ _ _)
  have A1 : Hid (At w w1) := Lib.hid (by rw [hw1]; exact (At.start w).alloc _)
  have X1 : Hid (BV w1 (some ⟨b1, o1, none⟩) P) := Lib.hid (A1.out.bv hx)
  have H2 : Hid (Calls Try.prog 41 #[.slice (some ⟨b1, o1 + 2, none⟩) 62 (c - 2), .int .i64 4] w1 fun x w' => x = .returned (.tuple #[.int .u64 (e : Int), .bool true]) ∧ w1 = w') := Lib.hid (by
    have := rget4 (some ⟨b1, o1 + 2, none⟩) 62 (c - 2) (P.drop 2) (by omega) (by rw [List.length_drop, hP]) (allB_drop hB 2) w1 (BV.drop X1.out 2)
    rwa [show gt ((P.drop 2).take 4) = e from he.symm] at this)
  have H6 : Hid (Calls Try.prog 41 #[.slice (some ⟨b1, o1 + 6, none⟩) 58 (c - 6), .int .i64 8] w1 fun x w' => x = .returned (.tuple #[.int .u64 (s : Int), .bool true]) ∧ w1 = w') := Lib.hid (by
    have := rget8 (some ⟨b1, o1 + 6, none⟩) 58 (c - 6) (P.drop 6) (by omega) (by rw [List.length_drop, hP]) (allB_drop hB 6) w1 (BV.drop X1.out 6)
    rwa [show gt ((P.drop 6).take 8) = s from hs.symm] at this)
  have H14 : Hid (Calls Try.prog 41 #[.slice (some ⟨b1, o1 + 14, none⟩) 50 (c - 14), .int .i64 4] w1 fun x w' => x = .returned (.tuple #[.int .u64 (l : Int), .bool true]) ∧ w1 = w') := Lib.hid (by
    have := rget4 (some ⟨b1, o1 + 14, none⟩) 50 (c - 14) (P.drop 14) (by omega) (by rw [List.length_drop, hP]) (allB_drop hB 14) w1 (BV.drop X1.out 14)
    rwa [show gt ((P.drop 14).take 4) = l from hl.symm] at this)
  have x0 : w1.cell? ⟨b1, o1, none⟩ = some (.int .u8 (k : Int)) := by
    have := (Below.cell A1.out (p := ⟨b1, o1 + 0, none⟩) hlt).trans (p1 0 (by rw [hP]; omega))
    rwa [show P.getD 0 0 = k from hk.symm, Nat.add_zero] at this
  have x1 : w1.cell? ⟨b1, o1 + 1, none⟩ = some (.int .u8 (n : Int)) := by
    have := (Below.cell A1.out (p := ⟨b1, o1 + 1, none⟩) hlt).trans (p1 1 (by rw [hP]; omega))
    rwa [show P.getD 1 0 = n from hn.symm] at this
  have HK := Lib.hid hk
  have HN := Lib.hid hn
  have HE := Lib.hid he
  have HS := Lib.hid hs
  have HL := Lib.hid hl
  have HR := Lib.hid hr
  have HW1 := Lib.hid hw1
  have n2 : ¬ c = 2 := by omega
  have n6 : ¬ c = 6 := by omega
  have n14 : ¬ c = 14 := by omega
  clear hP hB hx p1 hr hw1 hlt hk hn he hs hl
  go_enter Try.func23, Try.ntmps23
  go_wp2_with fail
  rw [← HW1.out, ← HR.out]
  refine H2.out.mono ?_
  rintro x w' ⟨rfl, rfl⟩
  go_wp2_with fail
  refine H6.out.mono ?_
  rintro x w' ⟨rfl, rfl⟩
  go_wp2_with fail
  have HSR : Hid (w.heap.size ≤ r) := Lib.hid (by rw [HR.out]; exact Nat.le_refl _)
  by_cases h3 : s ≤ 1099511627776
  rotate_left
  · have dh3 : decide (1099511627776 < (s : Int)) = true := decide_eq_true (by omega)
    have q0 := R1.out.free 0
    have q1 := R1.out.free 1
    have q2 := R1.out.free 2
    have q3 := R1.out.free 3
    have q4 := R1.out.free 4
    obtain ⟨r0, r1, r2, r3, r4⟩ := R1.out.cells
    refine H14.out.mono ?_
    rintro x w' ⟨rfl, rfl⟩
    go_wp2
    (try simp only [Exit.inBlock, Exit.then])
    have hf := fin_bx R1.out A1.out HSR.out 0 0 0 0 (.slice none 0 0)
    exact bodyPost_ret (results_block rfl _ _ r 0 0 0 0 (.slice none 0 0) _ Try.underlying63 info_rblk rfl hf.1) rfl (Or.inr ⟨fun h => h3 (by have := h.s40; have := HS.out; omega), rfl, hf.2⟩)
  have dh3 : decide (1099511627776 < (s : Int)) = false := decide_eq_false (by omega)
  by_cases h4 : l ≤ 1048576
  rotate_left
  · have dh4 : decide (1048576 < (l : Int)) = true := decide_eq_true (by omega)
    have q0 := R1.out.free 0
    have q1 := R1.out.free 1
    have q2 := R1.out.free 2
    have q3 := R1.out.free 3
    have q4 := R1.out.free 4
    obtain ⟨r0, r1, r2, r3, r4⟩ := R1.out.cells
    refine H14.out.mono ?_
    rintro x w' ⟨rfl, rfl⟩
    go_wp2
    (try simp only [Exit.inBlock, Exit.then])
    have hf := fin_bx R1.out A1.out HSR.out 0 0 0 0 (.slice none 0 0)
    exact bodyPost_ret (results_block rfl _ _ r 0 0 0 0 (.slice none 0 0) _ Try.underlying63 info_rblk rfl hf.1) rfl (Or.inr ⟨fun h => h4 (by have := h.l20; have := HL.out; omega), rfl, hf.2⟩)
  have dh4 : decide (1048576 < (l : Int)) = false := decide_eq_false (by omega)
  by_cases h5 : n ≤ 40
  rotate_left
  · have dh5 : decide (40 < (n : Int)) = true := decide_eq_true (by omega)
    have q0 := R1.out.free 0
    have q1 := R1.out.free 1
    have q2 := R1.out.free 2
    have q3 := R1.out.free 3
    have q4 := R1.out.free 4
    obtain ⟨r0, r1, r2, r3, r4⟩ := R1.out.cells
    refine H14.out.mono ?_
    rintro x w' ⟨rfl, rfl⟩
    go_wp2
    (try simp only [Exit.inBlock, Exit.then])
    have hf := fin_bx R1.out A1.out HSR.out 0 0 0 0 (.slice none 0 0)
    exact bodyPost_ret (results_block rfl _ _ r 0 0 0 0 (.slice none 0 0) _ Try.underlying63 info_rblk rfl hf.1) rfl (Or.inr ⟨fun h => h5 (by have := h.n; have := HN.out; omega), rfl, hf.2⟩)
  have dh5 : decide (40 < (n : Int)) = false := decide_eq_false (by omega)
  have wk : IntKind.i64.wrap (k : Int) = (k : Int) := by rw [IntKind.wrap_i64]; omega
  have we : IntKind.i64.wrap (e : Int) = (e : Int) := by rw [IntKind.wrap_i64]; omega
  have ws : IntKind.i64.wrap (s : Int) = (s : Int) := by rw [IntKind.wrap_i64]; omega
  have wl : IntKind.i64.wrap (l : Int) = (l : Int) := by rw [IntKind.wrap_i64]; omega
  have n18 : ¬ c = 18 := by omega
  have g1 : (18 : Int) ≤ 18 + (n : Int) := by omega
  have g2 : 18 + (n : Int) ≤ (c : Int) := by omega
  have t18 : (18 + (n : Int)).toNat = 18 + n := by omega
  have wr18 : IntKind.i64.wrap (18 + (n : Int)) = 18 + (n : Int) := by rw [IntKind.wrap_i64]; omega
  refine H14.out.mono ?_
  rintro x w' ⟨rfl, rfl⟩
  go_wp2_with fail
  obtain ⟨Y, hY⟩ : ∃ Y, Y = fb P := ⟨_, rfl⟩
  have hYl : Y.length = n := by rw [hY, fb, List.length_take, List.length_drop, HP.out, ← HN.out]; omega
  have hYb : BV w1 (some ⟨b1, o1 + 18, none⟩) Y := by
    have := (BV.drop X1.out 18).take n
    rw [hY, fb, ← HN.out]; exact this
  have HY := Lib.hid hY
  have HYL := Lib.hid hYl
  have HYV := Lib.hid hYb
  clear hY hYl hYb
  obtain ⟨G, hG⟩ : ∃ G, G = w1.heap.size := ⟨_, rfl⟩
  have HG := Lib.hid hG
  have M1 : Hid ((w1.alloc (.cells #[] 5)).drew.ownsRow G 5 1 (.slice (some ⟨w1.heap.size, 0, none⟩) 0 0) 0 (([] : List Nat).map bt)) := Lib.hid (by rw [hG]; exact own_drew (made_own w1))
  have P1 : Hid (∀ w', At w1 w' → w'.cell? ⟨b1, o1, none⟩ = some (.int .u8 (k : Int))) := Lib.hid (fun w' h => (Below.cell h (p := ⟨b1, o1, none⟩) (Nat.lt_of_lt_of_le HLT.out A1.out.size)).trans x0)
  have M2 : Hid (((w1.alloc (.cells #[] 5)).alloc (.cells #[.int .i64 0, .int .i64 0, .int .i64 0, .int .i64 0, .slice none 0 0] 63)).drew.ownsRow G 5 1 (.slice (some ⟨w1.heap.size, 0, none⟩) 0 0) 0 (([] : List Nat).map bt)) := Lib.hid (by rw [hG]; exact own_drew ((made_own w1).alloc _))
  have M3 : Hid (((w1.alloc (.cells #[.int .i64 0, .int .i64 0, .int .i64 0, .int .i64 0, .slice none 0 0] 63)).alloc (.cells #[] 5)).drew.ownsRow G 5 1 (.slice (some ⟨w1.heap.size + 1, 0, none⟩) 0 0) 0 (([] : List Nat).map bt)) := Lib.hid (by
    have := World.ownsRow_made (base := G) (e := 5) (size := 1) (w1.alloc (.cells #[.int .i64 0, .int .i64 0, .int .i64 0, .int .i64 0, .slice none 0 0] 63)) #[] 0 (by rw [hG]; simp) (by unfold maxLen; omega) rfl
    rw [show (w1.alloc (.cells #[.int .i64 0, .int .i64 0, .int .i64 0, .int .i64 0, .slice none 0 0] 63)).heap.size = w1.heap.size + 1 by simp] at this
    exact own_drew this)
  have X2 : Hid (Bx ((w1.alloc (.cells #[] 5)).alloc (.cells #[.int .i64 0, .int .i64 0, .int .i64 0, .int .i64 0, .slice none 0 0] 63)).drew (w1.heap.size + 1) 63 0 0 0 0 (.slice none 0 0)) := Lib.hid (by
    have := bx_new (w1.alloc (.cells #[] 5)) 63 0 0 0 0 (.slice none 0 0)
    rw [show (w1.alloc (.cells #[] 5)).heap.size = w1.heap.size + 1 by simp] at this
    exact this)
  have X3 : Hid (Bx ((w1.alloc (.cells #[.int .i64 0, .int .i64 0, .int .i64 0, .int .i64 0, .slice none 0 0] 63)).alloc (.cells #[] 5)).drew w1.heap.size 63 0 0 0 0 (.slice none 0 0)) := Lib.hid ((bx_new w1 63 0 0 0 0 (.slice none 0 0)).on (At.drewN ((At.start _).alloc _) 1))
  have D1 : At w1 (w1.alloc (.cells #[] 5)).drew := At.drewN ((At.start w1).alloc _) 1
  have D2 : At w1 ((w1.alloc (.cells #[] 5)).alloc (.cells #[.int .i64 0, .int .i64 0, .int .i64 0, .int .i64 0, .slice none 0 0] 63)).drew := At.drewN (((At.start w1).alloc _).alloc _) 1
  have D3 : At w1 ((w1.alloc (.cells #[.int .i64 0, .int .i64 0, .int .i64 0, .int .i64 0, .slice none 0 0] 63)).alloc (.cells #[] 5)).drew := At.drewN (((At.start w1).alloc _).alloc _) 1
  have AF : ∀ (W w7 : World) (v : Value) (n : Nat) (xs : List Value), At w1 W → W.ownsRow G 5 1 v n xs → W.grownBy w7 v.ownBlock → At w1 w7 := fun W w7 v n xs h ho hg =>
    Below.grown h hg h.size (fun j hj => by have := (ho.lt j hj).1; rw [hG] at this; exact this)
  have hrG : r < G := by rw [hG]; exact lt_heap R1.out
  have RG := Lib.hid hrG
  have ON : Hid (∀ (A : Option Addr) (c : Nat) (W : World), W.ownsRow G 5 1 (.slice A n c) n (Y.map bt) → ∀ a, A = some a → a.block ≠ r) := Lib.hid (fun A c W ho a ha e => by
    subst ha
    rcases ho.2 with ⟨h, _⟩ | ⟨g, cap, cur, h, hb, _⟩
    · cases h
    · injection h with h1
      injection h1 with h1
      subst h1
      have e : g = r := e
      omega)
  clear hrG
  have D1 := Lib.hid D1
  have D2 := Lib.hid D2
  have D3 := Lib.hid D3
  have AF := Lib.hid AF
  clear hG
  go_cut [11] from 14 (fun s11 wx => ∃ (x9 c9 : Nat) (A9 : Option Addr), s11 = .pointer (some ⟨x9, 0, none⟩) ∧ Hid (Bx wx x9 63 (k : Int) (e : Int) (s : Int) (l : Int) (.slice A9 n c9)) ∧ Hid (BV wx A9 Y) ∧ Hid (A9 = none → n = 0 ∧ c9 = 0) ∧ Hid (n ≤ c9) ∧ Hid (∀ a, A9 = some a → G ≤ a.block) ∧ Hid (∀ a, A9 = some a → a.block ≠ r) ∧ Hid (¬ r = x9) ∧ Hid (At w1 wx))
  case first =>
    go_region_held3 (fun w' => w'.cell? ⟨b1, o1, none⟩ = some (.int .u8 (k : Int))) (first | go_keep | exact P1.out _ a7 | exact P1.out _ (fin_bx x7 a7 (by omega) _ _ _ _ _).2 | exact P1.out _ (a7.alloc _))
      (first
        | ((with_reducible refine at_world (w1.alloc (.cells #[] 5)).drew ?_); refine step_bytes (by rfl) (.tmp 61) (.tmp 65) (by rfl) G _ 0 [] M1.out (by rfl) ⟨b1, o1 + 18, none⟩ n (c - 18) Y (by rfl) (HYV.out.below D1.out) HYL.out (by omega) (by rw [HG.out]; exact D1.out.size) ?_; intro v7 w7 o7 g7; have a7 := AF.out _ w7 _ _ _ D1.out M1.out g7; rw [Nat.zero_add, List.nil_append] at o7; obtain ⟨A7, c7, rfl, _, _⟩ := own_view o7)
        | ((with_reducible refine at_world ((w1.alloc (.cells #[] 5)).alloc (.cells #[.int .i64 0, .int .i64 0, .int .i64 0, .int .i64 0, .slice none 0 0] 63)).drew ?_); refine step_bytes (by rfl) (.tmp 61) (.tmp 65) (by rfl) G _ 0 [] M2.out (by rfl) ⟨b1, o1 + 18, none⟩ n (c - 18) Y (by rfl) (HYV.out.below D2.out) HYL.out (by omega) (by rw [HG.out]; exact D2.out.size) ?_; intro v7 w7 o7 g7; have a7 := AF.out _ w7 _ _ _ D2.out M2.out g7; have x7 := X2.out.grownBy g7 (by simp [Value.ownBlock]); rw [Nat.zero_add, List.nil_append] at o7; obtain ⟨A7, c7, rfl, _, _⟩ := own_view o7; obtain ⟨k0, k1, k2, k3, k4⟩ := x7.cells; have f0 := x7.free 0; have f1 := x7.free 1; have f2 := x7.free 2; have f3 := x7.free 3; have f4 := x7.free 4)
        | ((with_reducible refine at_world ((w1.alloc (.cells #[.int .i64 0, .int .i64 0, .int .i64 0, .int .i64 0, .slice none 0 0] 63)).alloc (.cells #[] 5)).drew ?_); refine step_bytes (by rfl) (.tmp 61) (.tmp 65) (by rfl) G _ 0 [] M3.out (by rfl) ⟨b1, o1 + 18, none⟩ n (c - 18) Y (by rfl) (HYV.out.below D3.out) HYL.out (by omega) (by rw [HG.out]; exact D3.out.size) ?_; intro v7 w7 o7 g7; have a7 := AF.out _ w7 _ _ _ D3.out M3.out g7; have x7 := X3.out.grownBy g7 (by simp [Value.ownBlock]); rw [Nat.zero_add, List.nil_append] at o7; obtain ⟨A7, c7, rfl, _, _⟩ := own_view o7; obtain ⟨k0, k1, k2, k3, k4⟩ := x7.cells; have f0 := x7.free 0; have f1 := x7.free 1; have f2 := x7.free 2; have f3 := x7.free 3; have f4 := x7.free 4))
    · go_wp2_with fail
      go_meet
      case rel => exact ⟨_, c7, A7, rfl, Lib.hid (bx_new _ _ _ _ _ _ _), Lib.hid ((own_bv o7).2.below ((Below.refl _ _).alloc (Nat.le_refl _) _)), Lib.hid (own_nil o7), Lib.hid (own_cap o7), Lib.hid (own_ge o7), Lib.hid (ON.out _ _ _ o7), Lib.hid (by have := a7.size; have := RG.out; have := HG.out; omega), Lib.hid (a7.alloc _)⟩
    · have hf := fin_bx x7 a7 (Nat.le_succ _) (k : Int) (e : Int) (s : Int) (l : Int) (.slice A7 n c7)
      have hv := own_fin_bv o7 x7 (by decide) (k : Int) (e : Int) (s : Int) (l : Int) (.slice A7 n c7)
      go_wp2_with fail
      go_meet
      case rel => exact ⟨_, c7, A7, rfl, Lib.hid hf.1, Lib.hid hv, Lib.hid (own_nil o7), Lib.hid (own_cap o7), Lib.hid (own_ge o7), Lib.hid (ON.out _ _ _ o7), Lib.hid (by have := RG.out; have := HG.out; omega), Lib.hid hf.2⟩
    · have hf := fin_bx x7 a7 (Nat.le_refl _) (k : Int) (e : Int) (s : Int) (l : Int) (.slice A7 n c7)
      have hv := own_fin_bv o7 x7 (by decide) (k : Int) (e : Int) (s : Int) (l : Int) (.slice A7 n c7)
      go_wp2_with fail
      go_meet
      case rel => exact ⟨_, c7, A7, rfl, Lib.hid hf.1, Lib.hid hv, Lib.hid (own_nil o7), Lib.hid (own_cap o7), Lib.hid (own_ge o7), Lib.hid (ON.out _ _ _ o7), Lib.hid (by have := RG.out; have := HG.out; omega), Lib.hid hf.2⟩
  obtain ⟨x9, c9, A9, rfl, X9, V9, N9, C9, GE9, NRV, NRX, D9⟩ := hcut
  clear M1 M2 M3 X2 X3 D1 D2 D3 AF P1
  obtain ⟨y0, y1, y2, y3, y4⟩ := X9.out.cells
  by_cases hk : 1 ≤ k ∧ k ≤ 4
  rotate_left
  · have KE := Lib.hid (rencode_no (k : Int) (e : Int) (s : Int) (l : Int) A9 n c9 (fun h => hk (by obtain ⟨⟨_, _⟩, _⟩ := h; omega)) wc)
    go_wp2_with fail
    refine KE.out.mono ?_
    rintro x wq ⟨rfl, hq⟩
    have AQ := At.next D9.out hq
    have RQ := Lib.hid (R1.out.on AQ)
    have AQ := Lib.hid (A1.out.next AQ)
    clear hq KE
    have q0 := RQ.out.free 0
    have q1 := RQ.out.free 1
    have q2 := RQ.out.free 2
    have q3 := RQ.out.free 3
    have q4 := RQ.out.free 4
    obtain ⟨r0, r1, r2, r3, r4⟩ := RQ.out.cells
    go_wp2
    (try simp only [Exit.inBlock, Exit.then])
    have hf := fin_bx RQ.out AQ.out HSR.out 0 0 0 0 (.slice none 0 0)
    exact bodyPost_ret (results_block rfl _ _ r 0 0 0 0 (.slice none 0 0) _ Try.underlying63 info_rblk rfl hf.1) rfl (Or.inr ⟨fun h => hk (by have h1 := h.k1; have h2 := h.k4; rw [← HK.out] at h1 h2; exact ⟨h1, h2⟩), rfl, hf.2⟩)
  have hYB : AllB Y := by rw [HY.out]; exact part_byte HB.out _ _
  have hM : May k e s l Y := ⟨hk.1, hk.2, e32, h3, h4, by rw [HYL.out]; exact h5, hYB⟩
  have KE := Lib.hid (rencode_yes k e s l A9 n c9 Y hM HYL.out N9.out wc V9.out)
  obtain ⟨Z, hZ⟩ : ∃ Z, Z = en k e s l Y := ⟨_, rfl⟩
  have HZL : Hid (Z.length = 64) := Lib.hid (by rw [hZ]; exact en_len hM.n)
  rw [← hZ] at KE
  have HZ := Lib.hid hZ
  have HM := Lib.hid hM
  clear hZ hM hYB
  go_wp2_with fail
  refine KE.out.mono ?_
  rintro x wq ⟨gq, cq, rfl, vq, hq⟩
  have AQ1 := At.next D9.out hq
  have RQ := Lib.hid (R1.out.on AQ1)
  have XQ := Lib.hid (X9.out.on hq)
  have VQ := Lib.hid (V9.out.below hq)
  have PQ := Lib.hid (X1.out.below AQ1)
  have AQ := Lib.hid (A1.out.next AQ1)
  have ZQ := Lib.hid vq
  clear hq AQ1 vq KE
  have cv1 := conv_bv (n := 64) (c := cq) ZQ.out HZL.out (by omega)
  have cv2 := conv_bv (n := 64) (c := c) PQ.out HP.out (by omega)
  have hZB : AllB Z := by rw [HZ.out]; exact en_byte HM.out
  have hs := str_beq hZB HB.out
  obtain ⟨S1, hS1⟩ : ∃ S, S = str Z := ⟨_, rfl⟩
  obtain ⟨S2, hS2⟩ : ∃ S, S = str P := ⟨_, rfl⟩
  rw [← hS1] at cv1 hs
  rw [← hS2] at cv2 hs
  clear hS1 hS2 hZB
  have hen := en_of P HP.out HB.out (by rw [← HN.out]; exact h5)
  rw [← HK.out, ← HE.out, ← HS.out, ← HL.out, ← HY.out, ← HZ.out] at hen
  by_cases hzp : Z = P
  rotate_left
  · rw [decide_eq_false hzp] at hs
    have hno : ¬ Good P := fun h => hzp (hen.2 ⟨h.z, h.c⟩)
    have HNO := Lib.hid hno
    clear hen hno hzp
    have q0 := RQ.out.free 0
    have q1 := RQ.out.free 1
    have q2 := RQ.out.free 2
    have q3 := RQ.out.free 3
    have q4 := RQ.out.free 4
    obtain ⟨r0, r1, r2, r3, r4⟩ := RQ.out.cells
    go_wp2
    (try simp only [Exit.inBlock, Exit.then])
    have hf := fin_bx RQ.out AQ.out HSR.out 0 0 0 0 (.slice none 0 0)
    exact bodyPost_ret (results_block rfl _ _ r 0 0 0 0 (.slice none 0 0) _ Try.underlying63 info_rblk rfl hf.1) rfl (Or.inr ⟨HNO.out, rfl, hf.2⟩)
  rw [decide_eq_true hzp] at hs
  have hgz := hen.1 hzp
  have hyes : Good P := ⟨by rw [← HK.out]; exact hk.1, by rw [← HK.out]; exact hk.2, by rw [← HN.out]; exact h5, by rw [← HS.out]; exact h3, by rw [← HL.out]; exact h4, hgz.1, hgz.2⟩
  have HYES := Lib.hid hyes
  clear hen hzp hgz hyes y0 y1 y2 y3 y4
  obtain ⟨y0, y1, y2, y3, y4⟩ := XQ.out.cells
  have q0 := RQ.out.free 0
  have q1 := RQ.out.free 1
  have q2 := RQ.out.free 2
  have q3 := RQ.out.free 3
  have q4 := RQ.out.free 4
  obtain ⟨r0, r1, r2, r3, r4⟩ := RQ.out.cells
  have hrx : ¬ r = x9 := NRX.out
  go_wp2
  (try simp only [Exit.inBlock, Exit.then])
  have hf := fin_bx RQ.out AQ.out HSR.out (k : Int) (e : Int) (s : Int) (l : Int) (.slice A9 n c9)
  have hv := fun a ha => NRV.out a ha
  refine bodyPost_ret (results_block rfl _ _ r (k : Int) (e : Int) (s : Int) (l : Int) (.slice A9 n c9) _ Try.underlying63 info_rblk rfl hf.1) rfl (Or.inl ⟨HYES.out, A9, n, c9, ?_, ?_, C9.out, fun a ha => Nat.le_trans (by rw [HG.out]; exact A1.out.size) (GE9.out a ha), ?_, hf.2⟩)
  · rw [← HK.out, ← HE.out, ← HS.out, ← HL.out]; rfl
  · rw [← HY.out]; exact HYL.out
  · rw [← HY.out]; exact (((((VQ.out.other hv 0 _).other hv 1 _).other hv 2 _).other hv 3 _).other hv 4 _)

end Go.Proofs.Ytgmekkenodiclaa
