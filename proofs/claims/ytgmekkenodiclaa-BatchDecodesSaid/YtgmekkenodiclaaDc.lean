/- Proved: what the landed Decode of 64 bytes answers, once more, with the room of the body that it hands back. -/
import Derived.Test.YtgmekkenodiclaaDec
namespace Go.Proofs.Ytgmekkenodiclaa
open Go.RowKit
attribute [local go_sem ↓] Go.wp_at_zero Go.wp_at_succ

theorem own_ge {w : World} {G n c : Nat} {e : TypeId} {s : Nat} {A : Option Addr} {xs : List Value} (h : w.ownsRow G e s (.slice A n c) n xs) : ∀ a, A = some a → G ≤ a.block := fun a ha => by
  subst ha
  exact (h.lt a.block rfl).1
/-- What a Decode tells of 64 bytes. -/
def Reads2 (P : List Nat) (w : World) (x : Ending) (w' : World) : Prop :=
  (Good P ∧ ∃ A n c, x = .returned (.tuple #[.agg #[.int .i64 (fk P : Int), .int .i64 (fe P : Int), .int .i64 (fs P : Int), .int .i64 (fl P : Int), .slice A n c], .int .i64 0]) ∧ (fb P).length = n ∧ n ≤ c ∧ (∀ a, A = some a → w.heap.size ≤ a.block) ∧ BV w' A (fb P) ∧ At w w') ∨
  (¬ Good P ∧ x = .returned (.tuple #[nob, .int .i64 13]) ∧ At w w')

set_option maxHeartbeats 4000000 in
set_option maxRecDepth 100000 in
theorem decode_row2 (A : Option Addr) (c : Nat) (P : List Nat) (hP : P.length = 64) (hB : AllB P) (w : World) (hx : BV w A P) (hc : 64 ≤ c) :
    Calls Try.prog 21 #[.slice A 64 c] w (Reads2 P w) := by
  obtain ⟨i0', hi, hz0, hz1, hz2⟩ := info_parts info_u8
  obtain ⟨b1, o1, rfl, hlt, p1⟩ := hx.pos (by rw [hP]; omega)
  have HLT := Lib.hid hlt
  have HP := Lib.hid hP
  have HB := Lib.hid hB
  have HX := Lib.hid hx
  have HP1 := Lib.hid p1
  obtain ⟨k, hk⟩ : ∃ k, k = fk P := ⟨_, rfl⟩
  obtain ⟨n, hn⟩ : ∃ n, n = fn P := ⟨_, rfl⟩
  obtain ⟨e, he⟩ : ∃ e, e = fe P := ⟨_, rfl⟩
  obtain ⟨s, hs⟩ : ∃ s, s = fs P := ⟨_, rfl⟩
  obtain ⟨l, hl⟩ : ∃ l, l = fl P := ⟨_, rfl⟩
  obtain ⟨u, hu⟩ : ∃ u, u = gt (P.drop 60) := ⟨_, rfl⟩
  have k256 : k < 256 := by rw [hk]; exact allB_at hB 0
  have n256 : n < 256 := by rw [hn]; exact allB_at hB 1
  have e32 : e < 4294967296 := by
    have := gt_lt _ (part_byte hB 2 4)
    rw [four_len P hP _ (by omega)] at this
    rw [he]; exact this
  have s64 : s < 18446744073709551616 := by
    have := gt_lt _ (part_byte hB 6 8)
    rw [eight_len P hP] at this
    rw [hs]; exact this
  have l32 : l < 4294967296 := by
    have := gt_lt _ (part_byte hB 14 4)
    rw [four_len P hP _ (by omega)] at this
    rw [hl]; exact this
  have HK := Lib.hid hk
  have HN := Lib.hid hn
  have HE := Lib.hid he
  have HS := Lib.hid hs
  have HL := Lib.hid hl
  have HU := Lib.hid hu
  obtain ⟨r, hr⟩ : ∃ r, r = w.heap.size := ⟨_, rfl⟩
  obtain ⟨b, hb⟩ : ∃ b, b = w.heap.size + 1 := ⟨_, rfl⟩
  obtain ⟨w2, hw2⟩ : ∃ w2, w2 = (w.alloc (.cells #[.int .i64 0, .int .i64 0, .int .i64 0, .int .i64 0, .slice none 0 0] 57)).alloc (.cells #[.int .i64 0, .int .i64 0, .int .i64 0, .int .i64 0, .slice none 0 0] 57) := ⟨_, rfl⟩
  have D2 : Hid (De w r b 57 0 0 0 0 (.slice none 0 0) w2) := Lib.hid (by rw [hr, hb, hw2]; exact De.new w _)
  have HR := Lib.hid hr
  have HBB := Lib.hid hb
  have HW2 := Lib.hid hw2
  have hne : ¬ r = b := by omega
  clear hP hB hx p1 hr hb hw2 hlt hk hn he hs hl hu
  go_enter Try.func21, Try.ntmps21
  go_wp2
  go_step3
  go_wp2
  go_step3
  go_wp2
  rw [← HW2.out, ← HBB.out, ← HR.out]
  refine wp_loop_rounds 8 ?_
  rw [rounds_succ]
  -- the kind
  have c20 := D2.out.loc.cells.1
  have i0 := ix0
  have y0 := D2.out.loc.free 0
  have e0 := D2.out.at_cell HLT.out HP1.out 0 (by rw [HP.out]; omega)
  rw [show P.getD 0 0 = k from HK.out.symm, Nat.add_zero] at e0
  obtain ⟨w3, hw3⟩ : ∃ w3, w3 = w2.setCell ⟨b, 0, none⟩ (.int .i64 (k : Int)) := ⟨_, rfl⟩
  have D3 : Hid (De w r b 57 (k : Int) 0 0 0 (.slice none 0 0) w3) := Lib.hid (by rw [hw3]; exact D2.out.set0 _)
  have HW3 := Lib.hid hw3
  clear hw3
  have K1 := iskind_any (k : Int) w3
  by_cases h1 : 1 ≤ (k : Int) ∧ (k : Int) ≤ 4
  rotate_left
  · rw [decide_eq_false h1] at K1
    have HK1 := Lib.hid K1
    clear K1
    have q0 := D3.out.res.free 0
    have q1 := D3.out.res.free 1
    have q2 := D3.out.res.free 2
    have q3 := D3.out.res.free 3
    have q4 := D3.out.res.free 4
    obtain ⟨r0, r1, r2, r3, r4⟩ := D3.out.res.cells
    go_wp2_with fail
    rw [← HW3.out]
    refine HK1.out.mono ?_
    rintro e' w' ⟨rfl, rfl⟩
    go_wp2
    rw [Exit.noGoto_ret]
    (try simp only [Exit.inBlock, Exit.then])
    exact bodyPost_ret (results_block rfl _ _ r 0 0 0 0 (.slice none 0 0) _ Try.underlying57 info_blk rfl (D3.out.fin 0 0 0 0 (.slice none 0 0)).1) rfl (Or.inr ⟨fun h => h1 ⟨by have := h.k1; have := HK.out; omega, by have := h.k4; have := HK.out; omega⟩, rfl, (D3.out.fin 0 0 0 0 (.slice none 0 0)).2⟩)
  rw [decide_eq_true h1] at K1
  have HK1 := Lib.hid K1
  have H1 := Lib.hid h1
  clear K1 h1
  go_wp2_with fail
  rw [← HW3.out]
  refine HK1.out.mono ?_
  rintro e' w' ⟨rfl, rfl⟩
  go_wp2
  rw [rounds_succ]
  -- the length
  clear c20 i0 y0 e0 D2 HK1
  have i1 := ix1
  have e1 := D3.out.at_cell HLT.out HP1.out 1 (by rw [HP.out]; omega)
  rw [show P.getD 1 0 = n from HN.out.symm] at e1
  by_cases h2 : n ≤ 40
  rotate_left
  · have q0 := D3.out.res.free 0
    have q1 := D3.out.res.free 1
    have q2 := D3.out.res.free 2
    have q3 := D3.out.res.free 3
    have q4 := D3.out.res.free 4
    obtain ⟨r0, r1, r2, r3, r4⟩ := D3.out.res.cells
    go_wp2
    rw [Exit.noGoto_ret]
    (try simp only [Exit.inBlock, Exit.then])
    exact bodyPost_ret (results_block rfl _ _ r 0 0 0 0 (.slice none 0 0) _ Try.underlying57 info_blk rfl (D3.out.fin 0 0 0 0 (.slice none 0 0)).1) rfl (Or.inr ⟨fun h => h2 (by have := h.n; have := HN.out; omega), rfl, (D3.out.fin 0 0 0 0 (.slice none 0 0)).2⟩)
  go_wp2
  rw [rounds_succ]
  -- the epoch
  clear i1 e1
  have i2 := ix2
  have y1 := D3.out.loc.free 1
  have c31 := D3.out.loc.cells.2.1
  have hc2 : ¬ c = 2 := by omega
  have H3 : Hid (Calls Try.prog 35 #[.slice (some ⟨b1, o1 + 2, none⟩) 62 (c - 2)] w3 fun x w' => x = .returned (.int .u32 (e : Int)) ∧ w3 = w') := Lib.hid (by
    have := fget32_any (some ⟨b1, o1 + 2, none⟩) 62 (c - 2) (P.drop 2) (by omega) (by omega) (by rw [List.length_drop, HP.out]) (allB_drop HB.out 2) w3 (BV.drop (D3.out.stands.bv HX.out) 2)
    rwa [show gt ((P.drop 2).take 4) = e from HE.out.symm] at this)
  obtain ⟨w4, hw4⟩ : ∃ w4, w4 = w3.setCell ⟨b, 1, none⟩ (.int .i64 (e : Int)) := ⟨_, rfl⟩
  have D4 : Hid (De w r b 57 (k : Int) (e : Int) 0 0 (.slice none 0 0) w4) := Lib.hid (by rw [hw4]; exact D3.out.set1 _)
  have HW4 := Lib.hid hw4
  clear hw4
  go_wp2_with (go_at_call 35; refine H3.out.mono ?_; rintro e' w' ⟨rfl, rfl⟩)
  rw [rounds_succ, ← HW4.out]
  -- the number
  clear i2 y1 c31 H3 D3 HW3 hc2
  have i3 := ix3
  have y2 := D4.out.loc.free 2
  have c42 := D4.out.loc.cells.2.2.1
  have hc6 : ¬ c = 6 := by omega
  obtain ⟨z, hz⟩ : ∃ z, z = wrap64 (s : Int) := ⟨_, rfl⟩
  have H4 : Hid (Calls Try.prog 36 #[.slice (some ⟨b1, o1 + 6, none⟩) 58 (c - 6)] w4 fun x w' => x = .returned (.int .i64 z) ∧ w4 = w') := Lib.hid (by
    have := fget64_any (some ⟨b1, o1 + 6, none⟩) 58 (c - 6) (P.drop 6) (by omega) (by omega) (by rw [List.length_drop, HP.out]) (allB_drop HB.out 6) w4 (BV.drop (D4.out.stands.bv HX.out) 6)
    rwa [show gt ((P.drop 6).take 8) = s from HS.out.symm, ← hz] at this)
  have hzs := upto_wrap s64
  rw [← hz] at hzs
  obtain ⟨w5, hw5⟩ : ∃ w5, w5 = w4.setCell ⟨b, 2, none⟩ (.int .i64 z) := ⟨_, rfl⟩
  have D5 : Hid (De w r b 57 (k : Int) (e : Int) z 0 (.slice none 0 0) w5) := Lib.hid (by rw [hw5]; exact D4.out.set2 _)
  have HW5 := Lib.hid hw5
  have HZ := Lib.hid hz
  clear hw5 hz
  have U5 := upto_any z 1099511627776 w5
  go_wp2_with (go_at_call 36; refine H4.out.mono ?_; rintro e' w' ⟨rfl, rfl⟩)
  rw [← HW5.out]
  by_cases h3 : s ≤ 1099511627776
  rotate_left
  · rw [decide_eq_false (fun h => h3 (hzs.1 h))] at U5
    have HU5 := Lib.hid U5
    clear U5 hzs
    have q0 := D5.out.res.free 0
    have q1 := D5.out.res.free 1
    have q2 := D5.out.res.free 2
    have q3 := D5.out.res.free 3
    have q4 := D5.out.res.free 4
    obtain ⟨r0, r1, r2, r3, r4⟩ := D5.out.res.cells
    refine HU5.out.mono ?_
    rintro e' w' ⟨rfl, rfl⟩
    go_wp2
    rw [Exit.noGoto_ret]
    (try simp only [Exit.inBlock, Exit.then])
    exact bodyPost_ret (results_block rfl _ _ r 0 0 0 0 (.slice none 0 0) _ Try.underlying57 info_blk rfl (D5.out.fin 0 0 0 0 (.slice none 0 0)).1) rfl (Or.inr ⟨fun h => h3 (by have := h.s40; have := HS.out; omega), rfl, (D5.out.fin 0 0 0 0 (.slice none 0 0)).2⟩)
  rw [decide_eq_true (hzs.2 h3)] at U5
  have HU5 := Lib.hid U5
  have hz2 : z = (s : Int) := by rw [HZ.out]; exact wrap_low h3
  have HZ2 := Lib.hid hz2
  clear U5 hzs hz2 HZ
  refine HU5.out.mono ?_
  rintro e' w' ⟨rfl, rfl⟩
  go_wp2
  rw [rounds_succ]
  -- the LBA
  clear i3 y2 c42 H4 D4 HW4 hc6 HU5
  have i4 := ix4
  have y3 := D5.out.loc.free 3
  have c53 := D5.out.loc.cells.2.2.2.1
  have hc14 : ¬ c = 14 := by omega
  have H5 : Hid (Calls Try.prog 35 #[.slice (some ⟨b1, o1 + 14, none⟩) 50 (c - 14)] w5 fun x w' => x = .returned (.int .u32 (l : Int)) ∧ w5 = w') := Lib.hid (by
    have := fget32_any (some ⟨b1, o1 + 14, none⟩) 50 (c - 14) (P.drop 14) (by omega) (by omega) (by rw [List.length_drop, HP.out]) (allB_drop HB.out 14) w5 (BV.drop (D5.out.stands.bv HX.out) 14)
    rwa [show gt ((P.drop 14).take 4) = l from HL.out.symm] at this)
  obtain ⟨w6, hw6⟩ : ∃ w6, w6 = w5.setCell ⟨b, 3, none⟩ (.int .i64 (l : Int)) := ⟨_, rfl⟩
  have D6 : Hid (De w r b 57 (k : Int) (e : Int) z (l : Int) (.slice none 0 0) w6) := Lib.hid (by rw [hw6]; exact D5.out.set3 _)
  have HW6 := Lib.hid hw6
  clear hw6
  have U6 := upto_any (l : Int) 1048576 w6
  go_wp2_with (go_at_call 35; refine H5.out.mono ?_; rintro e' w' ⟨rfl, rfl⟩)
  rw [← HW6.out]
  by_cases h4 : l ≤ 1048576
  rotate_left
  · rw [decide_eq_false (by omega)] at U6
    have HU6 := Lib.hid U6
    clear U6
    have q0 := D6.out.res.free 0
    have q1 := D6.out.res.free 1
    have q2 := D6.out.res.free 2
    have q3 := D6.out.res.free 3
    have q4 := D6.out.res.free 4
    obtain ⟨r0, r1, r2, r3, r4⟩ := D6.out.res.cells
    refine HU6.out.mono ?_
    rintro e' w' ⟨rfl, rfl⟩
    go_wp2
    rw [Exit.noGoto_ret]
    (try simp only [Exit.inBlock, Exit.then])
    exact bodyPost_ret (results_block rfl _ _ r 0 0 0 0 (.slice none 0 0) _ Try.underlying57 info_blk rfl (D6.out.fin 0 0 0 0 (.slice none 0 0)).1) rfl (Or.inr ⟨fun h => h4 (by have := h.l20; have := HL.out; omega), rfl, (D6.out.fin 0 0 0 0 (.slice none 0 0)).2⟩)
  rw [decide_eq_true (by omega)] at U6
  have HU6 := Lib.hid U6
  clear U6
  refine HU6.out.mono ?_
  rintro e' w' ⟨rfl, rfl⟩
  go_wp2
  rw [rounds_succ]
  -- the body
  clear i4 y3 c53 H5 D5 HW5 hc14 HU6
  have i5 := ix5
  have y4 := D6.out.loc.free 4
  have c64 := D6.out.loc.cells.2.2.2.2
  have g1 : (18 : Int) ≤ 18 + (n : Int) := by omega
  have g2 : 18 + (n : Int) ≤ (c : Int) := by omega
  have hc18 : ¬ c = 18 := by omega
  have t18 : (18 + (n : Int)).toNat = 18 + n := by omega
  obtain ⟨wd, hwd⟩ : ∃ wd, wd = w6.drew := ⟨_, rfl⟩
  have DD : Hid (De w r b 57 (k : Int) (e : Int) z (l : Int) (.slice none 0 0) wd) := Lib.hid (by rw [hwd]; exact D6.out.drewn)
  have HWD := Lib.hid hwd
  obtain ⟨Y, hY⟩ : ∃ Y, Y = fb P := ⟨_, rfl⟩
  have hYl : Y.length = n := by rw [hY, fb, List.length_take, List.length_drop, HP.out, ← HN.out]; omega
  have hYb : BV wd (some ⟨b1, o1 + 18, none⟩) Y := by
    have := (BV.drop (DD.out.stands.bv HX.out) 18).take n
    rw [hY, fb, ← HN.out]; exact this
  have HY := Lib.hid hY
  have HYL := Lib.hid hYl
  have HYS := Lib.hid hYb.src
  obtain ⟨G, hG⟩ : ∃ G, G = wd.heap.size := ⟨_, rfl⟩
  have HG := Lib.hid hG
  have hGle : G ≤ wd.heap.size := by omega
  have HO : Hid (wd.ownsRow G 5 1 (.slice none 0 0) 0 []) := Lib.hid (World.ownsRow_nil _ _ _ _)
  clear hwd hY hYl hYb hG
  go_wp2_with fail
  go_still_tail 6, (by kernel_rfl)
  change wpList _ _ _ _ _ w6.drew
  rw [← HWD.out]
  go_wp2_with (at_builtin; (refine wpList_append_own _ rfl _ _ 39 rfl G 5 i0' (.int .u8 0) 1 1 Try.underlying39 hi hz0 hz1 hz2 rfl (by decide) _ 0 [] rfl HO.out ⟨b1, o1 + 18, none⟩ n (c - 18) (Y.map bt) rfl (by simp [HYL.out]) HYS.out (bt_one Y) (by unfold maxLen; omega) (by omega) hGle ?_); intro v7 w7 hown7 hgrow7 _; obtain ⟨A7, c7, rfl, D7, HO7, hbG⟩ := DD.out.grown HG.out hown7 hgrow7; have c74 := D7.out.loc.cells.2.2.2.2; have y74 := D7.out.loc.free 4; clear hown7 hgrow7)
  obtain ⟨w8, hw8⟩ : ∃ w8, w8 = w7.setCell ⟨b, 4, none⟩ (.slice A7 n c7) := ⟨_, rfl⟩
  rw [← hw8]
  have D8 : Hid (De w r b 57 (k : Int) (e : Int) z (l : Int) (.slice A7 n c7) w8) := Lib.hid (by rw [hw8]; exact D7.out.set4 _)
  have HO8 : Hid (w8.ownsRow G 5 1 (.slice A7 n c7) n (Y.map bt)) := Lib.hid (by rw [hw8]; exact ownsRow_setCell_below HO7.out (a := ⟨b, 4, none⟩) hbG _)
  clear hw8 HO7 D7 c74 y74 HO HYS HG hGle DD HWD D6 HW6 c64 y4 i5
  have hfl : (fz P).length = 60 - (18 + n) := by rw [fz, ← HN.out, List.length_take, List.length_drop, HP.out]; omega
  have Z8 := zeros_any (some ⟨b1, o1 + (18 + n), none⟩) (60 - (18 + n)) (c - (18 + n)) (fz P) (by omega) hfl (part_byte HB.out _ _) w8 (by
    have := (BV.drop (D8.out.stands.bv HX.out) (18 + n)).take (42 - n)
    rwa [HN.out] at this ⊢)
  by_cases h5 : zs (fz P) = true
  rotate_left
  · have h5f : zs (fz P) = false := by simpa using h5
    rw [h5f] at Z8
    have HZ8 := Lib.hid Z8
    clear Z8 hfl
    have q0 := D8.out.res.free 0
    have q1 := D8.out.res.free 1
    have q2 := D8.out.res.free 2
    have q3 := D8.out.res.free 3
    have q4 := D8.out.res.free 4
    obtain ⟨r0, r1, r2, r3, r4⟩ := D8.out.res.cells
    refine HZ8.out.mono ?_
    rintro e' w' ⟨rfl, rfl⟩
    go_wp2
    rw [Exit.noGoto_ret]
    (try simp only [Exit.inBlock, Exit.then])
    exact bodyPost_ret (results_block rfl _ _ r 0 0 0 0 (.slice none 0 0) _ Try.underlying57 info_blk rfl (D8.out.fin 0 0 0 0 (.slice none 0 0)).1) rfl (Or.inr ⟨fun h => h5 (zs_yes h.z), rfl, (D8.out.fin 0 0 0 0 (.slice none 0 0)).2⟩)
  rw [h5] at Z8
  have HZ8 := Lib.hid Z8
  have H5' := Lib.hid h5
  clear Z8 hfl h5
  refine HZ8.out.mono ?_
  rintro e' w' ⟨rfl, rfl⟩
  go_wp2
  rw [rounds_succ]
  -- the sum
  clear HZ8 hc18 t18 g1 g2 hi hz0 hz1 hz2
  have i6 := ix6
  have hc60 : ¬ c = 60 := by omega
  have g60 : (60 : Int) ≤ (c : Int) := by omega
  have H8 : Hid (Calls Try.prog 35 #[.slice (some ⟨b1, o1 + 60, none⟩) 4 (c - 60)] w8.drew fun x w' => x = .returned (.int .u32 (u : Int)) ∧ w8.drew = w') := Lib.hid (by
    have := fget32_any (some ⟨b1, o1 + 60, none⟩) 4 (c - 60) (P.drop 60) (by omega) (by omega) (by rw [List.length_drop, HP.out]) (allB_drop HB.out 60) w8.drew (BV.drop (D8.out.drewn.stands.bv HX.out) 60)
    rwa [List.take_of_length_le (by rw [List.length_drop, HP.out]; omega), ← HU.out] at this)
  have C8 : Hid (Calls Try.prog 39 #[.slice (some ⟨b1, o1, none⟩) 60 c, .int .u32 (u : Int)] w8.drew (fun e w' => e = .returned (.bool ((cr (P.take 60) : Int) == (u : Int))) ∧ At w8.drew w')) :=
    Lib.hid (check_any (some ⟨b1, o1, none⟩) 60 c u (P.take 60) (by omega) (by rw [List.length_take, HP.out]; omega) (allB_take HB.out 60) w8.drew ((D8.out.drewn.stands.bv HX.out).take 60))
  obtain ⟨x, hx⟩ : ∃ x, x = ((cr (P.take 60) : Int) == (u : Int)) := ⟨_, rfl⟩
  rw [← hx] at C8
  have HXX := Lib.hid hx
  clear hx
  go_wp2_with fail
  go_region_held3 (fun _ => True) (exact trivial)
    (first
      | (go_at_call 35; refine H8.out.mono ?_; rintro e' w' ⟨rfl, rfl⟩)
      | (go_at_call 39; refine C8.out.mono ?_; rintro e' w9 ⟨rfl, hb9⟩))
  replace hb9 := undrew hb9
  have D9 : Hid (De w r b 57 (k : Int) (e : Int) z (l : Int) (.slice A7 n c7) w9) := Lib.hid (D8.out.on hb9)
  have HO9 := Lib.hid (own_at HO8.out hb9)
  clear hb9 C8 H8 HO8 i6 hc60 g60 D8
  have q0 := D9.out.res.free 0
  have q1 := D9.out.res.free 1
  have q2 := D9.out.res.free 2
  have q3 := D9.out.res.free 3
  have q4 := D9.out.res.free 4
  obtain ⟨r0, r1, r2, r3, r4⟩ := D9.out.res.cells
  by_cases h6 : x = true
  rotate_left
  · have h6f : x = false := by simpa using h6
    subst h6f
    go_wp2
    rw [Exit.noGoto_ret]
    (try simp only [Exit.inBlock, Exit.then])
    exact bodyPost_ret (results_block rfl _ _ r 0 0 0 0 (.slice none 0 0) _ Try.underlying57 info_blk rfl (D9.out.fin 0 0 0 0 (.slice none 0 0)).1) rfl (Or.inr ⟨fun h => (by have h7 := h.c; have h8 := HU.out; have h9 := HXX.out; rw [h7, ← h8, beq_self_eq_true] at h9; cases h9), rfl, (D9.out.fin 0 0 0 0 (.slice none 0 0)).2⟩)
  subst h6
  have hcr : cr (P.take 60) = gt (P.drop 60) := by
    have h9 := HXX.out
    rw [eq_comm, beq_iff_eq] at h9
    rw [← HU.out]; omega
  have hgood : Good P := ⟨by have := H1.out.1; have := HK.out; omega, by have := H1.out.2; have := HK.out; omega, by have := HN.out; omega, by have := HS.out; omega, by have := HL.out; omega, of_decide_eq_true H5'.out, hcr⟩
  have HGOOD := Lib.hid hgood
  clear hcr hgood
  obtain ⟨c90, c91, c92, c93, c94⟩ := D9.out.loc.cells
  go_wp2
  rw [Exit.noGoto_ret]
  (try simp only [Exit.inBlock, Exit.then])
  have hf := D9.out.fin (k : Int) (e : Int) z (l : Int) (.slice A7 n c7)
  have hown := own_fin HO9.out (Nat.lt_trans D9.out.rb hbG) (.int .i64 (k : Int)) (.int .i64 (e : Int)) (.int .i64 z) (.int .i64 (l : Int)) (.slice A7 n c7)
  refine bodyPost_ret (results_block rfl _ _ r (k : Int) (e : Int) z (l : Int) (.slice A7 n c7) _ Try.underlying57 info_blk rfl hf.1) rfl (Or.inl ⟨HGOOD.out, A7, n, c7, ?_, ?_, own_cap hown, fun a ha => Nat.le_trans (Nat.le_trans D9.out.sz (Nat.le_trans (Nat.le_of_lt D9.out.rb) (Nat.le_of_lt hbG))) (own_ge hown a ha), ?_, hf.2⟩)
  · rw [← HK.out, ← HE.out, ← HS.out, ← HL.out, HZ2.out]; rfl
  · rw [← HY.out]; exact HYL.out
  · rw [← HY.out]; exact (own_bv hown).2

end Go.Proofs.Ytgmekkenodiclaa
