/- Proved: the law FrameBack answers true at any block and any two numbers and leaves what there was as it was: a block is written and read as it was; with one bit turned, or cut, it is none. -/
import Derived.Test.YtkohkpmpbcgodaaLaw
import Derived.Test.YtkohkpmpbcgodaaApp
import Derived.RegionTactic
import Derived.ChangeAlike
import Derived.BigRegion
import Derived.IntWalk
namespace Go.Proofs.Ytkohkpmpbcgodaa
open Go.RowKit

set_option maxHeartbeats 1000000 in
set_option maxRecDepth 100000 in
theorem back_big (k e s l : Int) (A : Option Addr) (n c : Nat) (i j : Int) (h : 300 < n) (w : World) :
    Calls Try.prog 4 #[.agg #[.int .i64 k, .int .i64 e, .int .i64 s, .int .i64 l, .slice A n c], .int .i64 i, .int .i64 j] w (Gives (.bool true) w) := by
  have q : decide ((300 : Int) < (n : Int)) = true := decide_eq_true (by omega)
  have HA := Lib.hid ((At.start w).alloc (.cells #[.int .i64 k, .int .i64 e, .int .i64 s, .int .i64 l, .slice A n c] 24))
  go_enter Try.func4, Try.ntmps4
  go_wp2_with (go_at_call 8; refine (awake_any _).mono ?_; rintro e w' ⟨rfl, hb⟩)
  go_ret
  exact ⟨rfl, HA.out.next hb⟩
set_option maxHeartbeats 1000000 in
set_option maxRecDepth 100000 in
theorem back_no (k e s l : Int) (A : Option Addr) (n c r : Nat) (i j : Int) (h : n ≤ 300) (hr : r = 1 ∨ r = 3) (he : ∀ (A : Option Addr) (c : Nat) (w : World), Calls Try.prog 9 #[.agg #[.int .i64 k, .int .i64 e, .int .i64 s, .int .i64 l, .slice A n c]] w (Gives (.tuple #[.slice none 0 0, .int .i64 (r : Int)]) w)) (w : World) :
    Calls Try.prog 4 #[.agg #[.int .i64 k, .int .i64 e, .int .i64 s, .int .i64 l, .slice A n c], .int .i64 i, .int .i64 j] w (Gives (.bool true) w) := by
  have q : decide ((300 : Int) < (n : Int)) = false := decide_eq_false (by omega)
  have nb : ((r : Int) != 0) = true := by simp; omega
  have HE := Lib.hid he
  have HA := Lib.hid ((At.start w).alloc (.cells #[.int .i64 k, .int .i64 e, .int .i64 s, .int .i64 l, .slice A n c] 24))
  clear he
  go_enter Try.func4, Try.ntmps4
  go_wp2_with fail
  refine (made_any k e s l A n c _).mono ?_
  rintro x w1 ⟨rfl, h1⟩
  have H1 := Lib.hid (HA.out.next h1)
  clear h1
  go_wp2_with fail
  refine (HE.out A c _).mono ?_
  rintro x w2 ⟨rfl, h2⟩
  have H2 := Lib.hid (H1.out.next h2)
  clear h2
  go_wp2_with fail
  refine (awake_any _).mono ?_
  rintro x w3 ⟨rfl, h3⟩
  have H3 := Lib.hid (H2.out.next h3)
  clear h3
  go_wp2
  go_ret
  exact ⟨rfl, H3.out⟩

/-- A place in a row: the byte and the bit in it. -/
theorem place (a m : Nat) (h : a < 8 * m) : ∃ k t : Nat, k < m ∧ t < 8 ∧ (a : Int) / 8 = (k : Int) ∧ (a : Int) % 8 = (t : Int) ∧ ∀ S, tn S a = S.set k (S.getD k 0 ^^^ 2 ^ t) :=
  ⟨a / 8, a % 8, by omega, by omega, by omega, by omega, fun _ => rfl⟩
theorem two_byte {t : Nat} (h : t < 8) : 2 ^ t < 256 := Nat.lt_of_le_of_lt (Nat.pow_le_pow_right (by omega) (show t ≤ 7 by omega)) (by omega)
theorem two_mod {t : Nat} (h : t < 8) : (2 : Int) ^ t % 256 = (2 : Int) ^ t := by
  have h1 := two_byte h
  rw [show (2 : Int) ^ t = ((2 ^ t : Nat) : Int) from (Int.natCast_pow 2 t).symm]
  generalize 2 ^ t = n at h1 ⊢
  omega
theorem two_u8 (t : Nat) : ((2 ^ t : Nat) : Int) = (2 : Int) ^ t := Int.natCast_pow 2 t

set_option maxHeartbeats 2000000 in
set_option maxRecDepth 100000 in
theorem back_yes (k e s l : Nat) (A : Option Addr) (n c : Nat) (L : List Nat) (i j : Int) (hm : May k e s l L) (hl : L.length = n) (w : World) (hx : BV w A L) :
    Calls Try.prog 4 #[.agg #[.int .i64 (k : Int), .int .i64 (e : Int), .int .i64 (s : Int), .int .i64 (l : Int), .slice A n c], .int .i64 i, .int .i64 j] w (Gives (.bool true) w) := by
  obtain ⟨i0, hi, hz0, hz1, hz2⟩ := info_parts info_u8
  have hn : n ≤ 40 := by rw [← hl]; exact hm.n
  have q : decide ((300 : Int) < (n : Int)) = false := decide_eq_false (by omega)
  obtain ⟨b, hb⟩ : ∃ b, b = w.heap.size := ⟨_, rfl⟩
  obtain ⟨w0, hw0⟩ : ∃ w0, w0 = w.alloc (.cells #[.int .i64 (k : Int), .int .i64 (e : Int), .int .i64 (s : Int), .int .i64 (l : Int), .slice A n c] 24) := ⟨_, rfl⟩
  have B0 : Hid (Bx w0 b 24 (k : Int) (e : Int) (s : Int) (l : Int) (.slice A n c)) := Lib.hid (by rw [hw0, hb]; exact bx_new _ _ _ _ _ _ _)
  have HA : Hid (At w w0) := Lib.hid (by rw [hw0]; exact (At.start w).alloc _)
  have HW := Lib.hid hw0
  have HBB := Lib.hid hb
  have HX := Lib.hid hx
  have HL := Lib.hid hl
  have HLB := Lib.hid hm.b
  have HE := Lib.hid (fun w' (h : At w w') => encode_yes A k e s l n c L hm hl w' (h.bv hx))
  have HD := Lib.hid (fun A' w' hv => decode_en A' 64 k e s l L hm w' hv (Nat.le_refl _))
  obtain ⟨P, hP⟩ : ∃ P, P = en k e s l L := ⟨_, rfl⟩
  rw [← hP] at HE HD
  rw [hl] at HD
  have HPL : Hid (P.length = 64) := Lib.hid (by rw [hP]; exact en_len hm.n)
  have HPB : Hid (AllB P) := Lib.hid (by rw [hP]; exact en_byte hm)
  have HPG : Hid (Good P) := Lib.hid (by rw [hP]; exact (en_good hm).1)
  clear hm hl hx hP hw0 hb
  go_enter Try.func4, Try.ntmps4
  go_wp2_with fail
  rw [← HW.out, ← HBB.out]
  refine (made_any _ _ _ _ A n c _).mono ?_
  rintro x w1 ⟨rfl, h1⟩
  have H1 := Lib.hid (HA.out.next h1)
  have B1 := Lib.hid (B0.out.on h1)
  clear h1
  go_wp2_with fail
  refine (HE.out _ H1.out).mono ?_
  rintro x w2 ⟨g, rfl, _, hv2, h2⟩
  have H2 := Lib.hid (H1.out.next h2)
  have B2 := Lib.hid (B1.out.on h2)
  have HV2 := Lib.hid hv2
  clear h2 hv2 B1 B0
  go_wp2_with fail
  refine (HD.out _ _ HV2.out).mono ?_
  rintro x w3 ⟨A3, c3, rfl, hv3, h3⟩
  have H3 := Lib.hid (H2.out.next h3)
  have B3 := Lib.hid (B2.out.on h3)
  have HV3 := Lib.hid (HV2.out.below h3)
  have HL3 := Lib.hid hv3
  clear h3 hv3 B2
  obtain ⟨x9, hx9⟩ : ∃ x, x = w3.heap.size := ⟨_, rfl⟩
  obtain ⟨w4, hw4⟩ : ∃ w4, w4 = w3.alloc (.cells #[.int .i64 (k : Int), .int .i64 (e : Int), .int .i64 (s : Int), .int .i64 (l : Int), .slice A3 n c3] 29) := ⟨_, rfl⟩
  have X4 : Hid (Bx w4 x9 29 (k : Int) (e : Int) (s : Int) (l : Int) (.slice A3 n c3)) := Lib.hid (by rw [hw4, hx9]; exact bx_new _ _ _ _ _ _ _)
  have h34 : At w3 w4 := by rw [hw4]; exact (At.start w3).alloc _
  have H4 := Lib.hid (H3.out.next h34)
  have B4 := Lib.hid (B3.out.on h34)
  have HV4 := Lib.hid (HV3.out.below h34)
  have HL4 := Lib.hid (HL3.out.below h34)
  have HW4 := Lib.hid hw4
  have HX9 := Lib.hid hx9
  have HS4 : Hid (x9 + 1 = w4.heap.size) := Lib.hid (by rw [hw4, hx9]; simp)
  clear h34 hw4 hx9 B3 HL3
  have HM := Lib.hid (made_own w4)
  go_wp2_with (at_builtin; rw [← HW4.out, ← HX9.out, HS4.out]; refine wpList_append_own _ rfl _ _ 22 rfl w4.heap.size 5 i0 (.int .u8 0) 1 1 Try.underlying22 hi hz0 hz1 hz2 rfl (by decide) _ 0 [] rfl HM.out ⟨g, 0, none⟩ 64 64 (P.map bt) rfl (by rw [List.length_map, HPL.out]) ((HV4.out.below ((Below.refl _ _).alloc (Nat.le_refl _) _)).src) (bt_one _) (by unfold maxLen; omega) (by omega) (by simp) ?_; intro v5 w5 ho hg _; obtain ⟨HO5, HA5⟩ := grow_one HM.out ho hg; clear ho hg; obtain ⟨g5, c5, rfl, hgB, _⟩ := HO5.out.form (by omega))
  have hc5 : 64 ≤ c5 := own_cap HO5.out
  clear HM
  refine (round_any i 512 (by omega) (by omega) _).mono ?_
  rintro x wz ⟨rfl, rfl⟩
  have ha := rd_lt i 512 (by omega)
  obtain ⟨a, hae⟩ : ∃ a, a = rd i 512 := ⟨_, rfl⟩
  rw [← hae] at ha ⊢
  clear hae
  obtain ⟨m, t, hk, ht, p1, p2, hT⟩ := place a 64 ha
  have HT := Lib.hid (hT P)
  have c1 := own_cell HO5.out m hk
  have f1 := HO5.out.frozenAt m
  have d1 := allB_at HPB.out m
  obtain ⟨y, hy⟩ : ∃ y, y = P.getD m 0 := ⟨_, rfl⟩
  rw [← hy] at c1 d1 HT
  have u1 := u8_xor_nat y (2 ^ t) d1 (two_byte ht)
  obtain ⟨z, hz⟩ : ∃ z, z = y ^^^ 2 ^ t := ⟨_, rfl⟩
  rw [← hz, two_u8] at u1
  rw [← hz] at HT
  have u2 := two_mod ht
  have g1 : (0 : Int) ≤ (m : Int) := by omega
  have g2 : (m : Int) < 64 := by omega
  have HTB := Lib.hid (tn_bad HPL.out HPB.out HPG.out a ha)
  have HTL := Lib.hid (show (tn P a).length = 64 by rw [tn_len]; exact HPL.out)
  have HTA := Lib.hid (show AllB (tn P a) from tn_byte HPB.out a)
  clear hy hz hT
  go_wp2
  go_region
  obtain ⟨HO6, HA6⟩ := own_set (w := w4) m z hgB HO5.out HA5.out
  obtain ⟨w6, hw6⟩ : ∃ w6, w6 = (w5.setCell ⟨g5, m, none⟩ (.int .u8 (z : Int))).drew := ⟨_, rfl⟩
  have HO7 : Hid (w6.ownsRow w4.heap.size 5 1 (.slice (some ⟨g5, 0, none⟩) 64 c5) 64 ((tn P a).map bt)) := Lib.hid (by rw [hw6, HT.out]; exact own_drew HO6.out)
  have HA7 : At w4 w6 := by rw [hw6]; exact HA6.out.drewN 1
  rw [← hw6]
  have H6 := Lib.hid (H4.out.next HA7)
  have B6 := Lib.hid (B4.out.on HA7)
  have X6 := Lib.hid (X4.out.on HA7)
  have HL6 := Lib.hid (HL4.out.below HA7)
  have HD6 := Lib.hid (decode_bad (some ⟨g5, 0, none⟩) c5 (tn P a) HTL.out HTA.out HTB.out w6 (own_bv HO7.out).2 hc5)
  clear hw6 HA7 HA6 HO6 HO7 B4 X4 HL4 HV4 c1 f1 u1 u2 p1 p2 HO5 HA5 HT HTB HTL HTA
  go_wp2_with fail
  refine HD6.out.mono ?_
  rintro x w7 ⟨rfl, h7⟩
  obtain ⟨w8, hw8⟩ : ∃ w8, w8 = w7.alloc (.cells #[.int .i64 0, .int .i64 0, .int .i64 0, .int .i64 0, .slice none 0 0] 29) := ⟨_, rfl⟩
  have h8 : At w6 w8 := by rw [hw8]; exact At.alloc h7 _
  have H8 := Lib.hid (H6.out.next h8)
  have B8 := Lib.hid (B6.out.on h8)
  have X8 := Lib.hid (X6.out.on h8)
  have HL8 := Lib.hid (HL6.out.below h8)
  have HW8 := Lib.hid hw8
  clear h7 h8 hw8 B6 X6 HL6 HD6
  have hb := rd_lt j 64 (by omega)
  have HRJ := Lib.hid (fun w' => round_any j 64 (by omega) (by omega) w')
  obtain ⟨cut, hcut⟩ : ∃ a, a = rd j 64 := ⟨_, rfl⟩
  rw [← hcut] at hb HRJ
  clear hcut
  have g3 : (0 : Int) ≤ (cut : Int) := by omega
  have g4 : (cut : Int) ≤ 64 := by omega
  go_wp2_with fail
  rw [← HW8.out]
  refine (HRJ.out _).mono ?_
  rintro x w' ⟨rfl, rfl⟩
  go_wp2_with fail
  refine (decode_short _ cut _ _ (by omega)).mono ?_
  rintro x w9 ⟨rfl, h9⟩
  obtain ⟨w10, hw10⟩ : ∃ w8, w8 = w9.alloc (.cells #[.int .i64 0, .int .i64 0, .int .i64 0, .int .i64 0, .slice none 0 0] 29) := ⟨_, rfl⟩
  have h10 : At w8 w10 := by rw [hw10]; exact At.alloc h9 _
  have H10 := Lib.hid (H8.out.next h10)
  have B10 := B8.out.on h10
  have X10 := X8.out.on h10
  have HL10 := HL8.out.below h10
  obtain ⟨cb0, cb1, cb2, cb3, cb4⟩ := B10.cells
  obtain ⟨cx0, cx1, cx2, cx3, cx4⟩ := X10.cells
  have HS := Lib.hid (same_any (k : Int) (e : Int) (s : Int) (l : Int) (k : Int) (e : Int) (s : Int) (l : Int) A3 A n c3 n c L L (by omega) HL.out HL.out HLB.out HLB.out w10 HL10 (H10.out.bv HX.out))
  rw [decide_eq_true ⟨rfl, rfl, rfl, rfl, rfl⟩] at HS
  clear h9 h10 B8 X8 HL8 B10 X10 HL10
  subst hw10
  go_wp2_with fail
  refine HS.out.mono ?_
  rintro x w11 ⟨rfl, h11⟩
  have H11 := Lib.hid (H10.out.next h11)
  clear h11
  go_wp2_with fail
  refine (awake_any _).mono ?_
  rintro x w12 ⟨rfl, h12⟩
  have H12 := Lib.hid (H11.out.next h12)
  clear h12
  go_wp2
  go_ret
  exact ⟨rfl, H12.out⟩

theorem back_any (k e s l : Int) (A : Option Addr) (n c : Nat) (L : List Nat) (i j : Int) (hl : L.length = n) (hL : AllB L) (w : World) (hx : BV w A L) :
    Calls Try.prog 4 #[.agg #[.int .i64 k, .int .i64 e, .int .i64 s, .int .i64 l, .slice A n c], .int .i64 i, .int .i64 j] w (Gives (.bool true) w) := by
  by_cases h : 300 < n
  · exact back_big k e s l A n c i j h w
  · rcases encode_ways k e s l n L hl hL with ⟨k', e', s', l', rfl, rfl, rfl, rfl, hm⟩ | ⟨_, r, hr, _, he⟩
    · exact back_yes k' e' s' l' A n c L i j hm hl w hx
    · exact back_no k e s l A n c r i j (by omega) hr he w

end Go.Proofs.Ytkohkpmpbcgodaa
