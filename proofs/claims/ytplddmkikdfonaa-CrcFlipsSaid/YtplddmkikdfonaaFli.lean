/- Proved: the law CrcFlips answers true at any bytes, any two places and any byte and leaves what there was as it was: one bit turned, or two, or a byte, is another sum. -/
import Derived.Test.YtplddmkikdfonaaApp
import Derived.RegionTactic
import Derived.ChangeAlike
import Derived.BigRegion
import Derived.Laws.OwnMore
import Derived.StillTailTactics
import Derived.IntWalk
namespace Go.Proofs.Ytplddmkikdfonaa
open Go.RowKit

set_option maxHeartbeats 1000000 in
set_option maxRecDepth 100000 in
theorem flips_big (A : Option Addr) (m c : Nat) (i j x : Int) (h : 200 < m) (w : World) :
    Calls Try.prog 5 #[.slice A m c, .int .i64 i, .int .i64 j, .int .i64 x] w (Gives (.bool true) w) := by
  have q : decide ((200 : Int) < (m : Int)) = true := decide_eq_true (by omega)
  go_enter Try.func5, Try.ntmps5
  go_wp2_with (go_at_call 8; refine (awake_any _).mono ?_; rintro e w' ⟨rfl, hb⟩)
  go_ret
  exact ⟨rfl, hb⟩
set_option maxHeartbeats 1000000 in
set_option maxRecDepth 100000 in
theorem flips_none (A : Option Addr) (c : Nat) (i j x : Int) (w : World) :
    Calls Try.prog 5 #[.slice A 0 c, .int .i64 i, .int .i64 j, .int .i64 x] w (Gives (.bool true) w) := by
  go_enter Try.func5, Try.ntmps5
  go_wp2_with (go_at_call 8; refine (awake_any _).mono ?_; rintro e w' ⟨rfl, hb⟩)
  go_ret
  exact ⟨rfl, hb⟩

theorem own_cell {w : World} {B g cap n : Nat} {S : List Nat} (h : w.ownsRow B 5 1 (.slice (some ⟨g, 0, none⟩) n cap) n (S.map bt)) (j : Nat) (hj : j < n) :
    w.cell? ⟨g, j, none⟩ = some (.int .u8 ((S.getD j 0 : Nat) : Int)) := by
  have hl : S.length = n := by simpa using h.1
  rw [h.cellAt j (by omega), List.getElem?_map, List.getD_eq_getElem?_getD, List.getElem?_eq_getElem (by omega)]
  rfl
theorem own_set {w wr : World} {g cap n : Nat} {S : List Nat} (k y : Nat) (hg : w.heap.size ≤ g)
    (h : wr.ownsRow w.heap.size 5 1 (.slice (some ⟨g, 0, none⟩) n cap) n (S.map bt)) (hb : At w wr) :
    Hid ((wr.setCell ⟨g, k, none⟩ (.int .u8 (y : Int))).drew.ownsRow w.heap.size 5 1 (.slice (some ⟨g, 0, none⟩) n cap) n ((S.set k y).map bt)) ∧ Hid (At w (wr.setCell ⟨g, k, none⟩ (.int .u8 (y : Int))).drew) := by
  refine ⟨Lib.hid ?_, Lib.hid (At.drewN (Below.setCell hb hg _) 1)⟩
  rw [List.map_set]; exact own_drew (h.stored k (bt y)).1

/-- A place in a row: the byte and the bit in it. -/
theorem place (a m : Nat) (h : a < 8 * m) : ∃ k t : Nat, k < m ∧ t < 8 ∧ (a : Int) / 8 = (k : Int) ∧ (a : Int) % 8 = (t : Int) ∧ ∀ S, tn S a = S.set k (S.getD k 0 ^^^ 2 ^ t) :=
  ⟨a / 8, a % 8, by omega, by omega, by omega, by omega, fun _ => rfl⟩
theorem two_byte {t : Nat} (h : t < 8) : 2 ^ t < 256 := Nat.lt_of_le_of_lt (Nat.pow_le_pow_right (by omega) (show t ≤ 7 by omega)) (by omega)
theorem two_mod {t : Nat} (h : t < 8) : (2 : Int) ^ t % 256 = (2 : Int) ^ t := by
  have h1 := two_byte h
  rw [show (2 : Int) ^ t = ((2 ^ t : Nat) : Int) from (Int.natCast_pow 2 t).symm]
  generalize 2 ^ t = n at h1 ⊢
  omega
theorem two_u8 (t : Nat) : ((2 ^ t : Nat) : Int) = (2 : Int) ^ t := Int.natCast_pow 2 t

theorem allB_set {L : List Nat} (h : AllB L) (k : Nat) {y : Nat} (hy : y < 256) : AllB (L.set k y) := by
  intro c hc
  rcases List.mem_or_eq_of_mem_set hc with hc | rfl
  · exact h c hc
  · exact hy
theorem allB_tn {L : List Nat} (h : AllB L) (i : Nat) : AllB (tn L i) := allB_set h _ (xor_byte (allB_at h _) (two_byte (by omega)))

theorem still_of {P : Program} {f : FuncId} {args : Array Value} {v : Value} {w : World} (h : Calls P f args w fun e w' => e = .returned v ∧ w = w') : Calls P f args w fun e w' => e = .returned v ∧ w' = w :=
  h.mono fun _ _ ⟨a, b⟩ => ⟨a, b.symm⟩

set_option maxHeartbeats 2000000 in
set_option maxRecDepth 100000 in
theorem flips_some (ad : Addr) (m cp : Nat) (L : List Nat) (i j x : Int) (h0 : 0 < m) (hm : m ≤ 200) (hl : L.length = m) (hL : AllB L) (w : World) (hb : BV w (some ad) L) :
    Calls Try.prog 5 #[.slice (some ad) m cp, .int .i64 i, .int .i64 j, .int .i64 x] w (Gives (.bool true) w) := by
  obtain ⟨i0, hi, hz0, hz1, hz2⟩ := info_parts info_u8
  have q : decide ((200 : Int) < (m : Int)) = false := decide_eq_false (by omega)
  have q2 : ((m : Int) == 0) = false := by simp; omega
  have HO := Lib.hid (fun w' (h : At w w') => of_any (some ad) m cp L (by omega) hl hL w' (h.bv hb))
  have HC := Lib.hid (fun w' A' c' S (h : BV w' A' S) (hS : S.length = m) (aS : AllB S) => of_any A' m c' S (by omega) hS aS w' h)
  have HR := Lib.hid (fun k w' => round_any k (8 * m) (by omega) (by omega) w')
  rw [show ((8 * m : Nat) : Int) = 8 * (m : Int) by omega] at HR
  obtain ⟨s, hse⟩ : ∃ s, s = cr L := ⟨_, rfl⟩
  rw [← hse] at HO
  have HSE := Lib.hid hse
  have HL := Lib.hid hl
  have HAL := Lib.hid hL
  have HB := Lib.hid hb
  clear hse hl hL hb
  go_enter Try.func5, Try.ntmps5
  go_wp2_with fail
  refine (HO.out _ (At.start _)).mono ?_
  rintro e w1 ⟨rfl, a1⟩
  have A1 : Hid (At w w1) := Lib.hid a1
  clear a1
  go_wp2_with fail
  refine (HR.out _ _).mono ?_
  rintro e wz ⟨rfl, rfl⟩
  have ha := rd_lt i (8 * m) (by omega)
  obtain ⟨a, hae⟩ : ∃ a, a = rd i (8 * m) := ⟨_, rfl⟩
  rw [← hae] at ha ⊢
  clear hae
  go_wp2_with fail
  refine (HR.out _ _).mono ?_
  rintro e wz ⟨rfl, rfl⟩
  have hb := rd_lt j (8 * m) (by omega)
  obtain ⟨b, hbe⟩ : ∃ b, b = rd j (8 * m) := ⟨_, rfl⟩
  rw [← hbe] at hb ⊢
  clear hbe
  have HM := Lib.hid (made_own w1)
  go_wp2_with (at_builtin; refine wpList_append_own _ rfl (.tmp 35) (.tmp 36) 22 rfl w1.heap.size 5 i0 (.int .u8 0) 1 1 Try.underlying22 hi hz0 hz1 hz2 rfl (by decide) _ 0 [] rfl HM.out ad m cp (L.map bt) rfl (by rw [List.length_map, HL.out, Nat.mul_one]) (((A1.out.alloc _).bv HB.out).src) (bt_one _) (by unfold maxLen; omega) (by omega) (by simp) ?_; intro v2 w2 ho hg _; obtain ⟨HO2, HA2⟩ := grow_one HM.out ho hg; clear ho hg; obtain ⟨g, c2, rfl, hgB, _⟩ := HO2.out.form (by omega))
  obtain ⟨k, t, hk, ht, p1, p2, hT⟩ := place a m ha
  have HT := Lib.hid (hT L)
  have c1 := own_cell HO2.out k hk
  have f1 := HO2.out.frozenAt k
  have d1 := allB_at HAL.out k
  obtain ⟨y, hy⟩ : ∃ y, y = L.getD k 0 := ⟨_, rfl⟩
  rw [← hy] at c1 d1 HT
  have u1 := u8_xor_nat y (2 ^ t) d1 (two_byte ht)
  obtain ⟨z, hz⟩ : ∃ z, z = y ^^^ 2 ^ t := ⟨_, rfl⟩
  rw [← hz, two_u8] at u1
  rw [← hz] at HT
  have u2 := two_mod ht
  have g1 : (0 : Int) ≤ (k : Int) := by omega
  have g2 : (k : Int) < (m : Int) := by omega
  clear hy hz hT
  go_region
  obtain ⟨HO3, HA3⟩ := own_set (w := w1) k z hgB HO2.out HA2.out
  rw [← HT.out] at HO3
  have HC1 := HC.out _ _ c2 _ (own_bv HO3.out).2 (by rw [tn_len, HL.out]) (allB_tn HAL.out a)
  obtain ⟨s1, hs1⟩ : ∃ s, s = cr (tn L a) := ⟨_, rfl⟩
  rw [← hs1] at HC1
  have HS1 := Lib.hid hs1
  have HC1 := Lib.hid HC1
  clear hs1 c1 f1 u1 u2 p1 p2 HO2 HA2
  go_wp2_with fail
  refine HC1.out.mono ?_
  rintro e w4 ⟨rfl, a4⟩
  have HO4 := Lib.hid (own_at HO3.out a4)
  have HA4 := Lib.hid (HA3.out.next a4)
  clear a4 HO3 HA3 HC1
  obtain ⟨k2, t2, hk2, ht2, p1, p2, hT2⟩ := place b m hb
  have HT2 := Lib.hid (hT2 (tn L a))
  have c1 := own_cell HO4.out k2 hk2
  have f1 := HO4.out.frozenAt k2
  have d2 := allB_at (allB_tn HAL.out a) k2
  obtain ⟨y2, hy⟩ : ∃ y, y = (tn L a).getD k2 0 := ⟨_, rfl⟩
  rw [← hy] at c1 d2 HT2
  have u1 := u8_xor_nat y2 (2 ^ t2) d2 (two_byte ht2)
  obtain ⟨z2, hz⟩ : ∃ z, z = y2 ^^^ 2 ^ t2 := ⟨_, rfl⟩
  rw [← hz, two_u8] at u1
  rw [← hz] at HT2
  have u2 := two_mod ht2
  have g3 : (0 : Int) ≤ (k2 : Int) := by omega
  have g4 : (k2 : Int) < (m : Int) := by omega
  clear hy hz hT2
  go_wp2
  go_region
  obtain ⟨HO5, HA5⟩ := own_set (w := w1) k2 z2 hgB HO4.out HA4.out
  rw [← HT2.out] at HO5
  have HC2 := HC.out _ _ c2 _ (own_bv HO5.out).2 (by rw [tn_len, tn_len, HL.out]) (allB_tn (allB_tn HAL.out a) b)
  obtain ⟨s2, hs2⟩ : ∃ s, s = cr (tn (tn L a) b) := ⟨_, rfl⟩
  rw [← hs2] at HC2
  have HS2 := Lib.hid hs2
  have HC2 := Lib.hid HC2
  clear hs2 c1 f1 u1 u2 p1 p2 HO4 HA4
  go_wp2_with fail
  refine HC2.out.mono ?_
  rintro e w6 ⟨rfl, a6⟩
  have A6 : Hid (At w w6) := Lib.hid (A1.out.next (HA5.out.next a6))
  clear a6 HO5 HA5 HC2
  have HM2 := Lib.hid (made_own w6)
  go_wp2_with (at_builtin; refine wpList_append_own _ rfl (.tmp 68) (.tmp 69) 22 rfl w6.heap.size 5 i0 (.int .u8 0) 1 1 Try.underlying22 hi hz0 hz1 hz2 rfl (by decide) _ 0 [] rfl HM2.out ad m cp (L.map bt) rfl (by rw [List.length_map, HL.out, Nat.mul_one]) (((A6.out.alloc _).bv HB.out).src) (bt_one _) (by unfold maxLen; omega) (by omega) (by simp) ?_; intro v7 w7 ho hg _; obtain ⟨HO7, HA7⟩ := grow_one HM2.out ho hg; clear ho hg; obtain ⟨g2, c7, rfl, hgB2, _⟩ := HO7.out.form (by omega))
  obtain ⟨k, t, hk, ht, p1, _, _⟩ := place a m ha
  have c1 := own_cell HO7.out k hk
  have f1 := HO7.out.frozenAt k
  have d1 := allB_at HAL.out k
  have hr := rd_lt x 255 (by omega)
  have HRX := Lib.hid (fun w' => round_any x 255 (by omega) (by omega) w')
  obtain ⟨r, hre⟩ : ∃ r, r = rd x 255 := ⟨_, rfl⟩
  rw [← hre] at hr HRX
  have HBY := Lib.hid (cr_byte L k (r + 1) (by rw [HL.out]; exact hk) (by omega) (by omega))
  have hz := xor_byte d1 (show r + 1 < 256 by omega)
  have HAD := Lib.hid (allB_set HAL.out k hz)
  obtain ⟨y, hy⟩ : ∃ y, y = L.getD k 0 := ⟨_, rfl⟩
  rw [← hy] at c1 d1 hz HBY HAD
  have u1 := u8_xor_nat y (r + 1) d1 (by omega)
  obtain ⟨z, hze⟩ : ∃ z, z = y ^^^ (r + 1) := ⟨_, rfl⟩
  rw [← hze] at u1 HBY HAD
  rw [show ((r + 1 : Nat) : Int) = (r : Int) + 1 by omega] at u1
  have u2 : ((r : Int) + 1) % 256 = (r : Int) + 1 := by omega
  have g1 : (0 : Int) ≤ (k : Int) := by omega
  have g2 : (k : Int) < (m : Int) := by omega
  clear hre hy hz hze
  have n1 : IntKind.i64.wrap (k : Int) = (k : Int) := IntWalk.i64_in _ (by omega)
  have n2 : IntKind.i64.wrap ((r : Int) + 1) = (r : Int) + 1 := IntWalk.i64_in _ (by omega)
  have n3 : IntKind.u8.wrap ((r : Int) + 1) = (r : Int) + 1 := by rw [IntKind.wrap_u8]; omega
  refine wp_region_still_tail 14 (by kernel_rfl) (by kernel_rfl) ?_
  simp only [List.take_succ_cons, List.take_zero, List.drop_succ_cons, List.drop_zero]
  iterate 9 still_step
  still_call (still_of (HRX.out _))
  iterate 4 still_step
  refine wpStill_nil ?_
  change wpList _ _ _ _ _ w7.drew
  obtain ⟨HO8, HA8⟩ := own_set (w := w6) k z hgB2 HO7.out HA7.out
  have HC8 := HC.out _ _ c7 _ (own_bv HO8.out).2 (by rw [List.length_set, HL.out]) HAD.out
  obtain ⟨s3, hs3⟩ : ∃ s, s = cr (L.set k z) := ⟨_, rfl⟩
  rw [← hs3] at HC8 HBY
  have HC8 := Lib.hid HC8
  have t1 : ((s1 : Int) != (s : Int)) = true := by
    have := cr_one L a (by rw [HL.out]; exact ha)
    rw [← HS1.out, ← HSE.out] at this
    simp; omega
  have t2 : ((s2 : Int) != (s : Int)) = ((a : Int) != (b : Int)) := by
    have := cr_two L a b (by rw [HL.out]; omega) (by rw [HL.out]; exact ha) (by rw [HL.out]; exact hb)
    rw [← HS2.out, ← HSE.out] at this
    rw [Bool.eq_iff_iff]
    simp only [bne_iff_ne, ne_eq, Int.natCast_inj]
    rw [this]
  have t3 : ((s3 : Int) != (s : Int)) = true := by
    have := HBY.out
    rw [← HSE.out] at this
    simp; omega
  clear hs3
  go_wp2_with fail
  refine HC8.out.mono ?_
  rintro e w9 ⟨rfl, a9⟩
  have A9 : Hid (At w w9) := Lib.hid (A6.out.next (HA8.out.next a9))
  clear a9
  go_wp2_with fail
  refine (awake_any _).mono ?_
  rintro e w10 ⟨rfl, a10⟩
  have A10 : Hid (At w w10) := Lib.hid (A9.out.next a10)
  clear a10
  go_wp2
  go_ret
  exact ⟨rfl, A10.out⟩

end Go.Proofs.Ytplddmkikdfonaa
