/- Proved: the law FrameTorn answers true at any block and leaves what there was as it was: a block whose end a crash has turned is none. -/
import Derived.Test.YtkohkpmpbcgodaaLaw
import Derived.Test.YtkohkpmpbcgodaaApp
namespace Go.Proofs.Ytkohkpmpbcgodaa
open Go.RowKit

set_option maxHeartbeats 1000000 in
set_option maxRecDepth 100000 in
theorem torn_big (k e s l : Int) (A : Option Addr) (n c : Nat) (h : 300 < n) (w : World) :
    Calls Try.prog 5 #[.agg #[.int .i64 k, .int .i64 e, .int .i64 s, .int .i64 l, .slice A n c]] w (Gives (.bool true) w) := by
  have q : decide ((300 : Int) < (n : Int)) = true := decide_eq_true (by omega)
  have HA := Lib.hid ((At.start w).alloc (.cells #[.int .i64 k, .int .i64 e, .int .i64 s, .int .i64 l, .slice A n c] 24))
  go_enter Try.func5, Try.ntmps5
  go_wp2_with (go_at_call 8; refine (awake_any _).mono ?_; rintro e w' ⟨rfl, hb⟩)
  go_ret
  exact ⟨rfl, HA.out.next hb⟩
set_option maxHeartbeats 1000000 in
set_option maxRecDepth 100000 in
theorem torn_no (k e s l : Int) (A : Option Addr) (n c r : Nat) (h : n ≤ 300) (hr : r = 1 ∨ r = 3) (he : ∀ (A : Option Addr) (c : Nat) (w : World), Calls Try.prog 9 #[.agg #[.int .i64 k, .int .i64 e, .int .i64 s, .int .i64 l, .slice A n c]] w (Gives (.tuple #[.slice none 0 0, .int .i64 (r : Int)]) w)) (w : World) :
    Calls Try.prog 5 #[.agg #[.int .i64 k, .int .i64 e, .int .i64 s, .int .i64 l, .slice A n c]] w (Gives (.bool true) w) := by
  have q : decide ((300 : Int) < (n : Int)) = false := decide_eq_false (by omega)
  have nb : ((r : Int) != 0) = true := by simp; omega
  have HE := Lib.hid he
  have HA := Lib.hid ((At.start w).alloc (.cells #[.int .i64 k, .int .i64 e, .int .i64 s, .int .i64 l, .slice A n c] 24))
  clear he
  go_enter Try.func5, Try.ntmps5
  go_wp2_with fail
  refine (made_any k e s l A n c _).mono ?_
  rintro x w1 ⟨rfl, h1⟩
  have H1 := Lib.hid (HA.out.next h1)
  clear h1
  go_wp2_with fail
  refine (HE.out A c _).mono ?_
  rintro x w2 ⟨rfl, h2⟩
  have H2 := Lib.hid (H1.out.next h2)
  clear h2
  go_wp2_with fail
  refine (awake_any _).mono ?_
  rintro x w3 ⟨rfl, h3⟩
  have H3 := Lib.hid (H2.out.next h3)
  clear h3
  go_wp2
  go_ret
  exact ⟨rfl, H3.out⟩

theorem torn_bad {P Q : List Nat} (hP : P.length = 64) (hQ : Q.length = 64) (hg : Good P) (h : Q.getD 58 0 = P.getD 58 0 ^^^ 85) : ¬ Good Q := by
  intro hq
  have h1 := good_58 hP hg
  have h2 := good_58 hQ hq
  rw [h1, h2] at h
  exact absurd h (by decide)

set_option maxHeartbeats 2000000 in
set_option maxRecDepth 100000 in
theorem torn_yes (k e s l : Nat) (A : Option Addr) (n c : Nat) (L : List Nat) (hm : May k e s l L) (hl : L.length = n) (w : World) (hx : BV w A L) :
    Calls Try.prog 5 #[.agg #[.int .i64 (k : Int), .int .i64 (e : Int), .int .i64 (s : Int), .int .i64 (l : Int), .slice A n c]] w (Gives (.bool true) w) := by
  obtain ⟨i0, hi, hz0, hz1, hz2⟩ := info_parts info_u8
  have hn : n ≤ 40 := by rw [← hl]; exact hm.n
  have q : decide ((300 : Int) < (n : Int)) = false := decide_eq_false (by omega)
  have HA := Lib.hid ((At.start w).alloc (.cells #[.int .i64 (k : Int), .int .i64 (e : Int), .int .i64 (s : Int), .int .i64 (l : Int), .slice A n c] 24))
  have HE := Lib.hid (fun w' (h : At w w') => encode_yes A k e s l n c L hm hl w' (h.bv hx))
  obtain ⟨P, hP⟩ : ∃ P, P = en k e s l L := ⟨_, rfl⟩
  rw [← hP] at HE
  have HPL : Hid (P.length = 64) := Lib.hid (by rw [hP]; exact en_len hm.n)
  have HPB : Hid (AllB P) := Lib.hid (by rw [hP]; exact en_byte hm)
  have HPG : Hid (Good P) := Lib.hid (by rw [hP]; exact (en_good hm).1)
  clear hm hl hx hP
  go_enter Try.func5, Try.ntmps5
  go_wp2_with fail
  refine (made_any _ _ _ _ A n c _).mono ?_
  rintro x w1 ⟨rfl, h1⟩
  have H1 := Lib.hid (HA.out.next h1)
  clear h1
  go_wp2_with fail
  refine (HE.out _ H1.out).mono ?_
  rintro x w2 ⟨g, rfl, _, hv2, h2⟩
  have H2 := Lib.hid (H1.out.next h2)
  have HV2 := Lib.hid hv2
  clear h2 hv2
  have HM := Lib.hid (made_own w2)
  go_wp2_with (at_builtin; refine wpList_append_own _ rfl _ _ 22 rfl w2.heap.size 5 i0 (.int .u8 0) 1 1 Try.underlying22 hi hz0 hz1 hz2 rfl (by decide) _ 0 [] rfl HM.out ⟨g, 0, none⟩ 64 64 (P.map bt) rfl (by rw [List.length_map, HPL.out]) ((HV2.out.below ((Below.refl _ _).alloc (Nat.le_refl _) _)).src) (bt_one _) (by unfold maxLen; omega) (by omega) (by simp) ?_; intro v3 w3 ho hg _; obtain ⟨HO3, HA3⟩ := grow_one HM.out ho hg; clear ho hg; obtain ⟨g3, c3, rfl, hgB, _⟩ := HO3.out.form (by omega))
  have hc3 : 64 ≤ c3 := own_cap HO3.out
  go_loopw [6] (fun c6 wr => ∃ (j : Nat) (Q : List Nat), 32 ≤ j ∧ j ≤ 64 ∧ c6 = .int .i64 (j : Int) ∧ Hid (Q.length = 64) ∧ Hid (AllB Q) ∧ Hid (58 < j → Q.getD 58 0 = P.getD 58 0 ^^^ 85) ∧ Hid (∀ i, j ≤ i → Q.getD i 0 = P.getD i 0) ∧ Hid (wr.ownsRow w2.heap.size 5 1 (.slice (some ⟨g3, 0, none⟩) 64 c3) 64 (Q.map bt)) ∧ Hid (At w2 wr)) (fun c6 _ => 64 - (intOf c6).toNat)
  case atStart => exact ⟨32, P, by omega, by omega, rfl, HPL, HPB, Lib.hid (fun h => by omega), Lib.hid (fun _ _ => rfl), HO3, HA3⟩
  case round =>
    obtain ⟨j, Q, hj, hj2, rfl, HQL, HQB, H58, HQP, HO, HAW⟩ := hrel
    by_cases hlt : j < 64
    · have e1 := own_cell HO.out j hlt
      have f1 := HO.out.frozenAt j
      have d1 := allB_at HQB.out j
      obtain ⟨y, hy⟩ : ∃ y, y = Q.getD j 0 := ⟨_, rfl⟩
      rw [← hy] at e1 d1
      have u1 := u8_xor_nat y 85 d1 (by omega)
      have hz := xor_byte d1 (show 85 < 256 by omega)
      obtain ⟨z, hze⟩ : ∃ z, z = y ^^^ 85 := ⟨_, rfl⟩
      rw [← hze] at u1 hz
      obtain ⟨HO2, HAW2⟩ := own_set (w := w2) j z hgB HO.out HAW.out
      have HY := Lib.hid hy
      have HZE := Lib.hid hze
      have g1 : (0 : Int) ≤ (j : Int) := by omega
      have g2 : (j : Int) < 64 := by omega
      have u1' : bits .xor .u8 (y : Int) 85 = (z : Int) := u1
      clear hy hze u1
      go_wp2
      go_roundw
      case rel =>
        refine ⟨j + 1, Q.set j z, by omega, by omega, by go_num, Lib.hid (by rw [List.length_set]; exact HQL.out), Lib.hid (allB_set HQB.out j hz), Lib.hid (fun h => ?_), Lib.hid (fun i hi => ?_), HO2, HAW2⟩
        · by_cases h58 : j = 58
          · subst h58
            rw [List.getD_eq_getElem?_getD, List.getElem?_set_self (by rw [HQL.out]; omega), Option.getD_some, HZE.out, HY.out, HQP.out 58 (Nat.le_refl _)]
          · rw [List.getD_eq_getElem?_getD, List.getElem?_set_ne h58, ← List.getD_eq_getElem?_getD]
            exact H58.out (by omega)
        · rw [List.getD_eq_getElem?_getD, List.getElem?_set_ne (by omega), ← List.getD_eq_getElem?_getD]
          exact HQP.out i (by omega)
      case measure => simp [intOf]; omega
    · have hj64 : j = 64 := by omega
      subst hj64
      have hbad := torn_bad HPL.out HQL.out HPG.out (H58.out (by omega))
      have HD := Lib.hid (decode_bad (some ⟨g3, 0, none⟩) c3 Q HQL.out HQB.out hbad wr (own_bv HO.out).2 hc3)
      have H4 := Lib.hid (H2.out.next HAW.out)
      go_wp2_with fail
      refine HD.out.mono ?_
      rintro x w5 ⟨rfl, h5⟩
      have H5 := Lib.hid ((H4.out.next h5).alloc (.cells #[.int .i64 0, .int .i64 0, .int .i64 0, .int .i64 0, .slice none 0 0] 29))
      clear h5
      go_wp2_with fail
      refine (awake_any _).mono ?_
      rintro x w6 ⟨rfl, h6⟩
      have H6 := Lib.hid (H5.out.next h6)
      clear h6
      go_wp2
      go_ret
      exact ⟨rfl, H6.out⟩

theorem torn_any (k e s l : Int) (A : Option Addr) (n c : Nat) (L : List Nat) (hl : L.length = n) (hL : AllB L) (w : World) (hx : BV w A L) :
    Calls Try.prog 5 #[.agg #[.int .i64 k, .int .i64 e, .int .i64 s, .int .i64 l, .slice A n c]] w (Gives (.bool true) w) := by
  by_cases h : 300 < n
  · exact torn_big k e s l A n c h w
  · rcases encode_ways k e s l n L hl hL with ⟨k', e', s', l', rfl, rfl, rfl, rfl, hm⟩ | ⟨_, r, hr, _, he⟩
    · exact torn_yes k' e' s' l' A n c L hm hl w hx
    · exact torn_no k e s l A n c r (by omega) hr he w

end Go.Proofs.Ytkohkpmpbcgodaa
