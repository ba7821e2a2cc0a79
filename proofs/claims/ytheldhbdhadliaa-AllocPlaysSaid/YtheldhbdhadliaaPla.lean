/- Proved: the law AllocPlays answers true for any two numbers and any steps: each call answers, and what is free, and how worn, is as the document says. -/
import Derived.Test.YtheldhbdhadliaaBot
import Derived.Deep.RegionHeld3
import Derived.Deep.DrawnRows
import Derived.Deep.Cut
import Derived.Deep.CutRange
import Derived.Deep.CutBlock
namespace Go.Proofs.Ytheldhbdhadliaa
open Go.RowKit

theorem plays_long (n sp : Int) (A : Option Addr) (u c : Nat) (h : 500 < u) (w : World) : Calls Try.prog 3 #[.int .i64 n, .int .i64 sp, .slice A u c] w (Gives (.bool true) w) := by
  have h5 : decide ((500 : Int) < (u : Int)) = true := decide_eq_true (by omega)
  clear h
  go_enter Try.func3, Try.ntmps3
  go_wp2_with (go_at_call 8; refine (awake_any _).mono ?_; rintro e w' ⟨rfl, hb⟩)
  go_ret
  exact ⟨rfl, hb⟩
theorem plays_bad (n sp : Int) (A : Option Addr) (u c : Nat) (h : u ≤ 500) (hm : ¬ May n sp) (w : World) : Calls Try.prog 3 #[.int .i64 n, .int .i64 sp, .slice A u c] w (Gives (.bool true) w) := by
  have h5 : decide ((500 : Int) < (u : Int)) = false := decide_eq_false (by omega)
  have HA := Lib.hid (new_bad n sp hm)
  have HR := Lib.hid (rnew_bad n sp hm)
  clear h hm
  go_enter Try.func3, Try.ntmps3
  go_wp2_with (first
    | (go_at_call 9; refine (HA.out _).mono ?_; rintro e w' ⟨rfl, rfl⟩)
    | (go_at_call 10; refine (HR.out _).mono ?_; rintro e w' ⟨rfl, rfl⟩)
    | (go_at_call 8; refine (awake_any _).mono ?_; rintro e w' ⟨rfl, hb⟩))
  go_ret
  exact ⟨rfl, hb⟩

set_option maxHeartbeats 4000000 in
set_option maxRecDepth 100000 in
theorem plays_in (n sp : Nat) (A : Option Addr) (u c : Nat) (Z : List (Int × Int)) (h1 : 1 ≤ n) (h2 : n ≤ 64) (hs : sp ≤ n) (h3 : u ≤ 500) (hl : Z.length = u) (w : World) (hv : SView w (.slice A u c) Z) : Calls Try.prog 3 #[.int .i64 (n : Int), .int .i64 (sp : Int), .slice A u c] w (Gives (.bool true) w) := by
  have e3 : decide ((500 : Int) < (u : Int)) = false := decide_eq_false (by omega)
  have HL := Lib.hid hl
  have HV := Lib.hid hv
  have HG := Lib.hid awake_any
  clear hl hv
  go_enter Try.func3, Try.ntmps3
  go_wp2_with fail
  refine (new_ok n sp h1 h2 hs _).mono ?_
  rintro e w1 ⟨b, z, rfl, hn⟩
  have HN := Lib.hid hn
  clear hn
  go_wp2_with fail
  refine (rnew_ok n sp h1 h2 hs _).mono ?_
  rintro e w2 ⟨d, f, g, rfl, hk⟩
  have HP0 : Hid (Pz w b z d f g n sp (nw n) w2) := Lib.hid (Pz.start HN.out hk)
  have HC0 : Hid ((nw n).length = n ∧ Lo (nw n) 0) := Lib.hid ⟨nw_len n, nw_lo n⟩
  clear hk HN
  go_wp2
  go_loopw [11] (fun c11 wr => ∃ (i : Nat) (L : List St), i ≤ u ∧ c11 = .int .i64 (i : Int) ∧ Hid (Pz w b z d f g n sp L wr ∧ L.length = n ∧ Lo L i)) (fun c11 _ => u - (intOf c11).toNat)
  case atStart => exact ⟨0, nw n, by omega, rfl, Lib.hid ⟨HP0.out, HC0.out⟩⟩
  case round =>
    clear HP0 HC0
    obtain ⟨i, L, hi, rfl, HP⟩ := hrel
    by_cases hlt : i < u
    · obtain ⟨lb, off, cap, hsl, hlb, hcs⟩ := sv_pos (HV.out.on HP.out.1.stands) (by rw [HL.out]; omega)
      injection hsl with q1 q2 q3
      subst q1 q3
      obtain ⟨hc, hc2⟩ := hcs i (by rw [HL.out]; exact hlt)
      generalize (Z.getD i (0, 0)).1 = x at hc
      generalize (Z.getD i (0, 0)).2 = y at hc2
      have g1 : (0 : Int) ≤ (i : Int) := by omega
      have g2 : (i : Int) < (u : Int) := by omega
      have hp := HP.out.1.step x y
      obtain ⟨s, hse⟩ : ∃ s, s = wr.heap.size := ⟨_, rfl⟩
      obtain ⟨wa, hwa⟩ : ∃ wa, wa = wr.alloc (.cells #[.int .i64 x, .int .i64 y] 32) := ⟨_, rfl⟩
      rw [← hse, ← hwa] at hp
      have HPA := Lib.hid hp
      have HSE := Lib.hid hse
      have HWA := Lib.hid hwa
      obtain ⟨s0, s1⟩ := HPA.out.cells
      clear hcs q2 hlb hse hwa hp
      go_upto_block 2 with fail
      rw [← HWA.out, ← HSE.out]
      clear hc hc2 HWA HSE
      go_cut [13, 14, 15, 16, 17] from 48 to 150 (fun s13 s14 s15 s16 s17 wx => ∃ L' : List St, s13 = .bool true ∧ Hid (Py w b z d f g n sp s x y L' L' wx ∧ L'.length = n ∧ Lo L' (i + 1)))
      case first =>
        by_cases hx1 : x = 1
        · subst hx1
          obtain ⟨k, e, L', ha, hr, hl', hlo⟩ := take_both w b z d f g n sp s 1 y false L HP.out.2.1 i HP.out.2.2
          have HA := Lib.hid ha
          have HR := Lib.hid hr
          have HLL := Lib.hid (And.intro hl' (hlo.more (Nat.le_succ i)))
          have nk : ((k : Int) == (k : Int)) = true := by simp
          have ne : ((e : Int) == (e : Int)) = true := by simp
          clear ha hr hl' hlo
          go_wp2_with fail
          refine (HA.out _ _ HPA.out).mono ?_
          rintro e1 w3 ⟨rfl, hp3⟩
          have HP3 := Lib.hid hp3
          obtain ⟨t0, t1⟩ := HP3.out.cells
          clear hp3
          go_wp2_with fail
          refine (HR.out _ _ HP3.out).mono ?_
          rintro e2 w4 ⟨rfl, hp4⟩
          have HP4 := Lib.hid hp4
          clear hp4
          go_wp2
          go_meet
          case rel => exact ⟨L', rfl, Lib.hid ⟨HP4.out, HLL.out⟩⟩
        by_cases hx2 : x = 2
        · subst hx2
          obtain ⟨k, e, L', ha, hr, hl', hlo⟩ := take_both w b z d f g n sp s 2 y true L HP.out.2.1 i HP.out.2.2
          have HA := Lib.hid ha
          have HR := Lib.hid hr
          have HLL := Lib.hid (And.intro hl' (hlo.more (Nat.le_succ i)))
          have nk : ((k : Int) == (k : Int)) = true := by simp
          have ne : ((e : Int) == (e : Int)) = true := by simp
          clear ha hr hl' hlo
          go_wp2_with fail
          refine (HA.out _ _ HPA.out).mono ?_
          rintro e1 w3 ⟨rfl, hp3⟩
          have HP3 := Lib.hid hp3
          obtain ⟨t0, t1⟩ := HP3.out.cells
          clear hp3
          go_wp2_with fail
          refine (HR.out _ _ HP3.out).mono ?_
          rintro e2 w4 ⟨rfl, hp4⟩
          have HP4 := Lib.hid hp4
          clear hp4
          go_wp2
          go_meet
          case rel => exact ⟨L', rfl, Lib.hid ⟨HP4.out, HLL.out⟩⟩
        by_cases hx3 : x = 3
        · subst hx3
          clear hx1 hx2
          obtain ⟨e, L', ha, hr, hl', hlo⟩ := free_both w b z d f g n sp s 3 y L HP.out.2.1 i (by omega) HP.out.2.2
          have HA := Lib.hid ha
          have HR := Lib.hid hr
          have HLL := Lib.hid (And.intro hl' hlo)
          have ne : ((e : Int) == (e : Int)) = true := by simp
          have HPD := Lib.hid (HPA.out.next ((At.start wa).drewN 1))
          clear ha hr hl' hlo
          go_wp2_with fail
          go_region_held3 (fun w' => w'.cell? ⟨s, 1, none⟩ = some (.int .i64 y)) (first | go_keep | exact hp4.cells.2 | exact hp3.cells.2)
            (first
              | (go_at_call 13; refine (HA.out _ _ HPD.out).mono ?_; rintro e1 w3 ⟨rfl, hp3⟩)
              | (go_at_call 14; refine (HR.out _ _ hp3).mono ?_; rintro e1 w4 ⟨rfl, hp4⟩)
              | (go_at_call 14; refine (HR.out _ _ HPD.out).mono ?_; rintro e1 w3 ⟨rfl, hp3⟩)
              | (go_at_call 13; refine (HA.out _ _ hp3).mono ?_; rintro e1 w4 ⟨rfl, hp4⟩))
          all_goals
            have HP4 := Lib.hid hp4
            clear hp4 hp3
            go_wp2
            go_meet
            case rel => exact ⟨L', rfl, Lib.hid ⟨HP4.out, HLL.out⟩⟩
        by_cases hx4 : x = 4
        · subst hx4
          clear hx1 hx2 hx3
          obtain ⟨e, L', ha, hr, hl', hlo⟩ := mark_both w b z d f g n sp s 4 y L HP.out.2.1 (i + 1) (HP.out.2.2.more (Nat.le_succ i))
          have HA := Lib.hid ha
          have HR := Lib.hid hr
          have HLL := Lib.hid (And.intro hl' hlo)
          have ne : ((e : Int) == (e : Int)) = true := by simp
          have HPD := Lib.hid (HPA.out.next ((At.start wa).drewN 1))
          clear ha hr hl' hlo
          go_wp2_with fail
          go_region_held3 (fun w' => w'.cell? ⟨s, 1, none⟩ = some (.int .i64 y)) (first | go_keep | exact hp4.cells.2 | exact hp3.cells.2)
            (first
              | (go_at_call 15; refine (HA.out _ _ HPD.out).mono ?_; rintro e1 w3 ⟨rfl, hp3⟩)
              | (go_at_call 16; refine (HR.out _ _ hp3).mono ?_; rintro e1 w4 ⟨rfl, hp4⟩)
              | (go_at_call 16; refine (HR.out _ _ HPD.out).mono ?_; rintro e1 w3 ⟨rfl, hp3⟩)
              | (go_at_call 15; refine (HA.out _ _ hp3).mono ?_; rintro e1 w4 ⟨rfl, hp4⟩))
          all_goals
            have HP4 := Lib.hid hp4
            clear hp4 hp3
            go_wp2
            go_meet
            case rel => exact ⟨L', rfl, Lib.hid ⟨HP4.out, HLL.out⟩⟩
        have nb1 : (x == 1) = false := by simpa using hx1
        have nb2 : (x == 2) = false := by simpa using hx2
        have nb3 : (x == 3) = false := by simpa using hx3
        have nb4 : (x == 4) = false := by simpa using hx4
        clear hx1 hx2 hx3 hx4
        go_wp2
        go_meet
        case rel => exact ⟨L, rfl, Lib.hid ⟨HPA.out, HP.out.2.1, HP.out.2.2.more (Nat.le_succ i)⟩⟩
      case rest =>
        obtain ⟨L', rfl, HQ⟩ := hcut
        obtain ⟨s0, s1⟩ := HQ.out.1.cells
        clear HPA HP
        by_cases hy : 0 ≤ y ∧ y < (n : Int)
        · obtain ⟨k, rfl⟩ := Int.eq_ofNat_of_zero_le hy.1
          have hk : k < n := by omega
          have g3 : (0 : Int) ≤ (k : Int) := by omega
          have g4 : (k : Int) < (n : Int) := by omega
          obtain ⟨-, r1, -⟩ := HQ.out.1.ra.cells
          have rw1 := HQ.out.1.ra.cw hk
          obtain ⟨q, hq⟩ : ∃ q, q = (sa L' k).w := ⟨_, rfl⟩
          rw [← hq] at rw1
          have HQQ := Lib.hid hq
          have nbq : ((q : Int) != (q : Int)) = false := by simp
          have HQD := Lib.hid (fun m => And.intro (HQ.out.1.next ((At.start wc).drewN m)) HQ.out.2)
          clear hy hq HQ
          go_wp2
          go_quiet (fail)
          have HQ1 := Lib.hid (HQD.out nq)
          clear HQD s0 s1 r1 rw1
          go_wp2_with fail
          refine (count_al HQ1.out.1.al).mono ?_
          rintro e w5 ⟨rfl, ha⟩
          have HQ2 := Lib.hid (And.intro (HQ1.out.1.next ha) HQ1.out.2)
          clear ha HQ1
          go_wp2_with fail
          refine (count_ra HQ2.out.1.ra).mono ?_
          rintro e w6 ⟨rfl, ha⟩
          have HQ3 := Lib.hid (And.intro (HQ2.out.1.next ha) HQ2.out.2)
          have nbn : ((nf L' : Int) != (nf L' : Int)) = false := by simp
          clear ha HQ2
          go_wp2_with fail
          refine (list_al HQ3.out.1.al).mono ?_
          rintro e w7 ⟨v1, rfl, hli⟩
          obtain ⟨A1, c1, rfl, _, hnv1⟩ := own_nv hli.own
          have HQ4 := Lib.hid (And.intro (HQ3.out.1.next hli.stands) HQ3.out.2)
          have HN1 := Lib.hid hnv1
          clear hli hnv1 HQ3 nbn
          go_wp2_with fail
          refine (list_ra HQ4.out.1.ra).mono ?_
          rintro e w8 ⟨v2, rfl, hli⟩
          obtain ⟨A2, c2, rfl, _, hnv2⟩ := own_nv hli.own
          have HQ5 := Lib.hid (And.intro (HQ4.out.1.next hli.stands) HQ4.out.2)
          have HN2 := Lib.hid (And.intro (HN1.out.on hli.stands) hnv2)
          clear hli hnv2 HQ4 HN1
          go_wp2_with fail
          refine (ints_same A1 A2 _ c1 c2 (fr L' n) w8 (Nat.le_trans (fr_len L' n) (by omega)) rfl HN2.out.1 HN2.out.2).mono ?_
          rintro e w9 ⟨rfl, ha⟩
          have HQ6 := Lib.hid (And.intro (HQ5.out.1.next ha) HQ5.out.2)
          obtain ⟨t0, t1⟩ := HQ6.out.1.cells
          clear ha HQ5 HN2
          go_wp2_with fail
          refine (wear_yes HQ6.out.1.al k hk).mono ?_
          rintro e w10 ⟨rfl, rfl⟩
          rw [← HQQ.out]
          go_wp2
          go_roundw
          case rel => exact ⟨i + 1, L', by omega, by go_num, Lib.hid ⟨HQ6.out.1.z, HQ6.out.2⟩⟩
          case measure => simp [intOf]; omega
        · have hwn := fun w' (h : Al w' b z n sp L') => wear_no h y hy
          have HWN := Lib.hid hwn
          have HQ1 := HQ
          have nbq : ((0 : Int) != 0) = false := by simp
          by_cases hy0 : 0 ≤ y
          · have hyn : ¬ y < (n : Int) := fun h => hy ⟨hy0, h⟩
            clear hy HQ hwn
            go_wp2_with fail
            refine (count_al HQ1.out.1.al).mono ?_
            rintro e w5 ⟨rfl, ha⟩
            have HQ2 := Lib.hid (And.intro (HQ1.out.1.next ha) HQ1.out.2)
            clear ha HQ1
            go_wp2_with fail
            refine (count_ra HQ2.out.1.ra).mono ?_
            rintro e w6 ⟨rfl, ha⟩
            have HQ3 := Lib.hid (And.intro (HQ2.out.1.next ha) HQ2.out.2)
            have nbn : ((nf L' : Int) != (nf L' : Int)) = false := by simp
            clear ha HQ2
            go_wp2_with fail
            refine (list_al HQ3.out.1.al).mono ?_
            rintro e w7 ⟨v1, rfl, hli⟩
            obtain ⟨A1, c1, rfl, _, hnv1⟩ := own_nv hli.own
            have HQ4 := Lib.hid (And.intro (HQ3.out.1.next hli.stands) HQ3.out.2)
            have HN1 := Lib.hid hnv1
            clear hli hnv1 HQ3 nbn
            go_wp2_with fail
            refine (list_ra HQ4.out.1.ra).mono ?_
            rintro e w8 ⟨v2, rfl, hli⟩
            obtain ⟨A2, c2, rfl, _, hnv2⟩ := own_nv hli.own
            have HQ5 := Lib.hid (And.intro (HQ4.out.1.next hli.stands) HQ4.out.2)
            have HN2 := Lib.hid (And.intro (HN1.out.on hli.stands) hnv2)
            clear hli hnv2 HQ4 HN1
            go_wp2_with fail
            refine (ints_same A1 A2 _ c1 c2 (fr L' n) w8 (Nat.le_trans (fr_len L' n) (by omega)) rfl HN2.out.1 HN2.out.2).mono ?_
            rintro e w9 ⟨rfl, ha⟩
            have HQ6 := Lib.hid (And.intro (HQ5.out.1.next ha) HQ5.out.2)
            obtain ⟨t0, t1⟩ := HQ6.out.1.cells
            clear ha HQ5 HN2
            go_wp2_with fail
            refine (HWN.out _ HQ6.out.1.al).mono ?_
            rintro e w10 ⟨rfl, rfl⟩
            go_wp2
            go_roundw
            case rel => exact ⟨i + 1, L', by omega, by go_num, Lib.hid ⟨HQ6.out.1.z, HQ6.out.2⟩⟩
            case measure => simp [intOf]; omega
          · clear hy HQ hwn
            go_wp2_with fail
            refine (count_al HQ1.out.1.al).mono ?_
            rintro e w5 ⟨rfl, ha⟩
            have HQ2 := Lib.hid (And.intro (HQ1.out.1.next ha) HQ1.out.2)
            clear ha HQ1
            go_wp2_with fail
            refine (count_ra HQ2.out.1.ra).mono ?_
            rintro e w6 ⟨rfl, ha⟩
            have HQ3 := Lib.hid (And.intro (HQ2.out.1.next ha) HQ2.out.2)
            have nbn : ((nf L' : Int) != (nf L' : Int)) = false := by simp
            clear ha HQ2
            go_wp2_with fail
            refine (list_al HQ3.out.1.al).mono ?_
            rintro e w7 ⟨v1, rfl, hli⟩
            obtain ⟨A1, c1, rfl, _, hnv1⟩ := own_nv hli.own
            have HQ4 := Lib.hid (And.intro (HQ3.out.1.next hli.stands) HQ3.out.2)
            have HN1 := Lib.hid hnv1
            clear hli hnv1 HQ3 nbn
            go_wp2_with fail
            refine (list_ra HQ4.out.1.ra).mono ?_
            rintro e w8 ⟨v2, rfl, hli⟩
            obtain ⟨A2, c2, rfl, _, hnv2⟩ := own_nv hli.own
            have HQ5 := Lib.hid (And.intro (HQ4.out.1.next hli.stands) HQ4.out.2)
            have HN2 := Lib.hid (And.intro (HN1.out.on hli.stands) hnv2)
            clear hli hnv2 HQ4 HN1
            go_wp2_with fail
            refine (ints_same A1 A2 _ c1 c2 (fr L' n) w8 (Nat.le_trans (fr_len L' n) (by omega)) rfl HN2.out.1 HN2.out.2).mono ?_
            rintro e w9 ⟨rfl, ha⟩
            have HQ6 := Lib.hid (And.intro (HQ5.out.1.next ha) HQ5.out.2)
            obtain ⟨t0, t1⟩ := HQ6.out.1.cells
            clear ha HQ5 HN2
            go_wp2_with fail
            refine (HWN.out _ HQ6.out.1.al).mono ?_
            rintro e w10 ⟨rfl, rfl⟩
            go_wp2
            go_roundw
            case rel => exact ⟨i + 1, L', by omega, by go_num, Lib.hid ⟨HQ6.out.1.z, HQ6.out.2⟩⟩
            case measure => simp [intOf]; omega
    · have HA := Lib.hid HP.out.1.stands
      clear HP
      go_wp2_with fail
      refine (HG.out _).mono ?_
      rintro e w9 ⟨rfl, ha⟩
      have HA9 : Hid (At w w9) := Lib.hid (HA.out.next ha)
      clear ha
      go_wp2
      go_ret
      exact ⟨rfl, HA9.out⟩

theorem plays_any (n sp : Int) (A : Option Addr) (u c : Nat) (Z : List (Int × Int)) (hl : Z.length = u) (w : World) (hv : SView w (.slice A u c) Z) : Calls Try.prog 3 #[.int .i64 n, .int .i64 sp, .slice A u c] w (Gives (.bool true) w) := by
  by_cases h5 : u ≤ 500
  · by_cases h : May n sp
    · obtain ⟨h1, h2, h3, h4⟩ := h
      obtain ⟨a, rfl⟩ := Int.eq_ofNat_of_zero_le (show 0 ≤ n by omega)
      obtain ⟨d, rfl⟩ := Int.eq_ofNat_of_zero_le h3
      exact plays_in a d A u c Z (by omega) (by omega) (by omega) h5 hl w hv
    · exact plays_bad n sp A u c h5 h w
  · exact plays_long n sp A u c (by omega) w

end Go.Proofs.Ytheldhbdhadliaa
