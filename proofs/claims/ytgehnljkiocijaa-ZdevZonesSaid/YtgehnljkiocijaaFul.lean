/- Proved: the law ZdevFull answers true: a zone has room for so many blocks, and not one more; reset it has room for all of them again. -/
import Derived.Test.YtgehnljkiocijaaAwk
namespace Go.Proofs.Ytgehnljkiocijaa
open Go.RowKit

theorem read_none {w : World} {b z sz ops rds : Nat} {S : Nat → Zr} (h : Dv w b z sz ops rds S) (k : Nat) (hk : k < 8) (i : Nat) (hi : (S k).n ≤ i) :
    Calls Try.prog 16 #[.pointer (some ⟨b, 0, none⟩), .int .i64 (k : Int), .int .i64 (i : Int)] w fun e w' => e = .returned (.tuple #[.slice none 0 0, .int .i64 14]) ∧ w = w' := by
  obtain ⟨⟨c, hc1, hc2, c0⟩, -⟩ := h.cells
  have cr := h.zrow hk
  have hle := Nat.le_trans (h.le k hk) h.top
  obtain ⟨n, hn⟩ : ∃ n, n = (S k).n := ⟨_, rfl⟩
  obtain ⟨g, hg⟩ : ∃ g, g = (S k).g := ⟨_, rfl⟩
  obtain ⟨cc, hcc⟩ : ∃ cc, cc = (S k).c := ⟨_, rfl⟩
  rw [← hn, ← hg, ← hcc] at cr
  rw [← hn] at hi hle
  have g1 : (0 : Int) ≤ (k : Int) := by omega
  have g2 : (k : Int) < 8 := by omega
  have H := Lib.hid h
  clear h hn hg hcc
  go_enter Try.func16, Try.ntmps16
  go_wp2_with (first
    | (go_at_call 26; refine (has_dv H.out k hk).mono ?_; rintro e w' ⟨rfl, rfl⟩)
    | (go_at_call 24; refine (within_no _ _ _ _ (by omega)).mono ?_; rintro e w' ⟨rfl, rfl⟩))
  go_ret2
  exact ⟨rfl, rfl⟩

set_option maxHeartbeats 1000000 in
set_option maxRecDepth 100000 in
theorem full_out (sz k t : Int) (h : ¬ (96 ≤ sz ∧ sz ≤ 192 ∧ 0 ≤ k ∧ k < 8 ∧ 1 ≤ t ∧ t ≤ 4)) (w : World) :
    Calls Try.prog 6 #[.int .i64 sz, .int .i64 k, .int .i64 t] w (Gives (.bool true) w) := by
  by_cases h1 : 96 ≤ sz
  · by_cases h2 : sz ≤ 192
    · by_cases h3 : 0 ≤ k
      · by_cases h4 : k < 8
        · by_cases h5 : 1 ≤ t
          · have h6 : ¬ t ≤ 4 := fun h' => h ⟨h1, h2, h3, h4, h5, h'⟩
            clear h
            go_enter Try.func6, Try.ntmps6
            go_wp2_with (go_at_call 7; refine (awake_any _).mono ?_; rintro e w' ⟨rfl, hb⟩)
            go_ret
            exact ⟨rfl, hb⟩
          · clear h
            go_enter Try.func6, Try.ntmps6
            go_wp2_with (go_at_call 7; refine (awake_any _).mono ?_; rintro e w' ⟨rfl, hb⟩)
            go_ret
            exact ⟨rfl, hb⟩
        · clear h
          go_enter Try.func6, Try.ntmps6
          go_wp2_with (go_at_call 7; refine (awake_any _).mono ?_; rintro e w' ⟨rfl, hb⟩)
          go_ret
          exact ⟨rfl, hb⟩
      · clear h
        go_enter Try.func6, Try.ntmps6
        go_wp2_with (go_at_call 7; refine (awake_any _).mono ?_; rintro e w' ⟨rfl, hb⟩)
        go_ret
        exact ⟨rfl, hb⟩
    · clear h
      go_enter Try.func6, Try.ntmps6
      go_wp2_with (go_at_call 7; refine (awake_any _).mono ?_; rintro e w' ⟨rfl, hb⟩)
      go_ret
      exact ⟨rfl, hb⟩
  · clear h
    go_enter Try.func6, Try.ntmps6
    go_wp2_with (go_at_call 7; refine (awake_any _).mono ?_; rintro e w' ⟨rfl, hb⟩)
    go_ret
    exact ⟨rfl, hb⟩

/-- The device while a zone is filled: all other zones are empty. -/
structure Fu (w : World) (b z sz ops k n : Nat) (wr : World) : Prop where
  dv : ∃ S, Dv wr b z sz ops 0 S ∧ (S k).n = n ∧ ∀ g, Ft b z S g → w.heap.size ≤ g
  stands : At w wr
theorem Fu.next {w : World} {b z sz ops k n : Nat} {wr wx : World} (h : Fu w b z sz ops k n wr) (ha : At wr wx) : Fu w b z sz ops k n wx := by
  obtain ⟨S, h1, h2, h3⟩ := h.dv
  exact ⟨⟨S, h1.on ha, h2, h3⟩, h.stands.next ha⟩

set_option maxHeartbeats 2000000 in
set_option maxRecDepth 100000 in
theorem full_in (sz k t : Nat) (h1 : 96 ≤ sz) (h2 : sz ≤ 192) (hk : k < 8) (h3 : 1 ≤ t) (h4 : t ≤ 4) (w : World) :
    Calls Try.prog 6 #[.int .i64 (sz : Int), .int .i64 (k : Int), .int .i64 (t : Int)] w (Gives (.bool true) w) := by
  have e1 : ¬ (sz : Int) < 96 := by omega
  have e2 : ¬ (192 : Int) < (sz : Int) := by omega
  have e3 : ¬ (k : Int) < 0 := by omega
  have e4 : ¬ (8 : Int) ≤ (k : Int) := by omega
  have e5 : ¬ (t : Int) < 1 := by omega
  have e6 : ¬ (4 : Int) < (t : Int) := by omega
  go_enter Try.func6, Try.ntmps6
  go_wp2_with fail
  refine (new_any sz h1 h2 _).mono ?_
  rintro e w2 ⟨b, z, rfl, hn⟩
  have HF : Hid (Fu w b z sz 0 k 0 w2) := Lib.hid ⟨⟨_, hn.dv, rfl, hn.ft⟩, hn.stands⟩
  clear hn
  go_wp2
  go_loopw [9] (fun c9 wr => ∃ u m : Nat, u ≤ t ∧ c9 = .int .i64 (u : Int) ∧ Hid (m = u * (sz + 2)) ∧ Hid (Fu w b z sz m k 0 wr)) (fun c9 _ => t - (intOf c9).toNat)
  case atStart => exact ⟨0, 0, by omega, rfl, Lib.hid (Nat.zero_mul _).symm, HF⟩
  case round =>
    clear HF
    obtain ⟨u, m, hu, rfl, HM, HF⟩ := hrel
    have hm : m ≤ 776 := by
      have h1 : u * (sz + 2) ≤ 4 * 194 := Nat.mul_le_mul (by omega) (by omega)
      have := HM.out
      omega
    by_cases hut : u < t
    · go_wp2
      obtain ⟨wo, rfl⟩ : ∃ wo : World, wo = wr := ⟨_, rfl⟩
      go_loopw [10] (fun c10 wr => ∃ i : Nat, i ≤ sz ∧ c10 = .int .i64 (i : Int) ∧ Hid (Fu w b z sz (m + i) k i wr)) (fun c10 _ => sz - (intOf c10).toNat)
      case atStart => exact ⟨0, by omega, rfl, HF⟩
      case round =>
        clear HF
        obtain ⟨i, hi, rfl, HF⟩ := hrel
        by_cases his : i < sz
        · go_wp2_with fail
          refine (block_any _ _).mono ?_
          rintro e w3 ⟨pb, rfl, hp, hbv, a3⟩
          obtain ⟨S, hv, hsn, hft⟩ := HF.out.dv
          have hfl : ¬ Ft b z S pb := fun hg => by have := hv.lt pb hg; omega
          have HV := Lib.hid (hv.on a3)
          have HS := Lib.hid (And.intro hsn hft)
          have HA := Lib.hid (HF.out.stands.next a3)
          have HB := Lib.hid (And.intro hbv hfl)
          clear hv hsn hft hp hbv a3 hfl HF
          go_wp2_with fail
          refine (append_room HV.out (by omega) k hk (by rw [HS.out.1]; exact his) pb 0 64 (bk i) (bk_len i) HB.out.1 HB.out.2).mono ?_
          rintro e w4 ⟨g, c, rfl, hv, hd⟩
          rw [HS.out.1]
          have HF : Hid (Fu w b z sz (m + (i + 1)) k (i + 1) w4) := Lib.hid (by
            obtain ⟨ha, hf⟩ := hd.at_ HA.out HS.out.2
            exact ⟨⟨_, hv, by rw [up_same, HS.out.1], hf⟩, ha⟩)
          have nb : ((i : Int) != (i : Int)) = false := by simp
          clear hv hd HV HS HA HB
          go_wp2
          go_roundw
          case rel => exact ⟨i + 1, by omega, by go_num, HF⟩
          case measure => simp [intOf]; omega
        · have his : i = sz := by omega
          subst his
          go_wp2_with fail
          refine (block_any _ _).mono ?_
          rintro e w3 ⟨pb, rfl, _, _, a3⟩
          have HF3 := Lib.hid (HF.out.next a3)
          obtain ⟨S, hv, hsn, hft⟩ := HF3.out.dv
          have HV := Lib.hid hv
          have HS := Lib.hid (And.intro hsn hft)
          have HA := Lib.hid HF3.out.stands
          clear a3 hv hsn hft HF HF3
          go_wp2_with fail
          refine (append_full HV.out (by omega) k hk HS.out.1 _ _).mono ?_
          rintro e w4 ⟨rfl, hv, hd⟩
          have HA4 := Lib.hid (hd.at_ HA.out HS.out.2)
          have HV4 := Lib.hid hv
          clear hv hd HV HA
          go_wp2_with fail
          refine (read_none HV4.out k hk i (by rw [HS.out.1]; exact Nat.le_refl _)).mono ?_
          rintro e w5 ⟨rfl, rfl⟩
          go_wp2_with fail
          refine (reset_dv HV4.out (by omega) k hk).mono ?_
          rintro e w6 ⟨rfl, hv, hd⟩
          have HA6 := Lib.hid (hd.at_ HA4.out.1 HA4.out.2)
          have HV6 := Lib.hid hv
          clear hv hd HV4
          go_wp2_with fail
          refine (pointer_dv HV6.out k hk).mono ?_
          rintro e w7 ⟨rfl, rfl⟩
          rw [up_same]
          have HF : Hid (Fu w b z i (m + (i + 2)) k 0 w6) := Lib.hid ⟨⟨_, HV6.out, by rw [up_same]; rfl, HA6.out.2⟩, HA6.out.1⟩
          have HM2 : Hid (m + (i + 2) = (u + 1) * (i + 2)) := Lib.hid (by rw [HM.out, Nat.succ_mul])
          clear HV6 HA6 HA4 HS HM
          have hz0 : Hid (Zr.none.n = 0) := Lib.hid rfl
          rw [hz0.out]
          go_wp2
          go_roundw
          case rel => exact ⟨u + 1, m + (i + 2), by omega, by go_num, HM2, HF⟩
          case measure => simp [intOf]; omega
    · have hut : u = t := by omega
      subst hut
      obtain ⟨S, hv, _, _⟩ := HF.out.dv
      have HV := Lib.hid hv
      have HA := Lib.hid HF.out.stands
      have hmt : (u : Int) * ((sz : Int) + 2) = (m : Int) := by
        rw [HM.out]
        push_cast
        rfl
      have hmul : IntKind.i64.wrap ((u : Int) * ((sz : Int) + 2)) = (m : Int) := by rw [hmt]; exact IntWalk.i64_in _ (by omega)
      clear hv HF
      go_wp2_with fail
      refine (ops_dv HV.out).mono ?_
      rintro e w7 ⟨rfl, rfl⟩
      go_wp2_with fail
      refine (awake_any _).mono ?_
      rintro e w8 ⟨rfl, a8⟩
      have HA8 := Lib.hid (At.next HA.out a8)
      clear a8
      go_wp2
      go_ret
      exact ⟨rfl, HA8.out⟩

theorem full_any (sz k t : Int) (w : World) : Calls Try.prog 6 #[.int .i64 sz, .int .i64 k, .int .i64 t] w (Gives (.bool true) w) := by
  by_cases h : 96 ≤ sz ∧ sz ≤ 192 ∧ 0 ≤ k ∧ k < 8 ∧ 1 ≤ t ∧ t ≤ 4
  · obtain ⟨h1, h2, h3, h4, h5, h6⟩ := h
    obtain ⟨a, rfl⟩ := Int.eq_ofNat_of_zero_le (show 0 ≤ sz by omega)
    obtain ⟨b, rfl⟩ := Int.eq_ofNat_of_zero_le h3
    obtain ⟨c, rfl⟩ := Int.eq_ofNat_of_zero_le (show 0 ≤ t by omega)
    exact full_in a b c (by omega) (by omega) (by omega) (by omega) (by omega) w
  · exact full_out sz k t h w

end Go.Proofs.Ytgehnljkiocijaa
