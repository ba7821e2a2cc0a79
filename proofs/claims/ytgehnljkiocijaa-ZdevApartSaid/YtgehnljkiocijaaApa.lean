/- Proved: the law ZdevApart answers true: a copy, and what a crash leaves, go on by themselves. -/
import Derived.Test.YtgehnljkiocijaaTri
import Derived.Test.YtgehnljkiocijaaIlist
namespace Go.Proofs.Ytgehnljkiocijaa
open Go.RowKit

theorem two_flush {w : World} {b z ops : Nat} {S : Nat → Zr} {n : Nat} (_hv : Dv w b z 96 ops 0 S) (h : Two S n) : Two (fs S) n ∧ (∀ k, k < 8 → (fs S k).d = (fs S k).n) := by
  refine ⟨?_, fun k hk => by rw [fs_at S k hk]⟩
  unfold Two
  rw [fs_at S 2 (by omega)]
  exact h
/-- What a flush, a copy and a crash leave. -/
theorem duo_start {w wr w1 w2 wp : World} {b z n bx zx b' z' : Nat} {S Sx Sy : Nat → Zr} (ha : At w wr) (hv : Dv wr b z 96 (n + 1) 0 S) (ht : Two S n) (hd : ∀ k, k < 8 → (S k).d = (S k).n) (hf : ∀ g, Ft b z S g → w.heap.size ≤ g)
    (x1 : Dv w1 bx zx 96 (n + 1) 0 Sx) (x2 : ∀ k, k < 8 → (Sx k).n = (S k).n ∧ (Sx k).d = (S k).d ∧ (Sx k).L = (S k).L) (x3 : ∀ g, Ft bx zx Sx g → wr.heap.size ≤ g) (x4 : At wr w1) (hp : At w1 wp)
    (y1 : Dv w2 b' z' 96 0 0 Sy) (y2 : ∀ k, k < 8 → (Sy k).n = (S k).d ∧ (Sy k).L = (S k).L.take (64 * (S k).d) ∧ (Sy k).d = (S k).d) (y3 : ∀ g, Ft b' z' Sy g → wp.heap.size ≤ g) (y4 : At wp w2) : Tri w (n + 1) b z n bx zx b' z' Sx Sy w2 := by
  have hxp := x1.on hp
  have hx2 := hxp.on y4
  have hd1 := hv.on x4
  have hd2 := (hd1.on hp).on y4
  have hs1 := x4.size
  have hsp := hp.size
  have hs0 := ha.size
  refine ⟨⟨hx2, y1, ?_, ?_, fun g hg hg' => ?_, fun g hg => ?_, fun g hg => ?_, ((ha.next x4).next hp).next y4⟩, S, hd2, fun g hg hg' => ?_, fun g hg hg' => ?_, hf⟩
  · obtain ⟨e1, _, e3⟩ := x2 2 (by omega)
    unfold Two
    rw [e1, e3]; exact ht
  · obtain ⟨e1, e2, _⟩ := y2 2 (by omega)
    have hl := (hv.row 2 (by omega)).len
    unfold Two
    rw [e1, e2, hd 2 (by omega), List.take_of_length_le (by omega)]; exact ht
  · have := y3 g hg
    have := hxp.lt g hg'
    omega
  · have := x3 g hg; omega
  · have := y3 g hg; omega
  · have := x3 g hg
    have := hv.lt g hg'
    omega
  · have := y3 g hg
    have := hv.lt g hg'
    omega

set_option maxHeartbeats 1000000 in
set_option maxRecDepth 100000 in
theorem apart_out (k : Int) (A : Option Addr) (l c : Nat) (h : ¬ (0 ≤ k ∧ k ≤ 60 ∧ l ≤ 60)) (w : World) : Calls Try.prog 5 #[.int .i64 k, .slice A l c] w (Gives (.bool true) w) := by
  by_cases h1 : 0 ≤ k
  · by_cases h2 : k ≤ 60
    · have q : decide ((60 : Int) < (l : Int)) = true := decide_eq_true (by omega)
      clear h
      go_enter Try.func5, Try.ntmps5
      go_wp2_with (go_at_call 7; refine (awake_any _).mono ?_; rintro e w' ⟨rfl, hb⟩)
      go_ret
      exact ⟨rfl, hb⟩
    · clear h
      go_enter Try.func5, Try.ntmps5
      go_wp2_with (go_at_call 7; refine (awake_any _).mono ?_; rintro e w' ⟨rfl, hb⟩)
      go_ret
      exact ⟨rfl, hb⟩
  · clear h
    go_enter Try.func5, Try.ntmps5
    go_wp2_with (go_at_call 7; refine (awake_any _).mono ?_; rintro e w' ⟨rfl, hb⟩)
    go_ret
    exact ⟨rfl, hb⟩

set_option maxHeartbeats 4000000 in
set_option maxRecDepth 100000 in
theorem apart_in (n : Nat) (A : Option Addr) (l c : Nat) (Z : List Int) (hn : n ≤ 60) (hl : l ≤ 60) (hz : Z.length = l) (w : World) (hv : IView w (.slice A l c) Z) : Calls Try.prog 5 #[.int .i64 (n : Int), .slice A l c] w (Gives (.bool true) w) := by
  have q0 : ¬ (n : Int) < 0 := by omega
  have q1 : ¬ (60 : Int) < (n : Int) := by omega
  have q : decide ((60 : Int) < (l : Int)) = false := decide_eq_false (by omega)
  have HL := Lib.hid hz
  have HV := Lib.hid hv
  clear hz hv
  go_enter Try.func5, Try.ntmps5
  go_wp2_with fail
  refine (least_any _).mono ?_
  rintro e w1 ⟨rfl, a1⟩
  have A1 : Hid (At w w1) := Lib.hid a1
  clear a1
  go_wp2_with fail
  refine (new_any 96 (by omega) (by omega) _).mono ?_
  rintro e w2 ⟨b, z, rfl, hn2⟩
  have hn3 := hn2.from_ A1.out
  have HF : Hid (One w b z 0 w2) := Lib.hid ⟨⟨_, hn3.dv, ⟨rfl, fun j hj => absurd hj (Nat.not_lt_zero j)⟩, hn3.ft⟩, hn3.stands⟩
  clear hn2 hn3 A1
  go_wp2
  go_loopw [7] (fun c7 wr => ∃ i : Nat, i ≤ n ∧ c7 = .int .i64 (i : Int) ∧ Hid (One w b z i wr)) (fun c7 _ => n - (intOf c7).toNat)
  case atStart => exact ⟨0, by omega, rfl, HF⟩
  case round =>
    clear HF
    obtain ⟨i, hi, rfl, HF⟩ := hrel
    by_cases hlt : i < n
    · go_wp2_with fail
      refine (block_any _ _).mono ?_
      rintro e w3 ⟨pb, rfl, hp, hbv, a3⟩
      have HB := Lib.hid (And.intro hbv (And.intro a3 hp))
      clear hp hbv a3
      go_wp2_with fail
      refine (one_append HF.out HB.out.2.1 (by omega) pb HB.out.1 HB.out.2.2).mono ?_
      rintro e w4 ⟨v, rfl, hf⟩
      have HF2 := Lib.hid hf
      clear hf HF HB
      go_wp2
      go_roundw
      case rel => exact ⟨i + 1, by omega, by go_num, HF2⟩
      case measure => simp [intOf]; omega
    · have hin : i = n := by omega
      subst hin
      obtain ⟨S, hv, ht, hf⟩ := HF.out.dv
      have HS := Lib.hid HF.out.stands
      have HD := Lib.hid hv
      have HT := Lib.hid (And.intro ht hf)
      clear hv ht hf HF
      go_wp2_with fail
      refine (flush_dv HD.out (by omega)).mono ?_
      rintro e w3 ⟨rfl, hv, hd⟩
      have HFL := Lib.hid (two_flush HD.out HT.out.1)
      have HS3 := Lib.hid (hd.at_ HS.out HT.out.2)
      have HD3 := Lib.hid hv
      clear hv hd HD HS HT
      go_wp2_with fail
      refine (copy_dv HD3.out).mono ?_
      rintro e w4 ⟨bx, zx, Sx, rfl, x1, x2, x3, x4⟩
      have HX := Lib.hid (And.intro x1 (And.intro x2 (And.intro x3 x4)))
      clear x1 x2 x3 x4
      obtain ⟨wp, hwp⟩ : ∃ wp, wp = (w4.alloc (.cells #[.int .i64 5] 3)).alloc (.cells #[.int .i64 1] 3) := ⟨_, rfl⟩
      have hap : At w4 wp := by rw [hwp]; exact ((At.start w4).alloc _).alloc _
      have hq5 : wp.heap[w4.heap.size]? = some (.cells #[.int .i64 5] 3 (0, 0)) := by
        rw [hwp, Below.heap_alloc _ _ _ (by simp)]; exact heap_alloc_new _ _
      have hq1 : wp.heap[w4.heap.size + 1]? = some (.cells #[.int .i64 1] 3 (0, 0)) := by
        have := heap_alloc_new (w4.alloc (.cells #[.int .i64 5] 3)) (.cells #[.int .i64 1] 3)
        rwa [show (w4.alloc (.cells #[.int .i64 5] 3)).heap.size = w4.heap.size + 1 by simp, ← hwp] at this
      have hf5 : Fz wp (some ⟨w4.heap.size, 0, none⟩) 1 5 := Or.inr ⟨rfl, _, _, rfl, lt_heap hq5, by rw [cell_at hq5]; rfl⟩
      have hf1 : Fz wp (some ⟨w4.heap.size + 1, 0, none⟩) 1 1 := Or.inr ⟨rfl, _, _, rfl, lt_heap hq1, by rw [cell_at hq1]; rfl⟩
      have HP := Lib.hid (And.intro hap (And.intro hf5 hf1))
      have HWP := Lib.hid hwp
      clear hap hf5 hf1 hq5 hq1 hwp
      go_wp2_with fail
      rw [← HWP.out]
      refine (crash_dv ((HD3.out.on HX.out.2.2.2).on HP.out.1) _ _ 1 1 1 1 5 1 HP.out.2.1 HP.out.2.2 (fun k hk => Or.inr (HFL.out.2 k hk)) (fun k hk => Or.inr (HFL.out.2 k hk))).mono ?_
      rintro e w5 ⟨b', z', Sy, rfl, y1, y2, y3, y4⟩
      have HTR := Lib.hid (duo_start HS3.out.1 HD3.out HFL.out.1 HFL.out.2 HS3.out.2 HX.out.1 HX.out.2.1 HX.out.2.2.1 HX.out.2.2.2 HP.out.1 y1 y2 y3 y4)
      clear y1 y2 y3 y4 HX HP HD3 HS3 HFL
      go_wp2_with (go_at_call 15; (first | (with_reducible refine (ops_dv HTR.out.duo.x).mono ?_) | (with_reducible refine (ops_dv HTR.out.duo.y).mono ?_)); rintro e w' ⟨rfl, rfl⟩)
      go_loopw [10] (fun c10 wr => ∃ j : Nat, j ≤ l ∧ c10 = .int .i64 (j : Int) ∧ Hid (Tri w (i + 1 + j) b z i bx zx b' z' Sx Sy wr)) (fun c10 _ => l - (intOf c10).toNat)
      case atStart => exact ⟨0, by omega, rfl, HTR⟩
      case round =>
        clear HTR
        obtain ⟨j, hj, rfl, HTR⟩ := hrel
        by_cases hjl : j < l
        · obtain ⟨lb, off, cap, hsl, hlb, hcs⟩ := iv_pos (HV.out.on HTR.out.duo.stands) (by rw [HL.out]; omega)
          injection hsl with e1 e2 e3
          subst e1 e3
          have hc := hcs j (by rw [HL.out]; exact hjl)
          obtain ⟨x, hx⟩ : ∃ x, x = Z.getD j 0 := ⟨_, rfl⟩
          rw [← hx] at hc
          have g1 : (0 : Int) ≤ (j : Int) := by omega
          have g2 : (j : Int) < (l : Int) := by omega
          clear hcs hx e2
          rcases Bool.eq_false_or_eq_true (x.tmod 5 == 0) with t | t
          · go_wp2_with fail
            refine (tri_reset HTR.out (by omega)).mono ?_
            rintro e w6 ⟨rfl, ht⟩
            have HT2 := Lib.hid ht
            clear ht HTR hc
            go_wp2
            go_roundw
            case rel => exact ⟨j + 1, by omega, by go_num, HT2⟩
            case measure => simp [intOf]; omega
          · go_wp2_with fail
            refine (block_any _ _).mono ?_
            rintro e w6 ⟨pb, rfl, hp, hbv, a3⟩
            have HB := Lib.hid (And.intro hbv (And.intro a3 hp))
            clear hp hbv a3 hc
            go_wp2_with fail
            refine (tri_append HTR.out HB.out.2.1 (by omega) pb (bk x) (bk_len x) HB.out.1 HB.out.2.2).mono ?_
            rintro e w7 ⟨_, _, rfl, ht⟩
            have HT2 := Lib.hid ht
            clear ht HTR HB
            go_wp2
            go_roundw
            case rel => exact ⟨j + 1, by omega, by go_num, HT2⟩
            case measure => simp [intOf]; omega
        · have hjl : j = l := by omega
          subst hjl
          go_wp2_with fail
          refine (tri_cut HTR.out).mono ?_
          rintro e w6 ⟨rfl, hu⟩
          have HU := Lib.hid hu
          clear hu HTR
          go_wp2_with fail
          refine (duo_px HU.out).mono ?_
          rintro e w7 ⟨rfl, rfl⟩
          go_wp2_with fail
          refine (duo_py HU.out).mono ?_
          rintro e w7 ⟨rfl, rfl⟩
          have ni : ((i : Int) != (i : Int)) = false := by simp
          go_wp2_with (go_at_call 17; (first | (with_reducible refine (off_dv HU.out.x).mono ?_) | (with_reducible refine (off_dv HU.out.y).mono ?_)); rintro e w' ⟨rfl, rfl⟩)
          go_loopw [15] (fun c15 wr => ∃ k : Nat, k ≤ i ∧ c15 = .int .i64 (k : Int) ∧ Hid (Duo w i k k bx zx b' z' Sx Sy wr)) (fun c15 _ => i - (intOf c15).toNat)
          case atStart => exact ⟨0, by omega, rfl, HU⟩
          case round =>
            clear HU
            obtain ⟨k, hk, rfl, HU⟩ := hrel
            by_cases hki : k < i
            · go_wp2_with fail
              refine (duo_rx HU.out (by omega) k hki).mono ?_
              rintro e w7 ⟨gp, cp, rfl, hp, hf, hu⟩
              have H7 := Lib.hid (And.intro hp (And.intro hf hu))
              clear hp hf hu HU
              go_wp2_with fail
              refine (duo_ry H7.out.2.2 (by omega) k hki H7.out.1 H7.out.2.1).mono ?_
              rintro e w8 ⟨gq, cq, rfl, hq, hp, hu⟩
              have H8 := Lib.hid (And.intro hp (And.intro hq hu))
              clear hp hq hu H7
              go_wp2_with fail
              refine (block_any _ _).mono ?_
              rintro e w9 ⟨pb, rfl, _, hbv, a9⟩
              have H9 := Lib.hid (And.intro (H8.out.1.below a9) (And.intro (H8.out.2.1.below a9) (And.intro hbv (H8.out.2.2.next a9))))
              clear hbv a9 H8
              go_wp2_with fail
              refine (bytes_same _ _ (k : Int) H9.out.1 H9.out.2.2.1).mono ?_
              rintro e w10 ⟨rfl, a10⟩
              have H10 := Lib.hid (And.intro (H9.out.1.below a10) (And.intro (H9.out.2.1.below a10) (H9.out.2.2.2.next a10)))
              clear a10 H9
              go_wp2_with fail
              refine (bytes_same _ _ (k : Int) H10.out.2.1 H10.out.1).mono ?_
              rintro e w11 ⟨rfl, a11⟩
              have H11 := Lib.hid (H10.out.2.2.next a11)
              clear a11 H10
              go_wp2
              go_roundw
              case rel => exact ⟨k + 1, by omega, by go_num, H11⟩
              case measure => simp [intOf]; omega
            · have hki : k = i := by omega
              subst hki
              go_wp2_with fail
              refine (block_any _ _).mono ?_
              rintro e w7 ⟨pb, rfl, hp, hbv, a3⟩
              have HB := Lib.hid (And.intro hbv (And.intro a3 hp))
              clear hp hbv a3
              go_wp2_with fail
              refine (duo_append HU.out HB.out.2.1 (by omega) pb (bk 1) (bk_len 1) HB.out.1 HB.out.2.2).mono ?_
              rintro e w8 ⟨rfl, a8⟩
              have A8 : Hid (At w w8) := Lib.hid a8
              clear a8 HU HB
              go_wp2_with fail
              refine (awake_any _).mono ?_
              rintro e w9 ⟨rfl, a9⟩
              have A9 : Hid (At w w9) := Lib.hid (A8.out.next a9)
              clear a9
              go_wp2
              go_ret
              exact ⟨rfl, A9.out⟩

theorem apart_any (k : Int) (A : Option Addr) (l c : Nat) (Z : List Int) (hz : Z.length = l) (w : World) (hv : IView w (.slice A l c) Z) : Calls Try.prog 5 #[.int .i64 k, .slice A l c] w (Gives (.bool true) w) := by
  by_cases h : 0 ≤ k ∧ k ≤ 60 ∧ l ≤ 60
  · obtain ⟨h1, h2, h3⟩ := h
    obtain ⟨n, rfl⟩ := Int.eq_ofNat_of_zero_le h1
    exact apart_in n A l c Z (by omega) h3 hz w hv
  · exact apart_out k A l c h w

end Go.Proofs.Ytgehnljkiocijaa
