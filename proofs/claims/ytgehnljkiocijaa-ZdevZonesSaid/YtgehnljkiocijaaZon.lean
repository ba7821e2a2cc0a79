/- Proved: the law ZdevZones answers true: zones do not touch each other. -/
import Derived.Test.YtgehnljkiocijaaIlist
import Derived.Test.YtgehnljkiocijaaFul
namespace Go.Proofs.Ytgehnljkiocijaa
open Go.RowKit

theorem fu_reset {w wr : World} {b z sz m k n : Nat} (h : Fu w b z sz m k n wr) (hm : m ≤ 1000) (y : Nat) (hy : y < 8) :
    Calls Try.prog 11 #[.pointer (some ⟨b, 0, none⟩), .int .i64 (y : Int)] wr fun e w' => e = .returned (.int .i64 0) ∧ Fu w b z sz (m + 1) k (if k = y then 0 else n) w' := by
  obtain ⟨S, hv, hn, hf⟩ := h.dv
  refine (reset_dv hv (by omega) y hy).mono ?_
  rintro e w1 ⟨rfl, hv1, hd⟩
  obtain ⟨ha, hf1⟩ := hd.at_ h.stands hf
  refine ⟨rfl, ⟨_, hv1, ?_, hf1⟩, ha⟩
  by_cases e : k = y
  · subst e; rw [up_same, if_pos rfl]; rfl
  · rw [up_other _ _ e, if_neg e]; exact hn
theorem fu_append {w wr : World} {b z sz m k n : Nat} (hm : m ≤ 1000) (y : Nat) (hy : y < 8) (pb : Nat) (L : List Nat) (hL : L.length = 64) (hb : BV wr (some ⟨pb, 0, none⟩) L) {wo : World} (ho : Fu w b z sz m k n wo) (ha : At wo wr) (hp : wo.heap.size ≤ pb) :
    Calls Try.prog 12 #[.pointer (some ⟨b, 0, none⟩), .int .i64 (y : Int), .slice (some ⟨pb, 0, none⟩) 64 64] wr fun e w' =>
      (∃ a : Nat, e = .returned (.tuple #[.int .i64 (a : Int), .int .i64 0]) ∧ Fu w b z sz (m + 1) k (if k = y then n + 1 else n) w') ∨ (e = .returned (.tuple #[.int .i64 0, .int .i64 9]) ∧ Fu w b z sz (m + 1) k n w') := by
  obtain ⟨S, hv0, hn, hf⟩ := ho.dv
  have hv := hv0.on ha
  have hp' : ¬ Ft b z S pb := fun hg => by have := hv0.lt pb hg; omega
  have hst := ho.stands.next ha
  by_cases hful : (S y).n = sz
  · refine (append_full hv (by omega) y hy hful _ _).mono ?_
    rintro e w1 ⟨rfl, hv1, hd⟩
    obtain ⟨ha, hf1⟩ := hd.at_ hst hf
    exact Or.inr ⟨rfl, ⟨_, hv1, hn, hf1⟩, ha⟩
  · have hlt : (S y).n < sz := Nat.lt_of_le_of_ne (hv.le y hy) hful
    refine (append_room hv (by omega) y hy hlt pb 0 64 L hL hb hp').mono ?_
    rintro e w1 ⟨g, c, rfl, hv1, hd⟩
    obtain ⟨ha, hf1⟩ := hd.at_ hst hf
    refine Or.inl ⟨_, rfl, ⟨_, hv1, ?_, hf1⟩, ha⟩
    by_cases e : k = y
    · subst e; rw [up_same, if_pos rfl, ← hn]
    · rw [up_other _ _ e, if_neg e]; exact hn
theorem fu_pointer {w wr : World} {b z sz m k n : Nat} (h : Fu w b z sz m k n wr) (hk : k < 8) :
    Calls Try.prog 14 #[.pointer (some ⟨b, 0, none⟩), .int .i64 (k : Int)] wr fun e w' => e = .returned (.tuple #[.int .i64 (n : Int), .int .i64 0]) ∧ wr = w' := by
  obtain ⟨S, hv, hn, hf⟩ := h.dv
  rw [← hn]; exact pointer_dv hv k hk
theorem fu_le {w wr : World} {b z sz m k n : Nat} (h : Fu w b z sz m k n wr) (hk : k < 8) : n ≤ 192 := by
  obtain ⟨S, hv, hn, hf⟩ := h.dv
  rw [← hn]; exact Nat.le_trans (hv.le k hk) hv.top

set_option maxHeartbeats 1000000 in
set_option maxRecDepth 100000 in
theorem zones_long (A : Option Addr) (n c : Nat) (k : Int) (h : 200 < n) (w : World) : Calls Try.prog 3 #[.slice A n c, .int .i64 k] w (Gives (.bool true) w) := by
  have q : decide ((200 : Int) < (n : Int)) = true := decide_eq_true (by omega)
  go_enter Try.func3, Try.ntmps3
  go_wp2_with (go_at_call 7; refine (awake_any _).mono ?_; rintro e w' ⟨rfl, hb⟩)
  go_ret
  exact ⟨rfl, hb⟩

set_option maxHeartbeats 2000000 in
set_option maxRecDepth 100000 in
theorem zones_some (A : Option Addr) (n c : Nat) (k : Int) (Z : List Int) (hl : Z.length = n) (hn : n ≤ 200) (w : World) (hv : IView w (.slice A n c) Z) : Calls Try.prog 3 #[.slice A n c, .int .i64 k] w (Gives (.bool true) w) := by
  have q : decide ((200 : Int) < (n : Int)) = false := decide_eq_false (by omega)
  have HR8 := Lib.hid (fun k w' => round_any k 8 (by omega) (by omega) w')
  have HR7 := Lib.hid (fun k w' => round_any k 7 (by omega) (by omega) w')
  have HL := Lib.hid hl
  have HV := Lib.hid hv
  clear hl hv
  go_enter Try.func3, Try.ntmps3
  go_wp2_with fail
  refine (least_any _).mono ?_
  rintro e w1 ⟨rfl, a1⟩
  have A1 : Hid (At w w1) := Lib.hid a1
  clear a1
  go_wp2_with fail
  refine (new_any 96 (by omega) (by omega) _).mono ?_
  rintro e w2 ⟨b, z, rfl, hn2⟩
  have hn3 := hn2.from_ A1.out
  have HF : ∀ y, Hid (Fu w b z 96 0 y 0 w2) := fun y => Lib.hid ⟨⟨_, hn3.dv, rfl, hn3.ft⟩, hn3.stands⟩
  clear hn2 hn3 A1
  go_wp2_with fail
  refine (HR8.out _ _).mono ?_
  rintro e wz ⟨rfl, rfl⟩
  have hzn := rd_lt k 8 (by omega)
  obtain ⟨zn, hzne⟩ : ∃ zn, zn = rd k 8 := ⟨_, rfl⟩
  rw [← hzne] at hzn ⊢
  have HF := HF zn
  clear hzne
  go_wp2
  go_loopw [7, 8] (fun c7 c8 wr => ∃ i m : Nat, i ≤ n ∧ c8 = .int .i64 (i : Int) ∧ c7 = .int .i64 (m : Int) ∧ Hid (Fu w b z 96 i zn m wr)) (fun _ c8 _ => n - (intOf c8).toNat)
  case atStart => exact ⟨0, 0, by omega, rfl, rfl, HF⟩
  case round =>
    clear HF
    obtain ⟨i, m, hi, rfl, rfl, HF⟩ := hrel
    have hm := fu_le HF.out hzn
    by_cases hlt : i < n
    · obtain ⟨lb, off, cap, hsl, hlb, hcs⟩ := iv_pos (HV.out.on HF.out.stands) (by rw [HL.out]; omega)
      injection hsl with e1 e2 e3
      subst e1 e3
      have hc := hcs i (by rw [HL.out]; exact hlt)
      obtain ⟨x, hx⟩ : ∃ x, x = Z.getD i 0 := ⟨_, rfl⟩
      rw [← hx] at hc
      have g1 : (0 : Int) ≤ (i : Int) := by omega
      have g2 : (i : Int) < (n : Int) := by omega
      clear hcs hx e2
      go_wp2_with fail
      refine (HR8.out _ _).mono ?_
      rintro e wz ⟨rfl, rfl⟩
      have hy := rd_lt x 8 (by omega)
      obtain ⟨y, hye⟩ : ∃ y, y = rd x 8 := ⟨_, rfl⟩
      rw [← hye] at hy ⊢
      clear hye
      go_wp2_with fail
      refine (HR7.out (wrap64 (x.tdiv 8)) _).mono ?_
      rintro e wz ⟨rfl, rfl⟩
      obtain ⟨q7, hq7⟩ : ∃ q7, q7 = rd (wrap64 (x.tdiv 8)) 7 := ⟨_, rfl⟩
      rw [← hq7]
      clear hq7
      have nm : ((m : Int) != (m : Int)) = false := by simp
      by_cases h0 : q7 = 0
      · have t1 : ((q7 : Int) == 0) = true := by rw [h0]; rfl
        clear h0
        go_wp2_with fail
        refine (fu_reset HF.out (by omega) y hy).mono ?_
        rintro e w3 ⟨rfl, hf⟩
        clear HF hc
        by_cases hyz : zn = y
        · have nb : ((y : Int) == (zn : Int)) = true := by rw [hyz]; simp
          rw [if_pos hyz] at hf
          have HF3 := Lib.hid hf
          clear hf hyz
          go_wp2_with fail
          refine (fu_pointer HF3.out hzn).mono ?_
          rintro e w4 ⟨rfl, rfl⟩
          go_wp2
          go_roundw
          case rel => exact ⟨i + 1, 0, by omega, by go_num, rfl, HF3⟩
          case measure => simp [intOf]; omega
        · have nb : ((y : Int) == (zn : Int)) = false := by simp; omega
          rw [if_neg hyz] at hf
          have HF3 := Lib.hid hf
          clear hf hyz
          go_wp2_with fail
          refine (fu_pointer HF3.out hzn).mono ?_
          rintro e w4 ⟨rfl, rfl⟩
          go_wp2
          go_roundw
          case rel => exact ⟨i + 1, m, by omega, by go_num, rfl, HF3⟩
          case measure => simp [intOf]; omega
      · have t1 : ((q7 : Int) == 0) = false := by simp; omega
        clear h0
        go_wp2_with fail
        refine (block_any _ _).mono ?_
        rintro e w3 ⟨pb, rfl, hp, hbv, a3⟩
        have HB := Lib.hid (And.intro hbv (And.intro a3 hp))
        clear hp hbv a3 hc
        go_wp2_with fail
        refine (fu_append (by omega) y hy pb (bk y) (bk_len y) HB.out.1 HF.out HB.out.2.1 HB.out.2.2).mono ?_
        rintro e w4 (⟨a, rfl, hf⟩ | ⟨rfl, hf⟩)
        · by_cases hyz : zn = y
          · have nb : ((y : Int) == (zn : Int)) = true := by rw [hyz]; simp
            rw [if_pos hyz] at hf
            have HF3 := Lib.hid hf
            have nm2 : ((m : Int) + 1 != (m : Int) + 1) = false := by simp
            clear hf hyz HF HB
            go_wp2_with fail
            refine (fu_pointer HF3.out hzn).mono ?_
            rintro e w4 ⟨rfl, rfl⟩
            go_wp2
            go_roundw
            case rel => exact ⟨i + 1, m + 1, by omega, by go_num, by go_num, HF3⟩
            case measure => simp [intOf]; omega
          · have nb : ((y : Int) == (zn : Int)) = false := by simp; omega
            rw [if_neg hyz] at hf
            have HF3 := Lib.hid hf
            clear hf hyz HF HB
            go_wp2_with fail
            refine (fu_pointer HF3.out hzn).mono ?_
            rintro e w4 ⟨rfl, rfl⟩
            go_wp2
            go_roundw
            case rel => exact ⟨i + 1, m, by omega, by go_num, rfl, HF3⟩
            case measure => simp [intOf]; omega
        · have HF3 := Lib.hid hf
          clear hf HF HB
          by_cases hyz : zn = y
          · have nb : ((y : Int) == (zn : Int)) = true := by rw [hyz]; simp
            clear hyz
            go_wp2_with fail
            refine (fu_pointer HF3.out hzn).mono ?_
            rintro e w4 ⟨rfl, rfl⟩
            go_wp2
            go_roundw
            case rel => exact ⟨i + 1, m, by omega, by go_num, rfl, HF3⟩
            case measure => simp [intOf]; omega
          · have nb : ((y : Int) == (zn : Int)) = false := by simp; omega
            clear hyz
            go_wp2_with fail
            refine (fu_pointer HF3.out hzn).mono ?_
            rintro e w4 ⟨rfl, rfl⟩
            go_wp2
            go_roundw
            case rel => exact ⟨i + 1, m, by omega, by go_num, rfl, HF3⟩
            case measure => simp [intOf]; omega
    · have hin : i = n := by omega
      subst hin
      obtain ⟨S, hv, _, _⟩ := HF.out.dv
      have HVV := Lib.hid hv
      have HA := Lib.hid HF.out.stands
      clear hv HF
      go_wp2_with fail
      refine (ops_dv HVV.out).mono ?_
      rintro e w7 ⟨rfl, rfl⟩
      go_wp2_with fail
      refine (awake_any _).mono ?_
      rintro e w8 ⟨rfl, a8⟩
      have HA8 := Lib.hid (At.next HA.out a8)
      clear a8
      go_wp2
      go_ret
      exact ⟨rfl, HA8.out⟩

theorem zones_any (A : Option Addr) (n c : Nat) (k : Int) (Z : List Int) (hl : Z.length = n) (w : World) (hv : IView w (.slice A n c) Z) : Calls Try.prog 3 #[.slice A n c, .int .i64 k] w (Gives (.bool true) w) := by
  by_cases h : n ≤ 200
  · exact zones_some A n c k Z hl h w hv
  · exact zones_long A n c k (by omega) w

end Go.Proofs.Ytgehnljkiocijaa
