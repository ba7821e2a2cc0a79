/- Proved: the law AllocOnce answers true for any two numbers and any steps: no zone is taken twice without being freed between, and the cleaner's are left to it. -/
import Derived.Test.YtheldhbdhadliaaIsl
import Derived.Deep.RegionHeld3
import Derived.Deep.DrawnRows
namespace Go.Proofs.Ytheldhbdhadliaa
open Go.RowKit

theorem Mk.turn {w wr wx : World} {b z h n sp : Nat} {L M : List St} (m : Mk w b z h n sp L wr) (ha : Al wx b z n sp L) (hm : Mv (fun g => g = z) wr wx) (hM : M = L := by rfl) : Mk w b z h n sp M wx := by
  subst hM
  exact ⟨ha, m.hl.keep hm m.ne.1, hm.at_ m.stands (by rintro g rfl; exact m.nz), m.nz, m.nh⟩

set_option maxHeartbeats 1000000 in
set_option maxRecDepth 100000 in
theorem once_out (n sp : Int) (A : Option Addr) (u c : Nat) (h : ¬ (May n sp ∧ u ≤ 500)) (w : World) : Calls Try.prog 4 #[.int .i64 n, .int .i64 sp, .slice A u c] w (Gives (.bool true) w) := by
  have HG := Lib.hid awake_any
  by_cases h1 : 1 ≤ n
  · by_cases h2 : n ≤ 64
    · by_cases h3 : 0 ≤ sp
      · by_cases h4 : sp ≤ n
        · have h5 : decide ((500 : Int) < (u : Int)) = true := decide_eq_true (by unfold May at h; omega)
          clear h
          go_enter Try.func4, Try.ntmps4
          go_wp2_with (go_at_call 8; refine (HG.out _).mono ?_; rintro e w' ⟨rfl, hb⟩)
          go_ret
          exact ⟨rfl, hb⟩
        · have h4 : n < sp := by omega
          clear h
          go_enter Try.func4, Try.ntmps4
          go_wp2_with (go_at_call 8; refine (HG.out _).mono ?_; rintro e w' ⟨rfl, hb⟩)
          go_ret
          exact ⟨rfl, hb⟩
      · clear h
        go_enter Try.func4, Try.ntmps4
        go_wp2_with (go_at_call 8; refine (HG.out _).mono ?_; rintro e w' ⟨rfl, hb⟩)
        go_ret
        exact ⟨rfl, hb⟩
    · clear h
      go_enter Try.func4, Try.ntmps4
      go_wp2_with (go_at_call 8; refine (HG.out _).mono ?_; rintro e w' ⟨rfl, hb⟩)
      go_ret
      exact ⟨rfl, hb⟩
  · clear h
    go_enter Try.func4, Try.ntmps4
    go_wp2_with (go_at_call 8; refine (HG.out _).mono ?_; rintro e w' ⟨rfl, hb⟩)
    go_ret
    exact ⟨rfl, hb⟩

set_option maxHeartbeats 4000000 in
set_option maxRecDepth 100000 in
theorem once_in (n sp : Nat) (A : Option Addr) (u c : Nat) (Z : List (Int × Int)) (h1 : 1 ≤ n) (h2 : n ≤ 64) (hs : sp ≤ n) (h3 : u ≤ 500) (hl : Z.length = u) (w : World) (hv : SView w (.slice A u c) Z) : Calls Try.prog 4 #[.int .i64 (n : Int), .int .i64 (sp : Int), .slice A u c] w (Gives (.bool true) w) := by
  have e1 : (1 : Int) ≤ (n : Int) := by omega
  have e2 : (n : Int) ≤ 64 := by omega
  have e3 : decide ((500 : Int) < (u : Int)) = false := decide_eq_false (by omega)
  have e4 : (0 : Int) ≤ (sp : Int) := by omega
  have e5 : ¬ (n : Int) < (sp : Int) := by omega
  have hmk := make_bools n h2
  have HMK := Lib.hid hmk
  have HL := Lib.hid hl
  have HV := Lib.hid hv
  have HR := Lib.hid (fun y w' => round_any y n h1 (by omega) w')
  have HG := Lib.hid awake_any
  clear hl hv hmk
  go_enter Try.func4, Try.ntmps4
  go_wp2_with fail
  refine (new_ok n sp h1 h2 hs _).mono ?_
  rintro e w1 ⟨b, z, rfl, hn⟩
  have HM0 := Lib.hid (Mk.start hn)
  have HC0 : Hid (Lo (nw n) 0 ∧ nf (nw n) = n) := Lib.hid ⟨nw_lo n, nf_nw n⟩
  have hmk := HMK.out w1
  obtain ⟨h, hh⟩ : ∃ h, h = w1.heap.size := ⟨_, rfl⟩
  obtain ⟨w2, hw2⟩ : ∃ w2, w2 = w1.alloc (.cells ((nw n).map fun s => Value.bool s.t).toArray 4) := ⟨_, rfl⟩
  rw [← hh, ← hw2] at hmk HM0
  clear hn hh hw2 HMK
  go_wp2
  clear hmk
  go_loopw [10, 11] (fun c10 c11 wr => ∃ (i m : Nat) (L : List St), i ≤ u ∧ c11 = .int .i64 (i : Int) ∧ c10 = .int .i64 (m : Int) ∧ Hid (Mk w b z h n sp L wr ∧ Lo L i ∧ nf L = m)) (fun _ c11 _ => u - (intOf c11).toNat)
  case atStart => exact ⟨0, n, nw n, by omega, rfl, rfl, Lib.hid ⟨HM0.out, HC0.out⟩⟩
  case round =>
    clear HM0 HC0
    obtain ⟨i, m, L, hi, rfl, rfl, HM⟩ := hrel
    by_cases hlt : i < u
    · obtain ⟨lb, off, cap, hsl, hlb, hcs⟩ := sv_pos HV.out (by rw [HL.out]; omega)
      injection hsl with q1 q2 q3
      subst q1 q3
      obtain ⟨hca, hcb⟩ := hcs i (by rw [HL.out]; exact hlt)
      generalize (Z.getD i (0, 0)).1 = x at hca
      generalize (Z.getD i (0, 0)).2 = y at hcb
      have HCC : Hid (∀ w', At w w' → w'.cell? ⟨lb, off + i * 2, none⟩ = some (.int .i64 x) ∧ w'.cell? ⟨lb, off + i * 2 + 1, none⟩ = some (.int .i64 y)) := Lib.hid fun w' h' => ⟨(Below.cell h' (p := ⟨lb, off + i * 2, none⟩) hlb).trans hca, (Below.cell h' (p := ⟨lb, off + i * 2 + 1, none⟩) hlb).trans hcb⟩
      obtain ⟨hc, hc2⟩ := HCC.out wr HM.out.1.stands
      have g1 : (0 : Int) ≤ (i : Int) := by omega
      have g2 : (i : Int) < (u : Int) := by omega
      clear hcs q2 hlb hca hcb
      by_cases hx1 : x = 1
      · subst hx1
        clear hc2
        by_cases hm0 : m = 0
        · subst hm0
          have HC := Lib.hid (take_none HM.out.1.al false (by rw [HM.out.2.2]; exact Or.inl rfl))
          go_wp2_with fail
          refine HC.out.mono ?_
          rintro e w3 ⟨rfl, hv3, hm3⟩
          obtain ⟨hc3, -⟩ := HCC.out w3 (hm3.at_ HM.out.1.stands (by rintro g rfl; exact HM.out.1.nz))
          have HM9 : Hid (Mk w b z h n sp L w3 ∧ Lo L (i + 1) ∧ nf L = 0) := Lib.hid ⟨HM.out.1.turn hv3 hm3, HM.out.2.1.more (Nat.le_succ i), HM.out.2.2⟩
          clear hv3 hm3
          go_wp2_with fail
          refine (count_al HM9.out.1.al).mono ?_
          rintro e wc ⟨rfl, ha⟩
          rw [HM9.out.2.2]
          have HMC := Lib.hid (And.intro (HM9.out.1.next ha) HM9.out.2)
          have nbc : ((0 : Int) != (0 : Int)) = false := by simp
          clear ha HM9
          go_wp2
          go_roundw
          case rel => exact ⟨i + 1, 0, L, by omega, by go_num, rfl, HMC⟩
          case measure => simp [intOf]; omega
        · have hmp0 : 0 < m := by omega
          by_cases hsm : sp < m
          · have t1 : decide (sp < m) = true := decide_eq_true hsm
            obtain ⟨p, hp⟩ : ∃ p, m = p + 1 := ⟨m - 1, by omega⟩
            obtain ⟨k, hk0⟩ := least_some (L := L) (by rw [HM.out.2.2]; omega)
            rw [HM.out.1.al.len] at hk0
            have hk := hk0.1
            have HC := Lib.hid (take_some HM.out.1.al false k (by rw [HM.out.2.2]; omega) (fun _ => by rw [HM.out.2.2]; exact hsm) hk0)
            have HT := Lib.hid hk0.2.1
            have g3 : (0 : Int) ≤ (k : Int) := by omega
            have g4 : (k : Int) < (n : Int) := by omega
            have hnf := nf_tk (HM.out.1.len hk) hk0.2.1
            rw [HM.out.2.2] at hnf
            have hm64 := nf_le L
            rw [HM.out.2.2, HM.out.1.al.len] at hm64
            have HNF : Hid (nf (tk L k) = p) := Lib.hid (by omega)
            have HLO : Hid (Lo (tk L k) (i + 1)) := Lib.hid ((HM.out.2.1.more (Nat.le_succ i)).tk (HM.out.1.len hk))
            have hmp : (m : Int) - 1 = (p : Int) := by omega
            have HP := Lib.hid hp
            clear hk0 hnf hp
            go_wp2_with fail
            refine HC.out.mono ?_
            rintro e w3 ⟨rfl, hv3, hm3⟩
            obtain ⟨hc3, -⟩ := HCC.out w3 (hm3.at_ HM.out.1.stands (by rintro g rfl; exact HM.out.1.nz))
            have hcell := (HM.out.1.kept hm3).cell (HM.out.1.len hk)
            have hfr := (HM.out.1.kept hm3).free k
            rw [HT.out] at hcell
            have HM9 : Hid (Mk w b z h n sp (tk L k) (w3.setCell ⟨h, k, none⟩ (.bool true)) ∧ Lo (tk L k) (i + 1) ∧ nf (tk L k) = p) := Lib.hid ⟨HM.out.1.set hv3 hm3, HLO.out, HNF.out⟩
            clear hv3 hm3
            go_wp2_with fail
            refine (count_al HM9.out.1.al).mono ?_
            rintro e wc ⟨rfl, ha⟩
            rw [HM9.out.2.2]
            have HMC := Lib.hid (And.intro (HM9.out.1.next ha) HM9.out.2)
            have nbc : (((p : Int)) != ((p : Int))) = false := by simp
            clear ha HM9
            go_wp2
            go_roundw
            case rel => exact ⟨i + 1, p, tk L k, by omega, by go_num, rfl, HMC⟩
            case measure => simp [intOf]; omega
          · have t1 : decide (sp < m) = false := decide_eq_false hsm
            have HC := Lib.hid (take_none HM.out.1.al false (by rw [HM.out.2.2]; exact Or.inr ⟨rfl, by omega⟩))
            go_wp2_with fail
            refine HC.out.mono ?_
            rintro e w3 ⟨rfl, hv3, hm3⟩
            obtain ⟨hc3, -⟩ := HCC.out w3 (hm3.at_ HM.out.1.stands (by rintro g rfl; exact HM.out.1.nz))
            have HM9 : Hid (Mk w b z h n sp L w3 ∧ Lo L (i + 1) ∧ nf L = m) := Lib.hid ⟨HM.out.1.turn hv3 hm3, HM.out.2.1.more (Nat.le_succ i), HM.out.2.2⟩
            clear hv3 hm3
            go_wp2_with fail
            refine (count_al HM9.out.1.al).mono ?_
            rintro e wc ⟨rfl, ha⟩
            rw [HM9.out.2.2]
            have HMC := Lib.hid (And.intro (HM9.out.1.next ha) HM9.out.2)
            have nbc : (((m : Int)) != ((m : Int))) = false := by simp
            clear ha HM9
            go_wp2
            go_roundw
            case rel => exact ⟨i + 1, m, L, by omega, by go_num, rfl, HMC⟩
            case measure => simp [intOf]; omega
      · by_cases hx2 : x = 2
        · subst hx2
          clear hc2 hx1
          by_cases hm0 : m = 0
          · subst hm0
            have HC := Lib.hid (take_none HM.out.1.al true (by rw [HM.out.2.2]; exact Or.inl rfl))
            go_wp2_with fail
            refine HC.out.mono ?_
            rintro e w3 ⟨rfl, hv3, hm3⟩
            obtain ⟨hc3, -⟩ := HCC.out w3 (hm3.at_ HM.out.1.stands (by rintro g rfl; exact HM.out.1.nz))
            have HM9 : Hid (Mk w b z h n sp L w3 ∧ Lo L (i + 1) ∧ nf L = 0) := Lib.hid ⟨HM.out.1.turn hv3 hm3, HM.out.2.1.more (Nat.le_succ i), HM.out.2.2⟩
            clear hv3 hm3
            go_wp2_with fail
            refine (count_al HM9.out.1.al).mono ?_
            rintro e wc ⟨rfl, ha⟩
            rw [HM9.out.2.2]
            have HMC := Lib.hid (And.intro (HM9.out.1.next ha) HM9.out.2)
            have nbc : ((0 : Int) != (0 : Int)) = false := by simp
            clear ha HM9
            go_wp2
            go_roundw
            case rel => exact ⟨i + 1, 0, L, by omega, by go_num, rfl, HMC⟩
            case measure => simp [intOf]; omega
          · have hmp0 : 0 < m := by omega
            obtain ⟨p, hp⟩ : ∃ p, m = p + 1 := ⟨m - 1, by omega⟩
            obtain ⟨k, hk0⟩ := least_some (L := L) (by rw [HM.out.2.2]; omega)
            rw [HM.out.1.al.len] at hk0
            have hk := hk0.1
            have HC := Lib.hid (take_some HM.out.1.al true k (by rw [HM.out.2.2]; omega) (fun h => by cases h) hk0)
            have HT := Lib.hid hk0.2.1
            have g3 : (0 : Int) ≤ (k : Int) := by omega
            have g4 : (k : Int) < (n : Int) := by omega
            have hnf := nf_tk (HM.out.1.len hk) hk0.2.1
            rw [HM.out.2.2] at hnf
            have hm64 := nf_le L
            rw [HM.out.2.2, HM.out.1.al.len] at hm64
            have HNF : Hid (nf (tk L k) = p) := Lib.hid (by omega)
            have HLO : Hid (Lo (tk L k) (i + 1)) := Lib.hid ((HM.out.2.1.more (Nat.le_succ i)).tk (HM.out.1.len hk))
            have hmp : (m : Int) - 1 = (p : Int) := by omega
            have HP := Lib.hid hp
            clear hk0 hnf hp
            go_wp2_with fail
            refine HC.out.mono ?_
            rintro e w3 ⟨rfl, hv3, hm3⟩
            obtain ⟨hc3, -⟩ := HCC.out w3 (hm3.at_ HM.out.1.stands (by rintro g rfl; exact HM.out.1.nz))
            have hcell := (HM.out.1.kept hm3).cell (HM.out.1.len hk)
            have hfr := (HM.out.1.kept hm3).free k
            rw [HT.out] at hcell
            have HM9 : Hid (Mk w b z h n sp (tk L k) (w3.setCell ⟨h, k, none⟩ (.bool true)) ∧ Lo (tk L k) (i + 1) ∧ nf (tk L k) = p) := Lib.hid ⟨HM.out.1.set hv3 hm3, HLO.out, HNF.out⟩
            clear hv3 hm3
            go_wp2_with fail
            refine (count_al HM9.out.1.al).mono ?_
            rintro e wc ⟨rfl, ha⟩
            rw [HM9.out.2.2]
            have HMC := Lib.hid (And.intro (HM9.out.1.next ha) HM9.out.2)
            have nbc : (((p : Int)) != ((p : Int))) = false := by simp
            clear ha HM9
            go_wp2
            go_roundw
            case rel => exact ⟨i + 1, p, tk L k, by omega, by go_num, rfl, HMC⟩
            case measure => simp [intOf]; omega
        · by_cases hx3 : x = 3
          · subst hx3
            clear hx1 hx2
            have hk := rd_lt y n h1
            obtain ⟨k, hke⟩ : ∃ k, k = rd y n := ⟨_, rfl⟩
            rw [← hke] at hk
            have HK := Lib.hid hke
            have g3 : (0 : Int) ≤ (k : Int) := by omega
            have g4 : (k : Int) < (n : Int) := by omega
            clear hke
            by_cases ht : (sa L k).t = true
            · have keptc : ∀ {wx : World}, Mv (fun g => g = z) wr.drew wx → wx.cell? ⟨h, k, none⟩ = some (.bool true) := fun {wx} hm => by
                have := ((HM.out.1.next ((At.start wr).drewN 1)).kept hm).cell (HM.out.1.len hk)
                rw [ht] at this
                exact this
              have hwk := HM.out.2.1 k (HM.out.1.len hk)
              have hHD := HM.out.1.next ((At.start wr).drewN 1)
              have HD := Lib.hid hHD
              have HC := Lib.hid (free_ok HD.out.al k hk ht (by omega))
              have hcell := HM.out.1.hl.cell (HM.out.1.len hk)
              rw [ht] at hcell
              have hnf := nf_fre (HM.out.1.len hk) ht
              rw [HM.out.2.2] at hnf
              have hm64 := nf_le L
              rw [HM.out.2.2, HM.out.1.al.len] at hm64
              have HNF := Lib.hid hnf
              have HLO : Hid (Lo (fre L k) (i + 1)) := Lib.hid (HM.out.2.1.fre (HM.out.1.len hk))
              have HTT := Lib.hid ht
              clear ht hwk hHD hnf
              go_wp2_with fail

              refine (HR.out y _).mono ?_
              rintro e wy ⟨rfl, rfl⟩

              rw [← HK.out]
              go_wp2_with fail
              go_region_held3 (fun w' => w'.cell? ⟨h, k, none⟩ = some (.bool true)) (first | go_keep | exact keptc hm3) (first | (go_at_call 13; refine HC.out.mono ?_; rintro e w3 ⟨rfl, hv3, hm3⟩))
              have hl3 := HD.out.kept hm3
              have hcell := hl3.cell (HM.out.1.len hk)
              have hfr := hl3.free k
              rw [HTT.out] at hcell
              have HM9 : Hid (Mk w b z h n sp (fre L k) (w3.setCell ⟨h, k, none⟩ (.bool false)) ∧ Lo (fre L k) (i + 1) ∧ nf (fre L k) = m + 1) := Lib.hid ⟨HD.out.set hv3 hm3, HLO.out, HNF.out⟩
              clear hv3 hm3 hl3

              go_wp2_with fail
              refine (count_al HM9.out.1.al).mono ?_
              rintro e wc ⟨rfl, ha⟩
              rw [HM9.out.2.2]
              have HMC := Lib.hid (And.intro (HM9.out.1.next ha) HM9.out.2)
              have nbc : (((m : Int) + 1) != ((m : Int) + 1)) = false := by simp
              clear ha HM9
              go_wp2
              go_roundw
              case rel => exact ⟨i + 1, m + 1, fre L k, by omega, by go_num, by go_num, HMC⟩
              case measure => simp [intOf]; omega
            · have ht : (sa L k).t = false := by simpa using ht
              have HC := Lib.hid (free_none (HM.out.1.next ((At.start wr).drewN 1)).al k hk ht)
              have hcell := HM.out.1.hl.cell (HM.out.1.len hk)
              rw [ht] at hcell
              clear ht
              go_wp2_with fail

              refine (HR.out y _).mono ?_
              rintro e wy ⟨rfl, rfl⟩

              rw [← HK.out]
              go_wp2_with fail
              go_region_held3 (fun w' => w'.cell? ⟨h, k, none⟩ = some (.bool false)) (go_keep) (first | (go_at_call 13; refine HC.out.mono ?_; rintro e w3 ⟨rfl, rfl⟩))
              have HM9 : Hid (Mk w b z h n sp L wr.drew ∧ Lo L (i + 1) ∧ nf L = m) := Lib.hid ⟨HM.out.1.next ((At.start wr).drewN 1), HM.out.2.1.more (Nat.le_succ i), HM.out.2.2⟩
              have hcell := HM9.out.1.hl.cell (HM9.out.1.len hk)

              go_wp2_with fail
              refine (count_al HM9.out.1.al).mono ?_
              rintro e wc ⟨rfl, ha⟩
              rw [HM9.out.2.2]
              have HMC := Lib.hid (And.intro (HM9.out.1.next ha) HM9.out.2)
              have nbc : (((m : Int)) != ((m : Int))) = false := by simp
              clear ha HM9
              go_wp2
              go_roundw
              case rel => exact ⟨i + 1, m, L, by omega, by go_num, rfl, HMC⟩
              case measure => simp [intOf]; omega
          · have nb1 : (x == 1) = false := by simpa using hx1
            have nb2 : (x == 2) = false := by simpa using hx2
            have nb3 : (x == 3) = false := by simpa using hx3
            clear hx1 hx2 hx3 hc2
            have HM9 : Hid (Mk w b z h n sp L wr ∧ Lo L (i + 1) ∧ nf L = m) := Lib.hid ⟨HM.out.1, HM.out.2.1.more (Nat.le_succ i), HM.out.2.2⟩
            go_wp2_with fail
            refine (count_al HM9.out.1.al).mono ?_
            rintro e wc ⟨rfl, ha⟩
            rw [HM9.out.2.2]
            have HMC := Lib.hid (And.intro (HM9.out.1.next ha) HM9.out.2)
            have nbc : (((m : Int)) != ((m : Int))) = false := by simp
            clear ha HM9
            go_wp2
            go_roundw
            case rel => exact ⟨i + 1, m, L, by omega, by go_num, rfl, HMC⟩
            case measure => simp [intOf]; omega
    · have HA := Lib.hid HM.out.1.stands
      clear HM
      go_wp2_with fail
      refine (HG.out _).mono ?_
      rintro e w9 ⟨rfl, ha⟩
      have HA9 : Hid (At w w9) := Lib.hid (HA.out.next ha)
      clear ha
      go_wp2
      go_ret
      exact ⟨rfl, HA9.out⟩

theorem once_any (n sp : Int) (A : Option Addr) (u c : Nat) (Z : List (Int × Int)) (hl : Z.length = u) (w : World) (hv : SView w (.slice A u c) Z) : Calls Try.prog 4 #[.int .i64 n, .int .i64 sp, .slice A u c] w (Gives (.bool true) w) := by
  by_cases h : May n sp ∧ u ≤ 500
  · obtain ⟨⟨h1, h2, h3, h4⟩, h5⟩ := h
    obtain ⟨a, rfl⟩ := Int.eq_ofNat_of_zero_le (show 0 ≤ n by omega)
    obtain ⟨d, rfl⟩ := Int.eq_ofNat_of_zero_le h3
    exact once_in a d A u c Z (by omega) (by omega) (by omega) h5 hl w hv
  · exact once_out n sp A u c h w

end Go.Proofs.Ytheldhbdhadliaa
