/- Proved: the law HorizonRoom's walk: so many may be there, and not one more; one that goes makes room for one. -/
import Derived.Test.YtjgmgkglpfcihaaHs
namespace Go.Proofs.Ytjgmgkglpfcihaa
open Go.RowKit

/-- The book in which the first m were opened, at the times 0, 1, .. -/
def rm (M : Int) (m : Nat) : St := ⟨M, m, (List.range m).map fun i : Nat => (i : Int) + 1, fun h => if 1 ≤ h ∧ h ≤ (m : Int) then h - 1 else 0⟩
theorem rm_zero (M : Int) : rm M 0 = st0 M := by
  unfold rm st0
  congr 1
  funext h
  exact if_neg (by omega)
theorem rm_len (M : Int) (m : Nat) : (rm M m).H.length = m := by simp [rm]
theorem rm_mem {M : Int} {m : Nat} {h : Int} : h ∈ (rm M m).H ↔ 1 ≤ h ∧ h ≤ (m : Int) := by
  show h ∈ (List.range m).map (fun i : Nat => (i : Int) + 1) ↔ _
  rw [List.mem_map]
  constructor
  · rintro ⟨i, hi, rfl⟩; rw [List.mem_range] at hi; omega
  · intro hh; exact ⟨(h - 1).toNat, List.mem_range.2 (by omega), by omega⟩
theorem rm_op (M : Int) (m : Nat) : op (rm M m) (m : Int) = rm M (m + 1) := by
  unfold op rm
  congr 1
  · rw [List.range_succ, List.map_append]; rfl
  · funext h
    show (if h = (m : Int) + 1 then (m : Int) else if 1 ≤ h ∧ h ≤ (m : Int) then h - 1 else 0) = if 1 ≤ h ∧ h ≤ ((m + 1 : Nat) : Int) then h - 1 else 0
    by_cases e : h = (m : Int) + 1
    · rw [if_pos e, if_pos (by omega)]; omega
    · rw [if_neg e]
      by_cases e2 : 1 ≤ h ∧ h ≤ (m : Int)
      · rw [if_pos e2, if_pos (by omega)]
      · rw [if_neg e2, if_neg (by omega)]
theorem rm_low (M : Int) (m : Nat) (h : 0 < m) : lo (rm M m) 1000 = 0 :=
  (lo_one (S := rm M m) (x := 0) (by omega) (fun k hk => by
    have := rm_mem.1 hk
    show (0 : Int) ≤ if 1 ≤ k ∧ k ≤ (m : Int) then k - 1 else 0
    split <;> omega) (Or.inr ⟨1, rm_mem.2 (by omega), by
    show (0 : Int) = if (1 : Int) ≤ 1 ∧ 1 ≤ (m : Int) then 1 - 1 else 0
    split <;> rfl⟩)).symm
section
variable {w wr : World} {b mb : Nat} {M : Int} {k P : Nat}
/-- The k-th Open of the loop. -/
theorem room_open (h : Hs w b mb (rm M (min k P)) wr) (hP : (P : Int) = max M 0) (hk : k ≤ 1000) :
    Calls Try.prog 10 #[.pointer (some ⟨b, 0, none⟩), .int .i64 (k : Int)] wr fun e w' => e = .returned (.tuple #[.int .i64 (if k < P then (k : Int) + 1 else 0), .int .i64 (if k < P then 0 else 6)]) ∧ Hs w b mb (rm M (min (k + 1) P)) w' := by
  have hm : May (k : Int) := ⟨by omega, by omega⟩
  have hO := h.opens (k : Int) (by show min k P < 1000000; omega)
  unfold oh oe oS at hO
  rw [if_pos hm, if_pos hm, if_pos hm, rm_len] at hO
  rw [show (rm M (min k P)).most = M from rfl] at hO
  by_cases hkp : k < P
  · have hlt : ((min k P : Nat) : Int) < M := by omega
    rw [if_pos hlt, if_pos hlt, if_pos hlt] at hO
    rw [if_pos hkp, if_pos hkp, show min (k + 1) P = k + 1 by omega, ← rm_op]
    rw [show min k P = k by omega] at hO
    exact hO
  · have hlt : ¬ ((min k P : Nat) : Int) < M := by omega
    rw [if_neg hlt, if_neg hlt, if_neg hlt] at hO
    rw [if_neg hkp, if_neg hkp]
    rw [show min k P = min (k + 1) P by omega] at hO
    exact hO
end
section
variable {w wr : World} {b mb : Nat} {M : Int} {k P m : Nat}
/-- The last Open, behind a Close. -/
theorem room_gone {c : Int} (hP : (P : Int) = max M 0) (hm : m = min k P) (hc : 1 ≤ c ∧ c ≤ (m : Int)) (h : Hs w b mb (cl (rm M m) c) wr) (hk : m ≤ 1000) :
    Calls Try.prog 10 #[.pointer (some ⟨b, 0, none⟩), .int .i64 5] wr fun e w' => e = .returned (.tuple #[.int .i64 ((m : Int) + 1), .int .i64 0]) ∧ At w w' := by
  have hO := h.opens 5 (by show m < 1000000; omega)
  have hl := dl_len (H := (rm M m).H) (h := c) (by
    have h0 : Ok (cl (rm M m) c) := h.bk.ok
    show ((List.range m).map fun i : Nat => (i : Int) + 1).Nodup
    exact List.Pairwise.map _ (fun a b hab e => hab (by omega)) List.nodup_range) (rm_mem.2 hc)
  rw [rm_len] at hl
  have hlt : ((cl (rm M m) c).H.length : Int) < (cl (rm M m) c).most := by
    show ((dl (rm M m).H c).length : Int) < M
    omega
  unfold oh oe oS at hO
  have h5 : May 5 := by decide
  rw [if_pos h5, if_pos h5, if_pos h5, if_pos hlt, if_pos hlt, if_pos hlt] at hO
  exact hO.mono fun e w' ⟨he, hh⟩ => ⟨he, hh.stands⟩
theorem room_more_yes (hm : (m : Int) < M) (h : Hs w b mb (rm M m) wr) (hk : m ≤ 1000) :
    Calls Try.prog 10 #[.pointer (some ⟨b, 0, none⟩), .int .i64 5] wr fun e w' => e = .returned (.tuple #[.int .i64 ((m : Int) + 1), .int .i64 0]) ∧ At w w' := by
  have hO := h.opens 5 (by show m < 1000000; omega)
  have hlt : ((rm M m).H.length : Int) < (rm M m).most := by rw [rm_len]; exact hm
  unfold oh oe oS at hO
  have h5 : May 5 := by decide
  rw [if_pos h5, if_pos h5, if_pos h5, if_pos hlt, if_pos hlt, if_pos hlt] at hO
  exact hO.mono fun e w' ⟨he, hh⟩ => ⟨he, hh.stands⟩
theorem room_more_no (hm : ¬ (m : Int) < M) (h : Hs w b mb (rm M m) wr) (hk : m ≤ 1000) :
    Calls Try.prog 10 #[.pointer (some ⟨b, 0, none⟩), .int .i64 5] wr fun e w' => e = .returned (.tuple #[.int .i64 0, .int .i64 6]) ∧ At w w' := by
  have hO := h.opens 5 (by show m < 1000000; omega)
  have hlt : ¬ ((rm M m).H.length : Int) < (rm M m).most := by rw [rm_len]; exact hm
  unfold oh oe oS at hO
  have h5 : May 5 := by decide
  rw [if_pos h5, if_pos h5, if_pos h5, if_neg hlt, if_neg hlt, if_neg hlt] at hO
  exact hO.mono fun e w' ⟨he, hh⟩ => ⟨he, hh.stands⟩
end
/-- Numbers that the law looks at. -/
def Rin (M n : Int) : Prop := -5 ≤ M ∧ M ≤ 60 ∧ 0 ≤ n ∧ n ≤ 80

set_option maxHeartbeats 1000000 in
set_option maxRecDepth 100000 in
theorem room_out (M n c : Int) (h : ¬ Rin M n) (w : World) : Calls Try.prog 7 #[.int .i64 M, .int .i64 n, .int .i64 c] w (Gives (.bool true) w) := by
  have HG := Lib.hid awake_any
  by_cases h1 : M < -5
  · clear h
    go_enter Try.func7, Try.ntmps7
    go_wp2_with (go_at_call 8; refine (HG.out _).mono ?_; rintro e w' ⟨rfl, hb⟩)
    go_ret
    exact ⟨rfl, hb⟩
  have h1 : -5 ≤ M := by omega
  by_cases h2 : 60 < M
  · clear h
    go_enter Try.func7, Try.ntmps7
    go_wp2_with (go_at_call 8; refine (HG.out _).mono ?_; rintro e w' ⟨rfl, hb⟩)
    go_ret
    exact ⟨rfl, hb⟩
  have h2 : M ≤ 60 := by omega
  by_cases h3 : n < 0
  · clear h
    go_enter Try.func7, Try.ntmps7
    go_wp2_with (go_at_call 8; refine (HG.out _).mono ?_; rintro e w' ⟨rfl, hb⟩)
    go_ret
    exact ⟨rfl, hb⟩
  have h3 : 0 ≤ n := by omega
  have h4 : 80 < n := by unfold Rin at h; omega
  clear h
  go_enter Try.func7, Try.ntmps7
  go_wp2_with (go_at_call 8; refine (HG.out _).mono ?_; rintro e w' ⟨rfl, hb⟩)
  go_ret
  exact ⟨rfl, hb⟩

set_option maxHeartbeats 4000000 in
set_option maxRecDepth 100000 in
theorem room_in (M c : Int) (n : Nat) (h1 : -5 ≤ M) (h2 : M ≤ 60) (h4 : n ≤ 80) (hc : (ky c).wf = true) (w : World) : Calls Try.prog 7 #[.int .i64 M, .int .i64 (n : Int), .int .i64 c] w (Gives (.bool true) w) := by
  have q3 : (0 : Int) ≤ (n : Int) := by omega
  have q4 : (n : Int) ≤ 80 := by omega
  obtain ⟨P, hP⟩ : ∃ P : Nat, (P : Int) = max M 0 := ⟨M.toNat, by omega⟩
  have HP := Lib.hid hP
  have HCW := Lib.hid hc
  have HW := Lib.hid awake_any
  clear hc hP
  go_enter Try.func7, Try.ntmps7
  go_wp2_with fail
  refine (new_any M w).mono ?_
  rintro e w1 ⟨b, mb, rfl, hb, hb1, hb2, hA⟩
  have HS1 : Hid (Hs w b mb (rm M (min 0 P)) w1) := Lib.hid (by rw [Nat.zero_min, rm_zero]; exact Hs.start hb hb1 hb2 hA (At.start w))
  clear hb hb1 hb2 hA
  go_wp2
  go_loopw [8] (fun i wr => ∃ k : Nat, k ≤ n ∧ i = .int .i64 (k : Int) ∧ Hid (Hs w b mb (rm M (min k P)) wr)) (fun i _ => n - (RowKit.intOf i).toNat)
  case atStart => exact ⟨0, by omega, rfl, HS1⟩
  case round =>
    obtain ⟨k, hk, rfl, HS⟩ := hrel
    by_cases hlt : k < n
    · have g1 : (k : Int) < (n : Int) := by omega
      have g2 : (0 : Int) ≤ (k : Int) := by omega
      have HO := Lib.hid (room_open HS.out HP.out (by omega))
      by_cases hkp : k < P
      · rw [if_pos hkp, if_pos hkp] at HO
        have g4 : (k : Int) < M := by have := HP.out; omega
        go_wp2_with fail
        refine HO.out.mono ?_
        rintro e w2 ⟨rfl, hs⟩
        have HS2 := Lib.hid hs
        clear hs
        go_wp2
        go_roundw
        case rel => exact ⟨k + 1, by omega, by go_num, HS2⟩
        case measure => simp [RowKit.intOf]; omega
      · rw [if_neg hkp, if_neg hkp] at HO
        have g4 : decide ((k : Int) < M) = false := decide_eq_false (by have := HP.out; omega)
        go_wp2_with fail
        refine HO.out.mono ?_
        rintro e w2 ⟨rfl, hs⟩
        have HS2 := Lib.hid hs
        clear hs
        go_wp2
        go_roundw
        case rel => exact ⟨k + 1, by omega, by go_num, HS2⟩
        case measure => simp [RowKit.intOf]; omega
    · have hkn : k = n := by omega
      subst hkn
      obtain ⟨m, hm⟩ : ∃ m, m = min k P := ⟨_, rfl⟩
      rw [← hm] at HS
      have HM := Lib.hid hm
      have hmin : min (k : Int) (max M 0) = (m : Int) := by have := HP.out; omega
      have nb : ((m : Int) != (m : Int)) = false := by simp
      have hm80 : m ≤ 80 := by omega
      clear hm
      have HC := Lib.hid (count_bk HS.out.bk)
      rw [rm_len] at HC
      go_wp2_with fail
      refine HC.out.mono ?_
      rintro e w' ⟨rfl, rfl⟩
      by_cases hm0 : 0 < m
      · have HL := Lib.hid (low_bk HS.out.bk 1000)
        rw [rm_low M m hm0] at HL
        have g5 : (0 : Int) < (m : Int) := by omega
        go_wp2_with fail
        refine HL.out.mono ?_
        rintro e w4 ⟨rfl, ha⟩
        have HS3 := Lib.hid (HS.out.on ha)
        clear ha HS HL HC
        have HCL := Lib.hid (HS3.out.closes c HCW.out)
        by_cases hc : 1 ≤ c ∧ c ≤ (m : Int)
        · rw [cd_in (rm_mem.2 hc)] at HCL
          obtain ⟨c1, c2⟩ := hc
          have g7 : (m : Int) - 1 < M := by have := HP.out; have := HM.out; omega
          go_wp2_with fail
          refine HCL.out.mono ?_
          rintro e w5 ⟨rfl, hs⟩
          have HO := Lib.hid (room_gone HP.out HM.out ⟨c1, c2⟩ hs (by omega))
          clear hs HCL
          go_wp2_with fail
          refine HO.out.mono ?_
          rintro e w6 ⟨rfl, hs⟩
          have HA6 := Lib.hid hs
          clear hs HO
          go_wp2_with fail
          refine (HW.out _).mono ?_
          rintro e w7 ⟨rfl, ha⟩
          have HA7 := Lib.hid (HA6.out.next ha)
          clear ha HA6
          go_wp2
          go_ret
          exact ⟨rfl, HA7.out⟩
        · rw [cd_out (fun h => hc (rm_mem.1 h)), cl_not (fun h => hc (rm_mem.1 h))] at HCL
          by_cases hm1 : (m : Int) < M
          · have g7 : (m : Int) < M := hm1
            by_cases hc1 : 1 ≤ c
            · have hc2 : decide (c ≤ (m : Int)) = false := decide_eq_false (fun h => hc ⟨hc1, h⟩)
              clear hc
              go_wp2_with fail
              refine HCL.out.mono ?_
              rintro e w5 ⟨rfl, hs⟩
              have HO := Lib.hid (room_more_yes (show (m : Int) < M by omega) hs (by omega))
              clear hs HCL
              go_wp2_with fail
              refine HO.out.mono ?_
              rintro e w6 ⟨rfl, hs⟩
              have HA6 := Lib.hid hs
              clear hs HO
              go_wp2_with fail
              refine (HW.out _).mono ?_
              rintro e w7 ⟨rfl, ha⟩
              have HA7 := Lib.hid (HA6.out.next ha)
              clear ha HA6
              go_wp2
              go_ret
              exact ⟨rfl, HA7.out⟩
            · have hc2 : decide (1 ≤ c) = false := decide_eq_false hc1
              clear hc hc1
              go_wp2_with fail
              refine HCL.out.mono ?_
              rintro e w5 ⟨rfl, hs⟩
              have HO := Lib.hid (room_more_yes (show (m : Int) < M by omega) hs (by omega))
              clear hs HCL
              go_wp2_with fail
              refine HO.out.mono ?_
              rintro e w6 ⟨rfl, hs⟩
              have HA6 := Lib.hid hs
              clear hs HO
              go_wp2_with fail
              refine (HW.out _).mono ?_
              rintro e w7 ⟨rfl, ha⟩
              have HA7 := Lib.hid (HA6.out.next ha)
              clear ha HA6
              go_wp2
              go_ret
              exact ⟨rfl, HA7.out⟩
          · have g7 : decide ((m : Int) < M) = false := decide_eq_false hm1
            by_cases hc1 : 1 ≤ c
            · have hc2 : decide (c ≤ (m : Int)) = false := decide_eq_false (fun h => hc ⟨hc1, h⟩)
              clear hc
              go_wp2_with fail
              refine HCL.out.mono ?_
              rintro e w5 ⟨rfl, hs⟩
              have HO := Lib.hid (room_more_no (show ¬ (m : Int) < M by omega) hs (by omega))
              clear hs HCL
              go_wp2_with fail
              refine HO.out.mono ?_
              rintro e w6 ⟨rfl, hs⟩
              have HA6 := Lib.hid hs
              clear hs HO
              go_wp2_with fail
              refine (HW.out _).mono ?_
              rintro e w7 ⟨rfl, ha⟩
              have HA7 := Lib.hid (HA6.out.next ha)
              clear ha HA6
              go_wp2
              go_ret
              exact ⟨rfl, HA7.out⟩
            · have hc2 : decide (1 ≤ c) = false := decide_eq_false hc1
              clear hc hc1
              go_wp2_with fail
              refine HCL.out.mono ?_
              rintro e w5 ⟨rfl, hs⟩
              have HO := Lib.hid (room_more_no (show ¬ (m : Int) < M by omega) hs (by omega))
              clear hs HCL
              go_wp2_with fail
              refine HO.out.mono ?_
              rintro e w6 ⟨rfl, hs⟩
              have HA6 := Lib.hid hs
              clear hs HO
              go_wp2_with fail
              refine (HW.out _).mono ?_
              rintro e w7 ⟨rfl, ha⟩
              have HA7 := Lib.hid (HA6.out.next ha)
              clear ha HA6
              go_wp2
              go_ret
              exact ⟨rfl, HA7.out⟩
      · have g5 : decide ((0 : Int) < (m : Int)) = false := decide_eq_false (by omega)
        have HS3 := HS
        clear HS HC
        have HCL := Lib.hid (HS3.out.closes c HCW.out)
        by_cases hc : 1 ≤ c ∧ c ≤ (m : Int)
        · rw [cd_in (rm_mem.2 hc)] at HCL
          obtain ⟨c1, c2⟩ := hc
          have g7 : (m : Int) - 1 < M := by have := HP.out; have := HM.out; omega
          go_wp2_with fail
          refine HCL.out.mono ?_
          rintro e w5 ⟨rfl, hs⟩
          have HO := Lib.hid (room_gone HP.out HM.out ⟨c1, c2⟩ hs (by omega))
          clear hs HCL
          go_wp2_with fail
          refine HO.out.mono ?_
          rintro e w6 ⟨rfl, hs⟩
          have HA6 := Lib.hid hs
          clear hs HO
          go_wp2_with fail
          refine (HW.out _).mono ?_
          rintro e w7 ⟨rfl, ha⟩
          have HA7 := Lib.hid (HA6.out.next ha)
          clear ha HA6
          go_wp2
          go_ret
          exact ⟨rfl, HA7.out⟩
        · rw [cd_out (fun h => hc (rm_mem.1 h)), cl_not (fun h => hc (rm_mem.1 h))] at HCL
          by_cases hm1 : (m : Int) < M
          · have g7 : (m : Int) < M := hm1
            by_cases hc1 : 1 ≤ c
            · have hc2 : decide (c ≤ (m : Int)) = false := decide_eq_false (fun h => hc ⟨hc1, h⟩)
              clear hc
              go_wp2_with fail
              refine HCL.out.mono ?_
              rintro e w5 ⟨rfl, hs⟩
              have HO := Lib.hid (room_more_yes (show (m : Int) < M by omega) hs (by omega))
              clear hs HCL
              go_wp2_with fail
              refine HO.out.mono ?_
              rintro e w6 ⟨rfl, hs⟩
              have HA6 := Lib.hid hs
              clear hs HO
              go_wp2_with fail
              refine (HW.out _).mono ?_
              rintro e w7 ⟨rfl, ha⟩
              have HA7 := Lib.hid (HA6.out.next ha)
              clear ha HA6
              go_wp2
              go_ret
              exact ⟨rfl, HA7.out⟩
            · have hc2 : decide (1 ≤ c) = false := decide_eq_false hc1
              clear hc hc1
              go_wp2_with fail
              refine HCL.out.mono ?_
              rintro e w5 ⟨rfl, hs⟩
              have HO := Lib.hid (room_more_yes (show (m : Int) < M by omega) hs (by omega))
              clear hs HCL
              go_wp2_with fail
              refine HO.out.mono ?_
              rintro e w6 ⟨rfl, hs⟩
              have HA6 := Lib.hid hs
              clear hs HO
              go_wp2_with fail
              refine (HW.out _).mono ?_
              rintro e w7 ⟨rfl, ha⟩
              have HA7 := Lib.hid (HA6.out.next ha)
              clear ha HA6
              go_wp2
              go_ret
              exact ⟨rfl, HA7.out⟩
          · have g7 : decide ((m : Int) < M) = false := decide_eq_false hm1
            by_cases hc1 : 1 ≤ c
            · have hc2 : decide (c ≤ (m : Int)) = false := decide_eq_false (fun h => hc ⟨hc1, h⟩)
              clear hc
              go_wp2_with fail
              refine HCL.out.mono ?_
              rintro e w5 ⟨rfl, hs⟩
              have HO := Lib.hid (room_more_no (show ¬ (m : Int) < M by omega) hs (by omega))
              clear hs HCL
              go_wp2_with fail
              refine HO.out.mono ?_
              rintro e w6 ⟨rfl, hs⟩
              have HA6 := Lib.hid hs
              clear hs HO
              go_wp2_with fail
              refine (HW.out _).mono ?_
              rintro e w7 ⟨rfl, ha⟩
              have HA7 := Lib.hid (HA6.out.next ha)
              clear ha HA6
              go_wp2
              go_ret
              exact ⟨rfl, HA7.out⟩
            · have hc2 : decide (1 ≤ c) = false := decide_eq_false hc1
              clear hc hc1
              go_wp2_with fail
              refine HCL.out.mono ?_
              rintro e w5 ⟨rfl, hs⟩
              have HO := Lib.hid (room_more_no (show ¬ (m : Int) < M by omega) hs (by omega))
              clear hs HCL
              go_wp2_with fail
              refine HO.out.mono ?_
              rintro e w6 ⟨rfl, hs⟩
              have HA6 := Lib.hid hs
              clear hs HO
              go_wp2_with fail
              refine (HW.out _).mono ?_
              rintro e w7 ⟨rfl, ha⟩
              have HA7 := Lib.hid (HA6.out.next ha)
              clear ha HA6
              go_wp2
              go_ret
              exact ⟨rfl, HA7.out⟩

theorem room_any (M n c : Int) (hc : (ky c).wf = true) (w : World) : Calls Try.prog 7 #[.int .i64 M, .int .i64 n, .int .i64 c] w (Gives (.bool true) w) := by
  by_cases h : Rin M n
  · obtain ⟨h1, h2, h3, h4⟩ := h
    obtain ⟨k, rfl⟩ := Int.eq_ofNat_of_zero_le h3
    exact room_in M c k h1 h2 (by omega) hc w
  · exact room_out M n c h w

end Go.Proofs.Ytjgmgkglpfcihaa
