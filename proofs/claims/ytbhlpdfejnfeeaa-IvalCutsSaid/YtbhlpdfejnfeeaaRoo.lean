/- Proved: the law IvalRoom answers true for any two numbers: a set may have so many extents, and not one more; one that joins others makes room. -/
import Derived.Test.YtbhlpdfejnfeeaaNot
namespace Go.Proofs.Ytbhlpdfejnfeeaa
open Go.RowKit

/-- A set that a call has made, and what it lies in: all of it is new. -/
structure St (w w' : World) (b : Nat) (v : Value) (most : Int) (L : List (Int × Int)) : Prop where
  sv : Sv w' b v most L
  at_ : At w w'
  ft : ∀ g, Ft b v g → w.heap.size ≤ g
theorem St.did {w wx w' : World} {b : Nat} {v v' : Value} {most : Int} {L L' : List (Int × Int)} (h : St w wx b v most L) (hs : Sv w' b v' most L') (hd : Did wx b v v' w') : St w w' b v' most L' :=
  ⟨hs, hd.mv.at_ h.at_ h.ft, fun g hg => (hd.ft g hg).elim (h.ft g) (fun h1 => Nat.le_trans h.at_.size h1)⟩
theorem St.on {w w1 w2 : World} {b : Nat} {v : Value} {most : Int} {L : List (Int × Int)} (h : St w w1 b v most L) (ha : At w1 w2) : St w w2 b v most L := ⟨h.sv.on ha, h.at_.next ha, h.ft⟩
theorem St.back {w0 w w1 : World} {b : Nat} {v : Value} {most : Int} {L : List (Int × Int)} (h : St w w1 b v most L) (ha : At w0 w) : St w0 w1 b v most L := ⟨h.sv, ha.next h.at_, fun g hg => Nat.le_trans ha.size (h.ft g hg)⟩
theorem st_new {most : Int} {w w' : World} {e : Ending} (h : News most w e w') : e = .returned (.pointer (some ⟨w.heap.size, 0, none⟩)) ∧ St w w' w.heap.size (.slice none 0 0) most [] := by
  obtain ⟨rfl, hs, ha⟩ := h
  exact ⟨rfl, hs, ha, fun g hg => hg.elim (fun h => Nat.le_of_eq h.symm) (fun h => by cases h)⟩

/-- So many blocks, each with a gap behind. -/
def rw' (k : Nat) : List (Int × Int) := (List.range k).map fun j : Nat => (2 * (j : Int), 1)
theorem rw_succ (k : Nat) : rw' (k + 1) = rw' k ++ [(2 * (k : Int), 1)] := by
  unfold rw'; rw [List.range_succ, List.map_append]; rfl
theorem rw_len (k : Nat) : (rw' k).length = k := by unfold rw'; simp
theorem rw_mem {k : Nat} {e : Int × Int} (h : e ∈ rw' k) : 0 ≤ e.1 ∧ e.1 + 2 ≤ 2 * (k : Int) ∧ e.2 = 1 := by
  unfold rw' at h
  obtain ⟨j, hj, rfl⟩ := List.mem_map.1 h
  have := List.mem_range.1 hj
  exact ⟨by simp only; omega, by simp only; omega, rfl⟩
theorem rw_nm {k : Nat} : ∀ {i : Nat}, i ≤ k → k ≤ 1000 → Nm (rw' i)
  | 0, _, _ => Nm.nil
  | i + 1, h, hk => by
    rw [rw_succ]
    exact nm_snoc (rw_nm (i := i) (by omega) hk) (fun r hr => by have := rw_mem hr; omega) ⟨by simp only; omega, by simp only; omega, by simp only; omega⟩
theorem rw_is {k i : Nat} (h : k ≤ i) (hi : i ≤ 1000) : Is (rw' k ++ [(2 * (i : Int), 1)]) (rw' k ++ [(2 * (i : Int), 1)]) :=
  Is.self (nm_snoc (rw_nm h hi) (fun r hr => by have := rw_mem hr; omega) ⟨by simp only; omega, by simp only; omega, by simp only; omega⟩)
theorem rw_sm : ∀ k, sm (rw' k) = (k : Int)
  | 0 => rfl
  | k + 1 => by rw [rw_succ, sm_app, rw_sm k]; simp [sm]
theorem rw_all {k : Nat} (h : 1 ≤ k) (hk : k ≤ 1000) : Is (rw' k ++ [(0, 2 * (k : Int))]) [(0, 2 * (k : Int))] := by
  refine ⟨Nm.one ⟨by simp, by simp only; omega, by simp only; omega⟩, fun x => ?_⟩
  rw [in_app]
  constructor
  · exact Or.inr
  · rintro (⟨e, he, h1, h2⟩ | h)
    · have := rw_mem he
      exact (in_one _ _).2 ⟨by simp only; omega, by simp only; omega⟩
    · exact h
theorem room_add {p i : Nat} (hi : i ≤ 1000) {b : Nat} {v : Value} {w w' : World} {e : Ending} (h : Adds b v (p : Int) (rw' (min i p)) [(2 * (i : Int), 1)] w e w') :
    ∃ v' : Value, Did w b v v' w' ∧ Sv w' b v' (p : Int) (rw' (min (i + 1) p)) ∧ e = .returned (.int .i64 (if i < p then 0 else 7)) := by
  have hv : allB [(2 * (i : Int), 1)] = true := by rw [allB_one]; exact vaB_yes ⟨by simp only; omega, by simp only; omega, by simp, by simp, by simp only; omega⟩
  obtain ⟨v', hd, ⟨h1, rfl, hs⟩ | ⟨h1, rfl, hs⟩⟩ := h.known hv (rw_is (Nat.min_le_left i p) hi) (by simp)
  · rw [List.length_append, rw_len] at h1
    simp only [List.length_singleton] at h1
    have hlt : i < p := by omega
    refine ⟨v', hd, ?_, by rw [if_pos hlt]⟩
    rw [show min i p = i by omega, ← rw_succ] at hs
    rwa [show min (i + 1) p = i + 1 by omega]
  · rw [List.length_append, rw_len] at h1
    simp only [List.length_singleton] at h1
    have hge : ¬ i < p := by omega
    refine ⟨v', hd, ?_, by rw [if_neg hge]⟩
    rwa [show min (i + 1) p = min i p by omega]

set_option maxHeartbeats 2000000 in
set_option maxRecDepth 100000 in
theorem room_yes (p n : Nat) (hp : p ≤ 40) (hn : n ≤ 60) (w : World) : Calls Try.prog 5 #[.int .i64 (p : Int), .int .i64 (n : Int)] w (Gives (.bool true) w) := by
  have q1 : (0 : Int) ≤ (p : Int) := by omega
  have q2 : (p : Int) ≤ 40 := by omega
  have q3 : (0 : Int) ≤ (n : Int) := by omega
  have q4 : (n : Int) ≤ 60 := by omega
  go_enter Try.func5, Try.ntmps5
  go_wp2_with fail
  refine (new_any (p : Int) _).mono ?_
  rintro e w1 hnew
  obtain ⟨rfl, hst⟩ := st_new hnew
  have HS1 := Lib.hid hst
  clear hnew hst
  obtain ⟨b, hb⟩ : ∃ b, b = w.heap.size := ⟨_, rfl⟩
  rw [← hb] at HS1
  rw [← hb]
  have HBW := Lib.hid hb
  clear hb
  go_wp2
  go_loopw [6] (fun i wr => ∃ (k : Nat) (v : Value), k ≤ n ∧ i = .int .i64 (k : Int) ∧ Hid (St w wr b v (p : Int) (rw' (min k p)))) (fun i _ => n - (intOf i).toNat)
  case atStart => exact ⟨0, _, by omega, rfl, Lib.hid (by rw [Nat.zero_min]; exact HS1.out)⟩
  case round =>
    obtain ⟨k, v, hk, rfl, HS⟩ := hrel
    by_cases hlt : k < n
    · have g1 : (k : Int) < (n : Int) := by omega
      have g2 : (0 : Int) ≤ (k : Int) := by omega
      have g3 : IntKind.i64.wrap (2 * (k : Int)) = 2 * (k : Int) := IntWalk.i64_in _ (by omega)
      have HSA : Hid (St w (wr.alloc (.cells #[.int .i64 (2 * (k : Int)), .int .i64 1] 28)) b v (p : Int) (rw' (min k p))) := Lib.hid (HS.out.on ((At.start wr).alloc _))
      have HAD := Lib.hid (add_any (some ⟨wr.heap.size, 0, none⟩) 1 1 [(2 * (k : Int), 1)] HSA.out.sv (by omega) (fun h => by cases h) rfl (ev_one wr (2 * (k : Int)) 1))
      by_cases hkp : k < p
      · have g4 : (k : Int) < (p : Int) := by omega
        go_wp2_with fail
        refine HAD.out.mono ?_
        rintro e w2 had
        obtain ⟨v', hd, hs, rfl⟩ := room_add (by omega) had
        rw [if_pos hkp]
        have HS2 := Lib.hid (HSA.out.did hs hd)
        clear had hd hs
        go_wp2
        go_roundw
        case rel => exact ⟨k + 1, v', by omega, by go_num, Lib.hid HS2.out⟩
        case measure => simp [intOf]; omega
      · have g4 : decide ((k : Int) < (p : Int)) = false := decide_eq_false (by omega)
        go_wp2_with fail
        refine HAD.out.mono ?_
        rintro e w2 had
        obtain ⟨v', hd, hs, rfl⟩ := room_add (by omega) had
        rw [if_neg hkp]
        have HS2 := Lib.hid (HSA.out.did hs hd)
        clear had hd hs
        go_wp2
        go_roundw
        case rel => exact ⟨k + 1, v', by omega, by go_num, Lib.hid HS2.out⟩
        case measure => simp [intOf]; omega
    · obtain rfl : k = n := by omega
      obtain ⟨m, hm⟩ : ∃ m, m = min k p := ⟨_, rfl⟩
      rw [← hm] at HS
      have hmin : min (k : Int) (p : Int) = (m : Int) := by omega
      have hm40 : m ≤ 40 := by omega
      have hmp : (m : Int) ≤ (p : Int) := by omega
      have HEX := Lib.hid (extents_any HS.out.sv (by rw [rw_len]; omega))
      clear hm
      go_wp2_with fail
      refine HEX.out.mono ?_
      rintro e w2 ⟨v2, rfl, ho2, ha2, -⟩
      obtain ⟨A2, c2, rfl, -, -, -⟩ := ho2.ev
      rw [rw_len]
      have HS2 := Lib.hid (HS.out.on ha2)
      have HCN := Lib.hid (count_any HS2.out.sv (by rw [rw_len]; omega))
      rw [rw_sm] at HCN
      clear ho2 ha2 HEX
      go_wp2_with fail
      refine HCN.out.mono ?_
      rintro e w3 ⟨rfl, ha3⟩
      have HS3 := Lib.hid (HS2.out.on ha3)
      clear ha3 HCN
      by_cases h0 : m = 0
      · have g5 : (m : Int) = 0 := by omega
        go_wp2_with fail
        refine (awake_any _).mono ?_
        rintro e w4 ⟨rfl, ha4⟩
        have HA4 := Lib.hid (HS3.out.at_.next ha4)
        clear ha4
        go_wp2
        go_ret
        exact ⟨rfl, HA4.out⟩
      · have g5 : ((m : Int) == 0) = false := by simp; omega
        have g6 : IntKind.i64.wrap (2 * (m : Int)) = 2 * (m : Int) := IntWalk.i64_in _ (by omega)
        have HSA : Hid (St w (w3.alloc (.cells #[.int .i64 0, .int .i64 (2 * (m : Int))] 28)) b v (p : Int) (rw' m)) := Lib.hid (HS3.out.on ((At.start w3).alloc _))
        have HAD := Lib.hid (add_any (some ⟨w3.heap.size, 0, none⟩) 1 1 [(0, 2 * (m : Int))] HSA.out.sv (by omega) (fun h => by cases h) rfl (ev_one w3 0 (2 * (m : Int))))
        go_wp2_with fail
        refine HAD.out.mono ?_
        rintro e w4 had
        obtain ⟨v4, hd4, ⟨_, rfl, hs4⟩ | ⟨h4, _⟩⟩ := had.known (by rw [allB_one]; exact vaB_yes ⟨by simp, by simp, by simp only; omega, by simp only; omega, by simp only; omega⟩) (rw_all (k := m) (by omega) (by omega)) (by simp)
        rotate_left
        · exact absurd h4 (by simp; omega)
        have HS4 := Lib.hid (HSA.out.did hs4 hd4)
        clear had hd4 hs4
        go_wp2_with fail
        refine (extents_any HS4.out.sv (by simp)).mono ?_
        rintro e w5 ⟨v5, rfl, ho5, ha5, -⟩
        obtain ⟨A5, c5, rfl, -, -, -⟩ := ho5.ev
        have HS5 := Lib.hid (HS4.out.on ha5)
        have HCN := Lib.hid (count_any HS5.out.sv (by simp))
        rw [show sm [(0, 2 * (m : Int))] = 2 * (m : Int) by simp [sm]] at HCN
        clear ho5 ha5
        go_wp2_with fail
        refine HCN.out.mono ?_
        rintro e w6 ⟨rfl, ha6⟩
        have HS6 := Lib.hid (HS5.out.on ha6)
        clear ha6 HCN
        go_wp2_with fail
        refine (awake_any _).mono ?_
        rintro e w7 ⟨rfl, ha7⟩
        have HA7 := Lib.hid (HS6.out.at_.next ha7)
        clear ha7
        go_wp2
        go_ret
        exact ⟨rfl, HA7.out⟩

set_option maxHeartbeats 1000000 in
set_option maxRecDepth 100000 in
theorem room_any (p n : Int) (w : World) : Calls Try.prog 5 #[.int .i64 p, .int .i64 n] w (Gives (.bool true) w) := by
  by_cases h1 : 0 ≤ p
  · by_cases h2 : p ≤ 40
    · by_cases h3 : 0 ≤ n
      · by_cases h4 : n ≤ 60
        · obtain ⟨p', rfl⟩ := Int.eq_ofNat_of_zero_le h1
          obtain ⟨n', rfl⟩ := Int.eq_ofNat_of_zero_le h3
          exact room_yes p' n' (by omega) (by omega) w
        · go_enter Try.func5, Try.ntmps5
          go_wp2_with (go_at_call 14; refine (awake_any _).mono ?_; rintro e w' ⟨rfl, hb⟩)
          go_ret
          exact ⟨rfl, hb⟩
      · go_enter Try.func5, Try.ntmps5
        go_wp2_with (go_at_call 14; refine (awake_any _).mono ?_; rintro e w' ⟨rfl, hb⟩)
        go_ret
        exact ⟨rfl, hb⟩
    · go_enter Try.func5, Try.ntmps5
      go_wp2_with (go_at_call 14; refine (awake_any _).mono ?_; rintro e w' ⟨rfl, hb⟩)
      go_ret
      exact ⟨rfl, hb⟩
  · go_enter Try.func5, Try.ntmps5
    go_wp2_with (go_at_call 14; refine (awake_any _).mono ?_; rintro e w' ⟨rfl, hb⟩)
    go_ret
    exact ⟨rfl, hb⟩

end Go.Proofs.Ytbhlpdfejnfeeaa
