/- Proved: what the landed Form, Blocks and Check answer. -/
import Derived.Test.YtgmekkenodiclaaOr
import Derived.Test.YtgmekkenodiclaaBat
namespace Go.Proofs.Ytgmekkenodiclaa
open Go.RowKit

/-- So many make the next batch: from the k-th on, n were taken and hold p blocks. -/
structure Fm (L : List Tx) (n : Nat) : Prop where
  le : n ≤ L.length
  n8 : n ≤ 8
  one : L ≠ [] → 1 ≤ n
  p32 : 2 ≤ n → tot (L.take n) ≤ 32
  no : n < L.length → n < 8 → 32 < tot (L.take (n + 1))

set_option maxHeartbeats 2000000 in
set_option maxRecDepth 100000 in
theorem form_any (A : Option Addr) (L : List Tx) (n c : Nat) (hn : L.length = n) (hn2 : n ≤ 1000000) (ht : tot L ≤ 1000000) (w : World) (hv : TV w A L) :
    Calls Try.prog 17 #[.slice A n c] w fun e w' => ∃ m : Nat, e = .returned (.int .i64 (m : Int)) ∧ Fm L m ∧ w = w' := by
  have HN := Lib.hid hn
  have HV := Lib.hid hv
  have HTL := Lib.hid ht
  clear hn hv ht
  go_enter Try.func17, Try.ntmps17
  go_wp2_with fail
  go_loopw [3, 4] (fun c3 c4 wr => ∃ (k p : Nat), k ≤ n ∧ k ≤ 8 ∧ c3 = .int .i64 (k : Int) ∧ c4 = .int .i64 (p : Int) ∧ p ≤ 1000000 ∧ Hid (p = tot (L.take k)) ∧ Hid (2 ≤ k → p ≤ 32) ∧ w = wr) (fun c3 _ _ => n - (RowKit.intOf c3).toNat)
  case atStart => exact ⟨0, 0, Nat.zero_le _, by omega, rfl, rfl, by omega, Lib.hid (by simp [tot]), Lib.hid (fun h => absurd h (by omega)), rfl⟩
  case round =>
    obtain ⟨k, p, hk, hk8, rfl, rfl, hp, HP, HQ, rfl⟩ := hrel
    by_cases hlt : k < n ∧ k < 8
    · obtain ⟨l1, l2⟩ := hlt
      have hkL : k < L.length := by rw [HN.out]; exact l1
      obtain ⟨gb, o, rfl, hg, hc⟩ := HV.out.pos (by omega)
      obtain ⟨_, B, cb, k2, _⟩ := hc k hkL
      have htt := tot_take hkL
      have hle := tot_le L (k + 1)
      have htl := HTL.out
      rw [← HP.out] at htt
      obtain ⟨m, hm⟩ : ∃ m, m = (L.getD k txz).2.length := ⟨_, rfl⟩
      rw [← hm] at k2 htt
      obtain ⟨r, hr⟩ : ∃ r, r = p + m := ⟨_, rfl⟩
      have hpm : (p : Int) + (m : Int) = (r : Int) := by omega
      have HTT : Hid (tot (L.take (k + 1)) = r) := Lib.hid (by omega)
      have hrl : r ≤ 1000000 := by omega
      have g1 : (0 : Int) ≤ (k : Int) := by omega
      have g2 : (k : Int) < (n : Int) := by omega
      have zmin : decide ((k : Int) < min (n : Int) 8) = true := decide_eq_true (by omega)
      have zi : (if (8 : Int) < (n : Int) then (8 : Int) else (n : Int)) = min (n : Int) 8 := by split <;> omega
      clear hc hm htt hle htl hr
      by_cases hb : 32 < r
      · have z1 : decide ((32 : Int) < (r : Int)) = true := decide_eq_true (by omega)
        by_cases h0 : 0 < k
        · have z2 : decide ((0 : Int) < (k : Int)) = true := decide_eq_true (by omega)
          have HF : Hid (Fm L k) := Lib.hid ⟨by rw [HN.out]; exact hk, hk8, fun _ => h0, fun h => by rw [← HP.out]; exact HQ.out h, fun _ _ => by rw [HTT.out]; exact hb⟩
          go_wp2_with fail
          try rw [Exit.noGoto_ret]
          go_ret
          exact ⟨k, rfl, HF.out, rfl⟩
        · have z2 : decide ((0 : Int) < (k : Int)) = false := decide_eq_false (by omega)
          have HK0 : Hid (k = 0) := Lib.hid (by omega)
          go_wp2_with fail
          go_roundw
          case rel => exact ⟨k + 1, r, by omega, by omega, by go_num, rfl, hrl, Lib.hid HTT.out.symm, Lib.hid (fun h => by have := HK0.out; omega), (by first | rfl | trivial)⟩
          case measure => simp [RowKit.intOf]; omega
      · have z1 : decide ((32 : Int) < (r : Int)) = false := decide_eq_false (by omega)
        go_wp2_with fail
        go_roundw
        case rel => exact ⟨k + 1, r, by omega, by omega, by go_num, rfl, hrl, Lib.hid HTT.out.symm, Lib.hid (fun h => by omega), (by first | rfl | trivial)⟩
        case measure => simp [RowKit.intOf]; omega
    · have zmin : decide ((k : Int) < min (n : Int) 8) = false := decide_eq_false (by omega)
      have zi : (if (8 : Int) < (n : Int) then (8 : Int) else (n : Int)) = min (n : Int) 8 := by split <;> omega
      have HF : Hid (Fm L k) := Lib.hid ⟨by rw [HN.out]; exact hk, hk8, fun h => by have := List.length_pos_iff.2 h; rw [HN.out] at this; omega, fun h => by rw [← HP.out]; exact HQ.out h, fun a b => by rw [HN.out] at a; omega⟩
      go_wp2_with fail
      try rw [Exit.noGoto_ret]
      go_ret
      exact ⟨k, rfl, HF.out, rfl⟩

set_option maxHeartbeats 2000000 in
set_option maxRecDepth 100000 in
theorem blocks_any (s : Int) (A : Option Addr) (L : List Tx) (n c : Nat) (hn : L.length = n) (hn2 : n ≤ 1000000) (ht : tot L ≤ 1000000) (t : Nat) (htt : tot L + 1 = t) (w : World) (hv : TV w A L) :
    Calls Try.prog 19 #[.agg #[.int .i64 s, .slice A n c]] w (Gives (.int .i64 (t : Int)) w) := by
  have HN := Lib.hid hn
  have HTL := Lib.hid ht
  have HT1 := Lib.hid htt
  clear htt
  obtain ⟨q, hq⟩ : ∃ q, w.heap.size = q := ⟨_, rfl⟩
  obtain ⟨wb, hwb⟩ : ∃ wb, w.alloc (.cells #[.int .i64 s, .slice A n c] 27) = wb := ⟨_, rfl⟩
  have HAB : Hid (At w wb) := Lib.hid (by rw [← hwb]; exact (At.start w).alloc _)
  have hQ : wb.heap[q]? = some (.cells #[.int .i64 s, .slice A n c] 27 (0, 0)) := by rw [← hwb, ← hq]; exact heap_alloc_new w _
  have HV := Lib.hid (hv.on HAB.out)
  have b1 : wb.cell? ⟨q, 1, none⟩ = some (.slice A n c) := (cell_at hQ 1).trans rfl
  clear hn hv ht hQ
  go_enter Try.func19, Try.ntmps19
  go_wp2_with fail
  go_loopw [3, 9] (fun c3 c9 wr => ∃ (k p : Nat), k ≤ n ∧ c9 = .int .i64 (k : Int) ∧ c3 = .int .i64 (p : Int) ∧ p ≤ 1000001 ∧ Hid (p = tot (L.take k) + 1) ∧ Hid (At wb wr)) (fun _ c9 _ => n - (RowKit.intOf c9).toNat)
  case atStart => exact ⟨0, 1, Nat.zero_le _, rfl, rfl, by omega, Lib.hid (by simp [tot]), Lib.hid (At.start wb)⟩
  case round =>
    clear b1
    obtain ⟨k, p, hk, rfl, rfl, hp, HP, HA⟩ := hrel
    by_cases hlt : k < n
    · have hkL : k < L.length := by rw [HN.out]; exact hlt
      obtain ⟨gb, o, rfl, hg, hc⟩ := (HV.out.on HA.out).pos (by omega)
      obtain ⟨k1, B, cb, k2, _⟩ := hc k hkL
      have htt := tot_take hkL
      have hle := tot_le L (k + 1)
      have htl := HTL.out
      obtain ⟨m, hm⟩ : ∃ m, m = (L.getD k txz).2.length := ⟨_, rfl⟩
      obtain ⟨T, hT⟩ : ∃ T, T = (L.getD k txz).1 := ⟨_, rfl⟩
      rw [← hm] at k2 htt
      rw [← hT] at k1
      obtain ⟨r, hr⟩ : ∃ r, r = p + m := ⟨_, rfl⟩
      have hpm : (p : Int) + (m : Int) = (r : Int) := by omega
      have HTT : Hid (r = tot (L.take (k + 1)) + 1) := Lib.hid (by have := HP.out; omega)
      have hrl : r ≤ 1000001 := by have := HP.out; omega
      have g1 : (0 : Int) ≤ (k : Int) := by omega
      have g2 : (k : Int) < (n : Int) := by omega
      have HA2 : Hid (At wb (wr.alloc (.cells #[.int .i64 T, .slice B m cb] 44))) := Lib.hid (HA.out.alloc _)
      clear hc hm htt hle htl hr hT
      go_wp2_with fail
      go_roundw
      case rel => exact ⟨k + 1, r, by omega, by go_num, rfl, hrl, HTT, HA2⟩
      case measure => simp [RowKit.intOf]; omega
    · have hkn : k = n := by omega
      obtain rfl : p = t := by have := HP.out; have h1 := HT1.out; rw [hkn, ← HN.out, List.take_length] at this; omega
      subst hkn
      go_wp2_with fail
      try rw [Exit.noGoto_ret]
      go_ret
      exact ⟨rfl, HAB.out.next HA.out⟩

theorem pt_mem {P : List Pt} {j : Nat} (h : j < P.length) : P.getD j pz ∈ P := by
  rw [List.getD_eq_getElem?_getD, List.getElem?_eq_getElem h]; exact List.getElem_mem _
/-- What a transaction's blocks may be. -/
structure Wb (P : List Pt) : Prop where
  n16 : P.length ≤ 16
  lba : ∀ p ∈ P, 0 ≤ p.1 ∧ p.1 ≤ 1048576
  n40 : ∀ p ∈ P, p.2.length = 40
noncomputable def wbB (P : List Pt) : Bool := @decide (Wb P) (Classical.propDecidable _)
theorem wbB_yes {P : List Pt} (h : Wb P) : wbB P = true := @decide_eq_true _ (Classical.propDecidable _) h
theorem wbB_no {P : List Pt} (h : ¬ Wb P) : wbB P = false := @decide_eq_false _ (Classical.propDecidable _) h

set_option maxHeartbeats 2000000 in
set_option maxRecDepth 100000 in
theorem writable_any (A : Option Addr) (P : List Pt) (n c : Nat) (hn : P.length = n) (hn2 : n ≤ 1000000) (w : World) (hv : PV w A P) :
    Calls Try.prog 33 #[.slice A n c] w (Gives (.bool (wbB P)) w) := by
  have HN := Lib.hid hn
  have HV := Lib.hid hv
  clear hn hv
  go_enter Try.func33, Try.ntmps33
  go_wp2_with fail
  go_loopw [7] (fun c7 wr => ∃ (k : Nat), k ≤ n ∧ c7 = .int .i64 (k : Int) ∧ Hid (∀ j, j < k → (0 ≤ (P.getD j pz).1 ∧ (P.getD j pz).1 ≤ 1048576) ∧ (P.getD j pz).2.length = 40) ∧ Hid (At w wr)) (fun c7 _ => n - (RowKit.intOf c7).toNat)
  case atStart => exact ⟨0, Nat.zero_le _, rfl, Lib.hid (fun j h => absurd h (Nat.not_lt_zero j)), Lib.hid (At.start w)⟩
  case round =>
    obtain ⟨k, hk, rfl, HO, HA⟩ := hrel
    by_cases hlt : k < n
    · have hkL : k < P.length := by rw [HN.out]; exact hlt
      obtain ⟨gb, o, rfl, hg, hc⟩ := (HV.out.on HA.out).pos (by omega)
      obtain ⟨k1, B, cb, k2, _⟩ := hc k hkL
      have hmem := pt_mem hkL
      have hok : (0 ≤ (P.getD k pz).1 ∧ (P.getD k pz).1 ≤ 1048576) ∧ (P.getD k pz).2.length = 40 → ∀ j, j < k + 1 → (0 ≤ (P.getD j pz).1 ∧ (P.getD j pz).1 ≤ 1048576) ∧ (P.getD j pz).2.length = 40 := fun h j hj => by
        by_cases e : j = k
        · rw [e]; exact h
        · exact HO.out j (by omega)
      have hno : ¬ ((0 ≤ (P.getD k pz).1 ∧ (P.getD k pz).1 ≤ 1048576) ∧ (P.getD k pz).2.length = 40) → wbB P = false := fun h => wbB_no fun hw => h ⟨hw.lba _ hmem, hw.n40 _ hmem⟩
      obtain ⟨x, hx⟩ : ∃ x, x = (P.getD k pz).1 := ⟨_, rfl⟩
      obtain ⟨m, hm⟩ : ∃ m, m = (P.getD k pz).2.length := ⟨_, rfl⟩
      rw [← hx] at k1 hno hok
      rw [← hm] at k2 hno hok
      have HNO := Lib.hid hno
      have HOK := Lib.hid hok
      have g1 : (0 : Int) ≤ (k : Int) := by omega
      have g2 : (k : Int) < (n : Int) := by omega
      have HA2 : Hid (At w (wr.alloc (.cells #[.int .i64 x, .slice B m cb] 47))) := Lib.hid (HA.out.alloc _)
      clear hc hm hx hno hok hmem hkL
      by_cases h1 : x < 0
      · have z1 : decide (x < 0) = true := decide_eq_true h1
        have HR := Lib.hid (HNO.out (by omega))
        clear h1
        go_wp2_with fail
        try rw [Exit.noGoto_ret]
        go_ret
        exact ⟨by rw [HR.out]; rfl, HA2.out⟩
      · have z1 : decide (x < 0) = false := decide_eq_false h1
        by_cases h2 : 1048576 < x
        · have z2 : decide (1048576 < x) = true := decide_eq_true h2
          have HR := Lib.hid (HNO.out (by omega))
          clear h1 h2
          go_wp2_with fail
          try rw [Exit.noGoto_ret]
          go_ret
          exact ⟨by rw [HR.out]; rfl, HA2.out⟩
        · have z2 : decide (1048576 < x) = false := decide_eq_false h2
          by_cases h3 : m = 40
          · have z3 : ((m : Int) != 40) = false := by rw [h3]; rfl
            have HR := Lib.hid (HOK.out ⟨⟨by omega, by omega⟩, h3⟩)
            clear h1 h2 h3
            go_wp2_with fail
            go_roundw
            case rel => exact ⟨k + 1, by omega, by go_num, HR, HA2⟩
            case measure => simp [RowKit.intOf]; omega
          · have z3 : ((m : Int) != 40) = true := by simp; omega
            have HR := Lib.hid (HNO.out (fun h => h3 h.2))
            clear h1 h2 h3
            go_wp2_with fail
            try rw [Exit.noGoto_ret]
            go_ret
            exact ⟨by rw [HR.out]; rfl, HA2.out⟩
    · have hkn : k = n := by omega
      have HR : Hid (decide ((n : Int) ≤ 16) = wbB P) := Lib.hid (by
        by_cases h : n ≤ 16
        · rw [decide_eq_true (by omega), wbB_yes]
          have hall : ∀ p ∈ P, (0 ≤ p.1 ∧ p.1 ≤ 1048576) ∧ p.2.length = 40 := fun p hp => by
            obtain ⟨j, hj, rfl⟩ := List.getElem_of_mem hp
            have := HO.out j (by rw [HN.out] at hj; omega)
            rwa [List.getD_eq_getElem?_getD, List.getElem?_eq_getElem hj] at this
          exact ⟨by rw [HN.out]; exact h, fun p hp => (hall p hp).1, fun p hp => (hall p hp).2⟩
        · rw [decide_eq_false (by omega), wbB_no]
          exact fun hw => h (by have := hw.n16; rwa [HN.out] at this))
      subst hkn
      obtain ⟨b, hb⟩ : ∃ b, b = decide ((k : Int) ≤ 16) := ⟨_, rfl⟩
      rw [← hb] at HR
      go_wp2_with fail
      try rw [Exit.noGoto_ret]
      go_ret
      exact ⟨by rw [← HR.out, hb]; rfl, HA.out⟩

/-- What is left to be asked of a batch whose transactions stand in order. -/
theorem bk_of {s : Int} {L : List Tx} (h1 : 1 ≤ s) (h2 : s ≤ 1099511627776) (h3 : 1 ≤ L.length) (h4 : L.length ≤ 8) (h5 : Od L) (h6 : tot L ≤ 32) (h7 : ∀ j, j < L.length → (L.getD j txz).1 - (if j = 0 then t0 L else (L.getD (j - 1) txz).1) ≤ 65535 ∧ Wb (L.getD j txz).2) : Bk s L := by
  have hall : ∀ x ∈ L, Wb x.2 := fun x hx => by
    obtain ⟨j, hj, rfl⟩ := tx_at hx
    exact (h7 j hj).2
  refine ⟨h1, h2, h3, h4, h5, fun j hj => ?_, h6, fun x hx => (hall x hx).n16, fun x hx => (hall x hx).lba, fun x hx => (hall x hx).n40⟩
  have := (h7 (j + 1) hj).1
  rwa [if_neg (by omega), Nat.add_sub_cancel] at this
theorem Bk.wb {s : Int} {L : List Tx} (h : Bk s L) {j : Nat} (hj : j < L.length) : Wb (L.getD j txz).2 := ⟨h.n16 _ (tx_mem hj), h.lba _ (tx_mem hj), h.n40 _ (tx_mem hj)⟩
theorem Bk.gaps {s : Int} {L : List Tx} (h : Bk s L) {j : Nat} (hj : j < L.length) : (L.getD j txz).1 - (if j = 0 then Go.Proofs.Ytgmekkenodiclaa.t0 L else (L.getD (j - 1) txz).1) ≤ 65535 := by
  cases j with
  | zero => rw [if_pos rfl]; unfold Go.Proofs.Ytgmekkenodiclaa.t0; omega
  | succ j => rw [if_neg (by omega), Nat.add_sub_cancel]; exact h.gap j hj

end Go.Proofs.Ytgmekkenodiclaa
