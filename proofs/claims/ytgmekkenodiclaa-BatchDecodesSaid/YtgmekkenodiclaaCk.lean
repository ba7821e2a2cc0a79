/- Proved: what the landed Check answers. -/
import Derived.Test.YtgmekkenodiclaaFo
namespace Go.Proofs.Ytgmekkenodiclaa
open Go.RowKit

/-- Times that stand in order are far from where numbers end. -/
theorem od_time {L : List Tx} (h : Od L) {j : Nat} (hj : j < L.length) : 0 < (L.getD j txz).1 ∧ (L.getD j txz).1 ≤ 1099511627776 := by
  have h1 := (h j hj).hi
  refine ⟨?_, h1⟩
  clear h1
  induction j with
  | zero => exact (h 0 hj).lo
  | succ j ih => have h1 := ih (by omega); have h2 := (h (j + 1) hj).lo; simp only [la] at h2; omega

set_option maxHeartbeats 4000000 in
set_option maxRecDepth 100000 in
theorem bcheck_any (s : Int) (A : Option Addr) (L : List Tx) (n c : Nat) (hn : L.length = n) (hn2 : n ≤ 1000000) (ht : tot L ≤ 1000000) (w : World) (hv : TV w A L) :
    Calls Try.prog 18 #[.agg #[.int .i64 s, .slice A n c]] w (Gives (.int .i64 (kd s L)) w) := by
  have HN := Lib.hid hn
  have HNO : Hid (¬ Bk s L → kd s L = 1) := Lib.hid kd_no
  have HPL : Hid (∀ x ∈ L, x.2.length ≤ 1000000) := Lib.hid (fun x hx => by have := tot_mem hx; omega)
  obtain ⟨q, hq⟩ : ∃ q, w.heap.size = q := ⟨_, rfl⟩
  obtain ⟨wb, hwb⟩ : ∃ wb, w.alloc (.cells #[.int .i64 s, .slice A n c] 27) = wb := ⟨_, rfl⟩
  have HAB : Hid (At w wb) := Lib.hid (by rw [← hwb]; exact (At.start w).alloc _)
  have hQ : wb.heap[q]? = some (.cells #[.int .i64 s, .slice A n c] 27 (0, 0)) := by rw [← hwb, ← hq]; exact heap_alloc_new w _
  have HV := Lib.hid (hv.on HAB.out)
  have HQ := Lib.hid hQ
  have HOR := Lib.hid (order_any A L n c hn hn2 HPL.out wb HV.out)
  obtain ⟨t, htt⟩ : ∃ t, tot L + 1 = t := ⟨_, rfl⟩
  have HBL := Lib.hid (fun W (hW : At wb W) => blocks_any s A L n c hn hn2 ht t htt W (HV.out.on hW))
  have b0 : wb.cell? ⟨q, 0, none⟩ = some (.int .i64 s) := (cell_at hQ 0).trans rfl
  have b1 : wb.cell? ⟨q, 1, none⟩ = some (.slice A n c) := (cell_at hQ 1).trans rfl
  have HTT := Lib.hid htt
  clear hn hv ht hQ htt
  go_enter Try.func18, Try.ntmps18
  by_cases e1 : s < 1
  · have z1 : decide (s < 1) = true := decide_eq_true e1
    have HR := Lib.hid (HNO.out fun h => by have := h.s1; omega)
    go_wp2_with fail
    try rw [Exit.noGoto_ret]
    go_ret
    exact ⟨by rw [HR.out]; rfl, HAB.out⟩
  have z1 : decide (s < 1) = false := decide_eq_false e1
  by_cases e2 : 1099511627776 < s
  · have z2 : decide (1099511627776 < s) = true := decide_eq_true e2
    have HR := Lib.hid (HNO.out fun h => by have := h.s2; omega)
    go_wp2_with fail
    try rw [Exit.noGoto_ret]
    go_ret
    exact ⟨by rw [HR.out]; rfl, HAB.out⟩
  have z2 : decide (1099511627776 < s) = false := decide_eq_false e2
  by_cases e3 : n = 0
  · have z3 : ((n : Int) == 0) = true := by rw [e3]; rfl
    have HR := Lib.hid (HNO.out fun h => by have := h.ne; rw [HN.out] at this; omega)
    clear e1 e2 e3
    go_wp2_with fail
    try rw [Exit.noGoto_ret]
    go_ret
    exact ⟨by rw [HR.out]; rfl, HAB.out⟩
  have z3 : ((n : Int) == 0) = false := by simp; omega
  by_cases e4 : 8 < n
  · have z4 : decide (8 < (n : Int)) = true := decide_eq_true (by omega)
    have HR := Lib.hid (HNO.out fun h => by have := h.n8; rw [HN.out] at this; omega)
    go_wp2_with fail
    try rw [Exit.noGoto_ret]
    go_ret
    exact ⟨by rw [HR.out]; rfl, HAB.out⟩
  have z4 : decide (8 < (n : Int)) = false := decide_eq_false (by omega)
  by_cases e5 : Od L
  rotate_left
  · have HR := Lib.hid (HNO.out fun h => e5 h.od)
    have HOR2 := HOR.out
    rw [odB_no e5] at HOR2
    have HOR := Lib.hid HOR2
    clear HOR2 e1 e2 e3 e4 e5
    go_wp2_with fail
    refine HOR.out.mono ?_
    rintro e w1 ⟨rfl, hA1⟩
    have HA1 := Lib.hid hA1
    clear hA1
    go_wp2_with fail
    try rw [Exit.noGoto_ret]
    go_ret
    exact ⟨by rw [HR.out]; rfl, HAB.out.next HA1.out⟩
  have HOR2 := HOR.out
  rw [odB_yes e5] at HOR2
  have HOR := Lib.hid HOR2
  have HOD := Lib.hid e5
  have h1n : 1 ≤ n := by omega
  have hn8 : n ≤ 8 := by omega
  have HS : Hid (1 ≤ s ∧ s ≤ 1099511627776) := Lib.hid ⟨by omega, by omega⟩
  clear HOR2 e1 e2 e3 e4 e5
  go_wp2_with fail
  refine HOR.out.mono ?_
  rintro e w1 ⟨rfl, hA1⟩
  have HA1 : Hid (At wb w1) := Lib.hid hA1
  have c0 := (cell_at (HA1.out.keep HQ.out) 0).trans rfl
  have c1 := (cell_at (HA1.out.keep HQ.out) 1).trans rfl
  have HB2 := Lib.hid (HBL.out w1 HA1.out)
  clear hA1 b0 b1
  by_cases e6 : 33 < t
  · have z6 : decide (33 < (t : Int)) = true := decide_eq_true (by omega)
    have HR := Lib.hid (HNO.out fun h => by have := h.n32; have := HTT.out; omega)
    go_wp2_with fail
    refine HB2.out.mono ?_
    rintro e w2 ⟨rfl, hA2⟩
    have HA2 := Lib.hid (HA1.out.next hA2)
    clear hA2
    go_wp2_with fail
    try rw [Exit.noGoto_ret]
    go_ret
    exact ⟨by rw [HR.out]; rfl, HAB.out.next HA2.out⟩
  have z6 : decide (33 < (t : Int)) = false := decide_eq_false (by omega)
  have HT32 : Hid (tot L ≤ 32) := Lib.hid (by have := HTT.out; omega)
  clear e6
  go_wp2_with fail
  refine HB2.out.mono ?_
  rintro e w2 ⟨rfl, hA2⟩
  have HA2 : Hid (At wb w2) := Lib.hid (HA1.out.next hA2)
  clear hA2 c0 c1
  have c1 := (cell_at (HA2.out.keep HQ.out) 1).trans rfl
  obtain ⟨gb, o, rfl, hg, hc⟩ := (HV.out.on HA2.out).pos (by rw [HN.out]; omega)
  have k0 := (hc 0 (by rw [HN.out]; omega)).1
  rw [Nat.zero_mul, Nat.add_zero] at k0
  obtain ⟨T0, hT0⟩ : ∃ T, T = t0 L := ⟨_, rfl⟩
  replace k0 : w2.cell? ⟨gb, o, none⟩ = some (.int .i64 T0) := by rw [hT0]; exact k0
  have HT0 := Lib.hid hT0
  have hnp : (0 : Int) < (n : Int) := by omega
  clear hc hT0 hg
  go_wp2_with fail
  go_loopw [3, 37] (fun c3 c37 wr => ∃ (k : Nat) (T : Int), k ≤ n ∧ c37 = .int .i64 (k : Int) ∧ c3 = .int .i64 T ∧ Hid (T = if k = 0 then t0 L else (L.getD (k - 1) txz).1) ∧ Hid (∀ j, j < k → (L.getD j txz).1 - (if j = 0 then t0 L else (L.getD (j - 1) txz).1) ≤ 65535 ∧ Wb (L.getD j txz).2) ∧ Hid (At wb wr)) (fun _ c37 _ => n - (RowKit.intOf c37).toNat)
  case atStart => exact ⟨0, T0, Nat.zero_le _, rfl, rfl, Lib.hid (by rw [if_pos rfl]; exact HT0.out), Lib.hid (fun j h => absurd h (Nat.not_lt_zero j)), HA2⟩
  case round =>
    clear c1 k0
    obtain ⟨k, T, hk, rfl, rfl, HT, HO, HA⟩ := hrel
    by_cases hlt : k < n
    · have hkL : k < L.length := by rw [HN.out]; exact hlt
      obtain ⟨gb', o', he, hg, hc⟩ := (HV.out.on HA.out).pos (by omega)
      injection he with he
      injection he with he1 he2
      subst he1 he2
      obtain ⟨k1, B, cb, k2, hpv⟩ := hc k hkL
      have htm := od_time HOD.out hkL
      have htm2 : 0 < T ∧ T ≤ 1099511627776 := by
        rw [HT.out]
        cases k with
        | zero => rw [if_pos rfl]; exact od_time HOD.out hkL
        | succ j => rw [if_neg (by omega), Nat.add_sub_cancel]; exact od_time HOD.out (by omega)
      have hok : (L.getD k txz).1 - T ≤ 65535 ∧ Wb (L.getD k txz).2 → ∀ j, j < k + 1 → (L.getD j txz).1 - (if j = 0 then t0 L else (L.getD (j - 1) txz).1) ≤ 65535 ∧ Wb (L.getD j txz).2 := fun h j hj => by
        by_cases e : j = k
        · rw [e, ← HT.out]; exact h
        · exact HO.out j (by omega)
      have hno : ¬ ((L.getD k txz).1 - T ≤ 65535 ∧ Wb (L.getD k txz).2) → kd s L = 1 := fun h => HNO.out fun hb => h ⟨by rw [HT.out]; exact hb.gaps hkL, hb.wb hkL⟩
      have hpl := HPL.out _ (tx_mem hkL)
      have hnt : ∀ v, v = (L.getD k txz).1 → v = (if k + 1 = 0 then t0 L else (L.getD (k + 1 - 1) txz).1) := fun v h => by rw [if_neg (by omega), Nat.add_sub_cancel, h]
      obtain ⟨x, hx⟩ : ∃ x, x = (L.getD k txz).1 := ⟨_, rfl⟩
      obtain ⟨P, hP⟩ : ∃ P, P = (L.getD k txz).2 := ⟨_, rfl⟩
      rw [← hx] at k1 hno hok htm
      rw [← hP] at k2 hpv hno hok hpl
      have HNT := Lib.hid (hnt x hx)
      obtain ⟨m, hm⟩ : ∃ m, P.length = m := ⟨_, rfl⟩
      rw [hm] at k2 hpl
      have HNO2 := Lib.hid hno
      have HOK := Lib.hid hok
      obtain ⟨q2, hq2⟩ : ∃ q, wr.heap.size = q := ⟨_, rfl⟩
      obtain ⟨wx, hwx⟩ : ∃ wb, wr.alloc (.cells #[.int .i64 x, .slice B m cb] 44) = wb := ⟨_, rfl⟩
      have hAx : At wr wx := by rw [← hwx]; exact (At.start wr).alloc _
      have hQ2 : wx.heap[q2]? = some (.cells #[.int .i64 x, .slice B m cb] 44 (0, 0)) := by rw [← hwx, ← hq2]; exact heap_alloc_new wr _
      have HWR := Lib.hid (writable_any B P m cb hm hpl wx (hpv.on hAx))
      have HQ2 := Lib.hid hQ2
      have d0 : wx.cell? ⟨q2, 0, none⟩ = some (.int .i64 x) := (cell_at hQ2 0).trans rfl
      have d1 : wx.cell? ⟨q2, 1, none⟩ = some (.slice B m cb) := (cell_at hQ2 1).trans rfl
      have HAX := Lib.hid (HA.out.next hAx)
      have g1 : (0 : Int) ≤ (k : Int) := by omega
      have g2 : (k : Int) < (n : Int) := by omega
      have hwrap : IntKind.i64.wrap (x - T) = x - T := IntWalk.i64_in _ (by omega)
      clear hc hkL hg hx hP hm hnt hok hno hAx hQ2 hpv hpl
      by_cases e7 : 65535 < x - T
      · have z7 : decide (65535 < x - T) = true := decide_eq_true e7
        have HR := Lib.hid (HNO2.out fun h => by omega)
        clear e7
        go_wp2_with fail
        try rw [Exit.noGoto_ret]
        go_ret
        exact ⟨by rw [HR.out]; rfl, HAB.out.next HAX.out⟩
      have z7 : decide (65535 < x - T) = false := decide_eq_false e7
      by_cases e8 : Wb P
      rotate_left
      · have HR := Lib.hid (HNO2.out fun h => e8 h.2)
        have h2 := HWR.out
        rw [wbB_no e8] at h2
        have HWR := Lib.hid h2
        clear e7 e8 h2
        go_wp2_with fail
        refine HWR.out.mono ?_
        rintro e w3 ⟨rfl, hA3⟩
        have HA3 := Lib.hid (HAX.out.next hA3)
        clear hA3
        go_wp2_with fail
        try rw [Exit.noGoto_ret]
        go_ret
        exact ⟨by rw [HR.out]; rfl, HAB.out.next HA3.out⟩
      have HR := Lib.hid (HOK.out ⟨by omega, e8⟩)
      have h2 := HWR.out
      rw [wbB_yes e8] at h2
      have HWR := Lib.hid h2
      clear e7 e8 h2
      go_wp2_with fail
      refine HWR.out.mono ?_
      rintro e w3 ⟨rfl, hA3⟩
      have HA3 := Lib.hid (HAX.out.next hA3)
      have f0 := (cell_at (At.keep hA3 HQ2.out) 0).trans rfl
      clear hA3 d0 d1
      go_wp2_with fail
      go_roundw
      case rel => exact ⟨k + 1, x, by omega, by go_num, rfl, HNT, HR, HA3⟩
      case measure => simp [RowKit.intOf]; omega
    · have hkn : k = n := by omega
      have HR : Hid (kd s L = 0) := Lib.hid (kd_yes (bk_of HS.out.1 HS.out.2 (by rw [HN.out]; exact h1n) (by rw [HN.out]; exact hn8) HOD.out HT32.out fun j hj => HO.out j (by rw [HN.out] at hj; omega)))
      subst hkn
      go_wp2_with fail
      try rw [Exit.noGoto_ret]
      go_ret
      exact ⟨by rw [HR.out]; rfl, HAB.out.next HA.out⟩

end Go.Proofs.Ytgmekkenodiclaa
