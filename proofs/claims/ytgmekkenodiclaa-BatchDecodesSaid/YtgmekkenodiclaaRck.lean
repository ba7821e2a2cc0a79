/- Proved: what the document's own CheckBatch answers. -/
import Derived.Test.YtgmekkenodiclaaFo
import Derived.Test.YtgmekkenodiclaaRo
import Derived.Test.YtgmekkenodiclaaCk
namespace Go.Proofs.Ytgmekkenodiclaa
open Go.RowKit

set_option maxHeartbeats 8000000 in
set_option maxRecDepth 100000 in
theorem rcheck_any (s : Int) (A : Option Addr) (L : List Tx) (n c : Nat) (hn : L.length = n) (hn2 : n ≤ 1000000) (ht : tot L ≤ 1000000) (w : World) (hv : TV w A L) :
    Calls Try.prog 43 #[.agg #[.int .i64 s, .slice A n c]] w (Gives (.int .i64 (kd s L)) w) := by
  have HN := Lib.hid hn
  have HNO : Hid (¬ Bk s L → kd s L = 1) := Lib.hid kd_no
  have HPL : Hid (∀ x ∈ L, x.2.length ≤ 1000000) := Lib.hid (fun x hx => by have := tot_mem hx; omega)
  have HTL : Hid (∀ k, tot (L.take k) ≤ 1000000) := Lib.hid (fun k => Nat.le_trans (tot_le L k) ht)
  obtain ⟨q, hq⟩ : ∃ q, w.heap.size = q := ⟨_, rfl⟩
  obtain ⟨wb, hwb⟩ : ∃ wb, w.alloc (.cells #[.int .i64 s, .slice A n c] 27) = wb := ⟨_, rfl⟩
  have HAB : Hid (At w wb) := Lib.hid (by rw [← hwb]; exact (At.start w).alloc _)
  have hQ : wb.heap[q]? = some (.cells #[.int .i64 s, .slice A n c] 27 (0, 0)) := by rw [← hwb, ← hq]; exact heap_alloc_new w _
  have HV := Lib.hid (hv.on HAB.out)
  have HQ := Lib.hid hQ
  have HOR := Lib.hid (rorder_any A L n c hn hn2 HPL.out wb HV.out)
  have b0 : wb.cell? ⟨q, 0, none⟩ = some (.int .i64 s) := (cell_at hQ 0).trans rfl
  have b1 : wb.cell? ⟨q, 1, none⟩ = some (.slice A n c) := (cell_at hQ 1).trans rfl
  clear hn hv ht hQ
  go_enter Try.func43, Try.ntmps43
  by_cases e1 : s < 1
  · have z1 : decide (s < 1) = true := decide_eq_true e1
    have HR := Lib.hid (HNO.out fun h => by have := h.s1; omega)
    go_wp2_with fail
    try rw [Exit.noGoto_ret]
    go_ret
    exact ⟨by rw [HR.out]; rfl, HAB.out⟩
  have z1 : decide (s < 1) = false := decide_eq_false e1
  by_cases e2 : 1099511627776 < s
  · have z2 : decide (1099511627776 < s) = true := decide_eq_true e2
    have HR := Lib.hid (HNO.out fun h => by have := h.s2; omega)
    go_wp2_with fail
    try rw [Exit.noGoto_ret]
    go_ret
    exact ⟨by rw [HR.out]; rfl, HAB.out⟩
  have z2 : decide (1099511627776 < s) = false := decide_eq_false e2
  by_cases e3 : n = 0
  · have z3 : ((n : Int) == 0) = true := by rw [e3]; rfl
    have HR := Lib.hid (HNO.out fun h => by have := h.ne; rw [HN.out] at this; omega)
    clear e1 e2 e3
    go_wp2_with fail
    try rw [Exit.noGoto_ret]
    go_ret
    exact ⟨by rw [HR.out]; rfl, HAB.out⟩
  have z3 : ((n : Int) == 0) = false := by simp; omega
  by_cases e4 : 8 < n
  · have z4 : decide (8 < (n : Int)) = true := decide_eq_true (by omega)
    have HR := Lib.hid (HNO.out fun h => by have := h.n8; rw [HN.out] at this; omega)
    go_wp2_with fail
    try rw [Exit.noGoto_ret]
    go_ret
    exact ⟨by rw [HR.out]; rfl, HAB.out⟩
  have z4 : decide (8 < (n : Int)) = false := decide_eq_false (by omega)
  by_cases e5 : Od L
  rotate_left
  · have HR := Lib.hid (HNO.out fun h => e5 h.od)
    have HOR2 := HOR.out
    rw [odB_no e5] at HOR2
    have HOR := Lib.hid HOR2
    clear HOR2 e1 e2 e3 e4 e5
    go_wp2_with fail
    refine HOR.out.mono ?_
    rintro e w1 ⟨rfl, hA1⟩
    have HA1 := Lib.hid hA1
    clear hA1
    go_wp2_with fail
    try rw [Exit.noGoto_ret]
    go_ret
    exact ⟨by rw [HR.out]; rfl, HAB.out.next HA1.out⟩
  have HOR2 := HOR.out
  rw [odB_yes e5] at HOR2
  have HOR := Lib.hid HOR2
  have HOD := Lib.hid e5
  have h1n : 1 ≤ n := by omega
  have hn8 : n ≤ 8 := by omega
  have HS : Hid (1 ≤ s ∧ s ≤ 1099511627776) := Lib.hid ⟨by omega, by omega⟩
  clear HOR2 e1 e2 e3 e4 e5
  go_wp2_with fail
  refine HOR.out.mono ?_
  rintro e w1 ⟨rfl, hA1⟩
  have HA1 : Hid (At wb w1) := Lib.hid hA1
  clear hA1 b0 b1
  go_wp2_with fail
  go_loopw [3, 4] (fun c3 c4 wr => ∃ (k v : Nat), k ≤ n ∧ c4 = .int .i64 (k : Int) ∧ c3 = .int .i64 (v : Int) ∧ v ≤ 1000000 ∧ Hid (v = tot (L.take k)) ∧ Hid (∀ j, j < k → (L.getD j txz).1 - (if j = 0 then t0 L else (L.getD (j - 1) txz).1) ≤ 65535 ∧ Wb (L.getD j txz).2) ∧ Hid (At wb wr)) (fun _ c4 _ => n - (RowKit.intOf c4).toNat)
  case atStart => exact ⟨0, 0, Nat.zero_le _, rfl, rfl, Nat.zero_le _, Lib.hid rfl, Lib.hid (fun j h => absurd h (Nat.not_lt_zero j)), HA1⟩
  case round =>
    obtain ⟨k, v, hk, rfl, rfl, hv6, HVT, HO, HA⟩ := hrel
    have c1 := (cell_at (HA.out.keep HQ.out) 1).trans rfl
    by_cases hlt : k < n
    · have hkL : k < L.length := by rw [HN.out]; exact hlt
      obtain ⟨gb, o, rfl, hg, hc⟩ := (HV.out.on HA.out).pos (by omega)
      obtain ⟨k1, B, cb, k2, hpv⟩ := hc k hkL
      have htm := od_time HOD.out hkL
      obtain ⟨y, hy⟩ : ∃ y, y = (if k = 0 then t0 L else (L.getD (k - 1) txz).1) := ⟨_, rfl⟩
      have htm2 : 0 < y ∧ y ≤ 1099511627776 := by
        rw [hy]
        by_cases e : k = 0
        · rw [if_pos e]; exact od_time HOD.out (show 0 < L.length by omega)
        · rw [if_neg e]; exact od_time HOD.out (by omega)
      have hok : (L.getD k txz).1 - y ≤ 65535 ∧ Wb (L.getD k txz).2 → ∀ j, j < k + 1 → (L.getD j txz).1 - (if j = 0 then t0 L else (L.getD (j - 1) txz).1) ≤ 65535 ∧ Wb (L.getD j txz).2 := fun h j hj => by
        by_cases e : j = k
        · rw [e, ← hy]; exact h
        · exact HO.out j (by omega)
      have hno : ¬ ((L.getD k txz).1 - y ≤ 65535 ∧ Wb (L.getD k txz).2) → kd s L = 1 := fun h => HNO.out fun hb => h ⟨by rw [hy]; exact hb.gaps hkL, hb.wb hkL⟩
      have hpl := HPL.out _ (tx_mem hkL)
      have hy0 : k = 0 → y = (L.getD k txz).1 := fun e => by rw [hy, if_pos e, e]; rfl
      have hcy : 0 < k → ∀ p, p + 1 = k → wr.cell? ⟨gb, o + p * 2, none⟩ = some (.int .i64 y) := fun h p hp => by
        have := (hc p (by omega)).1
        rw [this, hy, if_neg (by omega), show k - 1 = p by omega]
      have hvn : v + (L.getD k txz).2.length = tot (L.take (k + 1)) := by rw [tot_take hkL, HVT.out]
      have hv7 := HTL.out (k + 1)
      rw [← hvn] at hv7
      obtain ⟨x, hx⟩ : ∃ x, x = (L.getD k txz).1 := ⟨_, rfl⟩
      obtain ⟨P, hP⟩ : ∃ P, P = (L.getD k txz).2 := ⟨_, rfl⟩
      rw [← hx] at k1 hno hok htm hy0
      rw [← hP] at k2 hpv hno hok hpl hvn hv7
      obtain ⟨m, hm⟩ : ∃ m, P.length = m := ⟨_, rfl⟩
      rw [hm] at k2 hpl hvn hv7
      have HM := Lib.hid hm
      have HNO2 := Lib.hid hno
      have HOK := Lib.hid hok
      have HVN := Lib.hid hvn
      obtain ⟨q2, hq2⟩ : ∃ q, wr.heap.size = q := ⟨_, rfl⟩
      obtain ⟨wx, hwx⟩ : ∃ wb, wr.alloc (.cells #[.int .i64 x, .slice B m cb] 44) = wb := ⟨_, rfl⟩
      have hAx : At wr wx := by rw [← hwx]; exact (At.start wr).alloc _
      have hQ2 : wx.heap[q2]? = some (.cells #[.int .i64 x, .slice B m cb] 44 (0, 0)) := by rw [← hwx, ← hq2]; exact heap_alloc_new wr _
      have HQ2 := Lib.hid hQ2
      have HPV := Lib.hid (hpv.on hAx)
      have HAX := Lib.hid (HA.out.next hAx)
      have d0 : wx.cell? ⟨q2, 0, none⟩ = some (.int .i64 x) := (cell_at hQ2 0).trans rfl
      have d1 : wx.cell? ⟨q2, 1, none⟩ = some (.slice B m cb) := (cell_at hQ2 1).trans rfl
      have f1 : wx.cell? ⟨q, 1, none⟩ = some (.slice (some ⟨gb, o, none⟩) n c) := (cell_at (HAX.out.keep HQ.out) 1).trans rfl
      have HCY : Hid (0 < k → ∀ p, p + 1 = k → wx.cell? ⟨gb, o + p * 2, none⟩ = some (.int .i64 y)) := Lib.hid fun h p hp => (Below.cell hAx (p := ⟨gb, o + p * 2, none⟩) hg).trans (hcy h p hp)
      have g1 : (0 : Int) ≤ (k : Int) := by omega
      have g2 : (k : Int) < (n : Int) := by omega
      have hwrap : IntKind.i64.wrap (x - y) = x - y := IntWalk.i64_in _ (by omega)
      have HYX := Lib.hid hy0
      clear hc hkL hg hx hP hm hok hno hAx hQ2 hpv hy hy0 hcy hvn htm htm2
      obtain ⟨b, hb⟩ : ∃ b, b = decide (65535 < x - y ∨ 16 < m) := ⟨_, rfl⟩
      have HB := Lib.hid hb
      clear hb
      have HQZ : Hid (∀ z, At wb (wx.drewN z)) := Lib.hid fun z => HAX.out.drewN z
      have HQX : Hid (∀ z, At wx (wx.drewN z)) := Lib.hid fun z => (At.start wx).drewN z
      go_wp2_with fail
      go_cut [65] from 45 to 65 (fun c65 wc => c65 = .bool b ∧ Hid (At wx wc))
      case first =>
        by_cases e0 : k = 0
        · have y1 : decide ((0 : Int) < (k : Int)) = false := decide_eq_false (by omega)
          have y1b : decide (0 < k) = false := decide_eq_false (by omega)
          by_cases h16 : 16 < m
          · have z16 : decide (16 < (m : Int)) = true := decide_eq_true (by omega)
            have z16b : decide (16 < m) = true := decide_eq_true h16
            have HBV : Hid (b = true) := Lib.hid (by rw [HB.out]; exact decide_eq_true (Or.inr h16))
            clear h16 e0
            go_quiet (fail)
            go_wp2_with fail
            go_meet
            case rel => exact ⟨by rw [HBV.out], Lib.hid (HQX.out _)⟩
          · have z16 : decide (16 < (m : Int)) = false := decide_eq_false (by omega)
            have z16b : decide (16 < m) = false := decide_eq_false h16
            have HBV : Hid (b = false) := Lib.hid (by rw [HB.out]; exact decide_eq_false (fun h => h.elim (fun h1 => by have := HYX.out e0; omega) h16))
            clear h16 e0
            go_quiet (fail)
            go_wp2_with fail
            go_meet
            case rel => exact ⟨by rw [HBV.out], Lib.hid (HQX.out _)⟩
        · have y1 : decide ((0 : Int) < (k : Int)) = true := decide_eq_true (by omega)
          have y1b : decide (0 < k) = true := decide_eq_true (by omega)
          obtain ⟨p, hp⟩ : ∃ p, p + 1 = k := ⟨k - 1, by omega⟩
          have f2 := HCY.out (by omega) p hp
          have hp1 : (k : Int) - 1 = (p : Int) := by omega
          have hp2 : IntKind.i64.wrap (p : Int) = (p : Int) := IntWalk.i64_in _ (by omega)
          have g3 : (0 : Int) ≤ (p : Int) := by omega
          have g4 : (p : Int) < (n : Int) := by omega
          by_cases e7 : 65535 < x - y
          · have z7 : decide (65535 < x - y) = true := decide_eq_true e7
            have HBV : Hid (b = true) := Lib.hid (by rw [HB.out]; exact decide_eq_true (Or.inl e7))
            clear e7 hp e0
            go_quiet (fail)
            go_wp2_with fail
            go_meet
            case rel => exact ⟨by rw [HBV.out], Lib.hid (HQX.out _)⟩
          · have z7 : decide (65535 < x - y) = false := decide_eq_false e7
            clear hp e0
            by_cases h16 : 16 < m
            · have z16 : decide (16 < (m : Int)) = true := decide_eq_true (by omega)
              have z16b : decide (16 < m) = true := decide_eq_true h16
              have HBV : Hid (b = true) := Lib.hid (by rw [HB.out]; exact decide_eq_true (Or.inr h16))
              clear h16 e7
              go_quiet (fail)
              go_wp2_with fail
              go_meet
              case rel => exact ⟨by rw [HBV.out], Lib.hid (HQX.out _)⟩
            · have z16 : decide (16 < (m : Int)) = false := decide_eq_false (by omega)
              have z16b : decide (16 < m) = false := decide_eq_false h16
              have HBV : Hid (b = false) := Lib.hid (by rw [HB.out]; exact decide_eq_false (fun h => h.elim (fun h1 => by omega) h16))
              clear h16 e7
              go_quiet (fail)
              go_wp2_with fail
              go_meet
              case rel => exact ⟨by rw [HBV.out], Lib.hid (HQX.out _)⟩
      obtain ⟨rfl, HAC⟩ := hcut
      have HBC : Hid (At wb wc) := Lib.hid (HAX.out.next HAC.out)
      have d1 := (cell_at (HAC.out.keep HQ2.out) 1).trans rfl
      by_cases e7 : 65535 < x - y ∨ 16 < m
      · have HR := Lib.hid (HNO2.out fun h => by have h1 := h.1; have h2 := h.2.n16; rw [HM.out] at h2; omega)
        obtain rfl : b = true := by rw [HB.out]; exact decide_eq_true e7
        clear e7
        go_wp2_with fail
        try rw [Exit.noGoto_ret]
        go_ret
        exact ⟨by rw [HR.out]; rfl, HAB.out.next HBC.out⟩
      obtain rfl : b = false := by rw [HB.out]; exact decide_eq_false e7
      have HE7 := Lib.hid e7
      clear e7
      go_wp2_with fail
      go_loopw [6] (fun c6 wr => ∃ j : Nat, j ≤ m ∧ c6 = .int .i64 (j : Int) ∧ Hid (∀ i, i < j → (0 ≤ (P.getD i pz).1 ∧ (P.getD i pz).1 ≤ 1048576) ∧ (P.getD i pz).2.length = 40) ∧ Hid (At wc wr)) (fun c6 _ => m - (RowKit.intOf c6).toNat)
      case atStart => exact ⟨0, Nat.zero_le _, rfl, Lib.hid (fun j h => absurd h (Nat.not_lt_zero j)), Lib.hid (At.start wc)⟩
      case round =>
        clear d1
        obtain ⟨j, hj, rfl, HJ, HAJ⟩ := hrel
        have d1 := (cell_at ((HAC.out.next HAJ.out).keep HQ2.out) 1).trans rfl
        by_cases hjm : j < m
        · have hjP : j < P.length := by rw [HM.out]; exact hjm
          obtain ⟨gp, op, rfl, _, hcp⟩ := (HPV.out.on (HAC.out.next HAJ.out)).pos (by omega)
          obtain ⟨p1, B2, cb2, p2, _⟩ := hcp j hjP
          have hmem := pt_mem hjP
          have hok2 : (0 ≤ (P.getD j pz).1 ∧ (P.getD j pz).1 ≤ 1048576) ∧ (P.getD j pz).2.length = 40 → ∀ i, i < j + 1 → (0 ≤ (P.getD i pz).1 ∧ (P.getD i pz).1 ≤ 1048576) ∧ (P.getD i pz).2.length = 40 := fun h i hi => by
            by_cases e : i = j
            · rw [e]; exact h
            · exact HJ.out i (by omega)
          have hno2 : ¬ ((0 ≤ (P.getD j pz).1 ∧ (P.getD j pz).1 ≤ 1048576) ∧ (P.getD j pz).2.length = 40) → kd s L = 1 := fun h => HNO2.out fun hw => h ⟨hw.2.lba _ hmem, hw.2.n40 _ hmem⟩
          obtain ⟨z, hz⟩ : ∃ z, z = (P.getD j pz).1 := ⟨_, rfl⟩
          obtain ⟨u, hu⟩ : ∃ u, u = (P.getD j pz).2.length := ⟨_, rfl⟩
          rw [← hz] at p1 hno2 hok2
          rw [← hu] at p2 hno2 hok2
          have HNO3 := Lib.hid hno2
          have HOK3 := Lib.hid hok2
          have g5 : (0 : Int) ≤ (j : Int) := by omega
          have g6 : (j : Int) < (m : Int) := by omega
          clear hcp hu hz hno2 hok2 hmem hjP
          by_cases h1 : z < 0
          · have z1 : decide (z < 0) = true := decide_eq_true h1
            have HR := Lib.hid (HNO3.out (by omega))
            clear h1
            go_wp2_with fail
            try rw [Exit.noGoto_ret]
            go_ret
            exact ⟨by rw [HR.out]; rfl, HAB.out.next (HBC.out.next HAJ.out)⟩
          · have z1 : decide (z < 0) = false := decide_eq_false h1
            by_cases h2 : 1048576 < z
            · have z2 : decide (1048576 < z) = true := decide_eq_true h2
              have HR := Lib.hid (HNO3.out (by omega))
              clear h1 h2
              go_wp2_with fail
              try rw [Exit.noGoto_ret]
              go_ret
              exact ⟨by rw [HR.out]; rfl, HAB.out.next (HBC.out.next HAJ.out)⟩
            · have z2 : decide (1048576 < z) = false := decide_eq_false h2
              by_cases h3 : u = 40
              · have z3 : ((u : Int) != 40) = false := by rw [h3]; rfl
                have HR := Lib.hid (HOK3.out ⟨⟨by omega, by omega⟩, h3⟩)
                clear h1 h2 h3
                go_wp2_with fail
                go_roundw
                case rel => exact ⟨j + 1, by omega, by go_num, HR, HAJ⟩
                case measure => simp [RowKit.intOf]; omega
              · have z3 : ((u : Int) != 40) = true := by simp; omega
                have HR := Lib.hid (HNO3.out (fun h => h3 h.2))
                clear h1 h2 h3
                go_wp2_with fail
                try rw [Exit.noGoto_ret]
                go_ret
                exact ⟨by rw [HR.out]; rfl, HAB.out.next (HBC.out.next HAJ.out)⟩
        · have hjm2 : j = m := by omega
          have hwb : Wb P := by
            have hall : ∀ p ∈ P, (0 ≤ p.1 ∧ p.1 ≤ 1048576) ∧ p.2.length = 40 := fun p hp => by
              obtain ⟨i, hi, rfl⟩ := List.getElem_of_mem hp
              have := HJ.out i (by rw [HM.out] at hi; omega)
              rwa [List.getD_eq_getElem?_getD, List.getElem?_eq_getElem hi] at this
            exact ⟨by have := HE7.out; rw [HM.out]; omega, fun p hp => (hall p hp).1, fun p hp => (hall p hp).2⟩
          have HR := Lib.hid (HOK.out ⟨by have := HE7.out; omega, hwb⟩)
          subst hjm2
          clear hwb
          go_wp2_with fail
          go_roundw
          case rel => exact ⟨k + 1, v + j, by omega, by go_num, by go_num, hv7, HVN, HR, Lib.hid (HBC.out.next HAJ.out)⟩
          case measure => simp [RowKit.intOf]; omega
    · have hkn : k = n := by omega
      subst hkn
      have HVL : Hid (v = tot L) := Lib.hid (by rw [HVT.out, ← HN.out, List.take_length])
      by_cases e9 : 32 < v
      · have z9 : decide (32 < (v : Int)) = true := decide_eq_true (by omega)
        have HR := Lib.hid (HNO.out fun h => by have := h.n32; have := HVL.out; omega)
        go_wp2_with fail
        try rw [Exit.noGoto_ret]
        go_ret
        exact ⟨by rw [HR.out]; rfl, HAB.out.next HA.out⟩
      have z9 : decide (32 < (v : Int)) = false := decide_eq_false (by omega)
      have HR : Hid (kd s L = 0) := Lib.hid (kd_yes (bk_of HS.out.1 HS.out.2 (by rw [HN.out]; exact h1n) (by rw [HN.out]; exact hn8) HOD.out (by have := HVL.out; omega) fun j hj => HO.out j (by rw [HN.out] at hj; omega)))
      go_wp2_with fail
      try rw [Exit.noGoto_ret]
      go_ret
      exact ⟨by rw [HR.out]; rfl, HAB.out.next HA.out⟩

end Go.Proofs.Ytgmekkenodiclaa
