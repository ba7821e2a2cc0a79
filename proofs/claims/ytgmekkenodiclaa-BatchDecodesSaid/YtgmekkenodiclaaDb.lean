/- Proved: what the landed dataBlocks lays: a block of kind Data for each block that a batch writes, in a row of its own. -/
import Derived.Test.YtgmekkenodiclaaOw
import Derived.Test.YtgmekkenodiclaaBat
import Derived.Test.YtgmekkenodiclaaFo
namespace Go.Proofs.Ytgmekkenodiclaa
open Go.RowKit

/-- What a row of the call's own has that the arguments have: it lies elsewhere. -/
theorem old_bv {α : Type} {e : TypeId} {s : Nat} {cs : α → List Value} {gd : (Nat → Prop) → World → α → Prop} {w0 w : World} {v : Value} {l : List α} (h : Ow e s cs gd w0 w v l) {A : Option Addr} {L : List Nat} (hv : BV w0 A L) : BVf (ob v) w A L :=
  (hv.out fun g hg ho => by have := h.new g ho; omega).mv (Mv.of_below _ h.at_)
theorem old_pv {α : Type} {e : TypeId} {s : Nat} {cs : α → List Value} {gd : (Nat → Prop) → World → α → Prop} {w0 w : World} {v : Value} {l : List α} (h : Ow e s cs gd w0 w v l) {A : Option Addr} {P : List Pt} (hv : PV w0 A P) : PVf (ob v) w A P :=
  (hv.out fun g hg ho => by have := h.new g ho; omega).mv (Mv.of_below _ h.at_)
/-- What was laid behind the row: it lies elsewhere. -/
theorem new_bv {α : Type} {e : TypeId} {s : Nat} {cs : α → List Value} {gd : (Nat → Prop) → World → α → Prop} {w0 w : World} {v : Value} {l : List α} (h : Ow e s cs gd w0 w v l) {w' : World} {g o : Nat} {L : List Nat} (hg : w.heap.size ≤ g) (hv : BV w' (some ⟨g, o, none⟩) L) : BVf (ob v) w' (some ⟨g, o, none⟩) L := by
  rcases hv with h1 | ⟨b, o', he, h2, h4⟩
  · exact Or.inl h1
  · injection he with he
    injection he with e1 e2
    subst e1 e2
    refine Or.inr ⟨g, o, rfl, h2, fun ho => ?_, h4⟩
    have := (h.row.lt g ho).2
    omega
/-- A block of kind Data. -/
def dbk (p : Pt) : (Int × Int × Int × Int) × List Nat := ((1, 0, 0, p.1), p.2)
def bsp (x : Bl) : (Int × Int × Int × Int) × List Nat := (x.1, x.2.1)

set_option maxHeartbeats 4000000 in
set_option maxRecDepth 100000 in
theorem dataBlocks_any (s : Int) (A : Option Addr) (L : List Tx) (n c : Nat) (hn : L.length = n) (hn2 : n ≤ 1000000) (ht : tot L ≤ 10000) (w : World) (hv : TV w A L) :
    Calls Try.prog 28 #[.agg #[.int .i64 s, .slice A n c]] w fun e w' => ∃ (B : Option Addr) (d : Nat) (l : List Bl), e = .returned (.slice B (tot L) d) ∧ l.length = tot L ∧ l.map bsp = (fla L).map dbk ∧ OB w w' (.slice B (tot L) d) l := by
  have HN := Lib.hid hn
  have HTL := Lib.hid ht
  have HV0 := Lib.hid hv
  obtain ⟨q, hq⟩ : ∃ q, w.heap.size = q := ⟨_, rfl⟩
  obtain ⟨wb, hwb⟩ : ∃ wb, w.alloc (.cells #[.int .i64 s, .slice A n c] 27) = wb := ⟨_, rfl⟩
  have HAB : Hid (At w wb) := Lib.hid (by rw [← hwb]; exact (At.start w).alloc _)
  have hQ : wb.heap[q]? = some (.cells #[.int .i64 s, .slice A n c] 27 (0, 0)) := by rw [← hwb, ← hq]; exact heap_alloc_new w _
  have b1 : wb.cell? ⟨q, 1, none⟩ = some (.slice A n c) := (cell_at hQ 1).trans rfl
  obtain ⟨tt, htt⟩ : ∃ t, t = tot L := ⟨_, rfl⟩
  rw [← htt]
  have HT := Lib.hid htt
  clear hn hv ht hQ htt
  go_enter Try.func28, Try.ntmps28
  go_wp2_with fail
  go_loopw [3, 11] (fun c3 c11 wr => ∃ (k m d : Nat) (B : Option Addr) (l : List Bl), k ≤ n ∧ c11 = .int .i64 (k : Int) ∧ c3 = .slice B m d ∧ Hid (l.length = m ∧ l.map bsp = (fla (L.take k)).map dbk) ∧ Hid (OB w wr (.slice B m d) l)) (fun _ c11 _ => n - (RowKit.intOf c11).toNat)
  case atStart => exact ⟨0, 0, 0, none, [], Nat.zero_le _, rfl, rfl, Lib.hid ⟨rfl, by simp [fla_nil]⟩, Lib.hid (Ow.nil' HAB.out)⟩
  case round =>
    clear b1
    obtain ⟨k, m, d, B, l, hk, rfl, rfl, HL, HO⟩ := hrel
    by_cases hlt : k < n
    · have hkL : k < L.length := by rw [HN.out]; exact hlt
      obtain ⟨gb, o, rfl, hg, hc⟩ := (HV0.out.on HO.out.at_).pos (by omega)
      obtain ⟨k1, Bp, cb, k2, hpv⟩ := hc k hkL
      obtain ⟨gb', o', he, hg', hc'⟩ := HV0.out.pos (by omega)
      have hfl : ∀ P, P = (L.getD k txz).2 → fla (L.take (k + 1)) = fla (L.take k) ++ P := fun P hP => by
        rw [hP, List.take_succ_eq_append_getElem hkL, fla_app, List.getD_eq_getElem?_getD, List.getElem?_eq_getElem hkL]
        show _ ++ (_ ++ []) = _
        rw [List.append_nil]; rfl
      have hpw : ∃ P, P = (L.getD k txz).2 ∧ PV w Bp P := by
        injection he with he
        injection he with e1 e2
        subst e1 e2
        obtain ⟨_, B2, c2, h2, h3⟩ := hc' k hkL
        have h4 := (Below.cell HO.out.at_ (p := ⟨gb, o + k * 2 + 1, none⟩) hg').trans h2
        rw [h4] at k2
        injection k2 with k2
        injection k2 with k2
        subst k2
        exact ⟨_, rfl, h3⟩
      obtain ⟨P, hP, hpw⟩ := hpw
      have HFL := Lib.hid (hfl P hP)
      have hml : P.length ≤ 10000 := by rw [hP]; exact Nat.le_trans (tot_mem (tx_mem hkL)) HTL.out
      obtain ⟨T, hT⟩ : ∃ T, T = (L.getD k txz).1 := ⟨_, rfl⟩
      rw [← hP] at k2
      rw [← hT] at k1
      obtain ⟨p, hp⟩ : ∃ p, P.length = p := ⟨_, rfl⟩
      rw [hp] at k2 hml
      have HPL := Lib.hid hp
      have HPW := Lib.hid hpw
      have g1 : (0 : Int) ≤ (k : Int) := by omega
      have g2 : (k : Int) < (n : Int) := by omega
      have HM : Hid (m + p ≤ 10000) := Lib.hid (by
        have h1 := congrArg List.length HL.out.2
        rw [List.length_map, List.length_map, HL.out.1, fla_len] at h1
        have h2 := tot_take hkL
        have h3 := tot_le L (k + 1)
        have h4 := HTL.out
        have h5 : p = (L.getD k txz).2.length := by rw [← hp, hP]
        omega)
      have HO2 := Lib.hid (HO.out.on kB ((At.start wr).alloc (.cells #[.int .i64 T, .slice Bp p cb] 44)))
      obtain ⟨wt, hwt⟩ : ∃ wt, wr.alloc (.cells #[.int .i64 T, .slice Bp p cb] 44) = wt := ⟨_, rfl⟩
      obtain ⟨qt, hqt⟩ : ∃ q, wr.heap.size = q := ⟨_, rfl⟩
      have hQ2 : wt.heap[qt]? = some (.cells #[.int .i64 T, .slice Bp p cb] 44 (0, 0)) := by rw [← hwt, ← hqt]; exact heap_alloc_new wr _
      have d1 : wt.cell? ⟨qt, 1, none⟩ = some (.slice Bp p cb) := (cell_at hQ2 1).trans rfl
      rw [hwt] at HO2
      clear hc hc' hg hg' he hfl hpv hpw hP hT hp hQ2 hkL
      go_wp2_with fail
      go_loopw [3, 18] (fun c3 c18 wr => ∃ (j mm d : Nat) (B : Option Addr) (l2 : List Bl), j ≤ p ∧ c18 = .int .i64 (j : Int) ∧ c3 = .slice B mm d ∧ mm = m + j ∧ Hid (l2.length = mm ∧ l2.map bsp = (fla (L.take k) ++ P.take j).map dbk) ∧ Hid (OB w wr (.slice B mm d) l2)) (fun _ c18 _ => p - (RowKit.intOf c18).toNat)
      case atStart => exact ⟨0, m, d, B, l, Nat.zero_le _, rfl, rfl, rfl, Lib.hid ⟨HL.out.1, by rw [List.take_zero, List.append_nil]; exact HL.out.2⟩, HO2⟩
      case round =>
        clear d1
        obtain ⟨j, mm, d, B, l2, hj, rfl, rfl, hmm, HL2, HO⟩ := hrel
        by_cases hlt2 : j < p
        · have hjP : j < P.length := by rw [HPL.out]; exact hlt2
          obtain ⟨gp, op, rfl, hg, hc⟩ := HPW.out.pos (by omega)
          obtain ⟨k1, Bd, cd, k2, hbv⟩ := hc j hjP
          have k1 := (Below.cell HO.out.at_ (p := ⟨gp, op + j * 2, none⟩) hg).trans k1
          have k2 := (Below.cell HO.out.at_ (p := ⟨gp, op + j * 2 + 1, none⟩) hg).trans k2
          have htk : ∀ x, x = P.getD j pz → P.take (j + 1) = P.take j ++ [x] := fun x hx => by rw [hx, List.take_succ_eq_append_getElem hjP, List.getD_eq_getElem?_getD, List.getElem?_eq_getElem hjP]; rfl
          obtain ⟨x, hx⟩ : ∃ x, x = P.getD j pz := ⟨_, rfl⟩
          have HTK := Lib.hid (htk x hx)
          rw [← hx] at k1 k2 hbv
          obtain ⟨a, D⟩ := x
          simp only at k1 k2 hbv
          obtain ⟨y, hy⟩ : ∃ y, D.length = y := ⟨_, rfl⟩
          rw [hy] at k2
          have HY := Lib.hid hy
          have g3 : (0 : Int) ≤ (j : Int) := by omega
          have g4 : (j : Int) < (p : Int) := by omega
          have HBV := Lib.hid hbv
          obtain ⟨wx, hwx⟩ : ∃ wx, wr.alloc (.cells #[.int .i64 a, .slice Bd y cd] 47) = wx := ⟨_, rfl⟩
          obtain ⟨qx, hqx⟩ : ∃ q, wr.heap.size = q := ⟨_, rfl⟩
          have hQx : wx.heap[qx]? = some (.cells #[.int .i64 a, .slice Bd y cd] 47 (0, 0)) := by rw [← hwx, ← hqx]; exact heap_alloc_new wr _
          have e0 : wx.cell? ⟨qx, 0, none⟩ = some (.int .i64 a) := (cell_at hQx 0).trans rfl
          have e1 : wx.cell? ⟨qx, 1, none⟩ = some (.slice Bd y cd) := (cell_at hQx 1).trans rfl
          obtain ⟨wy, hwy⟩ : ∃ wy, wx.alloc (.cells #[.int .i64 1, .int .i64 0, .int .i64 0, .int .i64 a, .slice Bd y cd] 57) = wy := ⟨_, rfl⟩
          obtain ⟨qy, hqy⟩ : ∃ q, wx.heap.size = q := ⟨_, rfl⟩
          have hAx : At wr wx := by rw [← hwx]; exact (At.start wr).alloc _
          have hAy : At wx wy := by rw [← hwy]; exact (At.start wx).alloc _
          have HQY : Hid (wy.heap[qy]? = some (.cells #[.int .i64 1, .int .i64 0, .int .i64 0, .int .i64 a, .slice Bd y cd] 57 (0, 0))) := Lib.hid (by rw [← hwy, ← hqy]; exact heap_alloc_new wx _)
          have HOY := Lib.hid (HO.out.on kB (hAx.next hAy))
          obtain ⟨r, hr⟩ : ∃ r, mm + 1 = r := ⟨_, rfl⟩
          have HMM : Hid (r ≤ 1000000 ∧ r = m + (j + 1)) := Lib.hid (by have := HM.out; omega)
          have HR := Lib.hid hr
          clear hc hg hbv hjP htk hx hy hQx hAx hAy hr hmm
          go_wp2_with (at_builtin; refine Ow.append kB rfl HOY.out (.tmp 22) (.tmp 28) rfl mm 1 r HL2.out.1 rfl (some ⟨qy, 0, none⟩) 1 [((1, 0, 0, a), D, Bd, cd)] rfl (fun x hx => by rw [List.mem_singleton.1 hx]; exact old_bv HOY.out HBV.out) rfl (fun h => by cases h) (one_kept (vs := #[.int .i64 1, .int .i64 0, .int .i64 0, .int .i64 a, .slice Bd y cd]) (by rw [← HY.out]; rfl) HQY.out) HR.out HMM.out.1 ?_; intro A' c' w' HG)
          go_roundw
          case rel => exact ⟨j + 1, r, c', A', _, by omega, by go_num, rfl, HMM.out.2, Lib.hid ⟨by rw [List.length_append, HL2.out.1]; exact HR.out, by rw [List.map_append, HL2.out.2, HTK.out]; simp only [List.map_append, List.append_assoc]; rfl⟩, Lib.hid HG.out.ow⟩
          case measure => simp [RowKit.intOf]; omega
        · have hjp : j = p := by omega
          subst hjp
          have HL3 : Hid (l2.length = mm ∧ l2.map bsp = (fla (L.take (k + 1))).map dbk) := Lib.hid ⟨HL2.out.1, by rw [HFL.out, ← List.take_of_length_le (Nat.le_of_eq HPL.out)]; exact HL2.out.2⟩
          go_wp2_with fail
          go_roundw
          case rel => exact ⟨k + 1, mm, d, B, l2, by omega, by go_num, rfl, HL3, HO⟩
          case measure => simp [RowKit.intOf]; omega
    · have hkn : k = n := by omega
      obtain rfl : m = tt := by
        have h1 := congrArg List.length HL.out.2
        rw [List.length_map, List.length_map, HL.out.1, fla_len, hkn, ← HN.out, List.take_length, ← HT.out] at h1
        exact h1
      have HL3 : Hid (l.map bsp = (fla L).map dbk) := Lib.hid (by have := HL.out.2; rwa [hkn, ← HN.out, List.take_length] at this)
      subst hkn
      go_wp2_with fail
      try rw [Exit.noGoto_ret]
      go_ret
      exact ⟨B, d, l, rfl, HL.out.1, HL3.out, HO.out⟩

end Go.Proofs.Ytgmekkenodiclaa
