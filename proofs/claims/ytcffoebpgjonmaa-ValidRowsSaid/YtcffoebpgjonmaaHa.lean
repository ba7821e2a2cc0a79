/- Proved: whether a block is in a set, by the landed set and by the document's own; whether a transaction writes into a set, by both. -/
import Derived.Test.YtcffoebpgjonmaaTx
import Derived.BigQuiet
namespace Go.Proofs.Ytcffoebpgjonmaa
open Go.RowKit
open Iv (In Nm Is Vm Va Sv EV vaB vaB_yes vaB_no)

theorem has_in {w : World} {b : Nat} {v : Value} {most : Int} {L : List (Int × Int)} (h : Sv w b v most L) (hl : L.length ≤ 1000000) (a : Int) :
    Calls Try.prog 29 #[.pointer (some ⟨b, 0, none⟩), .int .i64 a] w (Gives (.bool (inB L a)) w) := by
  have := Iv.has_any h hl a
  rwa [me_in h.nm] at this

/-- The document's set at d holds the extents L; it takes at most a hundred. -/
def Dv (w : World) (d : Nat) (L : List (Int × Int)) : Prop := Nm L ∧ ∃ A n c, w.heap[d]? = some (.cells #[.int .i64 100, .slice A n c] 53 (0, 0)) ∧ L.length = n ∧ EV w A L
theorem Dv.on {w w' : World} {d : Nat} {L : List (Int × Int)} (h : Dv w d L) (hA : At w w') : Dv w' d L := by
  obtain ⟨hn, A, n, c, hb, hl, hv⟩ := h
  exact ⟨hn, A, n, c, hA.keep hb, hl, hv.on hA⟩

set_option maxHeartbeats 4000000 in
set_option maxRecDepth 100000 in
theorem rmeets_any {w : World} {d : Nat} {L : List (Int × Int)} (h : Dv w d L) (hl : L.length ≤ 1000000) (a : Int) :
    Calls Try.prog 49 #[.pointer (some ⟨d, 0, none⟩), .agg #[.int .i64 a, .int .i64 1]] w (Gives (.bool (inB L a)) w) := by
  obtain ⟨hnm, A, n, c, hb, hn, hv⟩ := h
  have HV := Lib.hid hv
  have HB := Lib.hid hb
  have HN := Lib.hid hn
  have HNM := Lib.hid hnm
  have HM := Lib.hid (fun W => Iv.may_any a 1 W)
  have HBX : Hid ((w.alloc (.cells #[.int .i64 a, .int .i64 1] 49)).heap[w.heap.size]? = some (.cells #[.int .i64 a, .int .i64 1] 49 (0, 0)) ∧ At w (w.alloc (.cells #[.int .i64 a, .int .i64 1] 49))) := Lib.hid ⟨heap_alloc_new w _, (At.start w).alloc _⟩
  obtain ⟨q, hq⟩ : ∃ q, w.heap.size = q := ⟨_, rfl⟩
  obtain ⟨w0, hw0⟩ : ∃ w0, w.alloc (.cells #[.int .i64 a, .int .i64 1] 49) = w0 := ⟨_, rfl⟩
  rw [hw0, hq] at HBX
  have d0 : w0.cell? ⟨q, 0, none⟩ = some (.int .i64 a) := (cell_at HBX.out.1 0).trans rfl
  have d1 : w0.cell? ⟨q, 1, none⟩ = some (.int .i64 1) := (cell_at HBX.out.1 1).trans rfl
  rw [hn] at hl
  clear hnm hb hn hv
  by_cases hva : Va (a, 1)
  · rw [vaB_yes hva] at HM
    have hva' := hva
    unfold Va at hva'
    simp only at hva'
    obtain ⟨v1, v2, -, -, v3⟩ := hva'
    have q1 : IntKind.i64.wrap (a + 1) = a + 1 := IntWalk.i64_in _ (by omega)
    clear hva
    go_enter Try.func49, Try.ntmps49
    go_wp2_with (go_at_call 46; refine (HM.out _).mono ?_; rintro e w1 ⟨rfl, hA1⟩; have HA1 := Lib.hid hA1; clear hA1)
    go_loopw [5] (fun c5 wr => ∃ k : Nat, k ≤ n ∧ c5 = .int .i64 (k : Int) ∧ Hid (¬ In (L.take k) a) ∧ Hid (At w0 wr)) (fun c5 _ => n - (RowKit.intOf c5).toNat)
    case atStart => exact ⟨0, Nat.zero_le _, rfl, Lib.hid (Iv.in_nil a), HA1⟩
    case round =>
      clear HA1 d0 d1
      obtain ⟨k, hk, rfl, HI, HA⟩ := hrel
      have hbx := (HBX.out.2.next HA.out).keep HB.out
      have c0 : wr.cell? ⟨d, 1, none⟩ = some (.slice A n c) := (cell_at hbx 1).trans rfl
      have hqx := HA.out.keep HBX.out.1
      have d0 : wr.cell? ⟨q, 0, none⟩ = some (.int .i64 a) := (cell_at hqx 0).trans rfl
      have d1 : wr.cell? ⟨q, 1, none⟩ = some (.int .i64 1) := (cell_at hqx 1).trans rfl
      clear hbx hqx
      by_cases hlt : k < n
      · have hkL : k < L.length := by rw [HN.out]; exact hlt
        obtain ⟨gb, o, rfl, hg, hc⟩ := (HV.out.on (HBX.out.2.next HA.out)).pos (by omega)
        obtain ⟨k1, k2⟩ := hc k hkL
        have hvk := Iv.nm_at HNM.out hkL
        have hit := in_take L k hkL a
        obtain ⟨y0, hy0⟩ : ∃ y, L.getD k (0, 0) = y := ⟨_, rfl⟩
        have hmem : y0 ∈ L := hy0 ▸ Iv.getD_mem hkL
        rw [hy0] at k1 k2 hvk hit
        obtain ⟨y, yn⟩ := y0
        unfold Vm at hvk
        simp only at k1 k2 hvk hit
        obtain ⟨f1, f2, f3⟩ := hvk
        have q2 : IntKind.i64.wrap (y + yn) = y + yn := IntWalk.i64_in _ (by omega)
        have g1 : (0 : Int) ≤ (k : Int) := by omega
        have g2 : (k : Int) < (n : Int) := by omega
        have HIT := Lib.hid hit
        have HMEM := Lib.hid hmem
        clear hc hit hmem hy0 hkL hg
        by_cases e1 : a < y + yn
        · have z1 : decide (a < y + yn) = true := decide_eq_true e1
          by_cases e2 : y < a + 1
          · have z2 : decide (y < a + 1) = true := decide_eq_true e2
            have HR : Hid (inB L a = true) := Lib.hid (inB_yes ⟨_, HMEM.out, by simp only; omega, e1⟩)
            clear e1 e2
            go_wp2_with fail
            go_quiet (fail)
            go_wp2
            go_ret
            exact ⟨by rw [HR.out]; rfl, (HBX.out.2.next HA.out).drewN _⟩
          · have z2 : decide (y < a + 1) = false := decide_eq_false e2
            have HI2 : Hid (¬ In (L.take (k + 1)) a) := Lib.hid (fun h => (HIT.out.1 h).elim HI.out (fun h => by omega))
            clear e1 e2
            go_wp2_with fail
            go_quiet (fail)
            go_wp2
            go_roundw
            case rel => exact ⟨k + 1, by omega, by go_num, HI2, Lib.hid (HA.out.drewN _)⟩
            case measure => simp [RowKit.intOf]; omega
        · have z1 : decide (a < y + yn) = false := decide_eq_false e1
          have HI2 : Hid (¬ In (L.take (k + 1)) a) := Lib.hid (fun h => (HIT.out.1 h).elim HI.out (fun h => by omega))
          clear e1
          go_wp2_with fail
          go_quiet (fail)
          go_wp2
          go_roundw
          case rel => exact ⟨k + 1, by omega, by go_num, HI2, Lib.hid (HA.out.drewN _)⟩
          case measure => simp [RowKit.intOf]; omega
      · have hkn : k = n := by omega
        have HR : Hid (inB L a = false) := Lib.hid (inB_no (by have := HI.out; rwa [hkn, ← HN.out, List.take_length] at this))
        subst hkn
        go_wp2
        go_ret
        exact ⟨by rw [HR.out]; rfl, HBX.out.2.next HA.out⟩
  · rw [vaB_no hva] at HM
    have HR : Hid (inB L a = false) := Lib.hid (inB_no fun h => hva (in_va HNM.out h))
    clear hva
    go_enter Try.func49, Try.ntmps49
    go_wp2_with (go_at_call 46; refine (HM.out _).mono ?_; rintro e w1 ⟨rfl, hA1⟩; have HA1 := Lib.hid hA1; clear hA1)
    go_ret
    exact ⟨by rw [HR.out]; rfl, HBX.out.2.next HA1.out⟩

set_option maxHeartbeats 1000000 in
set_option maxRecDepth 100000 in
theorem rhas_any {w : World} {d : Nat} {L : List (Int × Int)} (h : Dv w d L) (hl : L.length ≤ 1000000) (a : Int) :
    Calls Try.prog 30 #[.pointer (some ⟨d, 0, none⟩), .int .i64 a] w (Gives (.bool (inB L a)) w) := by
  have H := Lib.hid (rmeets_any h hl a)
  clear h
  go_enter Try.func30, Try.ntmps30
  go_wp2_with (go_at_call 49; refine H.out.mono ?_; rintro e w1 ⟨rfl, hb⟩)
  go_ret
  exact ⟨rfl, hb⟩

end Go.Proofs.Ytcffoebpgjonmaa
