/- Proved: whether a transaction writes into a set: the landed Against, and the document's own. -/
import Derived.Test.YtcffoebpgjonmaaHa
namespace Go.Proofs.Ytcffoebpgjonmaa
open Go.RowKit
open Iv (In Nm Is Vm Va Sv EV)

theorem pt_take (P : List Pt) (k : Nat) (hk : k < P.length) {X : Pt → Prop} (h : ¬ ∃ p ∈ P.take k, X p) (h1 : ¬ X (P.getD k pz)) : ¬ ∃ p ∈ P.take (k + 1), X p := by
  rintro ⟨p, hp, hx⟩
  rw [take_one P k hk] at hp
  rcases List.mem_append.1 hp with hp | hp
  · exact h ⟨p, hp, hx⟩
  · rw [List.mem_singleton.1 hp] at hx; exact h1 hx

set_option maxHeartbeats 4000000 in
set_option maxRecDepth 100000 in
theorem against_any {w : World} {b : Nat} {v : Value} {most : Int} {L : List (Int × Int)} (h : Sv w b v most L) (hl : L.length ≤ 1000000) (T : Int) (A : Option Addr) (P : List Pt) (n c : Nat) (hn : P.length = n) (hn2 : n ≤ 1000000) (hv : PV w A P) :
    Calls Try.prog 15 #[.agg #[.int .i64 T, .slice A n c], .pointer (some ⟨b, 0, none⟩)] w (Gives (.bool (agB (T, P) L)) w) := by
  have HV := Lib.hid hv
  have HN := Lib.hid hn
  have HH := Lib.hid (fun W (hW : At w W) a => has_in (h.on hW) hl a)
  have HBX : Hid ((w.alloc (.cells #[.int .i64 T, .slice A n c] 36)).heap[w.heap.size]? = some (.cells #[.int .i64 T, .slice A n c] 36 (0, 0)) ∧ At w (w.alloc (.cells #[.int .i64 T, .slice A n c] 36))) := Lib.hid ⟨heap_alloc_new w _, (At.start w).alloc _⟩
  obtain ⟨q, hq⟩ : ∃ q, w.heap.size = q := ⟨_, rfl⟩
  obtain ⟨w0, hw0⟩ : ∃ w0, w.alloc (.cells #[.int .i64 T, .slice A n c] 36) = w0 := ⟨_, rfl⟩
  rw [hw0, hq] at HBX
  have d1 : w0.cell? ⟨q, 1, none⟩ = some (.slice A n c) := (cell_at HBX.out.1 1).trans rfl
  clear h hv hn
  go_enter Try.func15, Try.ntmps15
  go_wp2
  go_loopw [10] (fun c10 wr => ∃ k : Nat, k ≤ n ∧ c10 = .int .i64 (k : Int) ∧ Hid (¬ ∃ p ∈ P.take k, In L p.1) ∧ Hid (At w0 wr)) (fun c10 _ => n - (RowKit.intOf c10).toNat)
  case atStart => exact ⟨0, Nat.zero_le _, rfl, Lib.hid (fun ⟨_, h, _⟩ => by cases h), Lib.hid (At.start _)⟩
  case round =>
    clear d1
    obtain ⟨k, hk, rfl, HI, HA⟩ := hrel
    by_cases hlt : k < n
    · have hkP : k < P.length := by rw [HN.out]; exact hlt
      obtain ⟨gb, o, rfl, hg, hc⟩ := (HV.out.on (HBX.out.2.next HA.out)).pos (by omega)
      obtain ⟨k1, B, cb, k2, -⟩ := hc k hkP
      have hit : ¬ In L (P.getD k pz).1 → _ := fun h1 => pt_take P k hkP HI.out (X := fun p => In L p.1) h1
      have hmem : In L (P.getD k pz).1 → Ag (T, P) L := fun h1 => ⟨_, pt_mem hkP, h1⟩
      obtain ⟨y0, hy0⟩ : ∃ y, P.getD k pz = y := ⟨_, rfl⟩
      rw [hy0] at k1 k2 hit hmem
      obtain ⟨y, yd⟩ := y0
      simp only at k1 k2 hit hmem
      obtain ⟨m, hm⟩ : ∃ m, m = yd.length := ⟨_, rfl⟩
      rw [← hm] at k2
      have HIT := Lib.hid hit
      have HMEM := Lib.hid hmem
      have g1 : (0 : Int) ≤ (k : Int) := by omega
      have g2 : (k : Int) < (n : Int) := by omega
      obtain ⟨qr, hqr⟩ : ∃ qr, wr.heap.size = qr := ⟨_, rfl⟩
      obtain ⟨wb, hwb⟩ : ∃ wb, wr.alloc (.cells #[.int .i64 y, .slice B m cb] 61) = wb := ⟨_, rfl⟩
      have hAb : At wr wb := by rw [← hwb]; exact (At.start wr).alloc _
      have hQ : wb.heap[qr]? = some (.cells #[.int .i64 y, .slice B m cb] 61 (0, 0)) := by rw [← hwb, ← hqr]; exact heap_alloc_new wr _
      have b0 : wb.cell? ⟨qr, 0, none⟩ = some (.int .i64 y) := (cell_at hQ 0).trans rfl
      have HAB : Hid (At w0 wb) := Lib.hid (HA.out.next hAb)
      clear hc hit hmem hy0 hkP hg hm hAb hQ
      go_wp2_with fail
      refine (HH.out _ (HBX.out.2.next HAB.out) y).mono ?_
      rintro e w2 ⟨rfl, hA2⟩
      have HA2 := Lib.hid (HAB.out.next hA2)
      clear hA2
      by_cases hin : In L y
      · rw [inB_yes hin]
        have HR : Hid (agB (T, P) L = true) := Lib.hid (agB_yes (HMEM.out hin))
        clear hin
        go_wp2
        go_ret
        exact ⟨by rw [HR.out]; rfl, HBX.out.2.next HA2.out⟩
      · rw [inB_no hin]
        have HI2 := Lib.hid (HIT.out hin)
        clear hin
        go_wp2
        go_roundw
        case rel => exact ⟨k + 1, by omega, by go_num, HI2, HA2⟩
        case measure => simp [RowKit.intOf]; omega
    · have hkn : k = n := by omega
      have HR : Hid (agB (T, P) L = false) := Lib.hid (agB_no (by have := HI.out; rwa [hkn, ← HN.out, List.take_length] at this))
      subst hkn
      go_wp2
      go_ret
      exact ⟨by rw [HR.out]; rfl, HBX.out.2.next HA.out⟩

set_option maxHeartbeats 4000000 in
set_option maxRecDepth 100000 in
theorem ragainst_any {w : World} {d : Nat} {L : List (Int × Int)} (h : Dv w d L) (hl : L.length ≤ 1000000) (T : Int) (A : Option Addr) (P : List Pt) (n c : Nat) (hn : P.length = n) (hn2 : n ≤ 1000000) (hv : PV w A P) :
    Calls Try.prog 16 #[.agg #[.int .i64 T, .slice A n c], .pointer (some ⟨d, 0, none⟩)] w (Gives (.bool (agB (T, P) L)) w) := by
  have HV := Lib.hid hv
  have HN := Lib.hid hn
  have HH := Lib.hid (fun W (hW : At w W) a => rhas_any (h.on hW) hl a)
  have HBX : Hid ((w.alloc (.cells #[.int .i64 T, .slice A n c] 36)).heap[w.heap.size]? = some (.cells #[.int .i64 T, .slice A n c] 36 (0, 0)) ∧ At w (w.alloc (.cells #[.int .i64 T, .slice A n c] 36))) := Lib.hid ⟨heap_alloc_new w _, (At.start w).alloc _⟩
  obtain ⟨q, hq⟩ : ∃ q, w.heap.size = q := ⟨_, rfl⟩
  obtain ⟨w0, hw0⟩ : ∃ w0, w.alloc (.cells #[.int .i64 T, .slice A n c] 36) = w0 := ⟨_, rfl⟩
  rw [hw0, hq] at HBX
  clear h hv hn
  go_enter Try.func16, Try.ntmps16
  go_wp2
  go_loopw [5] (fun c5 wr => ∃ k : Nat, k ≤ n ∧ c5 = .int .i64 (k : Int) ∧ Hid (¬ ∃ p ∈ P.take k, In L p.1) ∧ Hid (At w0 wr)) (fun c5 _ => n - (RowKit.intOf c5).toNat)
  case atStart => exact ⟨0, Nat.zero_le _, rfl, Lib.hid (fun ⟨_, h, _⟩ => by cases h), Lib.hid (At.start _)⟩
  case round =>
    obtain ⟨k, hk, rfl, HI, HA⟩ := hrel
    have d1 : wr.cell? ⟨q, 1, none⟩ = some (.slice A n c) := (cell_at (HA.out.keep HBX.out.1) 1).trans rfl
    by_cases hlt : k < n
    · have hkP : k < P.length := by rw [HN.out]; exact hlt
      obtain ⟨gb, o, rfl, hg, hc⟩ := (HV.out.on (HBX.out.2.next HA.out)).pos (by omega)
      obtain ⟨k1, B, cb, k2, -⟩ := hc k hkP
      have hit : ¬ In L (P.getD k pz).1 → _ := fun h1 => pt_take P k hkP HI.out (X := fun p => In L p.1) h1
      have hmem : In L (P.getD k pz).1 → Ag (T, P) L := fun h1 => ⟨_, pt_mem hkP, h1⟩
      obtain ⟨y0, hy0⟩ : ∃ y, P.getD k pz = y := ⟨_, rfl⟩
      rw [hy0] at k1 hit hmem
      obtain ⟨y, yd⟩ := y0
      simp only at k1 hit hmem
      have HIT := Lib.hid hit
      have HMEM := Lib.hid hmem
      have g1 : (0 : Int) ≤ (k : Int) := by omega
      have g2 : (k : Int) < (n : Int) := by omega
      clear hc hit hmem hy0 hkP hg k2
      go_wp2_with fail
      refine (HH.out _ (HBX.out.2.next HA.out) y).mono ?_
      rintro e w2 ⟨rfl, hA2⟩
      have HA2 := Lib.hid (HA.out.next hA2)
      clear hA2
      by_cases hin : In L y
      · rw [inB_yes hin]
        have HR : Hid (agB (T, P) L = true) := Lib.hid (agB_yes (HMEM.out hin))
        clear hin
        go_wp2
        go_ret
        exact ⟨by rw [HR.out]; rfl, HBX.out.2.next HA2.out⟩
      · rw [inB_no hin]
        have HI2 := Lib.hid (HIT.out hin)
        clear hin
        go_wp2
        go_roundw
        case rel => exact ⟨k + 1, by omega, by go_num, HI2, HA2⟩
        case measure => simp [RowKit.intOf]; omega
    · have hkn : k = n := by omega
      have HR : Hid (agB (T, P) L = false) := Lib.hid (agB_no (by have := HI.out; rwa [hkn, ← HN.out, List.take_length] at this))
      subst hkn
      go_wp2
      go_ret
      exact ⟨by rw [HR.out]; rfl, HBX.out.2.next HA.out⟩

end Go.Proofs.Ytcffoebpgjonmaa
