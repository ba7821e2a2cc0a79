/- Proved: Meets and Has of a set, and what they stand on. -/
import Derived.Test.YtcffoebpgjonmaaIAd
namespace Go.Proofs.Ytcffoebpgjonmaa.Iv
open Go.RowKit

set_option maxHeartbeats 1000000 in
set_option maxRecDepth 100000 in
theorem shares_any {w : World} {b : Nat} {v : Value} {most : Int} {L : List (Int × Int)} (h : Sv w b v most L) (hl : L.length ≤ 1000000) (a n : Int) (he : Vm (a, n)) :
    Calls Try.prog 66 #[.pointer (some ⟨b, 0, none⟩), .agg #[.int .i64 a, .int .i64 n]] w (Gives (.bool (shB L a n)) w) := by
  obtain ⟨A, c, rfl, hnc, hcm, hev⟩ := h.row.ev
  obtain ⟨N, hN⟩ : ∃ N, N = L.length := ⟨_, rfl⟩
  rw [← hN] at h hnc hl
  have hw1 := h.on ((At.start w).alloc (.cells #[.int .i64 a, .int .i64 n] 49))
  have hl1 := list_any hw1
  have hen := ends_any A N c L (a + 1) (w.alloc (.cells #[.int .i64 a, .int .i64 n] 49)) hl hN.symm (hev.on ((At.start w).alloc _)) h.nm.1
  have HNM := Lib.hid h.nm
  have HEV := Lib.hid (hev.on ((At.start w).alloc (.cells #[.int .i64 a, .int .i64 n] 49)))
  have HBX : Hid ((w.alloc (.cells #[.int .i64 a, .int .i64 n] 49)).heap[w.heap.size]? = some (.cells #[.int .i64 a, .int .i64 n] 49 (0, 0))) := Lib.hid (heap_alloc_new w _)
  have HB : Hid (∀ w', At (w.alloc (.cells #[.int .i64 a, .int .i64 n] 49)) w' → At w w') := Lib.hid (fun w' h => ((At.start w).alloc _).next h)
  have HL := Lib.hid hl1
  have HE := Lib.hid hen
  have HN := Lib.hid hN
  unfold Vm at he
  obtain ⟨e1, e2, e3⟩ := he
  simp only at e1 e2 e3
  clear h hw1 hl1 hen hev hN
  go_enter Try.func66, Try.ntmps66
  go_wp2_with fail
  refine HL.out.mono ?_
  rintro e w' ⟨rfl, rfl⟩
  go_wp2_with fail
  refine HE.out.mono ?_
  rintro e w1 ⟨k, hk, rfl, hA⟩
  have hsf : shB L a n = true ↔ (k < N ∧ (L.getD k (0, 0)).1 < a + n) := by rw [HN.out]; exact sh_find HNM.out e2 (by rw [← HN.out]; exact hk)
  have HA := Lib.hid (HB.out _ hA)
  have HEV1 := Lib.hid (HEV.out.on hA)
  have HBX1 : Hid (w1.heap[w.heap.size]? = some (.cells #[.int .i64 a, .int .i64 n] 49 (0, 0))) := Lib.hid (hA.keep HBX.out)
  have c1 : w1.cell? ⟨w.heap.size, 0, none⟩ = some (.int .i64 a) := by rw [cell_at HBX1.out]; rfl
  have c2 : w1.cell? ⟨w.heap.size, 1, none⟩ = some (.int .i64 n) := by rw [cell_at HBX1.out]; rfl
  have g1 : (0 : Int) ≤ (k : Int) := by omega
  have hkN := hk.le
  clear hA hk
  by_cases hlt : k < N
  · obtain ⟨g, o, rfl, _, hc⟩ := HEV1.out.pos (by rw [← HN.out]; omega)
    have c3 := (hc k (by rw [← HN.out]; exact hlt)).1
    have hv := HNM.out.1 _ (getD_mem (show k < L.length by rw [← HN.out]; exact hlt))
    clear hc
    generalize (L.getD k (0, 0)).1 = p at c3 hsf
    have g2 : (k : Int) < (N : Int) := by omega
    by_cases hp : p < a + n
    · have HSN := Lib.hid (hsf.2 ⟨hlt, hp⟩)
      clear hsf hv
      go_wp2_with fail
      go_region_held3 (fun w' => w'.cell? ⟨w.heap.size, 0, none⟩ = some (.int .i64 a) ∧ w'.cell? ⟨w.heap.size, 1, none⟩ = some (.int .i64 n) ∧ w'.cell? ⟨g, o + k * 2, none⟩ = some (.int .i64 p)) (go_keep)
        (first | (go_at_call 44; refine (after_any _ _ _ (by omega) (by omega) (by omega) (by omega)).mono ?_; rintro e w' ⟨rfl, rfl⟩))
      go_wp2
      go_ret
      exact ⟨by rw [HSN.out]; rfl, (HA.out.alloc _).drewN 1⟩
    · have hsn : shB L a n = false := by
        cases hq : shB L a n
        · rfl
        · exact absurd (hsf.1 hq).2 hp
      have HSN := Lib.hid hsn
      have hp' : decide (p < a + n) = false := decide_eq_false hp
      clear hsf hv hsn
      go_wp2_with fail
      go_region_held3 (fun w' => w'.cell? ⟨w.heap.size, 0, none⟩ = some (.int .i64 a) ∧ w'.cell? ⟨w.heap.size, 1, none⟩ = some (.int .i64 n) ∧ w'.cell? ⟨g, o + k * 2, none⟩ = some (.int .i64 p)) (go_keep)
        (first | (go_at_call 44; refine (after_any _ _ _ (by omega) (by omega) (by omega) (by omega)).mono ?_; rintro e w' ⟨rfl, rfl⟩))
      go_wp2
      go_ret
      exact ⟨by rw [HSN.out]; rfl, (HA.out.alloc _).drewN 1⟩
  · have hsn : shB L a n = false := by
      cases hq : shB L a n
      · rfl
      · exact absurd (hsf.1 hq).1 hlt
    have HSN := Lib.hid hsn
    have g2 : decide ((k : Int) < (N : Int)) = false := decide_eq_false (by omega)
    clear hsf hsn
    go_wp2_with fail
    go_quiet (fail)
    go_wp2
    go_ret
    exact ⟨by rw [HSN.out]; rfl, HA.out.drewN _⟩

/-- What Meets tells. -/
def meB (L : List (Int × Int)) (a n : Int) : Bool := vaB a n && shB L a n
theorem me_iff {L : List (Int × Int)} {a n : Int} (hL : ∀ e ∈ L, Vm e) : meB L a n = true ↔ Va (a, n) ∧ ∃ x, In [(a, n)] x ∧ In L x := by
  unfold meB
  rw [Bool.and_eq_true]
  constructor
  · rintro ⟨h1, h2⟩
    have hv := of_decide_eq_true h1
    exact ⟨hv, (sh_iff hL hv.2.2.1).1 h2⟩
  · rintro ⟨h1, h2⟩
    exact ⟨vaB_yes h1, (sh_iff hL h1.2.2.1).2 h2⟩

set_option maxHeartbeats 1000000 in
set_option maxRecDepth 100000 in
theorem meets_any {w : World} {b : Nat} {v : Value} {most : Int} {L : List (Int × Int)} (h : Sv w b v most L) (hl : L.length ≤ 1000000) (a n : Int) :
    Calls Try.prog 48 #[.pointer (some ⟨b, 0, none⟩), .agg #[.int .i64 a, .int .i64 n]] w (Gives (.bool (meB L a n)) w) := by
  have H := Lib.hid h
  have HB : Hid (∀ w', Below (w.alloc (.cells #[.int .i64 a, .int .i64 n] 49)).heap.size (w.alloc (.cells #[.int .i64 a, .int .i64 n] 49)) w' → At w w') := Lib.hid (fun w' h => ((At.start w).alloc _).next h)
  have HBX : Hid ((w.alloc (.cells #[.int .i64 a, .int .i64 n] 49)).heap[w.heap.size]? = some (.cells #[.int .i64 a, .int .i64 n] 49 (0, 0))) := Lib.hid (heap_alloc_new w _)
  clear h
  by_cases hv : Va (a, n)
  · have hm : meB L a n = shB L a n := by unfold meB; rw [vaB_yes hv, Bool.true_and]
    rw [hm]
    have hvb := vaB_yes hv
    have HV := Lib.hid hv.vm
    generalize hr : shB L a n = r at *
    have HR := Lib.hid hr
    clear hr hm hv
    go_enter Try.func48, Try.ntmps48
    go_wp2_with fail
    refine (valid_any a n _).mono ?_
    rintro e w1 ⟨rfl, hb⟩
    rw [hvb]
    have HA := Lib.hid (HB.out _ hb)
    have HBX1 : Hid (w1.heap[w.heap.size]? = some (.cells #[.int .i64 a, .int .i64 n] 49 (0, 0))) := Lib.hid (At.keep hb HBX.out)
    have c1 : w1.cell? ⟨w.heap.size, 0, none⟩ = some (.int .i64 a) := by rw [cell_at HBX1.out]; rfl
    have c2 : w1.cell? ⟨w.heap.size, 1, none⟩ = some (.int .i64 n) := by rw [cell_at HBX1.out]; rfl
    clear hb
    go_wp2_with fail
    refine (shares_any (H.out.on HA.out) hl a n HV.out).mono ?_
    rintro e w2 ⟨rfl, hb2⟩
    rw [HR.out]
    have HA2 := Lib.hid (HA.out.next hb2)
    clear hb2
    go_wp2
    all_goals
      go_ret
      exact ⟨rfl, HA2.out⟩
  · have hm : meB L a n = false := by unfold meB; rw [vaB_no hv, Bool.false_and]
    rw [hm]
    have hvb := vaB_no hv
    clear hm
    go_enter Try.func48, Try.ntmps48
    go_wp2_with fail
    refine (valid_any a n _).mono ?_
    rintro e w1 ⟨rfl, hb⟩
    rw [hvb]
    have HA := Lib.hid (HB.out _ hb)
    clear hb
    go_wp2
    go_ret
    exact ⟨rfl, HA.out⟩

set_option maxHeartbeats 400000 in
theorem has_any {w : World} {b : Nat} {v : Value} {most : Int} {L : List (Int × Int)} (h : Sv w b v most L) (hl : L.length ≤ 1000000) (a : Int) :
    Calls Try.prog 29 #[.pointer (some ⟨b, 0, none⟩), .int .i64 a] w (Gives (.bool (meB L a 1)) w) := by
  have H := Lib.hid (meets_any h hl a 1)
  clear h
  go_enter Try.func29, Try.ntmps29
  go_wp2_with (go_at_call 48; refine H.out.mono ?_; rintro e w1 ⟨rfl, hb⟩)
  go_ret
  exact ⟨rfl, hb⟩
end Go.Proofs.Ytcffoebpgjonmaa.Iv
