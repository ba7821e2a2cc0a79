/- Proved: the law ExtmapNothing answers true for any block, time and extent: nothing is no map. -/
import Derived.Test.YtjpoiijifnfjhaaNil
namespace Go.Proofs.Ytjpoiijifnfjhaa
open Go.RowKit

theorem written_none (a n t : Int) (w : World) : Calls Try.prog 20 #[.pointer none, .agg #[.int .i64 a, .int .i64 n], .int .i64 t] w (Gives (.bool false) w) := by
  by_cases hv : Va (a, n)
  · exact written_nil w a n t hv
  · exact written_no none a n t hv w

set_option maxHeartbeats 2000000 in
set_option maxRecDepth 100000 in
theorem nothing_any (k t a n : Int) (w : World) : Calls Try.prog 5 #[.int .i64 k, .int .i64 t, .agg #[.int .i64 a, .int .i64 n]] w (Gives (.bool true) w) := by
  have HC : Hid (∀ W, At (w.alloc (.cells #[.int .i64 a, .int .i64 n] 48)) W → W.cell? ⟨w.heap.size, 0, none⟩ = some (.int .i64 a) ∧ W.cell? ⟨w.heap.size, 1, none⟩ = some (.int .i64 n) ∧ At w W) := Lib.hid fun W hW =>
    ⟨(cell_at (hW.keep (heap_alloc_new w _)) 0).trans rfl, (cell_at (hW.keep (heap_alloc_new w _)) 1).trans rfl, ((At.start w).alloc _).next hW⟩
  have HR := Lib.hid (fun W => range_no (w := W) none 0 (fun V _ => blocks_nil V) a n t (fun h => by have h1 := h.1.1; have h2 := h.1.2.2.1; have h3 := h.2; simp only at h1 h2; omega))
  have HG := Lib.hid (fun W => get_none (w := W) none 0 (fun V _ => blocks_nil V) k (by omega) t)
  have HP := Lib.hid (fun W => apply_no (w := W) none 1 none 0 0 1 (by omega) (fun V _ => refuses_nil V 1 none 0 0))
  have HL := Lib.hid last_nil
  have HPR := Lib.hid (prune_nil t)
  have HD := Lib.hid dump_nil
  have HW := Lib.hid (written_none a n t)
  have HB := Lib.hid blocks_nil
  have HAW := Lib.hid awake_any
  obtain ⟨c1, c2, _⟩ := HC.out _ (At.start _)
  go_enter Try.func5, Try.ntmps5
  go_wp2_with fail
  generalize w.alloc (.cells #[.int .i64 a, .int .i64 n] 48) = wb at HC c1 c2 ⊢
  refine (HR.out _).mono ?_
  rintro e w1 ⟨rfl, hA⟩
  have HA1 : Hid (At wb w1) := Lib.hid hA
  clear hA
  go_wp2_with fail
  refine (HG.out _).mono ?_
  rintro e w2 ⟨rfl, hA⟩
  have HA2 := Lib.hid (HA1.out.next hA)
  clear hA
  go_wp2_with fail
  refine (HP.out _).mono ?_
  rintro e w3 ⟨rfl, hA⟩
  have HA3 := Lib.hid (HA2.out.next hA)
  clear hA
  go_wp2_with fail
  refine (HL.out _).mono ?_
  rintro e w' ⟨rfl, rfl⟩
  go_wp2_with fail
  refine (HPR.out _).mono ?_
  rintro e w4 ⟨rfl, hA⟩
  have HA4 := Lib.hid (HA3.out.next hA)
  clear hA
  go_wp2_with fail
  refine (HD.out _).mono ?_
  rintro e w5 ⟨rfl, hA⟩
  have HA5 := Lib.hid (HA4.out.next hA)
  clear hA c1 c2
  obtain ⟨c1, c2, _⟩ := HC.out _ HA5.out
  go_wp2_with fail
  refine (HW.out _).mono ?_
  rintro e w6 ⟨rfl, hA⟩
  have HA6 := Lib.hid (HA5.out.next hA)
  clear hA
  go_wp2_with fail
  refine (HB.out _).mono ?_
  rintro e w' ⟨rfl, rfl⟩
  go_wp2_with fail
  refine (HAW.out _).mono ?_
  rintro e w7 ⟨rfl, hA⟩
  have HA7 := Lib.hid (HC.out _ (HA6.out.next hA)).2.2
  clear hA
  go_wp2
  go_ret
  exact ⟨rfl, HA7.out⟩

end Go.Proofs.Ytjpoiijifnfjhaa
