/- Proved: the law WbufNothing's walk: of no buffer each call answers as the document says. -/
import Derived.Test.YthaiddhbifakhaaAwk
import Derived.Test.YthaiddhbifakhaaSet
import Derived.Test.YthaiddhbifakhaaIEx
namespace Go.Proofs.Ythaiddhbifakhaa
open Go.RowKit

set_option maxHeartbeats 2000000 in
set_option maxRecDepth 100000 in
theorem nothing_any (k : Int) (hk : (ky k).wf = true) (w : World) : Calls Try.prog 6 #[.int .i64 k] w (Gives (.bool true) w) := by
  have HG := Lib.hid (get_nil k hk)
  have HS := Lib.hid set_nil
  have HW0 := Lib.hid (fun W => write_nil (w := W) none [] 0 0 rfl (by omega) (PV.nil _ _))
  rw [if_pos rfl] at HW0
  have HLN := Lib.hid len_nil
  have HP := Lib.hid puts_nil
  have HAW := Lib.hid awake_any
  clear hk
  go_enter Try.func6, Try.ntmps6
  go_wp2_with fail
  refine (HG.out _).mono ?_
  rintro e w1 ⟨rfl, hA⟩
  have HA1 : Hid (At w w1) := Lib.hid hA
  clear hA
  go_wp2_with fail
  refine (HS.out _).mono ?_
  rintro e w2 ⟨b, v, M, rfl, hse, his⟩
  have hM : M = [] := Iv.nm_one his.1 Iv.Nm.nil his.2
  subst hM
  have HSE := Lib.hid hse
  have HA2 : Hid (At w w2) := Lib.hid (HA1.out.next hse.at_)
  clear hse his
  go_wp2_with fail
  refine (data_any 1 w2).mono ?_
  rintro e w3 ⟨g, rfl, hg, hb, hA⟩
  obtain ⟨q, hq⟩ : ∃ q, w3.heap.size = q := ⟨_, rfl⟩
  obtain ⟨w4, hw4⟩ : ∃ w4, w3.alloc (.cells #[.int .i64 k, .slice (some ⟨g, 0, none⟩) 40 40] 56) = w4 := ⟨_, rfl⟩
  have hA4 : At w3 w4 := by rw [← hw4]; exact (At.start w3).alloc _
  have hQ : w4.heap[q]? = some (.cells #[.int .i64 k, .slice (some ⟨g, 0, none⟩) 40 40] 56 (0, 0)) := by rw [← hw4, ← hq]; exact heap_alloc_new _ _
  have hpv := pv_row (l := [((k, bk 1), g, 40)]) hQ (by simp only [pcs, bk_len]) (fun x hx => by
    rw [List.mem_singleton] at hx; subst hx; exact hb.below hA4)
  have HW := Lib.hid (write_nil (some ⟨q, 0, none⟩) [(k, bk 1)] 1 1 rfl (by omega) hpv)
  rw [if_neg (by omega)] at HW
  have HA4 := Lib.hid (HA2.out.next (hA.next hA4))
  have HSE4 := Lib.hid (HSE.out.on (hA.next hA4))
  clear hg hb hA hA4 hQ hpv HSE HA1 HA2
  go_wp2_with fail
  refine HW.out.mono ?_
  rintro e w5 ⟨rfl, hA⟩
  have HA5 := Lib.hid (HA4.out.next hA)
  have HSE5 := Lib.hid (HSE4.out.on hA)
  clear hA HA4 HSE4 HW
  go_wp2_with fail
  refine (HW0.out _).mono ?_
  rintro e w6 ⟨rfl, hA⟩
  have HA6 := Lib.hid (HA5.out.next hA)
  have HSE6 := Lib.hid (HSE5.out.on hA)
  clear hA HA5 HSE5
  go_wp2_with fail
  refine (HLN.out _).mono ?_
  rintro e w' ⟨rfl, rfl⟩
  go_wp2_with fail
  refine (HP.out _).mono ?_
  rintro e w7 ⟨rfl, hA⟩
  have HA7 := Lib.hid (HA6.out.next hA)
  have HSE7 := Lib.hid (HSE6.out.on hA)
  clear hA HA6 HSE6
  have HC := Lib.hid (Iv.count_any HSE7.out.sv (by simp))
  go_wp2_with fail
  refine HC.out.mono ?_
  rintro e w8 ⟨rfl, hA⟩
  have HA8 := Lib.hid (HA7.out.next hA)
  clear hA
  rw [show Iv.sm [] = 0 from rfl]
  go_wp2_with fail
  refine (HAW.out _).mono ?_
  rintro e w9 ⟨rfl, hA⟩
  have HA9 := Lib.hid (HA8.out.next hA)
  clear hA
  go_wp2
  go_ret
  exact ⟨rfl, HA9.out⟩

end Go.Proofs.Ythaiddhbifakhaa
