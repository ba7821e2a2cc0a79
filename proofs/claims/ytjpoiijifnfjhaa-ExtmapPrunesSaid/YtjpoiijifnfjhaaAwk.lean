/- Proved: the law's own small map answers as the document fixes it. -/
import Derived.Test.YtjpoiijifnfjhaaNew
namespace Go.Proofs.Ytjpoiijifnfjhaa
open Go.RowKit

set_option maxHeartbeats 400000 in
theorem data_any (k : Int) (w : World) : Calls Try.prog 25 #[.int .i64 k] w fun x w' => ∃ g, x = .returned (.slice (some ⟨g, 0, none⟩) 40 40) ∧ w.heap.size ≤ g ∧ BV w' (some ⟨g, 0, none⟩) (bk k) ∧ At w w' := by
  have HB := Lib.hid (block_any k w)
  go_enter Try.func25, Try.ntmps25
  go_wp2_with fail
  refine HB.out.mono ?_
  rintro e w' ⟨g, rfl, h1, h2, h3⟩
  have H1 := Lib.hid h1
  have H2 := Lib.hid h2
  have H3 := Lib.hid h3
  clear h1 h2 h3
  go_wp2
  go_ret
  exact ⟨g, rfl, H1.out, H2.out, H3.out⟩

theorem bv_mv {w w' : World} {F : Nat → Prop} {g o : Nat} {L : List Nat} (h : BV w (some ⟨g, o, none⟩) L) (hm : Mv F w w') (hF : ¬ F g) : BV w' (some ⟨g, o, none⟩) L := by
  rcases h with rfl | ⟨b, o, he, hlt, hc⟩
  · exact Or.inl rfl
  · injection he with he
    injection he with h1 h2
    subst h1 h2
    exact Or.inr ⟨_, _, rfl, Nat.lt_of_lt_of_le hlt hm.size, fun j hj => (World.cell?_of_block (a := ⟨g, _ + j, none⟩) (hm.block g hlt hF)).trans (hc j hj)⟩
theorem fine_one (T : Int) (h0 : 0 < T) (h1 : T ≤ 1099511627776) (n : Nat) (hn : 1 ≤ n) (d : List Nat) (hd : d.length = 40) : Fine (st0 n) T [(0, d)] :=
  ⟨h0, h1, by simp, fun j a b => by simp at b; omega, fun j hj => by simp at hj; subst hj; exact Int.le_refl _, fun j hj => by simp at hj; subst hj; show (0 : Int) < (n : Int); omega, fun j hj => by simp at hj; subst hj; exact hd⟩

set_option maxHeartbeats 2000000 in
set_option maxRecDepth 100000 in
theorem awake_any (w : World) : Calls Try.prog 9 #[] w (Gives (.bool true) w) := by
  have HN := Lib.hid (new_any 3 (by omega) (by omega) w)
  rw [show ((3 : Nat) : Int) = 3 from rfl] at HN
  go_enter Try.func9, Try.ntmps9
  go_wp2_with fail
  refine HN.out.mono ?_
  rintro e w1 ⟨b, F, rfl, hm, hF, hA⟩
  have HM := Lib.hid hm
  have HF := Lib.hid hF
  have HA := Lib.hid hA
  clear hm hF hA
  go_wp2_with fail
  refine (data_any 1 w1).mono ?_
  rintro e w2 ⟨g, rfl, hg, hb, hA⟩
  have HG := Lib.hid hg
  have HB := Lib.hid hb
  have HA2 := Lib.hid hA
  clear hg hb hA
  go_wp2_with fail
  have hA3 : At w2 (w2.alloc (.cells #[.int .i64 0, .slice (some ⟨g, 0, none⟩) 40 40] 38)) := (At.start w2).alloc _
  obtain ⟨q, hq⟩ : ∃ q, q = w2.heap.size := ⟨_, rfl⟩
  have HQ : Hid ((w2.alloc (.cells #[.int .i64 0, .slice (some ⟨g, 0, none⟩) 40 40] 38)).heap[q]? = some (.cells #[.int .i64 0, .slice (some ⟨g, 0, none⟩) 40 40] 38 (0, 0))) := Lib.hid (by rw [hq]; exact heap_alloc_new _ _)
  have HQL : Hid (w1.heap.size ≤ q) := Lib.hid (by rw [hq]; exact HA2.out.size)
  rw [← hq]
  have HA3 := Lib.hid hA3
  have HB3 := Lib.hid (HB.out.below hA3)
  clear hA3 hq
  generalize w2.alloc (.cells #[.int .i64 0, .slice (some ⟨g, 0, none⟩) 40 40] 38) = w3 at HQ HA3 HB3 ⊢
  obtain ⟨mb, D, hd, hm⟩ := HM.out
  have hft := hm.ft
  have hm3 := hm.on (HA2.out.next HA3.out)
  have hap := apply_ok hm3 1 (some ⟨q, 0, none⟩) [(0, bk 1)] 1 1 rfl (by omega) (fun W hW => by
    have hnq : ¬ F q := fun h => by have := hft q h; have := HQL.out; omega
    have hng : ¬ F g := fun h => by have := hft g h; have := HG.out; omega
    have hqw := hW.keep HQ.out hnq
    refine Or.inr ⟨q, 0, rfl, lt_heap hqw, fun j hj => ?_⟩
    have hj0 : j = 0 := by simp at hj; omega
    subst hj0
    refine ⟨(cell_at hqw 0).trans rfl, some ⟨g, 0, none⟩, 40, (cell_at hqw 1).trans ?_, bv_mv HB3.out hW hng⟩
    show some (Value.slice (some ⟨g, 0, none⟩) 40 40) = some (Value.slice (some ⟨g, 0, none⟩) (bk 1).length 40)
    rw [bk_len]) (fun p hp => by rw [List.mem_singleton] at hp; subst hp; exact bk_byte 1) (fine_one 1 (by omega) (by omega) 3 (by omega) _ (bk_len 1)) (fine_one 1 (by omega) (by omega) 3 (by omega) _ (bk_len 1)).rf (by show 0 < 1000; omega)
  have HAP := Lib.hid hap
  clear hap hm hm3 hft
  refine HAP.out.mono ?_
  rintro e w4 ⟨F', rfl, ⟨mb', D', hd', hm4⟩, hdid⟩
  have HM4 := Lib.hid hm4
  have HA4 : Hid (At w w4) := Lib.hid (hdid.at_ (HA.out.next (HA2.out.next HA3.out)) HF.out)
  clear hm4 hdid HAP HM HF HA HA2 HA3 HB3 HB HQ HQL HG
  have hV : (ap (st0 3) 1 [(0, bk 1)]).V 0 = [(1, bk 1)] := rfl
  have HG0 := Lib.hid (get_any HM4.out 0 (by show 0 < 3; omega) 0)
  rw [hV, show rdv [(1, bk 1)] 0 = zv from rfl] at HG0
  go_wp2_with fail
  refine HG0.out.mono ?_
  rintro e w5 ⟨ga, ca, rfl, hga, hba, hA5⟩
  have HBA := Lib.hid hba
  have HA5 := Lib.hid hA5
  clear hga hba hA5
  have HG9 := Lib.hid (get_any (HM4.out.on HA5.out) 0 (by show 0 < 3; omega) 9)
  rw [hV, show rdv [(1, bk 1)] 9 = (1, bk 1) from rfl] at HG9
  clear hV
  go_wp2_with fail
  refine HG9.out.mono ?_
  rintro e w6 ⟨gb, cb, rfl, hgb, hbb, hA6⟩
  have HBB := Lib.hid hbb
  have HA6 := Lib.hid hA6
  have HBA6 := Lib.hid (HBA.out.below hA6)
  clear hgb hbb hA6
  obtain ⟨b0, o0, he, _, hc0⟩ := HBA6.out.pos (by decide)
  injection he with he
  injection he with he1 he2
  subst he1 he2
  have c0 := hc0 0 (by decide)
  rw [show (zv.2.getD 0 0) = 0 from rfl] at c0
  clear hc0
  go_wp2_with fail
  refine (data_any 1 w6).mono ?_
  rintro e w7 ⟨g7, rfl, hg7, hb7, hA7⟩
  have HB7 := Lib.hid hb7
  have HA7 := Lib.hid hA7
  have HBB7 := Lib.hid (HBB.out.below hA7)
  clear hg7 hb7 hA7
  go_wp2_with fail
  refine (bytes_any _ _ 40 _ _ _ _ w7 (by omega) (bk_len 1) (bk_len 1) (bk_byte 1) (bk_byte 1) HBB7.out HB7.out).mono ?_
  rintro e w' ⟨rfl, kk, rfl⟩
  rw [decide_eq_true (rfl : bk 1 = bk 1)]
  have HE : Hid (At w (w7.drewN kk)) := Lib.hid ((HA4.out.next (HA5.out.next (HA6.out.next HA7.out))).drewN kk)
  go_wp2
  go_ret
  exact ⟨rfl, HE.out⟩

end Go.Proofs.Ytjpoiijifnfjhaa
