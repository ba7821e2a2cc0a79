/- Proved: the law's own small buffer answers as the document fixes it. -/
import Derived.Test.YthaiddhbifakhaaDm
namespace Go.Proofs.Ythaiddhbifakhaa
open Go.RowKit

set_option maxHeartbeats 400000 in
theorem data_any (k : Int) (w : World) : Calls Try.prog 24 #[.int .i64 k] w fun x w' => ∃ g, x = .returned (.slice (some ⟨g, 0, none⟩) 40 40) ∧ w.heap.size ≤ g ∧ BV w' (some ⟨g, 0, none⟩) (bk k) ∧ At w w' := by
  have HB := Lib.hid (block_any k w)
  go_enter Try.func24, Try.ntmps24
  go_wp2_with fail
  refine HB.out.mono ?_
  rintro e w' ⟨g, rfl, h1, h2, h3⟩
  have H1 := Lib.hid h1
  have H2 := Lib.hid h2
  have H3 := Lib.hid h3
  clear h1 h2 h3
  go_wp2
  go_ret
  exact ⟨g, rfl, H1.out, H2.out, H3.out⟩

/-- A buffer of the call's own. -/
structure Bo (w0 w : World) (b mb : Nat) (S : St) : Prop where
  bf : Bf w b mb S
  at_ : At w0 w
  hb : w0.heap.size ≤ b
  hm : w0.heap.size ≤ mb
section
variable {w0 w w' : World} {b mb : Nat} {S S' : St}
theorem Bo.on (h : Bo w0 w b mb S) (hA : At w w') : Bo w0 w' b mb S := ⟨h.bf.on hA, h.at_.next hA, h.hb, h.hm⟩
theorem Bo.wrote (h : Bo w0 w b mb S) (hb : Bf w' b mb S') (hm : Mv (fun g => g = mb) w w') : Bo w0 w' b mb S' := ⟨hb, hm.at_ h.at_ fun g hg => by rw [hg]; exact h.hm, h.hb, h.hm⟩
theorem Bo.back {wa : World} (h : Bo w0 w b mb S) (ha : At wa w0) : Bo wa w b mb S := ⟨h.bf, ha.next h.at_, Nat.le_trans ha.size h.hb, Nat.le_trans ha.size h.hm⟩
end
theorem bo_new {n : Nat} {m : Int} {w : World} {e : Ending} {w' : World} (h : News n m w e w') : ∃ b mb, e = .returned (.tuple #[.pointer (some ⟨b, 0, none⟩), .int .i64 0]) ∧ Bo w w' b mb (st0 n m) := by
  obtain ⟨b, mb, rfl, h1, h2, h3, h4⟩ := h
  exact ⟨b, mb, rfl, h1, h4, h2, h3⟩
/-- A literal row of blocks. -/
theorem pv_row {w : World} {q : Nat} {l : List (Pt × Nat × Nat)} {cs : Array Value} (h : w.heap[q]? = some (.cells cs 56 (0, 0))) (hc : cs = (pcs l).toArray) (hb : ∀ x ∈ l, BV w (some ⟨x.2.1, 0, none⟩) x.1.2) : PV w (some ⟨q, 0, none⟩) (l.map (·.1)) := by
  subst hc
  refine Or.inr ⟨q, 0, rfl, lt_heap h, fun j hj => ?_⟩
  rw [List.length_map] at hj
  have hx : (l.map (·.1)).getD j pz = l[j].1 := by rw [List.getD_eq_getElem?_getD, List.getElem?_map, List.getElem?_eq_getElem hj]; rfl
  obtain ⟨h1, h2⟩ := pcs_at l j l[j] (List.getElem?_eq_getElem hj)
  rw [hx]
  refine ⟨?_, some ⟨l[j].2.1, 0, none⟩, l[j].2.2, ?_, hb _ (List.getElem_mem hj)⟩
  · rw [cell_at h, Nat.zero_add, List.getElem?_toArray]; exact h1
  · rw [cell_at h, Nat.zero_add, List.getElem?_toArray]; exact h2
theorem fine_one {n : Nat} {m : Int} {x : Int} {d : List Nat} (h1 : 0 ≤ x) (h2 : x < (n : Int)) (h3 : d.length = 40) (hm : 1 ≤ m) : Fine (st0 n m) [(x, d)] := by
  have hd : d ≠ [] := fun e => by rw [e] at h3; cases h3
  refine ⟨⟨by simp, fun p hp => by rw [List.mem_singleton] at hp; subst hp; exact ⟨h1, h2⟩, fun p hp => by rw [List.mem_singleton] at hp; subst hp; exact h3⟩, by unfold Un; simp, ?_⟩
  rw [us_one (S := st0 n m) (p := (x, d)) h1 h2 hd, us_st0]
  show ((0 + if ([] : List Nat).isEmpty then 1 else 0 : Nat) : Int) ≤ m
  simpa using hm
theorem one_len {n : Nat} {m : Int} {x : Int} {d : List Nat} (h1 : 0 ≤ x) (h2 : x < (n : Int)) (h3 : d.length = 40) : (us (upS (st0 n m) [(x, d)])).length = 1 := by
  have hd : d ≠ [] := fun e => by rw [e] at h3; cases h3
  rw [us_one (S := st0 n m) (p := (x, d)) h1 h2 hd, us_st0]; rfl
theorem awk_two (d : List Nat) (h3 : d.length = 40) : rf (st0 10 16) [(3, d), (3, d)] = 4 := by
  refine rf_over ⟨by simp, fun p hp => ?_, fun p hp => ?_⟩ (by unfold Un; simp)
  · have : p = (3, d) := by simpa using hp
    subst this; exact ⟨show (0 : Int) ≤ 3 by omega, show (3 : Int) < ((10 : Nat) : Int) by omega⟩
  · have : p = (3, d) := by simpa using hp
    subst this; exact h3

set_option maxHeartbeats 2000000 in
set_option maxRecDepth 100000 in
theorem awake_any (w : World) : Calls Try.prog 9 #[] w (Gives (.bool true) w) := by
  have HN := Lib.hid (new_ok 10 16 (by omega) (by omega) (by omega) w)
  rw [show ((10 : Nat) : Int) = 10 from rfl] at HN
  go_enter Try.func9, Try.ntmps9
  go_wp2_with fail
  refine HN.out.mono ?_
  rintro e w1 hnew
  obtain ⟨b, mb, rfl, hbo⟩ := bo_new hnew
  have HBO := Lib.hid hbo
  clear hnew hbo HN
  go_wp2_with fail
  refine (data_any 1 w1).mono ?_
  rintro e w2 ⟨g, rfl, hg, hb, hA⟩
  have HB := Lib.hid hb
  have HBO2 := Lib.hid (HBO.out.on hA)
  clear hg hb hA HBO
  obtain ⟨q, hq⟩ : ∃ q, w2.heap.size = q := ⟨_, rfl⟩
  obtain ⟨w3, hw3⟩ : ∃ w3, w2.alloc (.cells #[.int .i64 3, .slice (some ⟨g, 0, none⟩) 40 40, .int .i64 3, .slice (some ⟨g, 0, none⟩) 40 40] 56) = w3 := ⟨_, rfl⟩
  have hA3 : At w2 w3 := by rw [← hw3]; exact (At.start w2).alloc _
  have hQ : w3.heap[q]? = some (.cells #[.int .i64 3, .slice (some ⟨g, 0, none⟩) 40 40, .int .i64 3, .slice (some ⟨g, 0, none⟩) 40 40] 56 (0, 0)) := by rw [← hw3, ← hq]; exact heap_alloc_new _ _
  have HB3 := Lib.hid (HB.out.below hA3)
  have HBO3 := Lib.hid (HBO2.out.on hA3)
  have hpv := pv_row (l := [(((3 : Int), bk 1), g, 40), (((3 : Int), bk 1), g, 40)]) hQ (by simp only [pcs, bk_len]) (fun x hx => by
    have : x = (((3 : Int), bk 1), g, 40) := by simpa using hx
    subst this; exact HB3.out)
  have HW := Lib.hid (write_any HBO3.out.bf (some ⟨q, 0, none⟩) [(3, bk 1), (3, bk 1)] 2 2 rfl (by omega) hpv (fun p hp => by
    have : p = (3, bk 1) := by simpa using hp
    subst this; exact bk_byte 1))
  rw [awk_two _ (bk_len 1), wr_no (by rw [awk_two _ (bk_len 1)]; decide)] at HW
  clear hA3 hQ hpv HB HBO2
  go_wp2_with fail
  refine HW.out.mono ?_
  rintro e w4 ⟨rfl, hbf, hmv⟩
  have HBO4 := Lib.hid (HBO3.out.wrote hbf hmv)
  obtain ⟨es, clock, hmap⟩ := HBO3.out.bf.map
  have HB4 := Lib.hid (HB3.out.mvm hmap hmv)
  clear hbf hmv hmap HB3 HBO3 HW hw3 hq
  obtain ⟨q2, hq⟩ : ∃ q2, w4.heap.size = q2 := ⟨_, rfl⟩
  obtain ⟨w5, hw5⟩ : ∃ w5, w4.alloc (.cells #[.int .i64 3, .slice (some ⟨g, 0, none⟩) 40 40] 56) = w5 := ⟨_, rfl⟩
  have hA5 : At w4 w5 := by rw [← hw5]; exact (At.start w4).alloc _
  have hQ : w5.heap[q2]? = some (.cells #[.int .i64 3, .slice (some ⟨g, 0, none⟩) 40 40] 56 (0, 0)) := by rw [← hw5, ← hq]; exact heap_alloc_new _ _
  have HB5 := Lib.hid (HB4.out.below hA5)
  have HBO5 := Lib.hid (HBO4.out.on hA5)
  have hpv := pv_row (l := [(((3 : Int), bk 1), g, 40)]) hQ (by simp only [pcs, bk_len]) (fun x hx => by
    rw [List.mem_singleton] at hx; subst hx; exact HB5.out)
  have hfi : Fine (st0 10 16) [(3, bk 1)] := fine_one (by omega) (by decide) (bk_len 1) (by omega)
  have HW := Lib.hid (write_any HBO5.out.bf (some ⟨q2, 0, none⟩) [(3, bk 1)] 1 1 rfl (by omega) hpv (fun p hp => by
    rw [List.mem_singleton] at hp; subst hp; exact bk_byte 1))
  rw [hfi.rf, wr_yes hfi.rf] at HW
  clear hA5 hQ hpv HB4 HBO4 hfi
  go_wp2_with fail
  refine HW.out.mono ?_
  rintro e w6 ⟨rfl, hbf, hmv⟩
  have HBO6 := Lib.hid (HBO5.out.wrote hbf hmv)
  clear hbf hmv HB5 HBO5 HW hw5 hq
  have HL := Lib.hid (len_bf HBO6.out.bf)
  rw [one_len (by omega) (by decide) (bk_len 1)] at HL
  go_wp2_with fail
  refine HL.out.mono ?_
  rintro e w' ⟨rfl, rfl⟩
  have HE : Hid (At w w6) := Lib.hid HBO6.out.at_
  go_wp2
  go_ret
  exact ⟨rfl, HE.out⟩

end Go.Proofs.Ythaiddhbifakhaa
