/- Proved: what the document fixes: a batch of one transaction, written. Which transactions are looked at. -/
import Derived.Test.YtgmekkenodiclaaEc
import Derived.Test.YtgmekkenodiclaaDe
import Derived.Test.YtgmekkenodiclaaBk
import Derived.Test.YtgmekkenodiclaaSm
namespace Go.Proofs.Ytgmekkenodiclaa
open Go.RowKit

/-- A row of one block, of one transaction, just laid. -/
theorem pv_one {w' : World} {g : Nat} {l : Int} {A : Option Addr} {D : List Nat} {n c : Nat} (hg : w'.heap[g]? = some (.cells #[.int .i64 l, .slice A n c] 47 (0, 0))) (hn : D.length = n) (hv : BV w' A D) : PV w' (some ⟨g, 0, none⟩) [(l, D)] := by
  refine Or.inr ⟨g, 0, rfl, lt_heap hg, fun j hj => ?_⟩
  obtain rfl : j = 0 := by simpa using hj
  exact ⟨(cell_at hg 0).trans rfl, A, c, (cell_at hg 1).trans (by rw [← hn]; rfl), hv⟩
theorem tv_one {w' : World} {g : Nat} {t : Int} {A : Option Addr} {P : List Pt} {n c : Nat} (hg : w'.heap[g]? = some (.cells #[.int .i64 t, .slice A n c] 44 (0, 0))) (hn : P.length = n) (hv : PV w' A P) : TV w' (some ⟨g, 0, none⟩) [(t, P)] := by
  refine Or.inr ⟨g, 0, rfl, lt_heap hg, fun j hj => ?_⟩
  obtain rfl : j = 0 := by simpa using hj
  exact ⟨(cell_at hg 0).trans rfl, A, c, (cell_at hg 1).trans (by rw [← hn]; rfl), hv⟩
/-- The one batch. -/
def awL : List Tx := [(5, [(3, bk 1)])]
theorem aw_bk : Bk 1 awL := by
  refine ⟨by decide, by decide, by decide, by decide, ?_, ?_, by simp [awL, tot], ?_, ?_, ?_⟩
  · intro j hj
    obtain rfl : j = 0 := by simpa [awL] using hj
    refine ⟨by show (0 : Int) < 5; decide, by show (5 : Int) ≤ 1099511627776; decide, by show [((3 : Int), bk 1)] ≠ []; simp, fun i h1 h2 => ?_⟩
    have h2 : i < 1 := h2
    omega
  · intro j hj
    have : awL.length = 1 := rfl
    omega
  · intro x hx; rw [List.mem_singleton.1 hx]; decide
  · intro x hx p hp
    rw [List.mem_singleton.1 hx] at hp
    rw [List.mem_singleton.1 hp]; exact ⟨by decide, by decide⟩
  · intro x hx p hp
    rw [List.mem_singleton.1 hx] at hp
    rw [List.mem_singleton.1 hp]; exact bk_len 1
theorem aw_pb : Pb (fla awL) := fun p hp => by
  rw [List.mem_singleton.1 (show p ∈ [((3 : Int), bk 1)] from hp)]
  exact bk_byte 1
theorem aw_tot : tot awL = 1 := rfl
theorem rl_at {w0 w : World} {g n c : Nat} {l : List Rl} (h : OR w0 w (.slice (some ⟨g, 0, none⟩) n c) l) {j : Nat} (hj : j < l.length) : ∃ (A : Option Addr) (d : Nat), w.cell? ⟨g, j, none⟩ = some (.slice A ((l.map (·.1)).getD j rz).length d) ∧ ((l.map (·.1)).getD j rz).length ≤ d ∧ BV w A ((l.map (·.1)).getD j rz) := by
  have e : (l.map (·.1)).getD j rz = (l[j]).1 := by rw [List.getD_eq_getElem?_getD, List.getElem?_map, List.getElem?_eq_getElem hj]; rfl
  have k1 := h.cell kR (List.getElem?_eq_getElem hj) (i := 0) (u := .slice (l[j]).2.1 (l[j]).1.length (l[j]).2.2) rfl
  have k2 := h.gd _ (List.getElem_mem hj)
  rw [e]
  rw [Nat.mul_one, Nat.add_zero] at k1
  exact ⟨_, _, k1, k2.2, k2.1.bv⟩

set_option maxHeartbeats 2000000 in
set_option maxRecDepth 100000 in
theorem awake_any (w : World) : Calls Try.prog 9 #[] w (Gives (.bool true) w) := by
  have HD := Lib.hid (data_any 1 w)
  go_enter Try.func9, Try.ntmps9
  go_wp2_with fail
  refine HD.out.mono ?_
  rintro x w1 ⟨g, rfl, _, hv, hA⟩
  obtain ⟨q2, hq2⟩ : ∃ q, w1.heap.size = q := ⟨_, rfl⟩
  obtain ⟨w2, hw2⟩ : ∃ w2, w1.alloc (.cells #[.int .i64 3, .slice (some ⟨g, 0, none⟩) 40 40] 47) = w2 := ⟨_, rfl⟩
  obtain ⟨q3, hq3⟩ : ∃ q, w2.heap.size = q := ⟨_, rfl⟩
  obtain ⟨w3, hw3⟩ : ∃ w3, w2.alloc (.cells #[.int .i64 5, .slice (some ⟨q2, 0, none⟩) 1 1] 44) = w3 := ⟨_, rfl⟩
  obtain ⟨q4, hq4⟩ : ∃ q, w3.heap.size = q := ⟨_, rfl⟩
  obtain ⟨w4, hw4⟩ : ∃ w4, w3.alloc (.cells #[.int .i64 1, .slice (some ⟨q3, 0, none⟩) 1 1] 27) = w4 := ⟨_, rfl⟩
  have h12 : At w1 w2 := by rw [← hw2]; exact (At.start w1).alloc _
  have h23 : At w2 w3 := by rw [← hw3]; exact (At.start w2).alloc _
  have h34 : At w3 w4 := by rw [← hw4]; exact (At.start w3).alloc _
  have HA4 : Hid (At w w4) := Lib.hid (((At.next hA h12).next h23).next h34)
  have p2 : w2.heap[q2]? = some (.cells #[.int .i64 3, .slice (some ⟨g, 0, none⟩) 40 40] 47 (0, 0)) := by rw [← hw2, ← hq2]; exact heap_alloc_new w1 _
  have p3 : w3.heap[q3]? = some (.cells #[.int .i64 5, .slice (some ⟨q2, 0, none⟩) 1 1] 44 (0, 0)) := by rw [← hw3, ← hq3]; exact heap_alloc_new w2 _
  have hpv : PV w2 (some ⟨q2, 0, none⟩) [(3, bk 1)] := pv_one p2 (bk_len 1) (hv.below h12)
  have htv : TV w3 (some ⟨q3, 0, none⟩) awL := tv_one p3 rfl (hpv.on h23)
  have HTV := Lib.hid (htv.on h34)
  have HB4 : Hid (Bb w4 q4 1 (.slice (some ⟨q3, 0, none⟩) 1 1)) := Lib.hid (by rw [← hw4, ← hq4]; exact bb_new _ _ _)
  have HE := Lib.hid (bencode_any 1 7 (some ⟨q3, 0, none⟩) awL 1 1 rfl (by omega) (by rw [aw_tot]; omega) aw_pb 2 (by rw [aw_tot]) w4 HTV.out)
  have HBL := Lib.hid (fun W (hW : At w4 W) => blocks_any 1 (some ⟨q3, 0, none⟩) awL 1 1 rfl (by omega) (by rw [aw_tot]; omega) 2 (by rw [aw_tot]) W (HTV.out.on hW))
  obtain ⟨b0, b1⟩ := HB4.out.cells
  clear hA hv h12 h23 h34 p2 p3 hpv htv
  go_wp2_with fail
  refine HE.out.mono ?_
  rintro x w5 (⟨_, B, d, l, rfl, hl, hm, _, ho⟩ | ⟨h, _⟩)
  rotate_left
  · exact absurd ⟨aw_bk, by decide, by decide⟩ h
  obtain ⟨g5, c5, he5, hc5, hg5, _⟩ := ho.pos (by omega)
  injection he5 with e1 e2 e3
  subst e1
  obtain ⟨A1, d1, k1, k2, k3⟩ := rl_at ho (j := 1) (by omega)
  have hrow : (l.map (·.1)).getD 1 rz = en 2 7 1 1 (bd awL) := by rw [hm]; rfl
  have hmay := may_c aw_bk (e := 7) (by omega)
  rw [aw_tot] at hmay
  have hlen : (en 2 7 1 1 (bd awL)).length = 64 := en_len hmay.n
  rw [hrow] at k1 k2 k3
  rw [hlen] at k1 k2
  obtain ⟨ga, oa, rfl, _, kc⟩ := k3.pos (by omega)
  have kb := kc 0 (by omega)
  rw [en_head, Nat.add_zero] at kb
  have b0 := (HB4.out.on ho.at_).cells.1
  have b1 := (HB4.out.on ho.at_).cells.2
  have HB := Lib.hid (HBL.out w5 ho.at_)
  have HA5 := Lib.hid (HA4.out.next ho.at_)
  have kb' : w5.cell? ⟨ga, oa, none⟩ = some (.int .u8 2) := kb
  clear hl hm ho hc5 hg5 e2 e3 k2 k3 kc kb hrow hmay hlen
  go_wp2_with fail
  refine HB.out.mono ?_
  rintro x w6 ⟨rfl, hA6⟩
  have HA6 := Lib.hid (HA5.out.next hA6)
  clear hA6
  go_wp2_with fail
  go_ret
  exact ⟨rfl, HA6.out⟩

/-- What small tells. -/
def SmallP (L : List Tx) (w : World) (e : Ending) (w' : World) : Prop := ∃ b : Bool, e = .returned (.bool b) ∧ (b = true → L.length + tot L ≤ 10000 ∧ L.length ≤ 100) ∧ At w w'
set_option maxHeartbeats 1000000 in
set_option maxRecDepth 100000 in
theorem small_any (A : Option Addr) (L : List Tx) (n c : Nat) (hn : L.length = n) (hm : n ≤ maxLen) (hS : ∀ x ∈ L, TOk x) (w : World) (hv : TV w A L) :
    Calls Try.prog 13 #[.slice A n c] w (SmallP L w) := by
  have H := Lib.hid (txs_any A L n c hn hm hS w hv)
  have HN := Lib.hid hn
  clear hn hm hS hv
  go_enter Try.func13, Try.ntmps13
  go_wp2_with fail
  refine H.out.mono ?_
  rintro e w1 ⟨v, rfl, hv, hv1, hA⟩
  have HV := Lib.hid hv1
  have HA := Lib.hid hA
  clear hv1 hA
  by_cases h1 : v ≤ 10000
  · have z1 : decide ((v : Int) ≤ 10000) = true := decide_eq_true (by omega)
    by_cases h2 : n ≤ 100
    · have z2 : decide ((n : Int) ≤ 100) = true := decide_eq_true (by omega)
      go_wp2_with fail
      go_ret
      exact ⟨true, rfl, fun _ => ⟨Nat.le_trans (HV.out h1) h1, by rw [HN.out]; exact h2⟩, HA.out⟩
    · have z2 : decide ((n : Int) ≤ 100) = false := decide_eq_false (by omega)
      go_wp2_with fail
      go_ret
      exact ⟨false, rfl, fun h => (by cases h), HA.out⟩
  · have z1 : decide ((v : Int) ≤ 10000) = false := decide_eq_false (by omega)
    go_wp2_with fail
    go_ret
    exact ⟨false, rfl, fun h => (by cases h), HA.out⟩

end Go.Proofs.Ytgmekkenodiclaa
