/- Proved: Versions tells how many versions there are. -/
import Derived.Test.YtjpoiijifnfjhaaPly
import Derived.Sort.MapsRangeIn
namespace Go.Proofs.Ytjpoiijifnfjhaa
open Go.RowKit Go.Maps

/-- How many versions there are of those blocks that f tells. -/
def vs (S : St) : Nat := sg (fun k => (S.V k).length) S.n
theorem At.mv {w w' : World} (h : Mv (fun _ => False) w w') : At w w' := h.at_ (At.start w) fun _ h => h.elim
theorem vs_le {S : St} (h : Ok S) : vs S ≤ 1048576000 := by
  have h1 := sg_le (f := fun k => (S.V k).length) (g := fun _ => 1000) S.n (fun k _ => Nat.le_trans (h.b k) h.c1)
  rw [sg_const] at h1
  have := h.n2
  unfold vs; omega

/-- The sum over the blocks that have come. -/
def cm (S : St) (left : Lit → Bool) : Nat := sg (fun k => if left (ky k) = true then 0 else (S.V k).length) S.n
theorem cm_le {S : St} (left : Lit → Bool) : cm S left ≤ vs S := sg_le S.n fun k _ => by
  show (if left (ky k) = true then 0 else (S.V k).length) ≤ _
  split <;> omega
theorem cm_step {S : St} {left : Lit → Bool} {k : Nat} (hk : k < S.n) (hl : left (ky k) = true) : cm S (fun z => left z && !z.sameKey (ky k)) = cm S left + (S.V k).length := by
  refine sg_bump k _ S.n hk fun j _ => ?_
  by_cases e : j = k
  · subst e
    have h1 : (left (ky j) && !(ky j).sameKey (ky j)) = false := by rw [WideAt.sameKey_self (own_isKey j)]; simp
    show (if (left (ky j) && !(ky j).sameKey (ky j)) = true then 0 else (S.V j).length) = if j = j then (if left (ky j) = true then 0 else (S.V j).length) + (S.V j).length else _
    rw [h1, hl]; simp
  · have h1 : (left (ky j) && !(ky j).sameKey (ky k)) = left (ky j) := by rw [Maps.sameKey_ne (fun h => e (ky_inj h))]; simp
    show (if (left (ky j) && !(ky j).sameKey (ky k)) = true then 0 else (S.V j).length) = if j = k then _ else if left (ky j) = true then 0 else (S.V j).length
    rw [h1, if_neg e]

set_option maxHeartbeats 1000000 in
set_option maxRecDepth 100000 in
theorem versions_any {w : World} {b : Nat} {S : St} {F : Nat → Prop} {mb : Nat} {D : DataW Value} {hd : Nat → Value} (h : Mq w b S F mb D hd) :
    Calls Try.prog 15 #[.pointer (some ⟨b, 0, none⟩)] w (Gives (.int .i64 (vs S : Int)) w) := by
  have HA := Lib.hid (all_mp h)
  have HM := Lib.hid h
  have HC := Lib.hid (fun left => cm_le (S := S) left)
  have hvs := vs_le h.ok
  have H0 : Hid (cm S (Maps.has D) = 0) := Lib.hid (by
    unfold cm
    rw [sg_congr (g := fun _ => 0) S.n fun k _ => by
      by_cases e : S.V k = []
      · simp [e]
      · rw [if_pos ((h.has k).2 e)], sg_zero])
  clear h
  go_enter Try.func15, Try.ntmps15
  go_wp2_with fail
  refine HA.out.mono ?_
  rintro e w' ⟨rfl, rfl⟩
  go_wp2_with (first | (at_range; refine wpList_range_own _ rfl _ 60 rfl 3 66 int_key Try.underlying60 raw mb _ D rfl HM.out.own ?_; intro w0 hrg0 hg0 hs0) | go_in)
  go_frame
  have HA0 : Hid (At w w0) := Lib.hid (At.mv ((Mv.refl _ w).grown hg0 (fun k e => by cases e)))
  have HRG0 := Lib.hid hrg0
  clear hrg0 hg0 hs0
  go_loopw [3] (fun c3 wr => ∃ (left : Lit → Bool) (cnt v : Nat), wr.ranges Try.prog 3 raw mb w.heap.size (Maps.size D) D left cnt ∧ c3 = .int .i64 (v : Int) ∧ Hid (v = cm S left) ∧ Hid (At w wr)) (fun _ wr => wr.rangeLeft mb w.heap.size)
  case atStart => exact ⟨_, _, 0, HRG0.out, rfl, Lib.hid H0.out.symm, HA0⟩
  case round =>
    obtain ⟨left, cnt, v, hrg, rfl, HV, HAT⟩ := hrel
    go_wp2_with (first
      | (at_next; refine wpList_next_ranges _ rfl _ rfl 3 int_key raw encZ id (fun key kl hk => by obtain ⟨x, hx, _⟩ := Maps.keyOf_i64 Try.underlying3 hk; exact ⟨x, hx⟩) (fun v _ _ => ⟨v, rfl⟩) mb w.heap.size (Maps.size D) _ _ _ rfl hrg ?_ ?_)
      | go_in)
    · intro hc0 hl0
      have HE : Hid (v = vs S) := Lib.hid (by
        rw [HV.out]
        exact sg_congr S.n fun k _ => by show (if left (ky k) = true then 0 else (S.V k).length) = _; rw [hl0]; simp)
      clear hc0 hl0
      go_wp2
      go_ret
      exact ⟨by rw [HE.out]; rfl, HAT.out⟩
    · intro x c kl yd yp w2 cnt2 hkey hlk hv hat hrg2 hlt hg2 hs2 hen
      obtain ⟨x', ex, rfl, _⟩ := Maps.keyOf_i64 Try.underlying3 hkey
      obtain rfl : x = x' := encZ_inj ex
      obtain ⟨k, hkS, hkk⟩ := HM.out.only _ (Maps.has_true_of_atKey hat)
      have hxk : x = (k : Int) := by unfold ky at hkk; injection hkk
      subst hxk
      have hc : c = hd k := by
        have h1 := hat (.held nl)
        rw [show (Lit.int .i64 (k : Int)) = ky k from rfl, HM.out.at_ k] at h1
        have h2 : (some (DataW.held c, ([] : List MemPlace))) = some (yd, yp) := hv
        injection h2 with h2
        injection h2 with h2 _
        rw [← h2] at h1
        injection h1 with h1
        exact h1.symm
      subst hc
      have hst := cm_step (left := left) hkS hlk
      have hle := HC.out (fun z => left z && !z.sameKey (ky k))
      rw [hst, ← HV.out] at hle
      have hle2 : v + (S.V k).length ≤ 1048576000 := Nat.le_trans hle hvs
      obtain ⟨A, cc, hhd, _, _, _⟩ := HM.out.vv k
      obtain ⟨m, hm⟩ : ∃ m, m = (S.V k).length := ⟨_, rfl⟩
      rw [← hm] at hhd hle2 hst
      have HST := Lib.hid hst
      have HA2 : Hid (At w w2) := Lib.hid (At.mv ((Mv.of_below (fun _ => False) HAT.out).grown hg2 (fun j e => by injection e with e; right; omega)))
      have hen2 : (Instr.entry (.pointer (some ⟨w.heap.size, 0, none⟩))).run Try.prog w2 = .ok (.tuple #[.int .i64 (k : Int), .slice A m cc]) w2 := by
        have := hen
        rw [hhd] at this
        exact this
      rw [hhd]
      have hlt2 := Lib.hid hlt
      clear hen hkey hlk hv hat hg2 hs2 hst hle hhd hm hkk hlt
      go_wp2
      go_roundw
      case rel => exact ⟨_, cnt2, v + m, hrg2, by go_num, Lib.hid (by rw [HV.out]; exact HST.out.symm), HA2⟩
      case measure => rw [hrg2.left_eq, hrg.left_eq]; exact hlt2.out

end Go.Proofs.Ytjpoiijifnfjhaa
