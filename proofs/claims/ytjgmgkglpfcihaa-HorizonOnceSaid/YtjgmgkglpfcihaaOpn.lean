/- Proved: a book's calls: Open where one more is let in, Close, Low, New. -/
import Derived.Test.YtjgmgkglpfcihaaCal
namespace Go.Proofs.Ytjgmgkglpfcihaa
open Go.RowKit

/-- What a book's call may have turned. -/
def Bf (b mb : Nat) : Nat → Prop := fun g => g = b ∨ g = mb

section
variable {w : World} {b mb : Nat} {S : St}
set_option maxHeartbeats 1000000 in
theorem open_ok (h : Bk w b mb S) (x : Int) (h0 : 0 ≤ x) (h1 : x ≤ 1099511627776) (hr : (S.H.length : Int) < S.most) (hg : S.g < 1000000) : Calls Try.prog 10 #[.pointer (some ⟨b, 0, none⟩), .int .i64 x] w fun e w' => e = .returned (.tuple #[.int .i64 ((S.g : Int) + 1), .int .i64 0]) ∧ Bk w' b mb (op S x) ∧ Mv (Bf b mb) w w' := by
  have g0 : decide (x < 0) = false := decide_eq_false (by omega)
  have g1 : decide ((1099511627776 : Int) < x) = false := decide_eq_false (by omega)
  have g2 : ¬ S.most ≤ (S.H.length : Int) := by omega
  have HC := Lib.hid (count_bk (h.on ((At.start w).drewN 1)))
  obtain ⟨D, hq⟩ := h
  obtain ⟨c0, c1, c2⟩ := hq.cells
  have f1 := hq.free 1
  have HST : Hid (∃ w2, (Instr.mapUpdate 48 (.map (some mb)) (.int .i64 ((S.g : Int) + 1)) (.int .i64 x)).run Try.prog (((w.drewN 1).setCell ⟨b, 1, none⟩ (.int .i64 ((S.g : Int) + 1))).drew) = .ok () w2 ∧ Bk w2 b mb (op S x) ∧ Mv (Bf b mb) w w2) := Lib.hid (by
    have hb := heap_set (w := w.drewN 1) hq.box 1 (.int .i64 ((S.g : Int) + 1))
    exact hq.store (w1 := ((w.drewN 1).setCell ⟨b, 1, none⟩ (.int .i64 ((S.g : Int) + 1))).drew) (((((Mv.refl (fun g => g = b) w).drewN 1).set (p := ⟨b, 1, none⟩) (Or.inl rfl) _)).drewN 1) hb h0 h1 hg)
  have HD : Hid (((w.drewN 1).setCell ⟨b, 1, none⟩ (.int .i64 ((S.g : Int) + 1))).drew.cell? ⟨b, 2, none⟩ = some (.map (some mb)) ∧ ((w.drewN 1).setCell ⟨b, 1, none⟩ (.int .i64 ((S.g : Int) + 1))).drew.cell? ⟨b, 1, none⟩ = some (.int .i64 ((S.g : Int) + 1))) := Lib.hid (by
    have hb := heap_set (w := w.drewN 1) hq.box 1 (.int .i64 ((S.g : Int) + 1))
    exact ⟨(cell_at (w := ((w.drewN 1).setCell ⟨b, 1, none⟩ (.int .i64 ((S.g : Int) + 1))).drew) hb 2).trans rfl, (cell_at (w := ((w.drewN 1).setCell ⟨b, 1, none⟩ (.int .i64 ((S.g : Int) + 1))).drew) hb 1).trans rfl⟩)
  have hgle : (S.g : Int) ≤ 1000000 := by omega
  clear h0 h1 hr hq
  generalize S.most = m at g2 c0
  generalize S.H.length = n at g2 HC
  obtain ⟨w2, hrun, hbk2, hmv2⟩ := HST.out
  obtain ⟨-, d1, d2⟩ := hbk2.choose_spec.cells
  rw [show (((op S x).g : Nat) : Int) = (S.g : Int) + 1 from by show ((S.g + 1 : Nat) : Int) = _; omega] at d1
  obtain ⟨e2, e1⟩ := HD.out
  have HB2 := Lib.hid hbk2
  have HM2 := Lib.hid hmv2
  clear hbk2 hmv2 HST
  go_enter Try.func10, Try.ntmps10
  go_wp2_with fail
  go_region_held3 (fun w' => w'.cell? ⟨b, 0, none⟩ = some (.int .i64 m)) (go_keep)
    (first | (go_at_call 18; refine HC.out.mono ?_; rintro e w' ⟨rfl, rfl⟩))
  go_wp2_with fail
  go_region_held3 (fun w' => w'.cell? ⟨b, 1, none⟩ = some (.int .i64 ((S.g : Int) + 1)) ∧ w'.cell? ⟨b, 2, none⟩ = some (.map (some mb))) (go_keep) (fail)
  go_wp2
  go_ret2
  exact ⟨rfl, HB2.out, HM2.out⟩
set_option maxHeartbeats 1000000 in
theorem close_bk (h : Bk w b mb S) (k : Int) (hk : (ky k).wf = true) : Calls Try.prog 12 #[.pointer (some ⟨b, 0, none⟩), .int .i64 k] w fun e w' => e = .returned (.int .i64 (cd S k)) ∧ Bk w' b mb (cl S k) ∧ Mv (Bf b mb) w w' := by
  have HAT := Lib.hid (at_bk h k hk)
  by_cases hm : k ∈ S.H
  · obtain ⟨D, hq⟩ := h
    obtain ⟨c0, c1, c2⟩ := hq.cells
    obtain ⟨w2, hrun, hbk2, hmv2⟩ := hq.drop hk 0
    have HB2 := Lib.hid hbk2
    have HM2 := Lib.hid hmv2
    rw [cd_in hm] at HAT ⊢
    clear hbk2 hmv2 hq hm hk c0 c1
    go_enter Try.func12, Try.ntmps12
    go_wp2_with fail
    refine HAT.out.mono ?_
    rintro e w' ⟨rfl, rfl⟩
    go_wp2
    go_ret
    exact ⟨rfl, HB2.out, HM2.out⟩
  · have HB2 := Lib.hid h
    rw [cl_not hm]
    rw [cd_out hm] at HAT ⊢
    clear h hm hk
    go_enter Try.func12, Try.ntmps12
    go_wp2_with fail
    refine HAT.out.mono ?_
    rintro e w' ⟨rfl, rfl⟩
    go_wp2
    go_ret
    exact ⟨rfl, HB2.out, Mv.refl _ _⟩
set_option maxHeartbeats 400000 in
theorem close_nil (k : Int) (hk : (ky k).wf = true) (w : World) : Calls Try.prog 12 #[.pointer none, .int .i64 k] w fun e w' => e = .returned (.int .i64 14) ∧ w = w' := by
  have HAT := Lib.hid (at_nil k hk w)
  clear hk
  go_enter Try.func12, Try.ntmps12
  go_wp2_with fail
  refine HAT.out.mono ?_
  rintro e w' ⟨rfl, rfl⟩
  go_wp2
  go_ret
  exact ⟨rfl, rfl⟩
set_option maxHeartbeats 400000 in
theorem low_nil (now : Int) (w : World) : Calls Try.prog 16 #[.pointer none, .int .i64 now] w (Gives (.int .i64 now) w) := by
  have HA := Lib.hid (all_nil w)
  have hrg := run_range_nilMap (P := Try.prog) w 48 3 3 Try.underlying48
  have hnx : ∀ ty, (Instr.next (.pointer (some ⟨w.heap.size, 0, none⟩)) false ty).run Try.prog (w.alloc (.mapIter none 0 #[] 0)) = _ := fun ty => run_next_nilMap _ ty 0 0 #[]
  go_enter Try.func16, Try.ntmps16
  go_wp2_with fail
  refine HA.out.mono ?_
  rintro e w' ⟨rfl, rfl⟩
  go_wp2
  refine wp_loop_rounds 1 ?_
  rw [rounds_succ]
  go_wp2
  go_ret
  exact ⟨rfl, (At.start w).alloc _⟩
/-- What the walk over the entries has found. -/
def Lw (S : St) (now : Int) (left : Lit → Bool) (v : Int) : Prop := v ≤ now ∧ (∀ h ∈ S.H, left (ky h) = false → v ≤ S.t h) ∧ (v = now ∨ ∃ h ∈ S.H, v = S.t h)
theorem Lw.step {S : St} {now v : Int} {left : Lit → Bool} (h : Lw S now left v) {k : Int} (hk : k ∈ S.H) : Lw S now (fun z => left z && !z.sameKey (ky k)) (min v (S.t k)) := by
  obtain ⟨h1, h2, h3⟩ := h
  refine ⟨by omega, fun x hx hl => ?_, ?_⟩
  · by_cases e : x = k
    · subst e; omega
    · have hl2 : (left (ky x) && !(ky x).sameKey (ky k)) = false := hl
      rw [Maps.sameKey_ne (fun h => e (ky_inj h))] at hl2
      simp at hl2
      have := h2 x hx hl2
      omega
  · rcases Int.le_total v (S.t k) with e | e
    · rw [Int.min_eq_left e]; exact h3
    · rw [Int.min_eq_right e]; exact Or.inr ⟨k, hk, rfl⟩
theorem At.mv {w w' : World} (h : Mv (fun _ => False) w w') : At w w' := h.at_ (At.start w) fun _ h => h.elim
set_option maxHeartbeats 1000000 in
set_option maxRecDepth 100000 in
theorem low_bk (h : Bk w b mb S) (now : Int) : Calls Try.prog 16 #[.pointer (some ⟨b, 0, none⟩), .int .i64 now] w (Gives (.int .i64 (lo S now)) w) := by
  obtain ⟨D, hq⟩ := h
  have HA := Lib.hid (all_bk hq)
  have HM := Lib.hid hq
  have H0 : Hid (Lw S now (Maps.has D) now) := Lib.hid ⟨Int.le_refl _, fun k hk hl => absurd ((hq.has k).2 hk) (by rw [hl]; exact Bool.false_ne_true), Or.inl rfl⟩
  clear hq
  go_enter Try.func16, Try.ntmps16
  go_wp2_with fail
  refine HA.out.mono ?_
  rintro e w' ⟨rfl, rfl⟩
  go_wp2_with (first | (at_range; refine wpList_range_own _ rfl _ 48 rfl 3 3 int_key Try.underlying48 pe mb _ D rfl HM.out.own ?_; intro w0 hrg0 hg0 hs0) | go_in)
  go_frame
  have HA0 : Hid (At w w0) := Lib.hid (At.mv ((Mv.refl _ w).grown hg0 (fun k e => by cases e)))
  have HRG0 := Lib.hid hrg0
  clear hrg0 hg0 hs0
  go_loopw [5] (fun c5 wr => ∃ (left : Lit → Bool) (cnt : Nat) (v : Int), wr.ranges Try.prog 3 pe mb w.heap.size (Maps.size D) D left cnt ∧ c5 = .int .i64 v ∧ Hid (Lw S now left v) ∧ Hid (At w wr)) (fun _ wr => wr.rangeLeft mb w.heap.size)
  case atStart => exact ⟨_, _, now, HRG0.out, rfl, H0, HA0⟩
  case round =>
    obtain ⟨left, cnt, v, hrg, rfl, HV, HAT⟩ := hrel
    go_wp2_with (first
      | (at_next; refine wpList_next_ranges _ rfl _ rfl 3 int_key pe encZ encZ (fun key kl hk => by obtain ⟨x, hx, _⟩ := Maps.keyOf_i64 Try.underlying3 hk; exact ⟨x, hx⟩) (fun v _ hv => by obtain ⟨c, hc, _⟩ := pe_inv hv; exact ⟨c, hc⟩) mb w.heap.size (Maps.size D) _ _ _ rfl hrg ?_ ?_)
      | go_in)
    · intro hc0 hl0
      have HE : Hid (v = lo S now) := Lib.hid (lo_one HV.out.1 (fun k hk => HV.out.2.1 k hk (hl0 _)) HV.out.2.2)
      clear hc0 hl0
      go_wp2
      go_ret
      exact ⟨by rw [HE.out]; rfl, HAT.out⟩
    · intro x c kl yd yp w2 cnt2 hkey hlk hv hat hrg2 hlt hg2 hs2 hen
      obtain ⟨x', ex, rfl, _⟩ := Maps.keyOf_i64 Try.underlying3 hkey
      obtain rfl : x = x' := encZ_inj ex
      have hxH : x ∈ S.H := (HM.out.has x).1 (Maps.has_true_of_atKey hat)
      obtain ⟨c', ec, ey⟩ := pe_inv (y := (yd, yp)) hv
      have ey := congrArg Prod.fst ey
      obtain rfl : c = c' := encZ_inj ec
      have hc : c = S.t x := by
        have h1 := hat (.lit (.int .i64 0))
        rw [show (Lit.int .i64 x) = ky x from rfl, HM.out.at_ x, tm_in hxH] at h1
        have h1 := h1.trans ey
        injection h1 with h1
        injection h1 with _ h1
        exact h1.symm
      have HST := Lib.hid (HV.out.step hxH)
      rw [← hc] at HST
      have HA2 : Hid (At w w2) := Lib.hid (At.mv ((Mv.of_below (fun _ => False) HAT.out).grown hg2 (fun j e => by injection e with e; right; omega)))
      have hlt2 := Lib.hid hlt
      rw [show min v c = if c < v then c else v by omega] at HST
      clear hkey hlk hv hat hg2 hs2 hxH hc ex ec ey hlt
      go_wp2
      go_roundw
      case rel => exact ⟨_, cnt2, if c < v then c else v, hrg2, rfl, HST, HA2⟩
      case measure => rw [hrg2.left_eq, hrg.left_eq]; exact hlt2.out
/-- A new book. -/
def News (m : Int) (w : World) (e : Ending) (w' : World) : Prop := ∃ b mb, e = .returned (.pointer (some ⟨b, 0, none⟩)) ∧ Bk w' b mb (st0 m) ∧ w.heap.size ≤ b ∧ w.heap.size ≤ mb ∧ At w w'
set_option maxHeartbeats 1000000 in
theorem new_any (m : Int) (w : World) : Calls Try.prog 9 #[.int .i64 m] w (News m w) := by
  have hmm := @run_makeMap Try.prog
  go_enter Try.func9, Try.ntmps9
  go_wp2
  go_ret
  refine ⟨w.heap.size + 1, w.heap.size, ?_, ⟨.map [], ⟨st0_ok m, ?_, fun _ => rfl, fun k => ?_, fun l hl => ?_, ?_⟩⟩, by omega, Nat.le_refl _, ((At.start w).alloc _).alloc _⟩
  · rfl
  · exact (World.ownsMap_made w Try.prog 3 pe).alloc _
  · exact ⟨fun h => (nomatch h), fun h => (nomatch h)⟩
  · cases hl
  · have := heap_alloc_new (w.alloc (.map #[] 0)) (.cells #[.int .i64 m, .int .i64 0, .map (some w.heap.size)] 50)
    rw [World.size_alloc] at this
    exact this
end

end Go.Proofs.Ytjgmgkglpfcihaa
