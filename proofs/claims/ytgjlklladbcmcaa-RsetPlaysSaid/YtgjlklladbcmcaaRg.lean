/- Proved: the document's own map: whether an extent's blocks are its; a block at a time. -/
import Derived.Test.YtgjlklladbcmcaaRm
namespace Go.Proofs.Ytgjlklladbcmcaa
open Go.RowKit
open Iv (Va vaB vaB_yes vaB_no)

set_option maxHeartbeats 1000000 in
set_option maxRecDepth 100000 in
theorem rin_any {w : World} {d : Nat} {M : Em.St} {P : Nat → Prop} {v : Value} {X : List Lv} (h : Rmq w d M P v X) (a m : Int) : Calls Try.prog 37 #[.pointer (some ⟨d, 0, none⟩), .agg #[.int .i64 a, .int .i64 m]] w (Gives (.bool (Em.haB M.n a m)) w) := by
  obtain ⟨q, hq⟩ : ∃ q, w.heap.size = q := ⟨_, rfl⟩
  obtain ⟨wa, hwa⟩ : ∃ wa, w.alloc (.cells #[.int .i64 a, .int .i64 m] 29) = wa := ⟨_, rfl⟩
  have HA0 : Hid (At w wa) := Lib.hid (by rw [← hwa]; exact (At.start w).alloc _)
  have HQ : Hid (wa.heap[q]? = some (.cells #[.int .i64 a, .int .i64 m] 29 (0, 0))) := Lib.hid (by rw [← hwa, ← hq]; exact heap_alloc_new w _)
  have HC : Hid (∀ W, At wa W → W.cell? ⟨q, 0, none⟩ = some (.int .i64 a) ∧ W.cell? ⟨q, 1, none⟩ = some (.int .i64 m) ∧ W.cell? ⟨d, 0, none⟩ = some (.int .i64 (M.n : Int))) := Lib.hid fun W hW =>
    ⟨(cell_at (hW.keep HQ.out) 0).trans rfl, (cell_at (hW.keep HQ.out) 1).trans rfl, (h.on (HA0.out.next hW)).cells.1⟩
  obtain ⟨d0, d1, d2⟩ := HC.out wa (At.start _)
  have hn2 := h.ok.n2
  clear h
  by_cases hv : Va (a, m)
  · have HM := Lib.hid (fun W => Iv.may_any a m W)
    rw [vaB_yes hv] at HM
    have hv0 := hv
    unfold Iv.Va at hv0
    simp only at hv0
    obtain ⟨v1, v2, v3, v4, v5⟩ := hv0
    have q0 : IntKind.i64.wrap (a + m) = a + m := IntWalk.i64_in _ (by omega)
    by_cases hl : a + m ≤ (M.n : Int)
    · have HR : Hid (Em.haB M.n a m = true) := Lib.hid (Em.haB_yes hv hl)
      have q1 : decide (a + m ≤ (M.n : Int)) = true := decide_eq_true hl
      clear hv hl
      go_enter Try.func37, Try.ntmps37
      go_wp2
      go_region_held3 (fun w' => w'.cell? ⟨q, 0, none⟩ = some (.int .i64 a) ∧ w'.cell? ⟨q, 1, none⟩ = some (.int .i64 m) ∧ w'.cell? ⟨d, 0, none⟩ = some (.int .i64 (M.n : Int))) (go_keep)
        ((go_at_call 58; refine (HM.out _).mono ?_; rintro e w2 ⟨rfl, hA2⟩; have HA2 : Hid (At wa w2) := Lib.hid (((At.start wa).drewN 1).next hA2); obtain ⟨e0, e1, e2⟩ := HC.out w2 HA2.out; clear hA2))
      go_wp2
      go_ret
      exact ⟨by rw [HR.out]; rfl, HA0.out.next HA2.out⟩
    · have HR : Hid (Em.haB M.n a m = false) := Lib.hid (Em.haB_no fun h => hl h.2)
      have q1 : decide (a + m ≤ (M.n : Int)) = false := decide_eq_false hl
      clear hv hl
      go_enter Try.func37, Try.ntmps37
      go_wp2
      go_region_held3 (fun w' => w'.cell? ⟨q, 0, none⟩ = some (.int .i64 a) ∧ w'.cell? ⟨q, 1, none⟩ = some (.int .i64 m) ∧ w'.cell? ⟨d, 0, none⟩ = some (.int .i64 (M.n : Int))) (go_keep)
        ((go_at_call 58; refine (HM.out _).mono ?_; rintro e w2 ⟨rfl, hA2⟩; have HA2 : Hid (At wa w2) := Lib.hid (((At.start wa).drewN 1).next hA2); obtain ⟨e0, e1, e2⟩ := HC.out w2 HA2.out; clear hA2))
      go_wp2
      go_ret
      exact ⟨by rw [HR.out]; rfl, HA0.out.next HA2.out⟩
  · have HM := Lib.hid (fun W => Iv.may_any a m W)
    rw [vaB_no hv] at HM
    have HR : Hid (Em.haB M.n a m = false) := Lib.hid (Em.haB_no fun h => hv h.1)
    clear hv
    go_enter Try.func37, Try.ntmps37
    go_wp2
    refine wp_region_any (by kernel_rfl) ?_
    change wpAny _ _ _ _ _ _ _ (World.drew _)
    refine wpAny_ready (rs := [0]) (by kernel_rfl) (by simp) ?_
    refine AllReady.cons rfl (fun K hK => ?_) AllReady.nil
    go_simp
    refine hK _ _ ?_
    clear hK K
    refine wpAny_ready (rs := [1]) (by kernel_rfl) (by simp) ?_
    refine AllReady.cons rfl (fun K hK => ?_) AllReady.nil
    go_simp
    go_at_call 58
    refine (HM.out _).mono ?_
    rintro e w2 ⟨rfl, hA2⟩
    have HA2 : Hid (At wa w2) := Lib.hid (((At.start wa).drewN 1).next hA2)
    clear hA2
    refine hK _ _ ?_
    clear hK K
    refine wpAny_take (i := 2) (v := .bool false) rfl (by kernel_rfl) (by kernel_rfl) (by kernel_rfl) (fun _ _ _ h => h) (Or.inl ⟨by kernel_rfl, fun w => by kernel_rfl⟩) ?_
    refine wpAny_take (i := 3) (v := undef) rfl (by kernel_rfl) (by kernel_rfl) (by kernel_rfl) (fun _ _ _ h => h) (Or.inr ⟨by kernel_rfl, rfl⟩) ?_
    refine wpAny_take (i := 4) (v := undef) rfl (by kernel_rfl) (by kernel_rfl) (by kernel_rfl) (fun _ _ _ h => h) (Or.inr ⟨by kernel_rfl, rfl⟩) ?_
    refine wpAny_take (i := 5) (v := undef) rfl (by kernel_rfl) (by kernel_rfl) (by kernel_rfl) (fun _ _ _ h => h) (Or.inr ⟨by kernel_rfl, rfl⟩) ?_
    refine wpAny_take (i := 6) (v := undef) rfl (by kernel_rfl) (by kernel_rfl) (by kernel_rfl) (fun _ _ _ h => h) (Or.inr ⟨by kernel_rfl, rfl⟩) ?_
    refine wpAny_take (i := 7) (v := undef) rfl (by kernel_rfl) (by kernel_rfl) (by kernel_rfl) (fun _ _ _ h => h) (Or.inr ⟨by kernel_rfl, rfl⟩) ?_
    refine wpAny_take (i := 8) (v := undef) rfl (by kernel_rfl) (by kernel_rfl) (by kernel_rfl) (fun _ _ _ h => h) (Or.inr ⟨by kernel_rfl, rfl⟩) ?_
    refine wpAny_take (i := 9) (v := undef) rfl (by kernel_rfl) (by kernel_rfl) (by kernel_rfl) (fun _ _ _ h => h) (Or.inr ⟨by kernel_rfl, rfl⟩) ?_
    refine wpAny_take (i := 10) (v := undef) rfl (by kernel_rfl) (by kernel_rfl) (by kernel_rfl) (fun _ _ _ h => h) (Or.inr ⟨by kernel_rfl, rfl⟩) ?_
    refine wpAny_take (i := 11) (v := undef) rfl (by kernel_rfl) (by kernel_rfl) (by kernel_rfl) (fun _ _ _ h => h) (Or.inr ⟨by kernel_rfl, rfl⟩) ?_
    refine wpAny_take (i := 12) (v := undef) rfl (by kernel_rfl) (by kernel_rfl) (by kernel_rfl) (fun _ _ _ h => h) (Or.inr ⟨by kernel_rfl, rfl⟩) ?_
    refine wpAny_take (i := 13) (v := .bool false) rfl (by kernel_rfl) (by kernel_rfl) (by kernel_rfl) (fun _ _ _ h => h) (Or.inl ⟨by kernel_rfl, fun w => by kernel_rfl⟩) ?_
    refine wpAny_take (i := 14) (v := .bool false) rfl (by kernel_rfl) (by kernel_rfl) (by kernel_rfl) (fun _ _ _ h => h) (Or.inl ⟨by kernel_rfl, fun w => by kernel_rfl⟩) ?_
    refine wpAny_done (by kernel_rfl) ?_ _
    go_wp2
    go_ret
    exact ⟨by rw [HR.out]; kernel_rfl, HA0.out.next HA2.out⟩

/-- What has been read of the first i versions: the newest that is not later. -/
def seen (X : List Vx) (k : Nat) (t : Int) (i : Nat) : Em.Ver := Em.rdv (fk k (X.take i)) t
theorem seen_zero (X : List Vx) (k : Nat) (t : Int) : seen X k t 0 = Em.zv := by unfold seen; rw [List.take_zero, fk_nil, Em.rdv_nil]
theorem seen_hit {X : List Vx} {k i : Nat} {t : Int} (hi : i < X.length) (h1 : (X.getD i vz).1 = (k : Int)) (h2 : (X.getD i vz).2.1 ≤ t) : seen X k t (i + 1) = (X.getD i vz).2 := by
  unfold seen; rw [vx_take X i hi, fk_app, fk_yes h1, Em.rdv_app_now _ _ _ h2]
theorem seen_late {X : List Vx} {k i : Nat} {t : Int} (hi : i < X.length) (h1 : (X.getD i vz).1 = (k : Int)) (h2 : ¬ (X.getD i vz).2.1 ≤ t) : seen X k t (i + 1) = seen X k t i := by
  unfold seen; rw [vx_take X i hi, fk_app, fk_yes h1, Em.rdv_app_late _ _ _ (by omega)]
theorem seen_other {X : List Vx} {k i : Nat} {t : Int} (hi : i < X.length) (h1 : ¬ (X.getD i vz).1 = (k : Int)) : seen X k t (i + 1) = seen X k t i := by
  unfold seen; rw [vx_take X i hi, fk_app, fk_no h1, List.append_nil]
theorem seen_all {X : List Vx} {M : Em.St} (h : Kx X M) (k : Nat) (t : Int) : seen X k t X.length = Em.rdv (M.V k) t := by unfold seen; rw [List.take_length, h.fk]
theorem zv_bytes : Em.zv.2 = zr 40 := rfl

/-- The call hands back forty bytes that were there or are new, and a number. -/
def Rgets (L : List Nat) (P : Nat → Prop) (w : World) (e : Ending) (w' : World) : Prop := ∃ g c T, e = .returned (.tuple #[.slice (some ⟨g, 0, none⟩) 40 c, .int .i64 T]) ∧ BV w' (some ⟨g, 0, none⟩) L ∧ At w w' ∧ (P g ∨ w.heap.size ≤ g)
set_option maxHeartbeats 2000000 in
set_option maxRecDepth 100000 in
theorem rmget_any {w : World} {d : Nat} {M : Em.St} {P : Nat → Prop} {v : Value} {X : List Lv} (h : Rmq w d M P v X) (hl : X.length ≤ 100000000) (k : Nat) (hk : k < M.n) (t : Int) :
    Calls Try.prog 40 #[.pointer (some ⟨d, 0, none⟩), .int .i64 (k : Int), .int .i64 t] w (Rgets (Em.rdv (M.V k) t).2 P w) := by
  obtain ⟨c0, -, -⟩ := h.cells
  obtain ⟨A, c, rfl, -, hf⟩ := h.vr.form
  obtain ⟨n, hn⟩ : ∃ n, n = X.length := ⟨_, rfl⟩
  have H := Lib.hid h
  rw [← hn] at H hf hl
  have HF := Lib.hid hf
  have HN := Lib.hid hn
  have hmk := make_u8 40 (by omega) w
  rw [made_zn, show ((40 : Nat) : Int) = 40 from rfl] at hmk
  obtain ⟨g, hg⟩ : ∃ g, g = w.heap.size := ⟨_, rfl⟩
  obtain ⟨w1, hw1⟩ : ∃ w1, w1 = w.alloc (.cells ((zr 40).map bt).toArray 5) := ⟨_, rfl⟩
  have HB1 : Hid (BV w1 (some ⟨g, 0, none⟩) (zr 40)) := Lib.hid (by rw [hw1, hg]; exact (row_new _ _ _ rfl : Row _ _ _).bv)
  have HA1 : Hid (At w w1) := Lib.hid (by rw [hw1]; exact (At.start w).alloc _)
  have HG1 : Hid (w.heap.size ≤ g) := Lib.hid (by rw [hg]; exact Nat.le_refl _)
  rw [← hw1, ← hg] at hmk
  have q1 : decide ((k : Int) < 0) = false := decide_eq_false (by omega)
  have q2 : decide ((M.n : Int) ≤ (k : Int)) = false := decide_eq_false (by omega)
  clear h hf hn hg hw1
  go_enter Try.func40, Try.ntmps40
  go_wp2
  clear hmk c0
  go_loopw [8, 9, 10] (fun c8 c9 c10 wr => ∃ (i gb cb : Nat) (T : Int), i ≤ n ∧ c10 = .int .i64 (i : Int) ∧ c9 = .int .i64 T ∧ c8 = .slice (some ⟨gb, 0, none⟩) 40 cb ∧ Hid (BV w1 (some ⟨gb, 0, none⟩) (seen (X.map (·.1)) k t i).2 ∧ (P gb ∨ w.heap.size ≤ gb)) ∧ wr = w1) (fun _ _ c10 _ => n - (RowKit.intOf c10).toNat)
  case atStart => exact ⟨0, g, 40, 0, Nat.zero_le _, rfl, rfl, rfl, Lib.hid ⟨by rw [seen_zero, zv_bytes]; exact HB1.out, Or.inr HG1.out⟩, rfl⟩
  case round =>
    obtain ⟨i, gb, cb, T, hi, rfl, rfl, rfl, HB, hwr⟩ := hrel
    have hwr' := hwr.symm
    subst hwr'
    have hc1 := (H.out.on HA1.out).cells.2.1
    by_cases hlt : i < n
    · have hil : i < X.length := by rw [← HN.out]; exact hlt
      have him : i < (X.map (·.1)).length := by rw [List.length_map]; exact hil
      obtain ⟨gx, rfl, hgx, hcx⟩ := HF.out (by omega)
      obtain ⟨k1, k2, k3⟩ := hcx i (by rw [HN.out]; exact hil)
      have j1 : w1.cell? ⟨gx, i * 3, none⟩ = _ := (Below.cell HA1.out (p := ⟨gx, i * 3, none⟩) hgx).trans k1
      have j2 : w1.cell? ⟨gx, i * 3 + 1, none⟩ = _ := (Below.cell HA1.out (p := ⟨gx, i * 3 + 1, none⟩) hgx).trans k2
      have j3 : w1.cell? ⟨gx, i * 3 + 2, none⟩ = _ := (Below.cell HA1.out (p := ⟨gx, i * 3 + 2, none⟩) hgx).trans k3
      have hxv := And.intro ((H.out.on HA1.out).vr.bv _ (lv_mem hil)).1 (H.out.px _ (lv_mem hil))
      have hs1 := seen_hit (t := t) (k := k) him
      have hs2 := seen_late (t := t) (k := k) him
      have hs3 := seen_other (t := t) (k := k) him
      rw [lv_fst X i hil] at hs1 hs2 hs3
      obtain ⟨x0, hx0⟩ : ∃ x : Lv, x = X.getD i lvz := ⟨_, rfl⟩
      obtain ⟨⟨xk, xt, xd⟩, xg, xc⟩ := x0
      rw [← hx0] at j1 j2 j3 hxv hs1 hs2 hs3
      simp only at j1 j2 j3 hxv hs1 hs2 hs3
      have HXV := Lib.hid hxv
      have HS1 := Lib.hid hs1
      have HS2 := Lib.hid hs2
      have HS3 := Lib.hid hs3
      have g1 : (0 : Int) ≤ (i : Int) := by omega
      have g2 : (i : Int) < (n : Int) := by omega
      clear hcx k1 k2 k3 hxv hs1 hs2 hs3 hx0 hil him hgx
      by_cases e1 : xk = (k : Int)
      · have z1 : (xk == (k : Int)) = true := by rw [e1]; simp
        by_cases e2 : xt ≤ t
        · have z2 : decide (xt ≤ t) = true := decide_eq_true e2
          have HS := Lib.hid (HS1.out e1 e2)
          clear e1 e2
          go_wp2
          go_roundw
          case rel => exact ⟨i + 1, xg, xc, xt, by omega, by go_num, rfl, rfl, Lib.hid ⟨by rw [HS.out]; exact HXV.out.1, Or.inl HXV.out.2⟩, by first | rfl | trivial⟩
          case measure => simp [RowKit.intOf]; omega
        · have z2 : decide (xt ≤ t) = false := decide_eq_false e2
          have HS := Lib.hid (HS2.out e1 e2)
          clear e1 e2
          go_wp2
          go_roundw
          case rel => exact ⟨i + 1, gb, cb, T, by omega, by go_num, rfl, rfl, Lib.hid ⟨by rw [HS.out]; exact HB.out.1, HB.out.2⟩, by first | rfl | trivial⟩
          case measure => simp [RowKit.intOf]; omega
      · have z1 : (xk == (k : Int)) = false := by simpa using e1
        have HS := Lib.hid (HS3.out e1)
        clear e1
        go_wp2
        go_roundw
        case rel => exact ⟨i + 1, gb, cb, T, by omega, by go_num, rfl, rfl, Lib.hid ⟨by rw [HS.out]; exact HB.out.1, HB.out.2⟩, by first | rfl | trivial⟩
        case measure => simp [RowKit.intOf]; omega
    · have hin : i = n := by omega
      have HE : Hid (Rgets (Em.rdv (M.V k) t).2 P w (.returned (.tuple #[.slice (some ⟨gb, 0, none⟩) 40 cb, .int .i64 T])) w1) := Lib.hid ⟨gb, cb, T, rfl, by
        have h := HB.out.1
        rw [hin, HN.out, show X.length = (X.map (·.1)).length from (List.length_map _).symm, seen_all H.out.kx] at h
        exact h, HA1.out, HB.out.2⟩
      clear hin
      go_wp2
      go_ret2
      exact HE.out

end Go.Proofs.Ytgjlklladbcmcaa
