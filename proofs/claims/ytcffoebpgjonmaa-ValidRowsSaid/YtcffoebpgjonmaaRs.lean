/- Proved: the document's own put: what it tells. -/
import Derived.Test.YtcffoebpgjonmaaRp
namespace Go.Proofs.Ytcffoebpgjonmaa
open Go.RowKit
open Iv (In Nm Is Vm Ow)

/-- What put tells: a new row. -/
def Rput (L : List (Int × Int)) (n : Nat) (w : World) (e : Ending) (w' : World) : Prop := ∃ M', Is L M' ∧ M'.length ≤ n + 1 ∧ ∃ g cc, e = .returned (.slice (some ⟨g, 0, none⟩) M'.length cc) ∧ Ow w' (.slice (some ⟨g, 0, none⟩) M'.length cc) M' ∧ At w w' ∧ w.heap.size ≤ g
set_option maxHeartbeats 2000000 in
set_option maxRecDepth 100000 in
theorem rput_any (A : Option Addr) (n c : Nat) (M : List (Int × Int)) (f0 n0 : Int) (hM : Nm M) (hv : Vm (f0, n0)) (hl : M.length = n) (hn : n ≤ 100000) (w : World) (hE : Iv.EV w A M) :
    Calls Try.prog 47 #[.slice A n c, .agg #[.int .i64 f0, .int .i64 n0]] w (Rput (M ++ [(f0, n0)]) n w) := by
  obtain ⟨i0, hi0, hz0, hz1, hz2⟩ := info_parts Iv.info_ext
  have HZ := Lib.hid (And.intro hi0 (And.intro hz0 (And.intro hz1 hz2)))
  have hv0 := hv
  unfold Vm at hv0
  simp only at hv0
  obtain ⟨v1, v2, v3⟩ := hv0
  have HM := Lib.hid hM
  have HL := Lib.hid hl
  obtain ⟨g0, hg0⟩ : ∃ g0, g0 = f0 + n0 := ⟨_, rfl⟩
  have HN0 : Hid (n0 = g0 - f0) := Lib.hid (by omega)
  have HE0 : Hid (Iv.EV (w.alloc (.cells #[.int .i64 f0, .int .i64 n0] 49)) A M) := Lib.hid (hE.on ((At.start w).alloc _))
  have hA0 : At w (w.alloc (.cells #[.int .i64 f0, .int .i64 n0] 49)) := (At.start w).alloc _
  have HA0 := Lib.hid hA0
  have q1 : IntKind.i64.wrap (f0 + n0) = g0 := by rw [hg0]; exact IntWalk.i64_in _ (by omega)
  have hv_lt : Hid (0 < g0 - f0) := Lib.hid (by omega)
  have HP0 : Hid (Pg M f0 g0 0 f0 g0 false []) := Lib.hid (pg_zero M (by omega) (by omega) (by omega))
  clear hM hv hl hE hA0 hi0 hz0 hz1 hz2 hg0 v1 v2 v3
  go_enter Try.func47, Try.ntmps47
  go_wp2
  generalize w.alloc (.cells #[.int .i64 f0, .int .i64 n0] 49) = w0 at HE0 HA0 ⊢
  go_loopw [5, 6, 7, 8, 9] (fun c5 c6 c7 c8 c9 wr => ∃ (k : Nat) (f g : Int) (dn : Bool) (O : List (Int × Int)) (B : Option Addr) (m cb : Nat), k ≤ n ∧ c9 = .int .i64 (k : Int) ∧ c5 = .int .i64 f ∧ c6 = .int .i64 g ∧ c8 = .bool dn ∧ c7 = .slice B m cb ∧ Hid (m = O.length) ∧ m ≤ k + 1 ∧ Hid (Pg M f0 g0 k f g dn O) ∧ Hid (At w0 wr) ∧ Hid (Ow wr (.slice B m cb) O) ∧ Hid (∀ g, (Value.slice B m cb).ownBlock = some g → w0.heap.size ≤ g)) (fun _ _ _ _ c9 _ => n - (RowKit.intOf c9).toNat)
  case atStart => exact ⟨0, f0, g0, false, [], none, 0, 0, Nat.zero_le _, rfl, rfl, rfl, rfl, rfl, Lib.hid rfl, Nat.zero_le _, HP0, Lib.hid (At.start w0), Lib.hid (Ow.nil _), Lib.hid fun g hg => by cases hg⟩
  case round =>
    clear HP0 q1
    obtain ⟨k, f, g, dn, O, B, m, cb, hk, rfl, rfl, rfl, rfl, rfl, HO, hmk, HPU, HA, HOW, HG⟩ := hrel
    by_cases hlt : k < n
    · have hkM : k < M.length := by rw [HL.out]; exact hlt
      obtain ⟨gb, o, rfl, hg, hc⟩ := HE0.out.pos (by omega)
      have hck := hc k hkM
      have c1 : wr.cell? ⟨gb, o + k * 2, none⟩ = some (.int .i64 (M.getD k (0, 0)).1) := (Below.cell HA.out (p := ⟨gb, o + k * 2, none⟩) hg).trans hck.1
      have c2 : wr.cell? ⟨gb, o + k * 2 + 1, none⟩ = some (.int .i64 (M.getD k (0, 0)).2) := (Below.cell HA.out (p := ⟨gb, o + k * 2 + 1, none⟩) hg).trans hck.2
      have hvk := Iv.nm_at HM.out hkM
      have hbe := fun h => pg_before HM.out HPU.out hkM h
      have hjn := fun h1 h2 => pg_join HM.out HPU.out hkM h1 h2
      have hpa : dn = true → _ := fun e => pg_past HM.out (e ▸ HPU.out) hkM
      have hla : dn = false → ∀ h : g < (M.getD k (0, 0)).1, _ := fun e h => pg_past HM.out (pg_lay HM.out (e ▸ HPU.out) hkM h) hkM
      have f1 := HPU.out.lo
      have f2 := HPU.out.lt
      have f3 := HPU.out.hi
      obtain ⟨y0, hy0⟩ : ∃ y, M.getD k (0, 0) = y := ⟨_, rfl⟩
      rw [hy0] at c1 c2 hvk hbe hjn hpa hla
      obtain ⟨y, yn⟩ := y0
      unfold Vm at hvk
      simp only at c1 c2 hvk hbe hjn hpa hla
      obtain ⟨vk1, vk2, vk3⟩ := hvk
      have g1 : (0 : Int) ≤ (k : Int) := by omega
      have g2 : (k : Int) < (n : Int) := by omega
      have q2 : IntKind.i64.wrap (y + yn) = y + yn := IntWalk.i64_in _ (by omega)
      have HBE := Lib.hid hbe
      have HJN := Lib.hid hjn
      have HPA := Lib.hid hpa
      have HLA := Lib.hid hla
      obtain ⟨wb, hwb⟩ : ∃ wb, wr.alloc (.cells #[.int .i64 y, .int .i64 yn] 49) = wb := ⟨_, rfl⟩
      obtain ⟨q, hq⟩ : ∃ q, wr.heap.size = q := ⟨_, rfl⟩
      have hAb : At wr wb := by rw [← hwb]; exact (At.start wr).alloc _
      have hQ : wb.heap[q]? = some (.cells #[.int .i64 y, .int .i64 yn] 49 (0, 0)) := by rw [← hwb, ← hq]; exact heap_alloc_new wr _
      have b0 : wb.cell? ⟨q, 0, none⟩ = some (.int .i64 y) := (cell_at hQ 0).trans rfl
      have b1 : wb.cell? ⟨q, 1, none⟩ = some (.int .i64 yn) := (cell_at hQ 1).trans rfl
      have HQ := Lib.hid hQ
      have HNQ : Hid (¬ (Value.slice B m cb).ownBlock = some q) := Lib.hid fun e => by have := HOW.out.lt e; omega
      have HAB := Lib.hid (HA.out.next hAb)
      have HOB := Lib.hid (HOW.out.on hAb)
      clear hc hck hbe hjn hpa hla hy0 hkM hAb hQ
      by_cases h1 : y + yn < f
      · have e1 : decide (y + yn < f) = true := decide_eq_true h1
        have HP2 := Lib.hid (HBE.out h1).2
        have hdn := (HBE.out h1).1
        have HAY : Hid (At w0 (wb.alloc (.cells #[.int .i64 y, .int .i64 yn] 49))) := Lib.hid (HAB.out.alloc _)
        have HOX : Hid ((wb.alloc (.cells #[.int .i64 y, .int .i64 yn] 49)).ownsRow 0 49 2 (.slice B m cb) m (Iv.fl O)) := Lib.hid (by have := HOB.out.on ((At.start wb).alloc (.cells #[.int .i64 y, .int .i64 yn] 49)); unfold Ow at this; rw [← HO.out] at this; exact this)
        have hmk0 : m ≤ k := by have := HPU.out.len; rw [hdn] at this; have := HO.out; simp at *; omega
        clear hdn
        go_wp2_with (at_builtin; refine wpList_append_own_at _ rfl (.tmp 47) (.tmp 49) 23 rfl 0 49 i0 _ 2 16 Try.underlying23 HZ.out.1 HZ.out.2.1 HZ.out.2.2.1 HZ.out.2.2.2 rfl (by omega) _ m (Iv.fl O) rfl HOX.out ⟨wb.heap.size, 0, none⟩ 1 1 (Iv.ec (y, yn)) rfl rfl (Iv.new_ec wb y yn) (fun v hu => Iv.fl_cells v [(y, yn)] hu) (by unfold maxLen; omega) (by omega) (Nat.zero_le _) ?_; intro v' w9 hown hgrow hnn hat; obtain ⟨g5, c5, rfl, ha5, hm5, ho5, hb5⟩ := Iv.part_grown HO.out hown hgrow hat HAY.out HG.out; have HNN := Lib.hid (And.intro ha5 (And.intro hm5 (And.intro ho5 hb5))); clear hown hgrow hnn hat ha5 hm5 ho5 hb5)
        go_roundw
        case rel => exact ⟨k + 1, f, g, dn, _, _, _, _, by omega, by go_num, rfl, rfl, rfl, rfl, Lib.hid HNN.out.2.1, by omega, HP2, Lib.hid HNN.out.1, Lib.hid HNN.out.2.2.1, Lib.hid HNN.out.2.2.2⟩
        case measure => simp [RowKit.intOf]; omega
      · have e1 : decide (y + yn < f) = false := decide_eq_false h1
        by_cases h2 : g < y
        · have e2 : decide (g < y) = true := decide_eq_true h2
          cases dn with
          | true =>
            have HP2 := Lib.hid (HPA.out rfl).2
            have hmk1 : m ≤ k + 1 := hmk
            have HAY : Hid (At w0 (wb.alloc (.cells #[.int .i64 y, .int .i64 yn] 49))) := Lib.hid (HAB.out.alloc _)
            have HOX : Hid ((wb.alloc (.cells #[.int .i64 y, .int .i64 yn] 49)).ownsRow 0 49 2 (.slice B m cb) m (Iv.fl O)) := Lib.hid (by have := HOB.out.on ((At.start wb).alloc (.cells #[.int .i64 y, .int .i64 yn] 49)); unfold Ow at this; rw [← HO.out] at this; exact this)
            go_wp2_with (at_builtin; refine wpList_append_own_at _ rfl (.tmp 66) (.tmp 68) 23 rfl 0 49 i0 _ 2 16 Try.underlying23 HZ.out.1 HZ.out.2.1 HZ.out.2.2.1 HZ.out.2.2.2 rfl (by omega) _ m (Iv.fl O) rfl HOX.out ⟨wb.heap.size, 0, none⟩ 1 1 (Iv.ec (y, yn)) rfl rfl (Iv.new_ec wb y yn) (fun v hu => Iv.fl_cells v [(y, yn)] hu) (by unfold maxLen; omega) (by omega) (Nat.zero_le _) ?_; intro v' w9 hown hgrow hnn hat; obtain ⟨g5, c5, rfl, ha5, hm5, ho5, hb5⟩ := Iv.part_grown HO.out hown hgrow hat HAY.out HG.out; have HNN := Lib.hid (And.intro ha5 (And.intro hm5 (And.intro ho5 hb5))); clear hown hgrow hnn hat ha5 hm5 ho5 hb5)
            go_roundw
            case rel => exact ⟨k + 1, f, g, true, _, _, _, _, by omega, by go_num, rfl, rfl, rfl, rfl, Lib.hid HNN.out.2.1, by omega, HP2, Lib.hid HNN.out.1, Lib.hid HNN.out.2.2.1, Lib.hid HNN.out.2.2.2⟩
            case measure => simp [RowKit.intOf]; omega
          | false =>
            have HP2 := Lib.hid (HLA.out rfl h2).2
            have hmk0 : m ≤ k := by have h5 := HPU.out.len; have h6 := HO.out; simp at h5; omega
            have q3 : IntKind.i64.wrap (g - f) = g - f := IntWalk.i64_in _ (by omega)
            have HAY : Hid (At w0 (wb.alloc (.cells #[.int .i64 f, .int .i64 (g - f)] 49))) := Lib.hid (HAB.out.alloc _)
            have HOX : Hid ((wb.alloc (.cells #[.int .i64 f, .int .i64 (g - f)] 49)).ownsRow 0 49 2 (.slice B m cb) m (Iv.fl O)) := Lib.hid (by have := HOB.out.on ((At.start wb).alloc (.cells #[.int .i64 f, .int .i64 (g - f)] 49)); unfold Ow at this; rw [← HO.out] at this; exact this)
            go_wp2_with (at_builtin; first
              | (refine wpList_append_own_at _ rfl (.tmp 58) (.tmp 64) 23 rfl 0 49 i0 _ 2 16 Try.underlying23 HZ.out.1 HZ.out.2.1 HZ.out.2.2.1 HZ.out.2.2.2 rfl (by omega) _ m (Iv.fl O) rfl HOX.out ⟨wb.heap.size, 0, none⟩ 1 1 (Iv.ec (f, g - f)) rfl rfl (Iv.new_ec wb f (g - f)) (fun v hu => Iv.fl_cells v [(f, g - f)] hu) (by unfold maxLen; omega) (by omega) (Nat.zero_le _) ?_; intro v' w9 hown hgrow hnn hat; have hq9 : w9.heap[q]? = some (.cells #[.int .i64 y, .int .i64 yn] 49 (0, 0)) := (Iv.grown_mv hgrow).keep (((At.start wb).alloc _).keep HQ.out) HNQ.out; obtain ⟨g5, c5, rfl, ha5, hm5, ho5, hb5⟩ := Iv.part_grown HO.out hown hgrow hat HAY.out HG.out; have HNN := Lib.hid (And.intro ha5 (And.intro hm5 (And.intro ho5 hb5))); have k0 : w9.cell? ⟨q, 0, none⟩ = some (.int .i64 y) := (cell_at hq9 0).trans rfl; have k1 : w9.cell? ⟨q, 1, none⟩ = some (.int .i64 yn) := (cell_at hq9 1).trans rfl; have HAY9 : Hid (At w0 (w9.alloc (.cells #[.int .i64 y, .int .i64 yn] 49))) := Lib.hid (HNN.out.1.alloc _); have HOX9 : Hid ((w9.alloc (.cells #[.int .i64 y, .int .i64 yn] 49)).ownsRow 0 49 2 (.slice (some ⟨g5, 0, none⟩) (m + 1) c5) (m + 1) (Iv.fl (O ++ [(f, g - f)]))) := Lib.hid (by have := HNN.out.2.2.1.on ((At.start w9).alloc (.cells #[.int .i64 y, .int .i64 yn] 49)); unfold Ow at this; rw [← HNN.out.2.1] at this; exact this); clear hown hgrow hnn hat ha5 hm5 ho5 hb5 hq9)
              | (refine wpList_append_own_at _ rfl (.tmp 66) (.tmp 68) 23 rfl 0 49 i0 _ 2 16 Try.underlying23 HZ.out.1 HZ.out.2.1 HZ.out.2.2.1 HZ.out.2.2.2 rfl (by omega) _ (m + 1) (Iv.fl (O ++ [(f, g - f)])) rfl HOX9.out ⟨w9.heap.size, 0, none⟩ 1 1 (Iv.ec (y, yn)) rfl rfl (Iv.new_ec w9 y yn) (fun v hu => Iv.fl_cells v [(y, yn)] hu) (by unfold maxLen; omega) (by omega) (Nat.zero_le _) ?_; intro v' w8 hown hgrow hnn hat; obtain ⟨g6, c6, rfl, ha6, hm6, ho6, hb6⟩ := Iv.part_grown HNN.out.2.1 hown hgrow hat HAY9.out HNN.out.2.2.2; have HNN6 := Lib.hid (And.intro ha6 (And.intro hm6 (And.intro ho6 hb6))); clear hown hgrow hnn hat ha6 hm6 ho6 hb6))
            go_roundw
            case rel => exact ⟨k + 1, f, g, true, _, _, _, _, by omega, by go_num, rfl, rfl, rfl, rfl, Lib.hid HNN6.out.2.1, by omega, HP2, Lib.hid HNN6.out.1, Lib.hid HNN6.out.2.2.1, Lib.hid HNN6.out.2.2.2⟩
            case measure => simp [RowKit.intOf]; omega
        · have e2 : decide (g < y) = false := decide_eq_false h2
          have HP2 := Lib.hid (HJN.out h1 h2)
          clear h1 h2
          go_wp2
          go_roundw
          case rel => exact ⟨k + 1, min f y, max g (y + yn), dn, O, B, m, cb, by omega, by go_num, by go_num, by go_num, rfl, rfl, HO, by omega, HP2, HAB, HOB, HG⟩
          case measure => simp [RowKit.intOf]; omega
    · have hkn : k = n := by omega
      have hpu := HPU.out
      rw [hkn, ← HL.out] at hpu
      have f1 := HPU.out.lo
      have f2 := HPU.out.lt
      have f3 := HPU.out.hi
      subst hkn
      cases dn with
      | true =>
        have HI := Lib.hid (pg_end hpu)
        have hm0 : 0 < m := by
          rcases Nat.eq_zero_or_pos m with e | e
          · exfalso
            have h1 := HI.out.1.2 f0
            rw [HO.out] at e
            rw [List.eq_nil_of_length_eq_zero e, Iv.in_app, Iv.in_one] at h1
            exact Iv.in_nil _ (h1.2 (Or.inr ⟨Int.le_refl _, by have := hv_lt.out; simp only; omega⟩))
          · exact e
        obtain ⟨gb, rfl⟩ : ∃ gb, B = some ⟨gb, 0, none⟩ := by
          rcases HOW.out.form with ⟨h1, -⟩ | ⟨g', c', T', h1, -⟩
          · injection h1 with _ h2 _; omega
          · injection h1 with h1; exact ⟨g', h1⟩
        clear hpu
        go_wp2
        go_ret
        rw [← HN0.out] at HI
        exact ⟨O, HI.out.1, by rw [← HL.out]; exact HI.out.2, gb, cb, by rw [← HO.out]; rfl, by rw [← HO.out]; exact HOW.out, HA0.out.next HA.out, Nat.le_trans HA0.out.size (HG.out gb rfl)⟩
      | false =>
        have HI := Lib.hid (pg_last hpu)
        have hmk0 : m ≤ k := by have h5 := HPU.out.len; have h6 := HO.out; simp at h5; omega
        have q3 : IntKind.i64.wrap (g - f) = g - f := IntWalk.i64_in _ (by omega)
        have HAY : Hid (At w0 (wr.alloc (.cells #[.int .i64 f, .int .i64 (g - f)] 49))) := Lib.hid (HA.out.alloc _)
        have HOX : Hid ((wr.alloc (.cells #[.int .i64 f, .int .i64 (g - f)] 49)).ownsRow 0 49 2 (.slice B m cb) m (Iv.fl O)) := Lib.hid (by have := HOW.out.on ((At.start wr).alloc (.cells #[.int .i64 f, .int .i64 (g - f)] 49)); unfold Ow at this; rw [← HO.out] at this; exact this)
        clear hpu
        go_wp2_with (at_builtin; refine wpList_append_own_at _ rfl (.tmp 72) (.tmp 78) 23 rfl 0 49 i0 _ 2 16 Try.underlying23 HZ.out.1 HZ.out.2.1 HZ.out.2.2.1 HZ.out.2.2.2 rfl (by omega) _ m (Iv.fl O) rfl HOX.out ⟨wr.heap.size, 0, none⟩ 1 1 (Iv.ec (f, g - f)) rfl rfl (Iv.new_ec wr f (g - f)) (fun v hu => Iv.fl_cells v [(f, g - f)] hu) (by unfold maxLen; omega) (by omega) (Nat.zero_le _) ?_; intro v' w9 hown hgrow hnn hat; obtain ⟨g5, c5, rfl, ha5, hm5, ho5, hb5⟩ := Iv.part_grown HO.out hown hgrow hat HAY.out HG.out; have HNN := Lib.hid (And.intro ha5 (And.intro hm5 (And.intro ho5 hb5))); clear hown hgrow hnn hat ha5 hm5 ho5 hb5)
        go_ret
        rw [← HN0.out] at HI
        exact ⟨_, HI.out.1, by rw [← HL.out]; exact HI.out.2, g5, c5, by rw [← HNN.out.2.1]; rfl, by rw [← HNN.out.2.1]; exact HNN.out.2.2.1, HA0.out.next HNN.out.1, Nat.le_trans HA0.out.size (HNN.out.2.2.2 g5 rfl)⟩

end Go.Proofs.Ytcffoebpgjonmaa
