/- Proved: why Puts of which each could be written alone are refused together. -/
import Derived.Test.YthaiddhbifakhaaSn
namespace Go.Proofs.Ythaiddhbifakhaa
open Go.RowKit

theorem not_eq_true {e : Bool} (h : true = !e) : e = false := by cases e <;> simp at h ⊢
theorem not_eq_false {e : Bool} (h : false = !e) : e = true := by cases e <;> simp at h ⊢

set_option maxHeartbeats 4000000 in
set_option maxRecDepth 100000 in
theorem together_any {w : World} {b mb : Nat} {S : St} (h : Bf w b mb S) (A : Option Addr) (P : List Pt) (n c : Nat) (hn : P.length = n) (hl : n ≤ 1000000) (hP : PV w A P) (he : Each S P) :
    Calls Try.prog 40 #[.pointer (some ⟨b, 0, none⟩), .slice A n c] w (Gives (.int .i64 (tz S P)) w) := by
  have hmk := make_hint (n : Int) w
  have hn2 := h.ok.n2
  have hul := us_len S
  have H := Lib.hid h
  have HN := Lib.hid hn
  have HP := Lib.hid hP
  have HE := Lib.hid he
  have HSM : Hid (At w (w.alloc (.map #[] 0)) ∧ Sn (w.alloc (.map #[] 0)) w.heap.size [] (.map [])) := Lib.hid ⟨(At.start w).alloc _, sn_new w⟩
  have HL := Lib.hid (fun W (hW : At w W) => len_bf (h.on hW))
  obtain ⟨sb, hsb⟩ : ∃ sb, sb = w.heap.size := ⟨_, rfl⟩
  have HSB := Lib.hid hsb
  rw [← hsb] at hmk HSM
  obtain ⟨w0, hw0⟩ : ∃ w0, w0 = w.alloc (.map #[] 0) := ⟨_, rfl⟩
  rw [← hw0] at hmk HSM
  obtain ⟨u, hu⟩ : ∃ u, u = (us S).length := ⟨_, rfl⟩
  rw [← hu] at HL hul
  have HU := Lib.hid hu
  obtain ⟨hA0, hS0⟩ := HSM.out
  have HA0 := Lib.hid hA0
  have HS0 := Lib.hid hS0
  clear h hn hP he hsb hu hw0 HSM hA0 hS0
  go_enter Try.func40, Try.ntmps40
  go_wp2
  go_step3
  go_wp2_with fail
  refine (HL.out _ HA0.out).mono ?_
  rintro e w' ⟨rfl, rfl⟩
  clear HL hmk
  go_wp2_with fail
  go_step3
  go_wp2_with fail
  go_loopw [6, 20] (fun c6 c20 wr => ∃ (k f : Nat) (D : DataW Value), k ≤ n ∧ c20 = .int .i64 (k : Int) ∧ c6 = .int .i64 ((u + f : Nat) : Int) ∧ f ≤ k ∧ Hid (f = fr S (P.take k)) ∧ Hid (Un (P.take k)) ∧ Hid (Sn wr sb (kz (P.take k)) D) ∧ Hid (At w wr)) (fun _ c20 _ => n - (RowKit.intOf c20).toNat)
  case atStart => exact ⟨0, 0, _, Nat.zero_le _, rfl, rfl, Nat.le_refl _, Lib.hid rfl, Lib.hid List.nodup_nil, HS0, HA0⟩
  case round =>
    obtain ⟨k, f, D, hk, rfl, rfl, hfk, HF, HUN, HSN, HA⟩ := hrel
    by_cases hlt : k < n
    · have hkP : k < P.length := by rw [HN.out]; exact hlt
      obtain ⟨g, o, rfl, hg, hc⟩ := (HP.out.on HA.out).pos (by omega)
      obtain ⟨e1, B, cb, e2, -⟩ := hc k hkP
      have hm := pt_mem hkP
      have hr1 := (HE.out.rng _ hm)
      have hft := fr_take S P k hkP
      obtain ⟨x, hx⟩ : ∃ x : Nat, (P.getD k pz).1 = (x : Int) := ⟨(P.getD k pz).1.toNat, by omega⟩
      rw [hx] at e1 hft
      rw [Int.toNat_natCast] at hft
      have hxn : x < S.n := by omega
      have HX := Lib.hid hx
      have HFT := Lib.hid hft
      have HKP := Lib.hid hkP
      have g1 : (0 : Int) ≤ (k : Int) := by omega
      have g2 : (k : Int) < (n : Int) := by omega
      obtain ⟨m, hmL⟩ : ∃ m, m = (P.getD k pz).2.length := ⟨_, rfl⟩
      rw [← hmL] at e2
      obtain ⟨q, hq⟩ : ∃ q, wr.heap.size = q := ⟨_, rfl⟩
      obtain ⟨wb, hwb⟩ : ∃ wb, wr.alloc (.cells #[.int .i64 (x : Int), .slice B m cb] 56) = wb := ⟨_, rfl⟩
      have HB : Hid (At wr wb) := Lib.hid (by rw [← hwb]; exact (At.start wr).alloc _)
      have HC : Hid (wb.heap[q]? = some (.cells #[.int .i64 (x : Int), .slice B m cb] 56 (0, 0))) := Lib.hid (by rw [← hwb, ← hq]; exact heap_alloc_new wr _)
      have hkl : (kz (P.take k)).length ≤ 1000000 := by unfold kz; rw [List.length_map, List.length_take]; omega
      have HKL := Lib.hid hkl
      have hwf : (ky (x : Int)).wf = true := ky_wf (by omega) (by omega)
      have HSB2 := Lib.hid (HSN.out.on HB.out)
      have HAB := Lib.hid (HA.out.next HB.out)
      have HQW : Hid (q < wb.heap.size) := Lib.hid (lt_heap HC.out)
      have hlk := HSB2.out.look hwf
      have p0 : wb.cell? ⟨q, 0, none⟩ = some (.int .i64 (x : Int)) := (cell_at HC.out 0).trans rfl
      clear hc hx hm hmL hg hkP hft hr1 hkl
      clear HSN HA HB
      by_cases htw : (x : Int) ∈ kz (P.take k)
      · rw [decide_eq_true htw] at hlk
        have HZ : Hid (tz S P = 4) := Lib.hid (if_pos (un_not HKP.out (by rw [HX.out]; exact htw)))
        have HAC : Hid (At w (wb.alloc (.cells #[] 94))) := Lib.hid (HAB.out.alloc _)
        clear htw
        go_wp2_with fail
        try rw [Exit.noGoto_ret]
        go_ret
        exact ⟨by rw [HZ.out]; rfl, HAC.out⟩
      · rw [decide_eq_false htw] at hlk
        have HTW := Lib.hid htw
        clear htw
        obtain ⟨wc, hwc⟩ : ∃ wc, wb.alloc (.cells #[] 94) = wc := ⟨_, rfl⟩
        have hAC : At wb wc := by rw [← hwc]; exact (At.start wb).alloc _
        have p1 : wc.cell? ⟨q, 0, none⟩ = some (.int .i64 (x : Int)) := (cell_at (hAC.keep HC.out) 0).trans rfl
        obtain ⟨wd, hup, ⟨D', hS'⟩, hmd⟩ := (HSB2.out.on hAC).store hwf HKL.out
        have HMD : Hid (At w wd) := Lib.hid (hmd.at_ (HAB.out.next hAC) fun g hg => by rw [hg, HSB.out]; exact Nat.le_refl _)
        have hqs : q ≠ sb := fun e => by
          obtain ⟨es, clock, hb, _⟩ := HSB2.out.own
          have := HC.out
          rw [e, hb] at this; cases this
        have HPD : Hid (wd.heap[q]? = some (.cells #[.int .i64 (x : Int), .slice B m cb] 56 (0, 0))) := Lib.hid (hmd.keep (hAC.keep HC.out) hqs)
        have HSD : Hid (Sn wd sb (kz (P.take (k + 1))) D') := Lib.hid (by rw [kz_take HKP.out, HX.out]; exact hS')
        have HUD : Hid (Un (P.take (k + 1))) := Lib.hid (un_more HKP.out HUN.out (by rw [HX.out]; exact HTW.out))
        have HLK : Hid (∀ W, At wd W → (Instr.lookup 65 (.map (some mb)) (.int .i64 (x : Int)) true).run Try.prog W = .ok (.tuple #[dv (gz S (x : Int)), .bool (!(S.g x).isEmpty)]) W ∧ W.cell? ⟨b, 2, none⟩ = some (.map (some mb)) ∧ W.cell? ⟨q, 0, none⟩ = some (.int .i64 (x : Int))) := Lib.hid fun W hW =>
          ⟨by have := (H.out.on (HMD.out.next hW)).look hwf; rwa [gi_nat] at this, (H.out.on (HMD.out.next hW)).cells.2.2, (cell_at (hW.keep HPD.out) 0).trans rfl⟩
        have hVL := gz_len H.out.ok (x : Int)
        obtain ⟨V, hV⟩ : ∃ V, V = gz S (x : Int) := ⟨_, rfl⟩
        rw [← hV] at hVL HLK
        obtain ⟨d, hd⟩ : ∃ d, d = !(S.g x).isEmpty := ⟨_, rfl⟩
        rw [← hd] at HLK
        have HD := Lib.hid hd
        have HVL := Lib.hid hVL
        clear hS' hmd hAC hqs hV hVL hd HSB2 HC HTW
        go_wp2_with fail
        have HKEEP : Hid (∀ W, At wd W → (fun W => W.cell? ⟨b, 2, none⟩ = some (.map (some mb)) ∧ W.cell? ⟨q, 0, none⟩ = some (.int .i64 (x : Int)) ∧ (Instr.lookup 65 (.map (some mb)) (.int .i64 (x : Int)) true).run Try.prog W = .ok (.tuple #[dv V, .bool d]) W) W) := Lib.hid fun W hW => ⟨(HLK.out W hW).2.1, (HLK.out W hW).2.2, (HLK.out W hW).1⟩
        clear HLK hlk p0 hup p1 hwb hwc hq
        refine wp_region_held_drew (S := (fun W => W.cell? ⟨b, 2, none⟩ = some (.map (some mb)) ∧ W.cell? ⟨q, 0, none⟩ = some (.int .i64 (x : Int)) ∧ (Instr.lookup 65 (.map (some mb)) (.int .i64 (x : Int)) true).run Try.prog W = .ok (.tuple #[dv V, .bool d]) W)) (by kernel_rfl) (HKEEP.out _ ((At.start wd).drewN 1)) (fun hHeld => ?_)
        refine wpAnyH_take (i := 0) (v := .pointer (some ⟨b, 0, none⟩)) rfl (by kernel_rfl) (by kernel_rfl) (by kernel_rfl) (fun _ _ _ h => h) (Or.inl ⟨by kernel_rfl, fun w _ => by kernel_rfl⟩) hHeld ?_
        simp only [List.getElem_toArray, List.getElem_cons_zero, Act.put, List.setIfInBounds_toArray, List.set_cons_zero, List.set_cons_succ]
        refine wpAnyH_take (i := 1) (v := .pointer (some ⟨b, 0, none⟩)) rfl (by kernel_rfl) (by kernel_rfl) (by kernel_rfl) (fun _ _ _ h => h) (Or.inl ⟨by kernel_rfl, fun w _ => by kernel_rfl⟩) hHeld ?_
        simp only [List.getElem_toArray, List.getElem_cons_zero, List.getElem_cons_succ, Act.put, List.setIfInBounds_toArray, List.set_cons_zero, List.set_cons_succ]
        refine wpAnyH_take (i := 2) (v := .pointer (some ⟨b, 2, none⟩)) rfl (by kernel_rfl) (by kernel_rfl) (by kernel_rfl) (fun _ _ _ h => h) (Or.inl ⟨by kernel_rfl, fun w _ => by kernel_rfl⟩) hHeld ?_
        simp only [List.getElem_toArray, List.getElem_cons_zero, List.getElem_cons_succ, Act.put, List.setIfInBounds_toArray, List.set_cons_zero, List.set_cons_succ]
        refine wpAnyH_take (i := 3) (v := .map (some mb)) rfl (by kernel_rfl) (by kernel_rfl) (by kernel_rfl) (fun _ _ _ h => h) (Or.inl ⟨by kernel_rfl, fun w hw => by have h1 := hw.1; go_simp⟩) hHeld ?_
        simp only [List.getElem_toArray, List.getElem_cons_zero, List.getElem_cons_succ, Act.put, List.setIfInBounds_toArray, List.set_cons_zero, List.set_cons_succ]
        refine wpAnyH_take (i := 4) (v := .pointer (some ⟨q, 0, none⟩)) rfl (by kernel_rfl) (by kernel_rfl) (by kernel_rfl) (fun _ _ _ h => h) (Or.inl ⟨by kernel_rfl, fun w _ => by kernel_rfl⟩) hHeld ?_
        simp only [List.getElem_toArray, List.getElem_cons_zero, List.getElem_cons_succ, Act.put, List.setIfInBounds_toArray, List.set_cons_zero, List.set_cons_succ]
        refine wpAnyH_take (i := 5) (v := .int .i64 (x : Int)) rfl (by kernel_rfl) (by kernel_rfl) (by kernel_rfl) (fun _ _ _ h => h) (Or.inl ⟨by kernel_rfl, fun w hw => by have h1 := hw.2.1; go_simp⟩) hHeld ?_
        simp only [List.getElem_toArray, List.getElem_cons_zero, List.getElem_cons_succ, Act.put, List.setIfInBounds_toArray, List.set_cons_zero, List.set_cons_succ]
        refine wpAnyH_take (i := 6) (v := .tuple #[dv V, .bool d]) rfl (by kernel_rfl) (by kernel_rfl) (by kernel_rfl) (fun _ _ _ h => h) (Or.inl ⟨by kernel_rfl, fun w hw => by have h1 := hw.2.2; go_simp⟩) hHeld ?_
        simp only [List.getElem_toArray, List.getElem_cons_zero, List.getElem_cons_succ, Act.put, List.setIfInBounds_toArray, List.set_cons_zero, List.set_cons_succ]
        refine wpAnyH_take (i := 7) (v := .tuple #[dv V, .bool d]) rfl (by kernel_rfl) (by kernel_rfl) (by kernel_rfl) (fun _ _ _ h => h) (Or.inl ⟨by kernel_rfl, fun w _ => by kernel_rfl⟩) hHeld ?_
        simp only [List.getElem_toArray, List.getElem_cons_zero, List.getElem_cons_succ, Act.put, List.setIfInBounds_toArray, List.set_cons_zero, List.set_cons_succ]
        refine wpAnyH_take (i := 8) (v := dv V) rfl (by kernel_rfl) (by kernel_rfl) (by kernel_rfl) (fun _ _ _ h => h) (Or.inl ⟨by kernel_rfl, fun w _ => by kernel_rfl⟩) hHeld ?_
        simp only [List.getElem_toArray, List.getElem_cons_zero, List.getElem_cons_succ, Act.put, List.setIfInBounds_toArray, List.set_cons_zero, List.set_cons_succ]
        refine wpAnyH_take (i := 9) (v := .bool d) rfl (by kernel_rfl) (by kernel_rfl) (by kernel_rfl) (fun _ _ _ h => h) (Or.inl ⟨by kernel_rfl, fun w _ => by kernel_rfl⟩) hHeld ?_
        simp only [List.getElem_toArray, List.getElem_cons_zero, List.getElem_cons_succ, Act.put, List.setIfInBounds_toArray, List.set_cons_zero, List.set_cons_succ]
        clear hHeld
        refine wpAnyH_ready (rs := [10]) (by kernel_rfl) (by simp) ?_
        refine AllReadyH.cons rfl (fun K hK => ?_) AllReadyH.nil
        go_simp
        refine hK.out _ _ (HKEEP.out _ (((At.start wd).alloc _).drewN 1)) (fun hHeld => ?_)
        clear hK K hHeld
        refine wpAnyH_ready (rs := [11]) (by kernel_rfl) (by simp) ?_
        refine AllReadyH.cons rfl (fun K hK => ?_) AllReadyH.nil
        rw [if_pos (by kernel_rfl)]
        refine wp_store_row _ (.tmp 11) (.tmp 44) (by kernel_rfl) wd.heap.size (V.map bt).toArray (by kernel_rfl) (by kernel_rfl) 68 _ (heap_alloc_new wd _) (by rw [size_data, List.size_toArray, List.length_map, HVL.out]) (show (40 : Nat) = _ by rw [List.size_toArray, List.length_map, HVL.out]) (bt_all V) ?_
        rw [drew_row]
        refine hK.out _ _ (HKEEP.out _ (((At.start wd).alloc _).drewN 1)) (fun hHeld => ?_)
        clear hK K
        simp only [List.getElem_toArray, List.getElem_cons_zero, List.getElem_cons_succ, Act.put]
        refine wpAnyH_take (i := 12) (v := .bool d) rfl (by kernel_rfl) (by kernel_rfl) (by kernel_rfl) (fun _ _ _ h => h) (Or.inl ⟨by kernel_rfl, fun w _ => by kernel_rfl⟩) hHeld ?_
        simp only [List.getElem_toArray, List.getElem_cons_zero, List.getElem_cons_succ, Act.put, List.setIfInBounds_toArray, List.set_cons_zero, List.set_cons_succ]
        clear hHeld
        refine wpAnyH_done (by kernel_rfl) ?_ _
        have HA2 : Hid (At w ((wd.alloc (.cells (V.map bt).toArray 68)).drew)) := Lib.hid ((HMD.out.alloc _).drewN 1)
        have HS2 : Hid (Sn ((wd.alloc (.cells (V.map bt).toArray 68)).drew) sb (kz (P.take (k + 1))) D') := Lib.hid (HSD.out.on (((At.start wd).alloc _).drewN 1))
        clear HMD HPD HSD HKEEP
        generalize (wd.alloc (.cells (V.map bt).toArray 68)).drew = wz at HA2 HS2 ⊢
        cases d with
        | true =>
          have HFF : Hid (f = fr S (P.take (k + 1))) := Lib.hid (by rw [HFT.out, if_neg (by rw [not_eq_true HD.out]; exact Bool.false_ne_true)]; exact HF.out)
          go_wp2_with fail
          go_roundw
          case rel => exact ⟨k + 1, f, D', by omega, by go_num, rfl, by omega, HFF, HUD, HS2, HA2⟩
          case measure => simp [RowKit.intOf]; omega
        | false =>
          have HFF : Hid (f + 1 = fr S (P.take (k + 1))) := Lib.hid (by rw [HFT.out, if_pos (not_eq_false HD.out), HF.out])
          go_wp2_with fail
          go_roundw
          case rel => exact ⟨k + 1, f + 1, D', by omega, by go_num, by go_num, by omega, HFF, HUD, HS2, HA2⟩
          case measure => simp [RowKit.intOf]; omega
    · have hkn : k = n := by omega
      have ht : P.take k = P := List.take_of_length_le (by rw [HN.out]; omega)
      rw [ht] at HF HUN
      obtain ⟨-, c1, -⟩ := (H.out.on HA.out).cells
      by_cases hb : S.most < ((u + f : Nat) : Int)
      · have HZ : Hid (tz S P = 7) := Lib.hid (by unfold tz; rw [if_neg (not_not_intro HUN.out), ← HU.out, ← HF.out, if_pos hb])
        subst hkn
        clear ht
        go_wp2_with fail
        try rw [Exit.noGoto_ret]
        go_ret
        exact ⟨by rw [HZ.out]; rfl, HA.out⟩
      · have HZ : Hid (tz S P = 0) := Lib.hid (by unfold tz; rw [if_neg (not_not_intro HUN.out), ← HU.out, ← HF.out, if_neg hb])
        have hb' : decide (S.most < ((u + f : Nat) : Int)) = false := decide_eq_false hb
        subst hkn
        clear ht
        go_wp2_with fail
        try rw [Exit.noGoto_ret]
        go_ret
        exact ⟨by rw [HZ.out]; rfl, HA.out⟩

end Go.Proofs.Ythaiddhbifakhaa
