/- Proved: the law FsumWhole answers true at any list of ints and any int, and leaves what there was as it was. -/
import Derived.Test.YtphhonpibmbjmaaIlist
namespace Go.Proofs.Ytphhonpibmbjmaa
open Go.RowKit Fl

set_option maxHeartbeats 400000 in
theorem round_any (k n : Int) (w : World) (hn : 0 < n) (hn2 : n ≤ 1000) :
    Calls Try.prog 25 #[.int .i64 k, .int .i64 n] w fun e w' => ∃ r : Int, 0 ≤ r ∧ r < n ∧ e = .returned (.int .i64 r) ∧ w = w' := by
  have t1 := Int.tmod_lt_of_pos k hn
  have t2 : -n < k.tmod n := by
    have := Int.tmod_lt_of_pos (-k) hn
    rw [Int.neg_tmod] at this
    omega
  go_enter Try.func25, Try.ntmps25
  go_wp2
  · go_ret
    exact ⟨_, by omega, by omega, rfl, rfl⟩
  · go_ret
    exact ⟨_, by omega, by omega, rfl, rfl⟩

set_option maxHeartbeats 2000000 in
theorem whole_big (a : Option Addr) (n cap : Nat) (k : Int) (h : 300 < n) (w : World) :
    Calls Try.prog 5 #[.slice a n cap, .int .i64 k] w fun e w' => e = .returned (.bool true) ∧ Below w.heap.size w w' := by
  have q1 : (300 : Int) < (n : Int) := by omega
  clear h
  go_enter Try.func5, Try.ntmps5
  go_wp2_with (first | (go_at_call 13; refine (awake_any _).mono ?_; rintro e w' ⟨rfl, hb⟩))
  go_ret
  exact ⟨rfl, hb⟩

set_option maxHeartbeats 4000000 in
set_option maxRecDepth 100000 in
theorem whole_some (b off cap n : Nat) (k0 : Int) (Z : List Int) (w : World) (hZ : Z.length = n) (h0 : 0 < n) (hn : n ≤ 300) (hbw : b < w.heap.size)
    (hx : ∀ j, j < n → w.cell? ⟨b, off + j, none⟩ = some (.int .i64 (Z.getD j 0))) :
    Calls Try.prog 5 #[.slice (some ⟨b, off, none⟩) n cap, .int .i64 k0] w fun e w' => e = .returned (.bool true) ∧ Below w.heap.size w w' := by
  obtain ⟨i0, hi, hz0, hz1, hz2⟩ := info_parts info_f64
  have q1 : ¬ ((300 : Int) < (n : Int)) := by omega
  obtain ⟨BB, hBB⟩ : ∃ BB, BB = w.heap.size := ⟨_, rfl⟩
  rw [← hBB]
  have HB := Lib.hid hBB
  have HBb : Hid (b < BB) := Lib.hid (by omega)
  have HX := Lib.hid hx
  have HZ := Lib.hid hZ
  clear hBB hx hbw hZ
  go_enter Try.func5, Try.ntmps5
  go_wp2_with fail
  go_loopw [5, 6, 7] (fun s v i wr => ∃ (k : Nat) (Q : List Nat), k ≤ n ∧ s = .int .i64 (zs (Z.take k)) ∧ i = .int .i64 k ∧ Hid (∀ j, j < k → -1099511627776 ≤ Z.getD j 0 ∧ Z.getD j 0 ≤ 1099511627776) ∧
    Hid (Q = (Z.take k).map iw) ∧ Hid (wr.ownsRow BB 25 1 v k (Q.map (Value.float .f64))) ∧ Hid (Below BB w wr)) (fun _ _ i _ => n - (intOf i).toNat)
  case atStart => exact ⟨0, [], Nat.zero_le _, rfl, rfl, Lib.hid (fun _ h => absurd h (Nat.not_lt_zero _)), Lib.hid rfl, Lib.hid (World.ownsRow_nil _ _ _ _), Lib.hid (Below.refl _ _)⟩
  case round =>
    obtain ⟨k, Q, hk, rfl, rfl, HR, HQ, HO, HN⟩ := hrel
    by_cases hlt : k < n
    · have c1 := (HN.out.cell (p := ⟨b, off + k, none⟩) HBb.out).trans (HX.out k hlt)
      have bb1 : (0 : Int) ≤ (k : Int) := by omega
      have bb2 : (k : Int) < (n : Int) := by omega
      have HT := Lib.hid (take_iw Z k (by rw [HZ.out]; exact hlt))
      have HS := Lib.hid (take_zs Z k (by rw [HZ.out]; exact hlt))
      have hsb := zs_bound 1099511627776 (Z.take k) (fun z hz => by
        obtain ⟨j, hj, rfl⟩ := mem_getD hz
        rw [List.length_take] at hj
        have := HR.out j (by omega)
        rw [List.getD_eq_getElem?_getD, List.getElem?_take_of_lt (by omega), ← List.getD_eq_getElem?_getD]
        exact this)
      have hl : (Z.take k).length = k := by rw [List.length_take, HZ.out]; omega
      rw [hl] at hsb
      have hs1 : -329853488332800 ≤ zs (Z.take k) := by omega
      have hs2 : zs (Z.take k) ≤ 329853488332800 := by omega
      clear hsb hl
      have HRk : Hid (∀ z : Int, z = Z.getD k 0 → -1099511627776 ≤ z → z ≤ 1099511627776 → ∀ j, j < k + 1 → -1099511627776 ≤ Z.getD j 0 ∧ Z.getD j 0 ≤ 1099511627776) := Lib.hid (fun z hz h1 h2 j hj => by
        by_cases e : j = k
        · rw [e, ← hz]; exact ⟨h1, h2⟩
        · exact HR.out j (by omega))
      obtain ⟨z, hz⟩ : ∃ z, z = Z.getD k 0 := ⟨_, rfl⟩
      have HZZ := Lib.hid hz
      rw [← hz] at c1 HT HS
      clear hz
      obtain ⟨sm0, hsm⟩ : ∃ s, s = zs (Z.take k) := ⟨_, rfl⟩
      rw [← hsm] at hs1 hs2 HS ⊢
      clear hsm
      have hsz : BB ≤ wr.heap.size := by rw [HB.out]; exact HN.out.size
      by_cases hlo : z < -1099511627776
      · go_wp2_with (first | (go_at_call 13; refine (awake_any _).mono ?_; rintro e w' ⟨rfl, hb⟩; have HBW := Lib.hid hb; clear hb))
        go_ret
        exact ⟨rfl, HN.out.trans (HBW.out.mono hsz)⟩
      · by_cases hhi : 1099511627776 < z
        · have hlo' : ¬ (z < -1099511627776) := hlo
          go_wp2_with (first | (go_at_call 13; refine (awake_any _).mono ?_; rintro e w' ⟨rfl, hb⟩; have HBW := Lib.hid hb; clear hb))
          go_ret
          exact ⟨rfl, HN.out.trans (HBW.out.mono hsz)⟩
        · go_wp2_with (at_builtin; refine wpList_append_own _ rfl _ _ 22 rfl BB 25 i0 (.float .f64 0) 1 8 Try.underlying22 hi hz0 hz1 hz2 rfl (by decide) _ _ _ rfl (HO.out.alloc _) ⟨wr.heap.size, 0, none⟩ 1 1 [.float .f64 (floatOfInt .f64 z)] rfl rfl (new_cell wr _ _) (fun u hu => by simp at hu; subst hu; rfl) (by unfold maxLen; omega) (by omega) (by first | (simp; omega) | (show BB ≤ wr.heap.size + 1; omega)) ?_)
          intro v' w1 hown' hgrow _
          have R1 : Hid (w1.ownsRow BB 25 1 v' (k + 1) ((Q ++ [iw z]).map (Value.float .f64))) := Lib.hid (by rw [List.map_append]; exact hown')
          have R2 : Hid (Below BB w w1) := Lib.hid ((HN.out.alloc hsz _).grown hgrow (by simp; omega) (fun j hj => (HO.out.lt j hj).1))
          clear hown' hgrow
          go_wp2
          go_roundw
          case rel => exact ⟨k + 1, _, by omega, by rw [HS.out] <;> first | rfl | go_num, by go_num, Lib.hid (HRk.out z HZZ.out (by omega) (by omega)), Lib.hid (by rw [HT.out, HQ.out]), R1, R2⟩
          case measure => simp [intOf]; omega
    · obtain rfl : k = n := by omega
      clear hlt
      have hge : ¬ ((k : Int) < (k : Int)) := by omega
      have ht : Z.take k = Z := by rw [← HZ.out, List.take_length]
      rw [ht] at HQ ⊢
      have hQe := HQ.out
      subst hQe
      clear HQ
      have hall : ∀ z ∈ Z, -1099511627776 ≤ z ∧ z ≤ 1099511627776 := fun z hz => by
        obtain ⟨j, hj, rfl⟩ := mem_getD hz
        exact HR.out j (by rw [← HZ.out]; exact hj)
      have hS1 := sum_iw Z (by rw [HZ.out]; exact hn) hall
      have hSn : isN (floatOfInt .f64 (zs Z)) = false := iw_num (zs Z) (by have := zs_bound 1099511627776 Z hall; have := HZ.out; omega)
      have HROT : Hid (∀ t, sumW ((Z.drop t).map iw ++ (Z.take t).map iw) = iw (zs Z)) := Lib.hid (fun t => by
        rw [← List.map_append, sum_iw _ (by rw [List.length_append, List.length_drop, List.length_take]; have := HZ.out; omega) (fun z hz => hall z (by
          rcases List.mem_append.1 hz with h | h
          · exact List.mem_of_mem_drop h
          · exact List.mem_of_mem_take h)), zs_app]
        have := zs_app (Z.take t) (Z.drop t)
        rw [List.take_append_drop] at this
        rw [this, Int.add_comm])
      have HVX := Lib.hid (view_own HO.out)
      obtain ⟨g, capx, rfl, hgB, hglt⟩ := HO.out.form h0
      have hcap : k ≤ capx := by
        rcases HO.out.2 with ⟨h, _⟩ | ⟨_, _, cur, h, _, _, hnc, _⟩
        · cases h
        · injection h with _ _ h3; subst h3; exact hnc
      have HCX : Hid (∀ j, j < k → wr.cell? ⟨g, j, none⟩ = some (.float .f64 ((Z.map iw).getD j 0))) := Lib.hid (fun j hj => (own_cell HO.out j hj).1)
      go_wp2_with fail
      refine (round_any k0 ((k : Int) + 1) _ (by omega) (by omega)).mono ?_
      rintro e w' ⟨r, r0, r1, rfl, rfl⟩
      obtain ⟨t, rfl⟩ : ∃ t : Nat, r = (t : Int) := ⟨r.toNat, by omega⟩
      have ht' : t ≤ k := by omega
      clear r0 r1
      have g1 : (0 : Int) ≤ (t : Int) := by omega
      have g2 : (t : Int) ≤ (k : Int) := by omega
      have g3 : (k : Int) ≤ (capx : Int) := by omega
      have HI0 : Hid (k ≤ 300 ∧ t ≤ k ∧ Z.length = k ∧ k ≤ capx) := Lib.hid ⟨hn, ht', HZ.out, hcap⟩
      obtain ⟨X, hXe⟩ : ∃ X, X = Z.map iw := ⟨_, rfl⟩
      have hXl : X.length = k := by rw [hXe, List.length_map]; exact HZ.out
      have hXf : ∀ x ∈ X, x < 18446744073709551616 := by rw [hXe]; exact iw_all Z
      have HXl := Lib.hid hXl
      have HXf := Lib.hid hXf
      have HROT2 : Hid (∀ Y, Y = X.drop t ++ X.take t → sumW Y = floatOfInt .f64 (zs Z)) := Lib.hid (fun Y hY => by
        rw [hY, hXe, ← List.map_drop, ← List.map_take]; exact HROT.out t)
      rw [← hXe] at HCX HVX hS1
      have HS1 : Hid (sumW X = floatOfInt .f64 (zs Z)) := Lib.hid hS1
      have o1 : FloatKind.f64.format.order (floatOfInt .f64 (zs Z)) (floatOfInt .f64 (zs Z)) = some .eq := ord_self _ (iw_lt (zs Z)) hSn
      have HSL := Lib.hid (iw_lt (zs Z))
      clear HROT HO hXe hXl hXf hS1 hSn hall ht ht' HR
      have hmade : (wr.alloc (.cells #[] 25)).ownsRow wr.heap.size 25 1 (.slice (some ⟨wr.heap.size, 0, none⟩) 0 0) 0 [] := World.ownsRow_made wr #[] 0 (Nat.le_refl _) (by unfold maxLen; omega) rfl
      have HRD : Hid (∀ W, Below wr.heap.size wr W → Reads W wr.heap.size 1 (some ⟨g, t, none⟩) (k - t) ((X.drop t).map (Value.float .f64))) := Lib.hid (fun W hW => by
        refine reads_at hglt (by rw [List.length_drop, HXl.out]) (fun j hj => ?_)
        have := (hW.cell (p := ⟨g, t + j, none⟩) hglt).trans (HCX.out (t + j) (by omega))
        rw [this]
        simp [List.getD_eq_getElem?_getD, List.getElem?_drop])
      have HRT : Hid (∀ W, Below wr.heap.size wr W → Reads W wr.heap.size 1 (some ⟨g, 0, none⟩) t ((X.take t).map (Value.float .f64))) := Lib.hid (fun W hW => by
        refine reads_at hglt (by rw [List.length_take, HXl.out]; have := HI0.out; omega) (fun j hj => ?_)
        have := (hW.cell (p := ⟨g, j, none⟩) hglt).trans (HCX.out j (by have := HI0.out; omega))
        rw [Nat.zero_add, this]
        rw [List.getD_eq_getElem?_getD, List.getD_eq_getElem?_getD, List.getElem?_take_of_lt hj])
      have HRD0 : Hid (∀ W (A : Option Addr), Reads W wr.heap.size 1 A 0 ([] : List Value)) := Lib.hid (fun W A => ⟨by simp, fun h => absurd h (by omega)⟩)
      have hwb : Hid (Below wr.heap.size wr (wr.alloc (.cells #[] 25)).drew) := Lib.hid ((Below.refl _ _).alloc (Nat.le_refl _) _).drew
      have HVR := Lib.hid (fun W (h : Below wr.heap.size wr W) => view_below HVX.out h)
      have HSU := Lib.hid (fun (W : World) (v : Value) (Y : List Nat) (hv : View W v Y) (hy : Y = X ∨ Y = X.drop t ++ X.take t) => sum_u hv (by
          rcases hy with rfl | rfl
          · have := HXl.out; have := HI0.out; omega
          · rw [List.length_append, List.length_drop, List.length_take]; have := HXl.out; have := HI0.out; omega) (by
          rcases hy with rfl | rfl
          · exact HXf.out
          · intro x hx
            rcases List.mem_append.1 hx with h | h
            · exact HXf.out x (List.mem_of_mem_drop h)
            · exact HXf.out x (List.mem_of_mem_take h)))
      have HSZ : Hid (BB ≤ wr.heap.size) := Lib.hid (by rw [HB.out]; exact HN.out.size)
      by_cases hct : capx = t
      · obtain rfl : capx = t := hct
        obtain rfl : capx = k := by have := HI0.out; omega
        have hd0 : X.drop capx = [] := List.drop_eq_nil_of_le (by rw [HXl.out]; exact Nat.le_refl _)
        have HD0 := Lib.hid hd0
        clear hd0 g2 g3
        go_wp2_with fail
        go_region_law (first
          | (refine step_append_read _ rfl _ _ 22 rfl wr.heap.size 25 i0 (.float .f64 0) 1 8 Try.underlying22 hi hz0 hz1 hz2 rfl (by decide) _ 0 [] rfl hmade wr.heap.size _ 0 _ [] rfl (HRD0.out _ _) (fun u hu => by cases hu) (by unfold maxLen; omega) (by omega) hwb.out.size ?_; intro v1 w2 hown1 hgrow1 _; have HBa := Lib.hid (hwb.out.grown hgrow1 hwb.out.size (fun j hj => (hmade.lt j hj).1)))
          | (refine step_append_read _ rfl _ _ 22 rfl wr.heap.size 25 i0 (.float .f64 0) 1 8 Try.underlying22 hi hz0 hz1 hz2 rfl (by decide) _ _ _ rfl hown1 wr.heap.size _ _ _ ((X.take capx).map (Value.float .f64)) rfl (HRT.out _ HBa.out) (one_cell _) (by have := HI0.out; unfold maxLen; omega) (by have := HI0.out; omega) HBa.out.size ?_; intro v2 w3 hown2 hgrow2 _; have HBb := Lib.hid (HBa.out.grown hgrow2 HBa.out.size (fun j hj => (hown1.lt j hj).1))))
        have HVY : Hid (View w3 v2 (X.drop capx ++ X.take capx)) := Lib.hid (view_own (by simpa [HD0.out] using hown2))
        have HBb' := HBb.out
        clear hown1 hown2 hgrow1 hgrow2 HRD HRT HRD0 hmade hwb
        go_wp2_with (first
          | (go_at_call 21; first
              | ((with_reducible refine (HSU.out _ _ X (HVR.out _ (by assumption)) (.inl rfl)).mono ?_); rintro e w4 ⟨rfl, hb4⟩; have HBc := HBb.out.trans (hb4.mono HBb.out.size); rw [HS1.out])
              | ((with_reducible refine (HSU.out _ _ (X.drop capx ++ X.take capx) (view_below HVY.out hb4) (.inr rfl)).mono ?_); rintro e w5 ⟨rfl, hb5⟩; have HBd := HBc.trans (hb5.mono HBc.size); rw [HROT2.out _ rfl]))
          | (go_at_call 13; refine (awake_any _).mono ?_; rintro e w6 ⟨rfl, hb6⟩; have HBe := HBd.trans (hb6.mono HBd.size)))
        go_ret
        exact ⟨rfl, HN.out.trans (HBe.mono HSZ.out)⟩
      · have g4 : (t : Int) ≤ (capx : Int) := by have := HI0.out; omega
        go_wp2_with fail
        go_region_law (first
          | (refine step_append_read _ rfl _ _ 22 rfl wr.heap.size 25 i0 (.float .f64 0) 1 8 Try.underlying22 hi hz0 hz1 hz2 rfl (by decide) _ 0 [] rfl hmade wr.heap.size (some ⟨g, t, none⟩) (k - t) (capx - t) ((X.drop t).map (Value.float .f64)) rfl (HRD.out _ hwb.out) (one_cell _) (by have := HI0.out; unfold maxLen; omega) (by have := HI0.out; omega) hwb.out.size ?_; intro v1 w2 hown1 hgrow1 _; have HBa := Lib.hid (hwb.out.grown hgrow1 hwb.out.size (fun j hj => (hmade.lt j hj).1)))
          | (refine step_append_read _ rfl _ _ 22 rfl wr.heap.size 25 i0 (.float .f64 0) 1 8 Try.underlying22 hi hz0 hz1 hz2 rfl (by decide) _ _ _ rfl hown1 wr.heap.size (some ⟨g, 0, none⟩) t capx ((X.take t).map (Value.float .f64)) rfl (HRT.out _ HBa.out) (one_cell _) (by have := HI0.out; unfold maxLen; omega) (by have := HI0.out; omega) HBa.out.size ?_; intro v2 w3 hown2 hgrow2 _; have HBb := Lib.hid (HBa.out.grown hgrow2 HBa.out.size (fun j hj => (hown1.lt j hj).1))))
        have HVY : Hid (View w3 v2 (X.drop t ++ X.take t)) := Lib.hid (view_own (by rw [List.map_append]; rw [List.nil_append] at hown2; exact hown2))
        have HBb' := HBb.out
        clear hown1 hown2 hgrow1 hgrow2 HRD HRT HRD0 hmade hwb
        go_wp2_with (first
          | (go_at_call 21; first
              | ((with_reducible refine (HSU.out _ _ X (HVR.out _ (by assumption)) (.inl rfl)).mono ?_); rintro e w4 ⟨rfl, hb4⟩; have HBc := HBb.out.trans (hb4.mono HBb.out.size); rw [HS1.out])
              | ((with_reducible refine (HSU.out _ _ (X.drop t ++ X.take t) (view_below HVY.out hb4) (.inr rfl)).mono ?_); rintro e w5 ⟨rfl, hb5⟩; have HBd := HBc.trans (hb5.mono HBc.size); rw [HROT2.out _ rfl]))
          | (go_at_call 13; refine (awake_any _).mono ?_; rintro e w6 ⟨rfl, hb6⟩; have HBe := HBd.trans (hb6.mono HBd.size)))
        go_ret
        exact ⟨rfl, HN.out.trans (HBe.mono HSZ.out)⟩

set_option maxHeartbeats 2000000 in
theorem whole_none (a : Option Addr) (cap : Nat) (k0 : Int) (w : World) :
    Calls Try.prog 5 #[.slice a 0 cap, .int .i64 k0] w fun e w' => e = .returned (.bool true) ∧ Below w.heap.size w w' := by
  obtain ⟨i0, hi, hz0, hz1, hz2⟩ := info_parts info_f64
  have hs0 := sum_nil
  have HS := Lib.hid (fun (W : World) (v : Value) (hv : View W v []) => sum_u hv (by decide) (fun _ h => by cases h))
  have HNIL : Hid (∀ W : World, View W (.slice none 0 0) []) := Lib.hid (fun _ => .inl ⟨rfl, rfl⟩)
  rw [hs0] at HS
  have o1 : FloatKind.f64.format.order 0 (floatOfInt .f64 0) = some .eq := by decide +kernel
  have hmade : (w.alloc (.cells #[] 25)).ownsRow w.heap.size 25 1 (.slice (some ⟨w.heap.size, 0, none⟩) 0 0) 0 [] := World.ownsRow_made w #[] 0 (Nat.le_refl _) (by unfold maxLen; omega) rfl
  have HRD0 : Hid (∀ W (A : Option Addr), Reads W w.heap.size 1 A 0 ([] : List Value)) := Lib.hid (fun W A => ⟨by simp, fun h => absurd h (by omega)⟩)
  have hwb : Hid (Below w.heap.size w (w.alloc (.cells #[] 25)).drew) := Lib.hid ((Below.refl _ _).alloc (Nat.le_refl _) _).drew
  clear hs0
  go_enter Try.func5, Try.ntmps5
  go_wp2_with fail
  refine wp_loop_rounds 1 ?_
  rw [rounds_succ]
  go_wp2_with fail
  refine (round_any k0 1 _ (by omega) (by omega)).mono ?_
  rintro e w' ⟨r, r0, r1, rfl, rfl⟩
  obtain rfl : r = 0 := by omega
  clear r0 r1
  go_wp2_with fail
  go_region_law (first
    | (refine step_append_read _ rfl _ _ 22 rfl w.heap.size 25 i0 (.float .f64 0) 1 8 Try.underlying22 hi hz0 hz1 hz2 rfl (by decide) _ 0 [] rfl hmade w.heap.size _ 0 _ [] rfl (HRD0.out _ _) (fun u hu => by cases hu) (by unfold maxLen; omega) (by omega) hwb.out.size ?_; intro v1 w2 hown1 hgrow1 _; have HBa := Lib.hid (hwb.out.grown hgrow1 hwb.out.size (fun j hj => (hmade.lt j hj).1)))
    | (refine step_append_read _ rfl _ _ 22 rfl w.heap.size 25 i0 (.float .f64 0) 1 8 Try.underlying22 hi hz0 hz1 hz2 rfl (by decide) _ _ _ rfl hown1 w.heap.size _ 0 _ [] rfl (HRD0.out _ _) (fun u hu => by cases hu) (by unfold maxLen; omega) (by omega) HBa.out.size ?_; intro v2 w3 hown2 hgrow2 _; have HBb := Lib.hid (HBa.out.grown hgrow2 HBa.out.size (fun j hj => (hown1.lt j hj).1))))
  have HVY : Hid (View w3 v2 []) := Lib.hid (view_own (R := []) (by simpa using hown2))
  clear hown1 hown2 hgrow1 hgrow2 HRD0 hmade hwb
  go_wp2_with (first
    | (go_at_call 21; first
        | ((with_reducible refine (HS.out _ (.slice none 0 0) (HNIL.out _)).mono ?_); rintro e w4 ⟨rfl, hb4⟩; have HBc := HBb.out.trans (hb4.mono HBb.out.size))
        | ((with_reducible refine (HS.out _ _ (view_below HVY.out hb4)).mono ?_); rintro e w5 ⟨rfl, hb5⟩; have HBd := HBc.trans (hb5.mono HBc.size)))
    | (go_at_call 13; refine (awake_any _).mono ?_; rintro e w6 ⟨rfl, hb6⟩; have HBe := HBd.trans (hb6.mono HBd.size)))
  go_ret
  exact ⟨rfl, HBe⟩

end Go.Proofs.Ytphhonpibmbjmaa
