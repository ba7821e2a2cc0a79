/- Proved: the law ForderSorts answers true at every list and every int, and leaves what there was as it was, if forder keeps its chapter (said as hypotheses on its functions' calls). -/
import Derived.Test.YtfpiojohodgncaaFSortsP
import Derived.Deep.RegionLaw
namespace Go.Proofs.Ytfpiojohodgncaa
open Go.RowKit Fl

/-- append onto a row of the call's own, as one step of a region that draws its order. -/
theorem step_append_any {P : Program} {w : World} {ops : Array Oper} {o : Oper} {a : Act} {K : Act → World → Prop} {Q : Exit → Act → World → Prop} {E : Prop} (hgd : o.guard = none) (s x : Operand) (t : TypeId)
    (ho : o.op = .call { callee := .builtin .append, args := #[s, x], argTypes := #[t, t] })
    (base : Nat) (e : TypeId) (i : TypeInfo) (z : Value) (size bytes : Nat) (ht : P.underlying t = some (.slice e)) (hi : P.info? e = some i) (hz : i.zero = some z)
    (hsize : i.size = size) (hby : i.bytes = bytes) (hzs : z.cells.size = size) (hsz : 0 < size)
    (v : Value) (n : Nat) (xs : List Value) (hs : a.eval s = v) (hown : w.ownsRow base e size v n xs)
    (ad : Addr) (m c : Nat) (news : List Value) (hx : a.eval x = .slice (some ad) m c) (hl : news.length = m * size) (hnews : ∀ j u, news[j]? = some u → w.cell? (ad.add j) = some u) (h1 : ∀ u ∈ news, u.oneCell' = true)
    (h63 : n + m ≤ maxLen) (hbytes : (n + m) * bytes ≤ 140737488355328) (hbase : base ≤ w.heap.size)
    (h : ∀ v' w', w'.ownsRow base e size v' (n + m) (xs ++ news) → w.grownBy w' v.ownBlock → K (a.put o.dst v') w') : if Region.wanted o (yielded ops a.tmps) = true then Oper.wp P o a w K Q else E := by
  rw [if_pos (by simp [Region.wanted, hgd])]
  exact wp_append_own w s x t ho base e i z size bytes ht hi hz hsize hby hzs hsz v n xs hs hown ad m c news hx hl hnews h1 h63 hbytes hbase fun v' w' a b _ => h v' w' a b

set_option maxHeartbeats 4000000 in
theorem fsorts_in (hC : DCompare) (hS : DSort) (hM : DMost0 13) (kk : Int)
    (b1 o1 n cap : Nat) (L : List Nat) (hl : n ≤ 300) (h0 : 0 < n) (hcap : n ≤ cap) (hL : L.length = n) (w : World) (hv : View w (.slice (some ⟨b1, o1, none⟩) n cap) L)
    (hw1 : b1 < w.heap.size) (hc1 : ∀ j, j < n → w.cell? ⟨b1, o1 + j, none⟩ = some (.float .f64 (L.getD j 0))) (hf : ∀ x ∈ L, x < 18446744073709551616) :
    Calls Try.prog 5 #[.slice (some ⟨b1, o1, none⟩) n cap, .int .i64 kk] w fun e w' => e = .returned (.bool true) ∧ Below w.heap.size w w' := by
  have q : decide (n ≤ 300) = true := decide_eq_true hl
  have HA := Lib.hid (And.intro hl (And.intro h0 hcap))
  have HL := Lib.hid hL
  have HF := Lib.hid hf
  have HV := Lib.hid hv
  have HW := Lib.hid hw1
  have HC := Lib.hid hc1
  clear hl h0 hcap hL hf hv hw1 hc1
  go_enter Try.func5, Try.ntmps5
  go_wp2_with (go_at_call 11; refine (small_any _ _ _ _).mono ?_; rintro e w' ⟨rfl, rfl⟩)
  refine (hS _ L _ HV.out (by have := HA.out; have := HL.out; omega) HF.out).mono ?_
  rintro e w1 ⟨v1, R, rfl, hR, hv1, hb1⟩
  have HB1 := Lib.hid hb1
  have HS1 := Lib.hid hR
  have HV1 := Lib.hid hv1
  obtain ⟨b, off, cap1, rfl, hbw, hc⟩ := view_pos hv1 (by rw [sorts_len hR, HL.out]; exact HA.out.2.1)
  have hRl : R.length = n := by rw [sorts_len hR, HL.out]
  rw [hRl] at hc HV1 ⊢
  have HCR := Lib.hid hc
  have HBW := Lib.hid hbw
  have HRL := Lib.hid hRl
  have HCL := Lib.hid (fun j (hj : j < n) => (HB1.out.cell (p := ⟨b1, o1 + j, none⟩) HW.out).trans (HC.out j hj))
  have hn3 : n ≤ 300 := HA.out.1
  clear hb1 hR hv1 hRl hc hbw
  go_wp2_with fail
  go_loopw [6] (fun i wr => ∃ k : Nat, k + 1 ≤ n ∧ i = .int .i64 ((k : Int) + 1) ∧ ∃ m, wr = w1.drewN m) (fun i _ => n - (intOf i).toNat)
  case atStart => exact ⟨0, by have := HA.out; omega, rfl, 0, rfl⟩
  case round =>
    obtain ⟨k, hk, rfl, m, rfl⟩ := hrel
    have b1' : (0 : Int) ≤ (k : Int) := by omega
    by_cases hlt : k + 1 < n
    · have c1 := HCR.out k (by omega)
      have c2 := HCR.out (k + 1) hlt
      have d1 := getD_lt R HS1.out.2.2 k (by rw [HRL.out]; omega)
      have d2 := getD_lt R HS1.out.2.2 (k + 1) (by rw [HRL.out]; omega)
      have b2 : (k : Int) + 1 < (n : Int) := by omega
      have cc := (cmpI_pos (R.getD k 0) (R.getD (k + 1) 0)).trans (decide_eq_false (by have := sorts_le HS1.out k (k + 1) (by omega) (by rw [HRL.out]; omega); omega))
      obtain ⟨p, hp⟩ : ∃ p, p = R.getD k 0 := ⟨_, rfl⟩
      obtain ⟨q', hq⟩ : ∃ q, q = R.getD (k + 1) 0 := ⟨_, rfl⟩
      rw [← hp] at c1 d1 cc
      rw [← hq] at c2 d2 cc
      clear hp hq
      go_wp2
      go_quiet ((go_at_call 16; exact same_drawn (hC _ _ d1 d2 _)))
      go_wp2
      go_roundw
      case rel => exact ⟨k + 1, by omega, by go_num, _, rfl⟩
      case measure => simp [intOf]; omega
    · have hge : ¬ ((k : Int) + 1 < (n : Int)) := by omega
      clear hlt
      go_wp2
      go_loopw [7] (fun i wr => ∃ j : Nat, j ≤ n ∧ i = .int .i64 j ∧ ∃ m, wr = w1.drewN m) (fun i _ => n - (intOf i).toNat)
      case atStart => exact ⟨0, Nat.zero_le _, rfl, m, rfl⟩
      case round =>
        obtain ⟨i, hi, rfl, m2, rfl⟩ := hrel
        by_cases hin : i < n
        · have ci := HCL.out i hin
          have di := getD_lt L HF.out i (by rw [HL.out]; exact hin)
          have b5 : (0 : Int) ≤ (i : Int) := by omega
          have b6 : (i : Int) < (n : Int) := by omega
          have HE := Lib.hid (cnt_same HS1.out HF.out (L.getD i 0) di)
          obtain ⟨z, hz⟩ : ∃ z, z = L.getD i 0 := ⟨_, rfl⟩
          rw [← hz] at ci di HE
          clear hz
          go_wp2
          go_loopw [8, 9, 10] (fun a c t wr => ∃ j : Nat, j ≤ n ∧ t = .int .i64 j ∧ a = .int .i64 (cnt L z j : Int) ∧ c = .int .i64 (cnt R z j : Int) ∧ ∃ m, wr = w1.drewN m) (fun _ _ t _ => n - (intOf t).toNat)
          case atStart => exact ⟨0, Nat.zero_le _, rfl, rfl, rfl, m2, rfl⟩
          case round =>
            obtain ⟨j, hj, rfl, rfl, rfl, m3, rfl⟩ := hrel
            have k1 := cnt_le L z j
            have k2 := cnt_le R z j
            by_cases hjn : j < n
            · have cj := HCL.out j hjn
              have dj := getD_lt L HF.out j (by rw [HL.out]; exact hjn)
              have cr := HCR.out j hjn
              have dr := getD_lt R HS1.out.2.2 j (by rw [HRL.out]; exact hjn)
              have b7 : (0 : Int) ≤ (j : Int) := by omega
              have b8 : (j : Int) < (n : Int) := by omega
              have HSL := Lib.hid (cnt_step L z j (by rw [HL.out]; exact hjn))
              have HSR := Lib.hid (cnt_step R z j (by rw [HRL.out]; exact hjn))
              obtain ⟨p, hp⟩ : ∃ p, p = L.getD j 0 := ⟨_, rfl⟩
              obtain ⟨r, hr⟩ : ∃ r, r = R.getD j 0 := ⟨_, rfl⟩
              rw [← hp] at cj dj HSL
              rw [← hr] at cr dr HSR
              clear hp hr
              rcases hs1 : smB p z with _ | _ <;> rcases hs2 : smB r z with _ | _
              all_goals
                have e1 := HSL.out _ hs1
                have e2 := HSR.out _ hs2
                simp only [Bool.toNat_true, Bool.toNat_false, Nat.add_zero] at e1 e2
                have E1 := Lib.hid e1
                have E2 := Lib.hid e2
                have T1 := Lib.hid hs1
                have T2 := Lib.hid hs2
                clear e1 e2 hs1 hs2
                go_wp2
                go_quiet ((go_at_call 21; exact same_drawn (rsame_val _ _ dj di _ T1 _)))
                go_wp2
                go_quiet ((go_at_call 21; exact same_drawn (rsame_val _ _ dr di _ T2 _)))
                go_wp2
                go_roundw
                case rel =>
                  refine ⟨j + 1, by omega, by go_num, ?_, ?_, _, rfl⟩
                  · rw [E1.out] <;> first | rfl | go_num
                  · rw [E2.out] <;> first | rfl | go_num
                case measure => simp [intOf]; omega
            · obtain rfl : j = n := by omega
              have hee : cnt L z j = cnt R z j := by have := HE.out; rw [HL.out] at this; exact this
              rw [hee]
              clear hee
              go_wp2
              go_roundw
              case rel => exact ⟨i + 1, by omega, by go_num, _, rfl⟩
              case measure => simp [intOf]; omega
        · obtain rfl : i = n := by omega
          go_wp2_with fail
          refine (round_any kk ((i : Int) + 1) _ (by omega) (by omega)).mono ?_
          rintro e w' ⟨r, r0, r1, rfl, rfl⟩
          obtain ⟨t, rfl⟩ : ∃ t : Nat, r = (t : Int) := ⟨r.toNat, by omega⟩
          have ht : t ≤ i := by omega
          obtain ⟨wz, hwz⟩ : ∃ wz, wz = w1.drewN m2 := ⟨_, rfl⟩
          rw [← hwz]
          have HCZ : Hid (∀ j, j < i → wz.cell? ⟨b1, o1 + j, none⟩ = some (.float .f64 (L.getD j 0))) := Lib.hid (by rw [hwz]; exact HCL.out)
          have HBZ : Hid (Below w.heap.size w wz) := Lib.hid (by rw [hwz]; exact below_drewN HB1.out m2)
          have HVZ : Hid (View wz (.slice (some ⟨b, off, none⟩) i cap1) R) := Lib.hid (by rw [hwz]; exact view_below HV1.out (below_drewN (Below.refl _ _) m2))
          clear hwz r0 r1
          have g1 : (0 : Int) ≤ (t : Int) := by omega
          have g2 : (t : Int) ≤ (i : Int) := by omega
          have g3 : (i : Int) ≤ (cap : Int) := by have := HA.out.2.2; omega
          obtain ⟨i0, hi0, hz0, hz1, hz2⟩ := info_parts info_f64
          have HI0 : Hid (i ≤ 300 ∧ t ≤ i ∧ L.length = i ∧ i ≤ cap) := Lib.hid ⟨hn3, ht, HL.out, HA.out.2.2⟩
          by_cases hct : cap = t
          · obtain rfl : cap = t := hct
            obtain rfl : cap = i := by have := HI0.out; omega
            have HM2 : Hid (∀ W : World, Below wz.heap.size wz W → ∀ j u, (L.map (Value.float .f64))[j]? = some u → W.cell? ((⟨b1, o1, none⟩ : Addr).add j) = some u) := Lib.hid (by
              intro W hW j u hj
              rw [List.getElem?_map] at hj
              have hI := HI0.out
              by_cases h : j < L.length
              · rw [List.getElem?_eq_getElem h] at hj
                have hc := HCZ.out j (by omega)
                rw [List.getD_eq_getElem?_getD, List.getElem?_eq_getElem h] at hc
                rw [Go.WideShapes.add_plain]
                simp only [Option.map_some, Option.some.injEq] at hj
                rw [← hj]
                exact (hW.cell (p := ⟨b1, o1 + j, none⟩) (World.block_lt_of_cell? wz ⟨b1, o1 + j, none⟩ hc)).trans hc
              · rw [List.getElem?_eq_none (by omega)] at hj; cases hj)
            have HO : Hid (∀ K : List Nat, ∀ u ∈ K.map (Value.float .f64), u.oneCell' = true) := Lib.hid (by
              intro K u hu; simp only [List.mem_map] at hu; obtain ⟨x, _, rfl⟩ := hu; rfl)
            have HNL : Hid ((L.map (Value.float .f64)).length = cap * 1) := Lib.hid (by have := HI0.out; rw [List.length_map]; omega)
            have hwb : Hid (Below wz.heap.size wz (wz.alloc (.cells #[] 22)).drew) := Lib.hid ((Below.refl _ _).alloc (Nat.le_refl _) _).drew
            clear ht g2 g3
            go_wp2_with fail
            go_region_law (first
              | (refine step_append_any rfl _ _ 23 rfl wz.heap.size 22 i0 (.float .f64 0) 1 8 Try.underlying23 hi0 hz0 hz1 hz2 rfl (by decide) _ 0 [] rfl (World.ownsRow_made wz #[] 0 (Nat.le_refl _) (by unfold maxLen; omega) rfl) ⟨b1, o1, none⟩ 0 0 [] rfl rfl (fun j u hj => by simp at hj) (fun u hu => by cases hu) (by unfold maxLen; omega) (by omega) hwb.out.size ?_; intro v1 w2 hown1 hgrow1; have HBa := Lib.hid (hwb.out.grown hgrow1 hwb.out.size (fun j hj => by cases hj; exact Nat.le_refl _)))
              | (refine step_append_any rfl _ _ 23 rfl wz.heap.size 22 i0 (.float .f64 0) 1 8 Try.underlying23 hi0 hz0 hz1 hz2 rfl (by decide) _ _ _ rfl hown1 ⟨b1, o1, none⟩ cap cap (L.map (Value.float .f64)) rfl HNL.out (HM2.out _ HBa.out) (HO.out _) (by have := HI0.out; unfold maxLen; omega) (by have := HI0.out; omega) HBa.out.size ?_; intro v2 w3 hown2 hgrow2; have HBb := Lib.hid (HBa.out.grown hgrow2 HBa.out.size (fun j hj => (hown1.lt j hj).1)))
              | (go_simp; go_at_call 19; refine (hS v2 L _ (view_own (R := L) (by have h := hown2; rw [List.nil_append] at h; exact h)) (by have := HI0.out; omega) HF.out).mono ?_; rintro e w4 ⟨v4, R4, rfl, hR4, hv4, hb4⟩; have HBc := Lib.hid (HBb.out.trans (hb4.mono HBb.out.size)))
              | (go_simp; go_at_call 18; refine (nums_view v4 (.slice (some ⟨b, off, none⟩) cap cap1) R4 R _ hv4 (view_below HVZ.out HBc.out) (by rw [sorts_len hR4]; have := HI0.out; omega) (by rw [sorts_len hR4, HL.out, HRL.out]) hR4.2.2 HS1.out.2.2 (sorts_same hR4 HS1.out (List.Perm.refl _))).mono ?_; rintro e w5 ⟨rfl, m5, rfl⟩; have HBd := Lib.hid (below_drewN HBc.out m5))
              | (go_simp; go_at_call 12; refine (awake2_any hS hM hC _).mono ?_; rintro e w6 ⟨rfl, hbelow⟩; have HBe := Lib.hid (HBd.out.trans (hbelow.mono HBd.out.size))))
            go_wp2
            go_ret
            exact ⟨rfl, HBZ.out.trans (HBe.out.mono HBZ.out.size)⟩
          have HN1 : Hid (((L.drop t).map (Value.float .f64)).length = (i - t) * 1 ∧ ((L.take t).map (Value.float .f64)).length = t * 1) := Lib.hid (by
            have := HI0.out; rw [List.length_map, List.length_map, List.length_drop, List.length_take]; omega)
          have HM1 : Hid (∀ W : World, Below wz.heap.size wz W → ∀ j u, ((L.drop t).map (Value.float .f64))[j]? = some u → W.cell? ((⟨b1, o1 + t, none⟩ : Addr).add j) = some u) := Lib.hid (by
            intro W hW j u hj
            rw [List.getElem?_map, List.getElem?_drop] at hj
            have hI := HI0.out
            by_cases h : t + j < L.length
            · rw [List.getElem?_eq_getElem h] at hj
              have hc := HCZ.out (t + j) (by omega)
              rw [List.getD_eq_getElem?_getD, List.getElem?_eq_getElem h] at hc
              rw [Go.WideShapes.add_plain]
              simp only [Option.map_some, Option.some.injEq] at hj
              rw [← hj, Nat.add_assoc]
              exact (hW.cell (p := ⟨b1, o1 + (t + j), none⟩) (World.block_lt_of_cell? wz ⟨b1, o1 + (t + j), none⟩ hc)).trans hc
            · rw [List.getElem?_eq_none (by omega)] at hj; cases hj)
          have HM2 : Hid (∀ W : World, Below wz.heap.size wz W → ∀ j u, ((L.take t).map (Value.float .f64))[j]? = some u → W.cell? ((⟨b1, o1, none⟩ : Addr).add j) = some u) := Lib.hid (by
            intro W hW j u hj
            rw [List.getElem?_map] at hj
            have hI := HI0.out
            by_cases h : j < t
            · rw [List.getElem?_take_of_lt h, List.getElem?_eq_getElem (by omega)] at hj
              have hc := HCZ.out j (by omega)
              rw [List.getD_eq_getElem?_getD, List.getElem?_eq_getElem (by omega)] at hc
              rw [Go.WideShapes.add_plain]
              simp only [Option.map_some, Option.some.injEq] at hj
              rw [← hj]
              exact (hW.cell (p := ⟨b1, o1 + j, none⟩) (World.block_lt_of_cell? wz ⟨b1, o1 + j, none⟩ hc)).trans hc
            · rw [List.getElem?_eq_none (by rw [List.length_take]; omega)] at hj; cases hj)
          have HO : Hid (∀ K : List Nat, ∀ u ∈ K.map (Value.float .f64), u.oneCell' = true) := Lib.hid (by
            intro K u hu; simp only [List.mem_map] at hu; obtain ⟨x, _, rfl⟩ := hu; rfl)
          have HP1 : Hid (((L.drop t ++ L.take t).map kb).Perm (L.map kb)) := Lib.hid (by
            refine List.Perm.map kb ?_
            have := List.perm_append_comm (l₁ := L.drop t) (l₂ := L.take t)
            rwa [List.take_append_drop] at this)
          have HP2 : Hid ((L.drop t ++ L.take t).length = i ∧ ∀ x ∈ L.drop t ++ L.take t, x < 18446744073709551616) := Lib.hid (by
            have hI := HI0.out
            refine ⟨by rw [List.length_append, List.length_drop, List.length_take]; omega, fun x hx => HF.out x ?_⟩
            rcases List.mem_append.1 hx with h | h
            · exact List.mem_of_mem_drop h
            · exact List.mem_of_mem_take h)
          have HW0 : Hid (∀ W : World, Below wz.heap.size wz W → wz.heap.size ≤ W.heap.size) := Lib.hid (fun W h => h.size)
          have hwb : Hid (Below wz.heap.size wz (wz.alloc (.cells #[] 22)).drew) := Lib.hid ((Below.refl _ _).alloc (Nat.le_refl _) _).drew
          clear ht hn3 g2 g3
          have g2 : (t : Int) ≤ (i : Int) := by have := HI0.out; omega
          have g3 : (i : Int) ≤ (cap : Int) := by have := HI0.out; omega
          have g4 : (t : Int) ≤ (cap : Int) := by have := HI0.out; omega
          go_wp2_with fail
          go_region_law (first
            | (refine step_append_any rfl _ _ 23 rfl wz.heap.size 22 i0 (.float .f64 0) 1 8 Try.underlying23 hi0 hz0 hz1 hz2 rfl (by decide) _ 0 [] rfl (World.ownsRow_made wz #[] 0 (Nat.le_refl _) (by unfold maxLen; omega) rfl) ⟨b1, o1 + t, none⟩ (i - t) (cap - t) ((L.drop t).map (Value.float .f64)) rfl HN1.out.1 (HM1.out _ hwb.out) (HO.out _) (by have := HI0.out; unfold maxLen; omega) (by have := HI0.out; omega) hwb.out.size ?_; intro v1 w2 hown1 hgrow1; have HBa := Lib.hid (hwb.out.grown hgrow1 hwb.out.size (fun j hj => by cases hj; exact Nat.le_refl _)))
            | (refine step_append_any rfl _ _ 23 rfl wz.heap.size 22 i0 (.float .f64 0) 1 8 Try.underlying23 hi0 hz0 hz1 hz2 rfl (by decide) _ _ _ rfl hown1 ⟨b1, o1, none⟩ t cap ((L.take t).map (Value.float .f64)) rfl HN1.out.2 (HM2.out _ HBa.out) (HO.out _) (by have := HI0.out; unfold maxLen; omega) (by have := HI0.out; omega) HBa.out.size ?_; intro v2 w3 hown2 hgrow2; have HBb := Lib.hid (HBa.out.grown hgrow2 HBa.out.size (fun j hj => (hown1.lt j hj).1)))
            | (go_simp; go_at_call 19; refine (hS v2 (L.drop t ++ L.take t) _ (view_own (R := L.drop t ++ L.take t) (by have h := hown2; rw [List.nil_append, ← List.map_append] at h; exact h)) (by rw [HP2.out.1]; have := HI0.out; omega) HP2.out.2).mono ?_; rintro e w4 ⟨v4, R4, rfl, hR4, hv4, hb4⟩; have HBc := Lib.hid (HBb.out.trans (hb4.mono HBb.out.size)))
            | (go_simp; go_at_call 18; refine (nums_view v4 (.slice (some ⟨b, off, none⟩) i cap1) R4 R _ hv4 (view_below HVZ.out HBc.out) (by rw [sorts_len hR4, HP2.out.1]; have := HI0.out; omega) (by rw [sorts_len hR4, HP2.out.1, HRL.out]) hR4.2.2 HS1.out.2.2 (sorts_same hR4 HS1.out HP1.out)).mono ?_; rintro e w5 ⟨rfl, m5, rfl⟩; have HBd := Lib.hid (below_drewN HBc.out m5))
            | (go_simp; go_at_call 12; refine (awake2_any hS hM hC _).mono ?_; rintro e w6 ⟨rfl, hbelow⟩; have HBe := Lib.hid (HBd.out.trans (hbelow.mono HBd.out.size))))
          go_wp2
          go_ret
          exact ⟨rfl, HBZ.out.trans (HBe.out.mono HBZ.out.size)⟩
end Go.Proofs.Ytfpiojohodgncaa
