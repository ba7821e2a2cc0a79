/- Proved: the law BitsApart answers true at every list of numbers and leaves what there was as it was: unlike numbers have unlike bytes, none of two is the other one's beginning, and a row of them is read one by one. -/
import Derived.Test.YtennafmbefnnmaaBck
import Derived.Test.YtennafmbefnnmaaIn
namespace Go.Proofs.Ytennafmbefnnmaa
open Go.RowKit

/-- The groups of a row of numbers, one number behind the other. -/
def fl (L : List Nat) : List Nat := L.flatMap vi
theorem fl_cons (x : Nat) (L : List Nat) : fl (x :: L) = vi x ++ fl L := by simp [fl]
theorem fl_take (L : List Nat) (k : Nat) (h : k < L.length) : fl (L.take (k + 1)) = fl (L.take k) ++ vi (L.getD k 0) := by
  rw [take_more L k h]; simp [fl]
theorem fl_drop (L : List Nat) (k : Nat) (h : k < L.length) : fl (L.drop k) = vi (L.getD k 0) ++ fl (L.drop (k + 1)) := by
  rw [drop_one L k h, fl_cons]
theorem fl_len (L : List Nat) (h : ∀ x ∈ L, x < 18446744073709551616) : (fl L).length ≤ 10 * L.length := by
  induction L with
  | nil => simp [fl]
  | cons x l ih =>
    have := ih fun y hy => h y (by simp [hy])
    have hx := vi_ten (h x (by simp))
    rw [fl_cons, List.length_append, List.length_cons]
    omega
theorem fl_byte (L : List Nat) : AllB (fl L) := by
  intro c hc
  unfold fl at hc
  obtain ⟨x, _, hx⟩ := List.mem_flatMap.1 hc
  exact vi_byte x c hx
theorem word_at {L : List Nat} (h : ∀ x ∈ L, x < 18446744073709551616) (j : Nat) : L.getD j 0 < 18446744073709551616 := by
  rw [List.getD_eq_getElem?_getD]
  by_cases hj : j < L.length
  · rw [List.getElem?_eq_getElem hj]; exact h _ (List.getElem_mem hj)
  · rw [List.getElem?_eq_none (by omega)]; show 0 < 18446744073709551616; omega

theorem own_at {w w' : World} {B n : Nat} {e : TypeId} {v : Value} {xs : List Value} (h : w.ownsRow B e 1 v n xs) (hb : At w w') : w'.ownsRow B e 1 v n xs := by
  refine ⟨h.1, ?_⟩
  rcases h.2 with h | ⟨g, cap, cur, hv, hB, hh, hr⟩
  · exact Or.inl h
  · refine Or.inr ⟨g, cap, cur, hv, hB, ?_, hr⟩
    have hg : g < w.heap.size := by
      rcases Nat.lt_or_ge g w.heap.size with h | h
      · exact h
      · rw [Array.getElem?_eq_none h] at hh; cases hh
    rw [hb.block g hg]; exact hh
theorem UV.pos {w : World} {A : Option Addr} {L : List Nat} (h : UV w A L) (h0 : 0 < L.length) :
    ∃ b o, A = some ⟨b, o, none⟩ ∧ b < w.heap.size ∧ ∀ j, j < L.length → w.cell? ⟨b, o + j, none⟩ = some (.int .u64 ((L.getD j 0 : Nat) : Int)) := by
  rcases h with rfl | h
  · simp at h0
  · exact h

set_option maxHeartbeats 1000000 in
set_option maxRecDepth 100000 in
theorem apart_big (A : Option Addr) (m c : Nat) (h : 60 < m) (w : World) :
    Calls Try.prog 6 #[.slice A m c] w (Gives (.bool true) w) := by
  have q : decide ((60 : Int) < (m : Int)) = true := decide_eq_true (by omega)
  go_enter Try.func6, Try.ntmps6
  go_wp2_with (go_at_call 8; refine (awake_any _).mono ?_; rintro e w' ⟨rfl, hb⟩)
  go_ret
  exact ⟨rfl, hb⟩

set_option maxHeartbeats 1000000 in
set_option maxRecDepth 100000 in
theorem apart_zero (A : Option Addr) (c : Nat) (w : World) :
    Calls Try.prog 6 #[.slice A 0 c] w (Gives (.bool true) w) := by
  go_enter Try.func6, Try.ntmps6
  go_wp2
  refine wp_loop_rounds 1 ?_
  rw [rounds_succ]
  go_wp2
  refine wp_loop_rounds 1 ?_
  rw [rounds_succ]
  go_wp2_with (go_at_call 8; refine (awake_any _).mono ?_; rintro e w' ⟨rfl, hb⟩)
  go_ret
  exact ⟨rfl, hb⟩

set_option maxHeartbeats 1000000 in
set_option maxRecDepth 100000 in
theorem apart_some (bl o m c : Nat) (L : List Nat) (hm : m ≤ 60) (h0 : 0 < m) (hl : L.length = m) (hL : ∀ x ∈ L, x < 18446744073709551616) (w : World)
    (hlt : bl < w.heap.size) (hx : ∀ j, j < L.length → w.cell? ⟨bl, o + j, none⟩ = some (.int .u64 ((L.getD j 0 : Nat) : Int))) :
    Calls Try.prog 6 #[.slice (some ⟨bl, o, none⟩) m c] w (Gives (.bool true) w) := by
  obtain ⟨i0, hi, hz0, hz1, hz2⟩ := info_parts info_u8
  have q60 : decide ((60 : Int) < (m : Int)) = false := decide_eq_false (by omega)
  have HLN := Lib.hid hl
  have HLW := Lib.hid hL
  have HX := Lib.hid (fun (W : World) (h : At w W) (j : Nat) (hj : j < m) => (Below.cell h (p := ⟨bl, o + j, none⟩) hlt).trans (hx j (by omega)))
  clear hl hL hx
  go_enter Try.func6, Try.ntmps6
  go_wp2
  go_loopw [3, 4] (fun c3 c4 wr => ∃ i q : Nat, i ≤ m ∧ c4 = .int .i64 (i : Int) ∧ q ≤ 10 * i ∧ Hid (q = (fl (L.take i)).length) ∧ Hid (wr.ownsRow w.heap.size 5 1 c3 q ((fl (L.take i)).map bt)) ∧ Hid (At w wr)) (fun _ c4 _ => m - (intOf c4).toNat)
  case atStart => exact ⟨0, 0, by omega, rfl, by omega, rfl, World.ownsRow_nil _ _ _ _, At.start _⟩
  case round =>
    obtain ⟨i, q, hi1, rfl, hq, HQ, HO, HA⟩ := hrel
    by_cases hlt2 : i < m
    · have e1 := HX.out _ HA.out i hlt2
      have dx := word_at HLW.out i
      have ft := Lib.hid (fl_take L i (by rw [HLN.out]; exact hlt2))
      obtain ⟨x, hxe⟩ : ∃ x, x = L.getD i 0 := ⟨_, rfl⟩
      rw [← hxe] at e1 dx ft
      have HXE := Lib.hid hxe
      have HV := Lib.hid (fun w => varint_any x dx w)
      have hxt := vi_ten dx
      have hxp := vi_pos x
      obtain ⟨n, hne⟩ : ∃ n, n = (vi x).length := ⟨_, rfl⟩
      rw [← hne] at hxt hxp
      have HNE := Lib.hid hne
      have k0 : (0 : Int) ≤ (i : Int) := by omega
      clear hxe hne
      go_wp2_with fail
      refine (HV.out _).mono ?_
      rintro e w1 ⟨g1, c1, rfl, _, v1, b1⟩
      rw [← HNE.out]
      have HS := Lib.hid v1.src
      have HO1 := Lib.hid (own_at HO.out b1)
      have HA1 := Lib.hid (HA.out.next b1)
      clear v1 b1 e1
      go_wp2_with (at_builtin; refine wpList_append_own _ rfl _ _ 22 rfl w.heap.size 5 i0 (.int .u8 0) 1 1 Try.underlying22 hi hz0 hz1 hz2 rfl (by decide) _ _ _ rfl HO1.out ⟨g1, 0, none⟩ n c1 ((vi x).map bt) rfl (by rw [List.length_map, ← HNE.out, Nat.mul_one]) HS.out (bt_one _) (by unfold maxLen; omega) (by omega) HA1.out.size ?_; intro v2 w2 ho hg _)
      have HO2 : Hid (w2.ownsRow w.heap.size 5 1 v2 (q + n) ((fl (L.take (i + 1))).map bt)) := Lib.hid (by rw [ft.out]; simpa using ho)
      have HA2 : Hid (At w w2) := Lib.hid (Below.grown HA1.out hg HA1.out.size (fun j hj => (HO1.out.lt j hj).1))
      have HQ2 : Hid (q + n = (fl (L.take (i + 1))).length) := Lib.hid (by rw [ft.out, List.length_append, ← HQ.out, ← HNE.out])
      clear ho hg HO1 HA1 HS HO HA HQ
      go_wp2
      go_loopw [5] (fun c5 wy => ∃ k : Nat, k ≤ i ∧ c5 = .int .i64 (k : Int) ∧ Hid (At w2 wy)) (fun c5 _ => i - (intOf c5).toNat)
      case atStart => exact ⟨0, by omega, rfl, At.start _⟩
      case round =>
        obtain ⟨k, hk, rfl, HY⟩ := hrel
        by_cases hki : k < i
        · have e1 := HX.out _ (HA2.out.next HY.out) i hlt2
          have e2 := HX.out _ (HA2.out.next HY.out) k (by omega)
          have dy := word_at HLW.out k
          obtain ⟨y, hye⟩ : ∃ y, y = L.getD k 0 := ⟨_, rfl⟩
          rw [← hye] at e2 dy
          rw [← HXE.out] at e1
          have HV2 := Lib.hid (fun w => varint_any y dy w)
          have hyt := vi_ten dy
          obtain ⟨n2, hne⟩ : ∃ n2, n2 = (vi y).length := ⟨_, rfl⟩
          rw [← hne] at hyt
          have HNE2 := Lib.hid hne
          have k1 : (0 : Int) ≤ (k : Int) := by omega
          have k2 : (i : Int) < (m : Int) := by omega
          have k3 : (k : Int) < (m : Int) := by omega
          clear hye hne
          go_wp2_with fail
          refine (HV.out _).mono ?_
          rintro e w3 ⟨g3, c3, rfl, hc3, v3, b3⟩
          rw [← HNE.out] at hc3 ⊢
          have HY3 := Lib.hid (HY.out.next b3)
          have f1 := (b3.cell (p := ⟨bl, o + i, none⟩) (Nat.lt_of_lt_of_le hlt (HA2.out.next HY.out).size)).trans e1
          have f2 := (b3.cell (p := ⟨bl, o + k, none⟩) (Nat.lt_of_lt_of_le hlt (HA2.out.next HY.out).size)).trans e2
          have HV3 := Lib.hid v3
          clear v3 b3 e1 e2 HY
          go_wp2_with fail
          refine (HV2.out _).mono ?_
          rintro e w4 ⟨g4, c4, rfl, hc4, v4, b4⟩
          rw [← HNE2.out] at hc4 ⊢
          have HY4 := Lib.hid (HY3.out.next b4)
          have e1 := (b4.cell (p := ⟨bl, o + i, none⟩) (Nat.lt_of_lt_of_le hlt (HA2.out.next HY3.out).size)).trans f1
          have e2 := (b4.cell (p := ⟨bl, o + k, none⟩) (Nat.lt_of_lt_of_le hlt (HA2.out.next HY3.out).size)).trans f2
          have HBY := Lib.hid (fun (z : Nat) (hz : z = min n n2) (W : World) (h : At w4 W) => bytes_any (some ⟨g3, 0, none⟩) (some ⟨g4, 0, none⟩) z c3 c4 ((vi x).take z) ((vi y).take z) W (by omega) (by rw [List.length_take, ← HNE.out]; omega) (by rw [List.length_take, ← HNE2.out]; omega) (allB_take (allB_vi x) _) (allB_take (allB_vi y) _) ((h.bv (HV3.out.below b4)).take z) ((h.bv v4).take z))
          have HQE : Hid (∀ z, z = min n n2 → ((vi x).take z = (vi y).take z ↔ x = y)) := Lib.hid (fun z hz => by rw [hz, HNE.out, HNE2.out]; exact vi_apart dx dy)
          clear v4 b4 f1 f2 HY3 HV3
          by_cases hle : n ≤ n2
          · have hz : n = min n n2 := by omega
            have zi : (n : Int) ≤ (n2 : Int) := by omega
            have z4 : (n : Int) ≤ (c4 : Int) := by omega
            have z6 : (0 : Int) ≤ (n : Int) := by omega
            have HB2 := Lib.hid (HBY.out n hz)
            have hq := HQE.out n hz
            clear hz HBY HQE
            by_cases hxy : x = y
            · rw [decide_eq_true (hq.2 hxy)] at HB2
              have t1 : ((x : Int) == (y : Int)) = true := by rw [hxy]; simp
              clear hq hxy
              go_wp2
              go_quiet ((go_at_call 14; exact Calls.quiet_of (HB2.out _ ((At.start _).drewN _))))
              go_wp2
              go_roundw
              case rel => exact ⟨k + 1, by omega, by go_num, Lib.hid (HY4.out.drewN _)⟩
              case measure => simp [intOf]; omega
            · rw [decide_eq_false (fun e => hxy (hq.1 e))] at HB2
              have t1 : ((x : Int) == (y : Int)) = false := by simp; omega
              clear hq hxy
              go_wp2
              go_quiet ((go_at_call 14; exact Calls.quiet_of (HB2.out _ ((At.start _).drewN _))))
              go_wp2
              go_roundw
              case rel => exact ⟨k + 1, by omega, by go_num, Lib.hid (HY4.out.drewN _)⟩
              case measure => simp [intOf]; omega
          · have hz : n2 = min n n2 := by omega
            have zi : ¬ (n : Int) ≤ (n2 : Int) := by omega
            have z4 : (n2 : Int) ≤ (c3 : Int) := by omega
            have z5 : (n2 : Int) ≤ (c4 : Int) := by omega
            have z6 : (0 : Int) ≤ (n2 : Int) := by omega
            have HB2 := Lib.hid (HBY.out n2 hz)
            have hq := HQE.out n2 hz
            clear hz HBY HQE
            by_cases hxy : x = y
            · rw [decide_eq_true (hq.2 hxy)] at HB2
              have t1 : ((x : Int) == (y : Int)) = true := by rw [hxy]; simp
              clear hq hxy
              go_wp2
              go_quiet ((go_at_call 14; exact Calls.quiet_of (HB2.out _ ((At.start _).drewN _))))
              go_wp2
              go_roundw
              case rel => exact ⟨k + 1, by omega, by go_num, Lib.hid (HY4.out.drewN _)⟩
              case measure => simp [intOf]; omega
            · rw [decide_eq_false (fun e => hxy (hq.1 e))] at HB2
              have t1 : ((x : Int) == (y : Int)) = false := by simp; omega
              clear hq hxy
              go_wp2
              go_quiet ((go_at_call 14; exact Calls.quiet_of (HB2.out _ ((At.start _).drewN _))))
              go_wp2
              go_roundw
              case rel => exact ⟨k + 1, by omega, by go_num, Lib.hid (HY4.out.drewN _)⟩
              case measure => simp [intOf]; omega
        · have hkk : k = i := by omega
          subst hkk
          have HO3 := Lib.hid (own_at HO2.out HY.out)
          have HA3 := Lib.hid (HA2.out.next HY.out)
          clear HO2 HA2
          go_wp2
          go_roundw
          case rel => exact ⟨k + 1, q + n, by omega, by go_num, by omega, HQ2, HO3, HA3⟩
          case measure => simp [intOf]; omega
    · have him : i = m := by omega
      subst him
      rw [List.take_of_length_le (by rw [HLN.out]; omega)] at HQ HO
      have hqp : 0 < q := by
        rw [HQ.out]
        have := fl_drop L 0 (by rw [HLN.out]; omega)
        rw [List.drop_zero] at this
        rw [this, List.length_append]
        have := vi_pos (L.getD 0 0)
        omega
      obtain ⟨g, cc, rfl, _, _⟩ := HO.out.form hqp
      have HBV := Lib.hid (own_bv HO.out).2
      have hcc := own_cap HO.out
      clear HO
      go_wp2
      go_loop [3, 9] (fun c3 c9 => ∃ j p o2 cp : Nat, j ≤ i ∧ c9 = .int .i64 (j : Int) ∧ c3 = .slice (some ⟨g, o2, none⟩) p cp ∧ p ≤ cp ∧ p ≤ q ∧ Hid (p = (fl (L.drop j)).length) ∧ Hid (BV wr (some ⟨g, o2, none⟩) (fl (L.drop j)))) (fun _ c9 => i - (intOf c9).toNat)
      case atStart => exact ⟨0, q, 0, cc, by omega, rfl, rfl, hcc, by omega, by rw [List.drop_zero]; exact HQ, by rw [List.drop_zero]; exact HBV⟩
      case round =>
        obtain ⟨j, p, o2, cp, hj, rfl, rfl, hpc, hpq, HP, HW⟩ := hrel
        by_cases hji : j < i
        · have e1 := HX.out _ HA.out j hji
          have dx := word_at HLW.out j
          have fd := Lib.hid (fl_drop L j (by rw [HLN.out]; exact hji))
          obtain ⟨x, hxe⟩ : ∃ x, x = L.getD j 0 := ⟨_, rfl⟩
          rw [← hxe] at e1 dx fd
          have hxp := vi_pos x
          have hn : (vi x).length ≤ p := by rw [HP.out, fd.out, List.length_append]; omega
          have hu := uv_vi dx (fl (L.drop (j + 1)))
          rw [← fd.out] at hu
          have HU := unv_any (some ⟨g, o2, none⟩) p cp (fl (L.drop j)) (by omega) HP.out.symm (fl_byte _) wr HW.out
          rw [hu] at HU
          have HPN : Hid (p - (vi x).length = (fl (L.drop (j + 1))).length) := Lib.hid (by rw [HP.out, fd.out, List.length_append, Nat.add_sub_cancel_left])
          have HW2 := HW.out.drop (vi x).length
          rw [fd.out, List.drop_append_of_le_length (Nat.le_refl _), List.drop_length, List.nil_append] at HW2
          obtain ⟨n, hne⟩ : ∃ n, n = (vi x).length := ⟨_, rfl⟩
          rw [← hne] at hxp hn HU HPN HW2
          have HUU := Lib.hid HU
          have HWW := Lib.hid HW2
          have k0 : (0 : Int) ≤ (j : Int) := by omega
          have k1 : (1 : Int) ≤ (n : Int) := by omega
          have k2 : (n : Int) ≤ (p : Int) := by omega
          have k3 : (n : Int) ≤ (cp : Int) := by omega
          clear hxe hne hu HU HW2
          by_cases hcn : cp = n
          · have hpn : p = n := by omega
            subst hcn
            subst hpn
            have HE : Hid (fl (L.drop (j + 1)) = []) := Lib.hid (List.eq_nil_of_length_eq_zero (by rw [← HPN.out]; omega))
            go_wp2_with fail
            refine HUU.out.mono ?_
            rintro e wz ⟨rfl, rfl⟩
            go_wp2
            go_round
            case rel => exact ⟨j + 1, p - p, o2, p - p, by omega, by go_num, by simp, by omega, by omega, HPN, Lib.hid (by rw [HE.out]; exact BV.nil _ _)⟩
            case measure => simp [intOf]; omega
          · have hcn2 : ¬ (cp : Int) = (n : Int) := by omega
            go_wp2_with fail
            refine HUU.out.mono ?_
            rintro e wz ⟨rfl, rfl⟩
            go_wp2
            go_round
            case rel => exact ⟨j + 1, p - n, o2 + n, cp - n, by omega, by go_num, rfl, by omega, by omega, HPN, HWW⟩
            case measure => simp [intOf]; omega
        · have hjj : j = i := by omega
          subst hjj
          have hp0 : p = 0 := by rw [HP.out, List.drop_of_length_le (by rw [HLN.out]; omega)]; rfl
          subst hp0
          go_wp2_with (go_at_call 8; refine (awake_any _).mono ?_; rintro e w10 ⟨rfl, b10⟩; have HB10 := Lib.hid (HA.out.next b10); clear b10)
          go_ret
          exact ⟨rfl, HB10.out⟩

end Go.Proofs.Ytennafmbefnnmaa
