/- Proved: the law BitsBack answers true at every two numbers, any bytes behind them and any cut, and leaves what there was as it was: what is laid is read again; cut short it is not. -/
import Derived.Test.YtennafmbefnnmaaHlv
import Derived.Laws.AppendOwnNone
namespace Go.Proofs.Ytennafmbefnnmaa
open Go.RowKit

theorem made_own (w : World) : (w.alloc (.cells #[] 5)).ownsRow w.heap.size 5 1 (.slice (some ⟨w.heap.size, 0, none⟩) 0 0) 0 [] := World.ownsRow_made w #[] 0 (Nat.le_refl _) (by unfold maxLen; omega) rfl
theorem BV.src {w : World} {ad : Addr} {L : List Nat} (h : BV w (some ad) L) : ∀ j u, (L.map bt)[j]? = some u → w.cell? (ad.add j) = some u := by
  intro j u hu
  by_cases h0 : 0 < L.length
  · obtain ⟨a, e, _, hc⟩ := h.cells h0
    injection e with e
    subst e
    exact hc j u hu
  · have : L = [] := List.eq_nil_of_length_eq_zero (by omega)
    subst this
    simp at hu
theorem BV.alloc {w : World} {A : Option Addr} {L : List Nat} (h : BV w A L) (o : Obj) : BV (w.alloc o) A L := (At.start w).alloc o |>.bv h
theorem grow_one {w wa : World} {o : Obj} {v v' : Value} {n : Nat} {P : List Nat} (hm : (w.alloc o).ownsRow w.heap.size 5 1 v 0 []) (ho : wa.ownsRow w.heap.size 5 1 v' (0 + n) ([] ++ P.map bt)) (hg : (w.alloc o).grownBy wa v.ownBlock) :
    Hid (wa.ownsRow w.heap.size 5 1 v' n (P.map bt)) ∧ Hid (At w wa) := by
  refine ⟨Lib.hid (by simpa using ho), Lib.hid ?_⟩
  exact ((Below.refl _ _).alloc (Nat.le_refl _) _).grown hg (by simp) (fun j hj => (hm.lt j hj).1)
theorem grow_two {w wa wb : World} {v v' : Value} {n m : Nat} {P L : List Nat} (hm : wa.ownsRow w.heap.size 5 1 v n (P.map bt)) (hb : At w wa) (ho : wb.ownsRow w.heap.size 5 1 v' (n + m) (P.map bt ++ L.map bt)) (hg : wa.grownBy wb v.ownBlock) :
    Hid (wb.ownsRow w.heap.size 5 1 v' (n + m) ((P ++ L).map bt)) ∧ Hid (At w wb) := by
  refine ⟨Lib.hid (by simpa using ho), Lib.hid ?_⟩
  exact Below.grown hb hg hb.size (fun j hj => (hm.lt j hj).1)

set_option maxHeartbeats 1000000 in
set_option maxRecDepth 100000 in
theorem back_big (A : Option Addr) (m c v u : Nat) (cut : Int) (h : 1000 < m) (w : World) :
    Calls Try.prog 4 #[.int .u64 (v : Int), .int .u32 (u : Int), .slice A m c, .int .i64 cut] w (Gives (.bool true) w) := by
  have q : decide ((1000 : Int) < (m : Int)) = true := decide_eq_true (by omega)
  go_enter Try.func4, Try.ntmps4
  go_wp2_with (go_at_call 8; refine (awake_any _).mono ?_; rintro e w' ⟨rfl, hb⟩)
  go_ret
  exact ⟨rfl, hb⟩

set_option maxHeartbeats 2000000 in
set_option maxRecDepth 100000 in
theorem back_some (ad : Addr) (m cp : Nat) (L : List Nat) (hm : m ≤ 1000) (hl : L.length = m) (hL : AllB L) (v u : Nat) (cut : Int) (hv : v < 18446744073709551616) (hu : u < 4294967296) (w : World) (hb : BV w (some ad) L) :
    Calls Try.prog 4 #[.int .u64 (v : Int), .int .u32 (u : Int), .slice (some ad) m cp, .int .i64 cut] w (Gives (.bool true) w) := by
  obtain ⟨i0, hi, hz0, hz1, hz2⟩ := info_parts info_u8
  have q : decide ((1000 : Int) < (m : Int)) = false := decide_eq_false (by omega)
  have HLN := Lib.hid hl
  have HLB := Lib.hid hL
  have HBH := Lib.hid hb
  have hvt := vi_ten hv
  have hvp := vi_pos v
  have HV := Lib.hid (fun w => varint_any v hv w)
  have HP := Lib.hid (fun w => put64_any v hv w)
  have HQ := Lib.hid (fun w => put32_any u hu w)
  obtain ⟨n, e7⟩ : ∃ n, n = (vi v).length := ⟨_, rfl⟩
  rw [← e7] at hvt hvp
  have HN := Lib.hid e7
  clear e7 hl hL hb
  go_enter Try.func4, Try.ntmps4
  go_wp2_with fail
  refine (HV.out _).mono ?_
  rintro e w1 ⟨g1, c1, rfl, hc1, v1, b1⟩
  rw [← HN.out] at hc1 ⊢
  have HV1 := Lib.hid v1
  have HB1 : Hid (At w w1) := Lib.hid b1
  clear v1 b1
  go_wp2_with fail
  refine (HP.out _).mono ?_
  rintro e w2 ⟨g2, c2, rfl, hc2, v2, b2⟩
  rw [pt_len] at hc2 ⊢
  have HV1' := Lib.hid (HV1.out.below b2)
  have HV2 := Lib.hid v2
  have HB2 := Lib.hid (HB1.out.next b2)
  clear v2 b2 HV1 HB1
  go_wp2_with fail
  refine (HQ.out _).mono ?_
  rintro e w3 ⟨g3, c3, rfl, hc3, v3, b3⟩
  rw [pt_len] at hc3 ⊢
  have HX1 := Lib.hid (HV1'.out.below b3)
  have HX2 := Lib.hid (HV2.out.below b3)
  have HX3 := Lib.hid v3
  have HB3 := Lib.hid (HB2.out.next b3)
  clear v3 b3 HV1' HV2 HB2
  have HM1 := Lib.hid (made_own w3)
  have HS1 := Lib.hid ((HX1.out).alloc (.cells #[] 5)).src
  have hr1 : ∀ (W : World) (A' : Option Addr) (c' : Nat), n + m ≤ c' → BV W A' (vi v ++ L) → Calls Try.prog 9 #[.slice A' (n + m) c'] W fun e w' => e = .returned (.tuple #[.int .u64 (v : Int), .int .i64 (n : Int)]) ∧ W = w' := fun W A' c' hc h => by
    have _ := hc
    have := uv_vi hv L
    skip
    have h1 := unv_any A' (n + m) c' (vi v ++ L) (by omega) (by rw [List.length_append, ← HN.out, HLN.out]) (allB_app (allB_vi v) HLB.out) W h
    rw [this, ← HN.out] at h1
    exact h1
  have HR1 := Lib.hid hr1
  clear hr1
  go_wp2_with (first
    | (at_builtin; refine wpList_append_own _ rfl (.tmp 35) (.tmp 36) 22 rfl w3.heap.size 5 i0 (.int .u8 0) 1 1 Try.underlying22 hi hz0 hz1 hz2 rfl (by decide) _ 0 [] rfl HM1.out ⟨g1, 0, none⟩ n c1 ((vi v).map bt) rfl (by rw [List.length_map, ← HN.out, Nat.mul_one]) HS1.out (bt_one _) (by unfold maxLen; omega) (by omega) (by simp) ?_; intro v1 w1a ho hg _; obtain ⟨HO1, HA1⟩ := grow_one HM1.out ho hg; clear ho hg; obtain ⟨ga1, ca1, rfl, _, _⟩ := HO1.out.form (by omega))
    | (at_builtin; refine wpList_append_own _ rfl (.tmp 37) (.tmp 38) 22 rfl w3.heap.size 5 i0 (.int .u8 0) 1 1 Try.underlying22 hi hz0 hz1 hz2 rfl (by decide) _ n ((vi v).map bt) rfl HO1.out ad m cp (L.map bt) rfl (by rw [List.length_map, HLN.out, Nat.mul_one]) ((HB3.out.next HA1.out).bv HBH.out).src (bt_one _) (by unfold maxLen; omega) (by omega) HA1.out.size ?_; intro v1b w1b ho hg _; obtain ⟨HP1, HQ1⟩ := grow_two HO1.out HA1.out ho hg; clear ho hg; obtain ⟨gb1, cb1, rfl, _, _⟩ := HP1.out.form (by omega)))
  refine (HR1.out _ _ _ (own_cap HP1.out) (own_bv HP1.out).2).mono ?_
  rintro e wz ⟨rfl, rfl⟩
  have HC1 := Lib.hid (HB3.out.next HQ1.out)
  have HY1 := Lib.hid (HQ1.out.bv HX1.out)
  have HY2 := Lib.hid (HQ1.out.bv HX2.out)
  have HY3 := Lib.hid (HQ1.out.bv HX3.out)
  clear HX1 HX2 HX3 HR1 HM1 HS1 HO1 HB3 HA1 HP1 HQ1
  have HX1 := HY1
  have HX2 := HY2
  have HX3 := HY3
  clear HY1 HY2 HY3
  have HM2 := Lib.hid (made_own w1b)
  have HS2 := Lib.hid ((HX2.out).alloc (.cells #[] 5)).src
  have hr2 : ∀ (W : World) (A' : Option Addr) (c' : Nat), 8 + m ≤ c' → BV W A' (pt 8 v ++ L) → Calls Try.prog 13 #[.slice A' (8 + m) c'] W fun e w' => e = .returned (.tuple #[.int .u64 (v : Int), .bool true]) ∧ W = w' := fun W A' c' hc h => by
    skip
    have := gn_pt 8 v L
    skip
    have h1 := get64_any A' (8 + m) c' (pt 8 v ++ L) hc (by rw [List.length_append, pt_len, HLN.out]) (allB_app (allB_pt 8 v) HLB.out) W h
    rw [this, show v % 2 ^ (8 * 8) = v from Nat.mod_eq_of_lt (by omega), decide_eq_true (show 8 ≤ 8 + m by omega)] at h1
    exact h1
  have HR2 := Lib.hid hr2
  clear hr2
  go_wp2_with (first
    | (at_builtin; refine wpList_append_own _ rfl (.tmp 44) (.tmp 45) 22 rfl w1b.heap.size 5 i0 (.int .u8 0) 1 1 Try.underlying22 hi hz0 hz1 hz2 rfl (by decide) _ 0 [] rfl HM2.out ⟨g2, 0, none⟩ 8 c2 ((pt 8 v).map bt) rfl (by rw [List.length_map, pt_len]) HS2.out (bt_one _) (by unfold maxLen; omega) (by omega) (by simp) ?_; intro v2 w2a ho hg _; obtain ⟨HO2, HA2⟩ := grow_one HM2.out ho hg; clear ho hg; obtain ⟨ga2, ca2, rfl, _, _⟩ := HO2.out.form (by omega))
    | (at_builtin; refine wpList_append_own _ rfl (.tmp 46) (.tmp 47) 22 rfl w1b.heap.size 5 i0 (.int .u8 0) 1 1 Try.underlying22 hi hz0 hz1 hz2 rfl (by decide) _ 8 ((pt 8 v).map bt) rfl HO2.out ad m cp (L.map bt) rfl (by rw [List.length_map, HLN.out, Nat.mul_one]) ((HC1.out.next HA2.out).bv HBH.out).src (bt_one _) (by unfold maxLen; omega) (by omega) HA2.out.size ?_; intro v2b w2b ho hg _; obtain ⟨HP2, HQ2⟩ := grow_two HO2.out HA2.out ho hg; clear ho hg; obtain ⟨gb2, cb2, rfl, _, _⟩ := HP2.out.form (by omega)))
  refine (HR2.out _ _ _ (own_cap HP2.out) (own_bv HP2.out).2).mono ?_
  rintro e wz ⟨rfl, rfl⟩
  have HC2 := Lib.hid (HC1.out.next HQ2.out)
  have HY1 := Lib.hid (HQ2.out.bv HX1.out)
  have HY2 := Lib.hid (HQ2.out.bv HX2.out)
  have HY3 := Lib.hid (HQ2.out.bv HX3.out)
  clear HX1 HX2 HX3 HR2 HM2 HS2 HO2 HC1 HA2 HP2 HQ2
  have HX1 := HY1
  have HX2 := HY2
  have HX3 := HY3
  clear HY1 HY2 HY3
  have HM3 := Lib.hid (made_own w2b)
  have HS3 := Lib.hid ((HX3.out).alloc (.cells #[] 5)).src
  have hr3 : ∀ (W : World) (A' : Option Addr) (c' : Nat), 4 + m ≤ c' → BV W A' (pt 4 u ++ L) → Calls Try.prog 11 #[.slice A' (4 + m) c'] W fun e w' => e = .returned (.tuple #[.int .u32 (u : Int), .bool true]) ∧ W = w' := fun W A' c' hc h => by
    skip
    have := gn_pt 4 u L
    skip
    have h1 := get32_any A' (4 + m) c' (pt 4 u ++ L) hc (by rw [List.length_append, pt_len, HLN.out]) (allB_app (allB_pt 4 u) HLB.out) W h
    rw [this, show u % 2 ^ (8 * 4) = u from Nat.mod_eq_of_lt (by omega), decide_eq_true (show 4 ≤ 4 + m by omega)] at h1
    exact h1
  have HR3 := Lib.hid hr3
  clear hr3
  go_wp2_with (first
    | (at_builtin; refine wpList_append_own _ rfl (.tmp 53) (.tmp 54) 22 rfl w2b.heap.size 5 i0 (.int .u8 0) 1 1 Try.underlying22 hi hz0 hz1 hz2 rfl (by decide) _ 0 [] rfl HM3.out ⟨g3, 0, none⟩ 4 c3 ((pt 4 u).map bt) rfl (by rw [List.length_map, pt_len]) HS3.out (bt_one _) (by unfold maxLen; omega) (by omega) (by simp) ?_; intro v3 w3a ho hg _; obtain ⟨HO3, HA3⟩ := grow_one HM3.out ho hg; clear ho hg; obtain ⟨ga3, ca3, rfl, _, _⟩ := HO3.out.form (by omega))
    | (at_builtin; refine wpList_append_own _ rfl (.tmp 55) (.tmp 56) 22 rfl w2b.heap.size 5 i0 (.int .u8 0) 1 1 Try.underlying22 hi hz0 hz1 hz2 rfl (by decide) _ 4 ((pt 4 u).map bt) rfl HO3.out ad m cp (L.map bt) rfl (by rw [List.length_map, HLN.out, Nat.mul_one]) ((HC2.out.next HA3.out).bv HBH.out).src (bt_one _) (by unfold maxLen; omega) (by omega) HA3.out.size ?_; intro v3b w3b ho hg _; obtain ⟨HP3, HQ3⟩ := grow_two HO3.out HA3.out ho hg; clear ho hg; obtain ⟨gb3, cb3, rfl, _, _⟩ := HP3.out.form (by omega)))
  refine (HR3.out _ _ _ (own_cap HP3.out) (own_bv HP3.out).2).mono ?_
  rintro e wz ⟨rfl, rfl⟩
  have HC3 := Lib.hid (HC2.out.next HQ3.out)
  have HY1 := Lib.hid (HQ3.out.bv HX1.out)
  have HY2 := Lib.hid (HQ3.out.bv HX2.out)
  have HY3 := Lib.hid (HQ3.out.bv HX3.out)
  clear HX1 HX2 HX3 HR3 HM3 HS3 HO3 HC2 HA3 HP3 HQ3
  have HX1 := HY1
  have HX2 := HY2
  have HX3 := HY3
  clear HY1 HY2 HY3
  go_wp2_with fail
  refine (round_any cut n hvp (by omega) _).mono ?_
  rintro e wz ⟨⟨r1, hr1, rfl⟩, rfl⟩
  have HZ1 : Hid (Calls Try.prog 9 #[.slice (some ⟨g1, 0, none⟩) r1 c1] w3b fun e w' => e = .returned (.tuple #[.int .u64 0, .int .i64 0]) ∧ w3b = w') := Lib.hid (by
    have h1 := unv_any (some ⟨g1, 0, none⟩) r1 c1 ((vi v).take r1) (by omega) (by rw [List.length_take, ← HN.out]; omega) (allB_take (allB_vi v) _) w3b (HX1.out.take _)
    rw [uv_cut v r1 (by rw [← HN.out]; exact hr1)] at h1
    exact h1)
  have t1 : (0 : Int) ≤ (r1 : Int) := by omega
  have s1 : (r1 : Int) ≤ (c1 : Int) := by omega
  go_wp2_with fail
  refine HZ1.out.mono ?_
  rintro e wz ⟨rfl, rfl⟩
  go_wp2_with fail
  refine (round_any cut 8 (by omega) (by omega) _).mono ?_
  rintro e wz ⟨⟨r2, hr2, rfl⟩, rfl⟩
  have HZ2 : Hid (Calls Try.prog 13 #[.slice (some ⟨g2, 0, none⟩) r2 c2] w3b fun e w' => e = .returned (.tuple #[.int .u64 0, .bool false]) ∧ w3b = w') := Lib.hid (by
    have h1 := get64_any (some ⟨g2, 0, none⟩) r2 c2 ((pt 8 v).take r2) (by omega) (by rw [List.length_take, pt_len]; omega) (allB_take (allB_pt 8 v) _) w3b (HX2.out.take _)
    rw [decide_eq_false (show ¬ 8 ≤ r2 by omega), show gn ((pt 8 v).take r2) 8 = 0 by unfold gn; rw [if_neg (by rw [List.length_take, pt_len]; omega)]] at h1
    exact h1)
  have t2 : (0 : Int) ≤ (r2 : Int) := by omega
  have s2 : (r2 : Int) ≤ (c2 : Int) := by omega
  go_wp2_with fail
  refine HZ2.out.mono ?_
  rintro e wz ⟨rfl, rfl⟩
  go_wp2_with fail
  refine (round_any cut 4 (by omega) (by omega) _).mono ?_
  rintro e wz ⟨⟨r3, hr3, rfl⟩, rfl⟩
  have HZ3 : Hid (Calls Try.prog 11 #[.slice (some ⟨g3, 0, none⟩) r3 c3] w3b fun e w' => e = .returned (.tuple #[.int .u32 0, .bool false]) ∧ w3b = w') := Lib.hid (by
    have h1 := get32_any (some ⟨g3, 0, none⟩) r3 c3 ((pt 4 u).take r3) (by omega) (by rw [List.length_take, pt_len]; omega) (allB_take (allB_pt 4 u) _) w3b (HX3.out.take _)
    rw [decide_eq_false (show ¬ 4 ≤ r3 by omega), show gn ((pt 4 u).take r3) 4 = 0 by unfold gn; rw [if_neg (by rw [List.length_take, pt_len]; omega)]] at h1
    exact h1)
  have t3 : (0 : Int) ≤ (r3 : Int) := by omega
  have s3 : (r3 : Int) ≤ (c3 : Int) := by omega
  go_wp2_with fail
  refine HZ3.out.mono ?_
  rintro e wz ⟨rfl, rfl⟩
  go_wp2_with (go_at_call 8; refine (awake_any _).mono ?_; rintro e w10 ⟨rfl, b10⟩; have HB10 := Lib.hid (HC3.out.next b10); clear b10)
  go_ret
  exact ⟨rfl, HB10.out⟩

set_option maxHeartbeats 2000000 in
set_option maxRecDepth 100000 in
theorem back_none (v u : Nat) (cut : Int) (hv : v < 18446744073709551616) (hu : u < 4294967296) (w : World) :
    Calls Try.prog 4 #[.int .u64 (v : Int), .int .u32 (u : Int), .slice none 0 0, .int .i64 cut] w (Gives (.bool true) w) := by
  obtain ⟨i0, hi, hz0, hz1, hz2⟩ := info_parts info_u8
  have hvt := vi_ten hv
  have hvp := vi_pos v
  have HV := Lib.hid (fun w => varint_any v hv w)
  have HP := Lib.hid (fun w => put64_any v hv w)
  have HQ := Lib.hid (fun w => put32_any u hu w)
  obtain ⟨n, e7⟩ : ∃ n, n = (vi v).length := ⟨_, rfl⟩
  rw [← e7] at hvt hvp
  have HN := Lib.hid e7
  clear e7
  go_enter Try.func4, Try.ntmps4
  go_wp2_with fail
  refine (HV.out _).mono ?_
  rintro e w1 ⟨g1, c1, rfl, hc1, v1, b1⟩
  rw [← HN.out] at hc1 ⊢
  have HV1 := Lib.hid v1
  have HB1 : Hid (At w w1) := Lib.hid b1
  clear v1 b1
  go_wp2_with fail
  refine (HP.out _).mono ?_
  rintro e w2 ⟨g2, c2, rfl, hc2, v2, b2⟩
  rw [pt_len] at hc2 ⊢
  have HV1' := Lib.hid (HV1.out.below b2)
  have HV2 := Lib.hid v2
  have HB2 := Lib.hid (HB1.out.next b2)
  clear v2 b2 HV1 HB1
  go_wp2_with fail
  refine (HQ.out _).mono ?_
  rintro e w3 ⟨g3, c3, rfl, hc3, v3, b3⟩
  rw [pt_len] at hc3 ⊢
  have HX1 := Lib.hid (HV1'.out.below b3)
  have HX2 := Lib.hid (HV2.out.below b3)
  have HX3 := Lib.hid v3
  have HB3 := Lib.hid (HB2.out.next b3)
  clear v3 b3 HV1' HV2 HB2
  have HM1 := Lib.hid (made_own w3)
  have HS1 := Lib.hid ((HX1.out).alloc (.cells #[] 5)).src
  have hr1 : ∀ (W : World) (A' : Option Addr) (c' : Nat), n ≤ c' → BV W A' (vi v) → Calls Try.prog 9 #[.slice A' (n) c'] W fun e w' => e = .returned (.tuple #[.int .u64 (v : Int), .int .i64 (n : Int)]) ∧ W = w' := fun W A' c' hc h => by
    have _ := hc
    have := uv_vi hv ([] : List Nat)
    rw [List.append_nil] at this
    have h1 := unv_any A' (n) c' (vi v) (by omega) (by rw [← HN.out]) (allB_vi v) W h
    rw [this, ← HN.out] at h1
    exact h1
  have HR1 := Lib.hid hr1
  clear hr1
  go_wp2_with (first
    | (at_builtin; refine wpList_append_own _ rfl (.tmp 35) (.tmp 36) 22 rfl w3.heap.size 5 i0 (.int .u8 0) 1 1 Try.underlying22 hi hz0 hz1 hz2 rfl (by decide) _ 0 [] rfl HM1.out ⟨g1, 0, none⟩ n c1 ((vi v).map bt) rfl (by rw [List.length_map, ← HN.out, Nat.mul_one]) HS1.out (bt_one _) (by unfold maxLen; omega) (by omega) (by simp) ?_; intro v1 w1a ho hg _; obtain ⟨HO1, HA1⟩ := grow_one HM1.out ho hg; clear ho hg; obtain ⟨ga1, ca1, rfl, _, _⟩ := HO1.out.form (by omega))
    | (at_builtin; refine wpList_append_own_none rfl (.tmp 37) (.tmp 38) 22 rfl w3.heap.size 5 i0 1 Try.underlying22 hi _ n ((vi v).map bt) rfl HO1.out rfl ?_))
  refine (HR1.out _ _ _ (own_cap HO1.out) (own_bv HO1.out).2).mono ?_
  rintro e wz ⟨rfl, rfl⟩
  have HC1 := Lib.hid (HB3.out.next HA1.out)
  have HY1 := Lib.hid (HA1.out.bv HX1.out)
  have HY2 := Lib.hid (HA1.out.bv HX2.out)
  have HY3 := Lib.hid (HA1.out.bv HX3.out)
  clear HX1 HX2 HX3 HR1 HM1 HS1 HO1 HB3 HA1
  have HX1 := HY1
  have HX2 := HY2
  have HX3 := HY3
  clear HY1 HY2 HY3
  have HM2 := Lib.hid (made_own w1a)
  have HS2 := Lib.hid ((HX2.out).alloc (.cells #[] 5)).src
  have hr2 : ∀ (W : World) (A' : Option Addr) (c' : Nat), 8 ≤ c' → BV W A' (pt 8 v) → Calls Try.prog 13 #[.slice A' (8) c'] W fun e w' => e = .returned (.tuple #[.int .u64 (v : Int), .bool true]) ∧ W = w' := fun W A' c' hc h => by
    skip
    have := gn_pt 8 v ([] : List Nat)
    rw [List.append_nil] at this
    have h1 := get64_any A' (8) c' (pt 8 v) hc (by rw [pt_len]) (allB_pt 8 v) W h
    rw [this, show v % 2 ^ (8 * 8) = v from Nat.mod_eq_of_lt (by omega), decide_eq_true (show 8 ≤ 8 by omega)] at h1
    exact h1
  have HR2 := Lib.hid hr2
  clear hr2
  go_wp2_with (first
    | (at_builtin; refine wpList_append_own _ rfl (.tmp 44) (.tmp 45) 22 rfl w1a.heap.size 5 i0 (.int .u8 0) 1 1 Try.underlying22 hi hz0 hz1 hz2 rfl (by decide) _ 0 [] rfl HM2.out ⟨g2, 0, none⟩ 8 c2 ((pt 8 v).map bt) rfl (by rw [List.length_map, pt_len]) HS2.out (bt_one _) (by unfold maxLen; omega) (by omega) (by simp) ?_; intro v2 w2a ho hg _; obtain ⟨HO2, HA2⟩ := grow_one HM2.out ho hg; clear ho hg; obtain ⟨ga2, ca2, rfl, _, _⟩ := HO2.out.form (by omega))
    | (at_builtin; refine wpList_append_own_none rfl (.tmp 46) (.tmp 47) 22 rfl w1a.heap.size 5 i0 1 Try.underlying22 hi _ 8 ((pt 8 v).map bt) rfl HO2.out rfl ?_))
  refine (HR2.out _ _ _ (own_cap HO2.out) (own_bv HO2.out).2).mono ?_
  rintro e wz ⟨rfl, rfl⟩
  have HC2 := Lib.hid (HC1.out.next HA2.out)
  have HY1 := Lib.hid (HA2.out.bv HX1.out)
  have HY2 := Lib.hid (HA2.out.bv HX2.out)
  have HY3 := Lib.hid (HA2.out.bv HX3.out)
  clear HX1 HX2 HX3 HR2 HM2 HS2 HO2 HC1 HA2
  have HX1 := HY1
  have HX2 := HY2
  have HX3 := HY3
  clear HY1 HY2 HY3
  have HM3 := Lib.hid (made_own w2a)
  have HS3 := Lib.hid ((HX3.out).alloc (.cells #[] 5)).src
  have hr3 : ∀ (W : World) (A' : Option Addr) (c' : Nat), 4 ≤ c' → BV W A' (pt 4 u) → Calls Try.prog 11 #[.slice A' (4) c'] W fun e w' => e = .returned (.tuple #[.int .u32 (u : Int), .bool true]) ∧ W = w' := fun W A' c' hc h => by
    skip
    have := gn_pt 4 u ([] : List Nat)
    rw [List.append_nil] at this
    have h1 := get32_any A' (4) c' (pt 4 u) hc (by rw [pt_len]) (allB_pt 4 u) W h
    rw [this, show u % 2 ^ (8 * 4) = u from Nat.mod_eq_of_lt (by omega), decide_eq_true (show 4 ≤ 4 by omega)] at h1
    exact h1
  have HR3 := Lib.hid hr3
  clear hr3
  go_wp2_with (first
    | (at_builtin; refine wpList_append_own _ rfl (.tmp 53) (.tmp 54) 22 rfl w2a.heap.size 5 i0 (.int .u8 0) 1 1 Try.underlying22 hi hz0 hz1 hz2 rfl (by decide) _ 0 [] rfl HM3.out ⟨g3, 0, none⟩ 4 c3 ((pt 4 u).map bt) rfl (by rw [List.length_map, pt_len]) HS3.out (bt_one _) (by unfold maxLen; omega) (by omega) (by simp) ?_; intro v3 w3a ho hg _; obtain ⟨HO3, HA3⟩ := grow_one HM3.out ho hg; clear ho hg; obtain ⟨ga3, ca3, rfl, _, _⟩ := HO3.out.form (by omega))
    | (at_builtin; refine wpList_append_own_none rfl (.tmp 55) (.tmp 56) 22 rfl w2a.heap.size 5 i0 1 Try.underlying22 hi _ 4 ((pt 4 u).map bt) rfl HO3.out rfl ?_))
  refine (HR3.out _ _ _ (own_cap HO3.out) (own_bv HO3.out).2).mono ?_
  rintro e wz ⟨rfl, rfl⟩
  have HC3 := Lib.hid (HC2.out.next HA3.out)
  have HY1 := Lib.hid (HA3.out.bv HX1.out)
  have HY2 := Lib.hid (HA3.out.bv HX2.out)
  have HY3 := Lib.hid (HA3.out.bv HX3.out)
  clear HX1 HX2 HX3 HR3 HM3 HS3 HO3 HC2 HA3
  have HX1 := HY1
  have HX2 := HY2
  have HX3 := HY3
  clear HY1 HY2 HY3
  go_wp2_with fail
  refine (round_any cut n hvp (by omega) _).mono ?_
  rintro e wz ⟨⟨r1, hr1, rfl⟩, rfl⟩
  have HZ1 : Hid (Calls Try.prog 9 #[.slice (some ⟨g1, 0, none⟩) r1 c1] w3a fun e w' => e = .returned (.tuple #[.int .u64 0, .int .i64 0]) ∧ w3a = w') := Lib.hid (by
    have h1 := unv_any (some ⟨g1, 0, none⟩) r1 c1 ((vi v).take r1) (by omega) (by rw [List.length_take, ← HN.out]; omega) (allB_take (allB_vi v) _) w3a (HX1.out.take _)
    rw [uv_cut v r1 (by rw [← HN.out]; exact hr1)] at h1
    exact h1)
  have t1 : (0 : Int) ≤ (r1 : Int) := by omega
  have s1 : (r1 : Int) ≤ (c1 : Int) := by omega
  go_wp2_with fail
  refine HZ1.out.mono ?_
  rintro e wz ⟨rfl, rfl⟩
  go_wp2_with fail
  refine (round_any cut 8 (by omega) (by omega) _).mono ?_
  rintro e wz ⟨⟨r2, hr2, rfl⟩, rfl⟩
  have HZ2 : Hid (Calls Try.prog 13 #[.slice (some ⟨g2, 0, none⟩) r2 c2] w3a fun e w' => e = .returned (.tuple #[.int .u64 0, .bool false]) ∧ w3a = w') := Lib.hid (by
    have h1 := get64_any (some ⟨g2, 0, none⟩) r2 c2 ((pt 8 v).take r2) (by omega) (by rw [List.length_take, pt_len]; omega) (allB_take (allB_pt 8 v) _) w3a (HX2.out.take _)
    rw [decide_eq_false (show ¬ 8 ≤ r2 by omega), show gn ((pt 8 v).take r2) 8 = 0 by unfold gn; rw [if_neg (by rw [List.length_take, pt_len]; omega)]] at h1
    exact h1)
  have t2 : (0 : Int) ≤ (r2 : Int) := by omega
  have s2 : (r2 : Int) ≤ (c2 : Int) := by omega
  go_wp2_with fail
  refine HZ2.out.mono ?_
  rintro e wz ⟨rfl, rfl⟩
  go_wp2_with fail
  refine (round_any cut 4 (by omega) (by omega) _).mono ?_
  rintro e wz ⟨⟨r3, hr3, rfl⟩, rfl⟩
  have HZ3 : Hid (Calls Try.prog 11 #[.slice (some ⟨g3, 0, none⟩) r3 c3] w3a fun e w' => e = .returned (.tuple #[.int .u32 0, .bool false]) ∧ w3a = w') := Lib.hid (by
    have h1 := get32_any (some ⟨g3, 0, none⟩) r3 c3 ((pt 4 u).take r3) (by omega) (by rw [List.length_take, pt_len]; omega) (allB_take (allB_pt 4 u) _) w3a (HX3.out.take _)
    rw [decide_eq_false (show ¬ 4 ≤ r3 by omega), show gn ((pt 4 u).take r3) 4 = 0 by unfold gn; rw [if_neg (by rw [List.length_take, pt_len]; omega)]] at h1
    exact h1)
  have t3 : (0 : Int) ≤ (r3 : Int) := by omega
  have s3 : (r3 : Int) ≤ (c3 : Int) := by omega
  go_wp2_with fail
  refine HZ3.out.mono ?_
  rintro e wz ⟨rfl, rfl⟩
  go_wp2_with (go_at_call 8; refine (awake_any _).mono ?_; rintro e w10 ⟨rfl, b10⟩; have HB10 := Lib.hid (HC3.out.next b10); clear b10)
  go_ret
  exact ⟨rfl, HB10.out⟩

end Go.Proofs.Ytennafmbefnnmaa
