/- Proved: the law IvalJoins answers true for any extents and any number: added in whatever order, in whatever groups, a set is the same. -/
import Derived.Test.YtbhlpdfejnfeeaaTri
import Derived.Deep.Cut
namespace Go.Proofs.Ytbhlpdfejnfeeaa
open Go.RowKit

theorem two_parts (l : List (Int × Int)) (k : Nat) (x : Int) : In (l.drop k ++ l.take k) x ↔ In l x := by
  rw [in_app, or_comm, ← in_app, List.take_append_drop]
theorem one_more (l : List (Int × Int)) (k : Nat) (h : k < l.length) (x : Int) : In (l.drop (k + 1) ++ [l.getD k (0, 0)]) x ↔ In (l.drop k) x := by
  rw [in_app, in_one, List.drop_eq_getElem_cons h, in_cons, or_comm, List.getD_eq_getElem?_getD, List.getElem?_eq_getElem h]; rfl
theorem allB_sub {l m : List (Int × Int)} (h : allB l = true) (hs : ∀ e ∈ m, e ∈ l) : allB m = true := (allB_iff m).2 fun e he => (allB_iff l).1 h e (hs e he)

set_option maxHeartbeats 4000000 in
set_option maxRecDepth 100000 in
theorem joins_yes (A : Option Addr) (n c : Nat) (l : List (Int × Int)) (a : Int) (w : World) (hn : n ≤ 60) (hz : A = none → n = 0 ∧ c = 0) (hnc : n ≤ c) (hl : l.length = n) (hx : EV w A l) :
    Calls Try.prog 7 #[.slice A n c, .int .i64 a] w (Gives (.bool true) w) := by
  obtain ⟨k, hk⟩ : ∃ k, k = rd a (n + 1) := ⟨_, rfl⟩
  have hkn : k ≤ n := by have := rd_lt a (n + 1) (by omega); omega
  have HRD : Hid (∀ W, Calls Try.prog 19 #[.int .i64 a, .int .i64 ((n : Int) + 1)] W fun e w' => e = .returned (.int .i64 (k : Int)) ∧ W = w') := Lib.hid (fun W => by
    have := round_any a (n + 1) (by omega) (by omega) W
    rw [← hk, show ((n + 1 : Nat) : Int) = (n : Int) + 1 by omega] at this; exact this)
  have HL := Lib.hid hl
  have HX := Lib.hid hx
  have HZ := Lib.hid hz
  have q0 : (n : Int) ≤ 60 := by omega
  clear hk hl hx hz
  go_enter Try.func7, Try.ntmps7
  go_wp2_with fail
  refine (HRD.out _).mono ?_
  rintro e w' ⟨rfl, rfl⟩
  go_wp2_with fail
  refine (new_any 100 _).mono ?_
  rintro e w1 n1
  obtain ⟨rfl, h1⟩ := st_new n1
  clear n1
  go_wp2_with fail
  refine (new_any 100 _).mono ?_
  rintro e w2 n2
  obtain ⟨rfl, h2⟩ := st_new n2
  clear n2
  go_wp2_with fail
  refine (new_any 100 _).mono ?_
  rintro e w3 n3
  obtain ⟨rfl, h3⟩ := st_new n3
  clear n3
  have hT : Tri w w3 w.heap.size w1.heap.size w2.heap.size (.slice none 0 0) (.slice none 0 0) (.slice none 0 0) 100 [] [] [] :=
    ⟨(h1.on h2.at_).on h3.at_, (h2.back h1.at_).on h3.at_, h3.back (h1.at_.next h2.at_),
      ap_new (h1.sv.lt _ (Or.inl rfl)), ap_new (Nat.lt_of_lt_of_le (h1.sv.lt _ (Or.inl rfl)) h2.at_.size), ap_new (h2.sv.lt _ (Or.inl rfl))⟩
  have HT3 := Lib.hid hT
  clear h1 h2 h3 hT
  generalize w1.heap.size = y at *
  generalize w2.heap.size = z at *
  obtain ⟨x, hxx⟩ : ∃ x, x = w.heap.size := ⟨_, rfl⟩
  rw [← hxx] at HT3
  rw [← hxx]
  clear hxx
  go_wp2_with fail
  refine (add_any A n c l HT3.out.a.sv (by omega) HZ.out HL.out (HX.out.on HT3.out.a.at_)).mono ?_
  rintro e w4 had
  cases hv : allB l with
  | false =>
    obtain ⟨r, v4, L4, rfl, hs4, hd4, hc⟩ := had
    obtain ⟨rfl, rfl⟩ : r = 1 ∧ L4 = [] := by
      rcases hc with ⟨h1, h2, _⟩ | ⟨_, h, _⟩ | ⟨_, _, h, _⟩
      · exact ⟨h1, h2⟩
      · rw [hv] at h; cases h
      · rw [hv] at h; cases h
    have HT4 := Lib.hid (HT3.out.did_a hs4 hd4)
    clear hs4 hd4 hc hv
    go_wp2_with fail
    refine (count_any HT4.out.a.sv (by simp)).mono ?_
    rintro e w5 ⟨rfl, ha⟩
    have HA5 := Lib.hid (HT4.out.a.at_.next ha)
    rw [show sm [] = 0 from rfl]
    clear ha
    go_wp2_with fail
    refine (awake_any _).mono ?_
    rintro e w6 ⟨rfl, ha⟩
    have HA6 := Lib.hid (HA5.out.next ha)
    clear ha
    go_wp2
    go_ret
    exact ⟨rfl, HA6.out⟩
  | true =>
    have HV := Lib.hid hv
    have HVM : Hid (∀ e ∈ l, Vm e) := Lib.hid (fun e he => ((allB_iff l).1 hv e he).vm)
    obtain ⟨v4, La, rfl, hs4, hd4, hi4⟩ := had.ok hv Is.nil (fun e he => by cases he) (by simp [HL.out]; omega)
    rw [List.nil_append] at hi4
    have HT4 := Lib.hid (HT3.out.did_a hs4 hd4)
    have HLA := Lib.hid hi4
    clear had hs4 hd4 hi4 HT3 HRD hv
    have HB1 : Hid (∀ (A1 : Option Addr) (m1 c1 : Nat), EV w4 A1 (l.drop k) → (A1 = none → m1 = 0 ∧ c1 = 0) → m1 = n - k → Calls Try.prog 9 #[.pointer (some ⟨y, 0, none⟩), .slice A1 m1 c1] w4 (fun e w5 => e = .returned (.int .i64 0) ∧ ∃ v5 L5, Tri w w5 x y z v4 v5 (.slice none 0 0) 100 La L5 [] ∧ Is (l.drop k) L5)) := Lib.hid (fun A1 m1 c1 he hz hm => by
      refine (add_any A1 m1 c1 (l.drop k) HT4.out.b.sv (by omega) hz (by rw [List.length_drop, HL.out, hm]) he).mono fun e w5 h => ?_
      obtain ⟨v5, L5, rfl, hs5, hd5, hi5⟩ := h.ok (allB_sub HV.out fun e he => List.mem_of_mem_drop he) Is.nil (fun e he => by cases he) (by simp [HL.out]; omega)
      rw [List.nil_append] at hi5
      exact ⟨rfl, v5, L5, HT4.out.did_b hs5 hd5, hi5⟩)
    have HB2 : Hid (∀ (W : World) (v5 : Value) (L5 : List (Int × Int)), Tri w W x y z v4 v5 (.slice none 0 0) 100 La L5 [] → Is (l.drop k) L5 → ∀ (A1 : Option Addr) (m1 c1 : Nat), EV W A1 (l.take k) → (A1 = none → m1 = 0 ∧ c1 = 0) → m1 = k → Calls Try.prog 9 #[.pointer (some ⟨y, 0, none⟩), .slice A1 m1 c1] W (fun e w6 => e = .returned (.int .i64 0) ∧ ∃ v6, Tri w w6 x y z v4 v6 (.slice none 0 0) 100 La La [])) := Lib.hid (fun W v5 L5 hT hi A1 m1 c1 he hz hm => by
      refine (add_any A1 m1 c1 (l.take k) hT.b.sv (by omega) hz (by rw [List.length_take, HL.out, hm]; omega) he).mono fun e w6 h => ?_
      obtain ⟨v6, L6, rfl, hs6, hd6, hi6⟩ := h.ok (allB_sub HV.out fun e he => List.mem_of_mem_take he) hi (fun e he => HVM.out e (List.mem_of_mem_drop he)) (by simp [HL.out]; omega)
      obtain rfl := is_one HLA.out (hi6.like (two_parts l k))
      exact ⟨rfl, v6, hT.did_b hs6 hd6⟩)
    have b1 : (0 : Int) ≤ (k : Int) := by omega
    have b2 : (k : Int) ≤ (n : Int) := by omega
    have b3 : (n : Int) ≤ (c : Int) := by omega
    have b4 : (k : Int) ≤ (c : Int) := by omega
    go_upto_region 10 with fail
    go_cut [50] from 37 (fun s wx => ∃ v6 : Value, s = .bool false ∧ Hid (Tri w wx x y z v4 v6 (.slice none 0 0) 100 La La []))
    case first =>
      by_cases hn0 : n = 0
      · have hl0 : l = [] := List.eq_nil_of_length_eq_zero (by rw [HL.out, hn0])
        have HE : Hid (∀ W A, EV W A (l.drop k) ∧ EV W A (l.take k)) := Lib.hid (fun W A => ⟨Or.inl (by rw [hl0]; simp), Or.inl (by rw [hl0]; simp)⟩)
        clear hl0
        obtain rfl : k = 0 := by omega
        subst hn0
        rcases A with _ | ad
        · obtain ⟨_, rfl⟩ := HZ.out rfl
          go_wp2_with fail
          refine (HB1.out _ _ _ ((HE.out _ _).1) (fun _ => ⟨rfl, rfl⟩) (rfl)).mono ?_
          rintro e w5 ⟨rfl, v5, L5, hT5, hi5⟩
          have HT5 := Lib.hid hT5
          have HI5 := Lib.hid hi5
          clear hT5 hi5
          go_wp2_with fail
          refine (HB2.out _ _ _ HT5.out HI5.out _ _ _ ((HE.out _ _).2) (fun _ => ⟨rfl, rfl⟩) (rfl)).mono ?_
          rintro e w6 ⟨rfl, v6, hT6⟩
          have HT6 := Lib.hid hT6
          clear hT6
          go_wp2
          go_meet
          case rel => exact ⟨v6, rfl, HT6⟩
        · by_cases hc0 : c = 0
          · subst hc0
            go_wp2_with fail
            refine (HB1.out _ _ _ ((HE.out _ _).1) (fun h => by cases h) (rfl)).mono ?_
            rintro e w5 ⟨rfl, v5, L5, hT5, hi5⟩
            have HT5 := Lib.hid hT5
            have HI5 := Lib.hid hi5
            clear hT5 hi5
            go_wp2_with fail
            refine (HB2.out _ _ _ HT5.out HI5.out _ _ _ ((HE.out _ _).2) (fun h => by cases h) (rfl)).mono ?_
            rintro e w6 ⟨rfl, v6, hT6⟩
            have HT6 := Lib.hid hT6
            clear hT6
            go_wp2
            go_meet
            case rel => exact ⟨v6, rfl, HT6⟩
          · skip
            go_wp2_with fail
            refine (HB1.out _ _ _ ((HE.out _ _).1) (fun h => by cases h) (rfl)).mono ?_
            rintro e w5 ⟨rfl, v5, L5, hT5, hi5⟩
            have HT5 := Lib.hid hT5
            have HI5 := Lib.hid hi5
            clear hT5 hi5
            go_wp2_with fail
            refine (HB2.out _ _ _ HT5.out HI5.out _ _ _ ((HE.out _ _).2) (fun h => by cases h) (rfl)).mono ?_
            rintro e w6 ⟨rfl, v6, hT6⟩
            have HT6 := Lib.hid hT6
            clear hT6
            go_wp2
            go_meet
            case rel => exact ⟨v6, rfl, HT6⟩
      · obtain ⟨g, o, rfl, hg, hcl⟩ := HX.out.pos (by rw [HL.out]; omega)
        have HE : Hid (∀ W, At w W → EV W (some ⟨g, o + k * 2, none⟩) (l.drop k) ∧ EV W (some ⟨g, o, none⟩) (l.take k)) := Lib.hid (fun W hW => by
          have h1 := (HX.out.on hW).cut k n
          have h2 := (HX.out.on hW).cut 0 k
          rw [List.take_of_length_le (by rw [List.length_drop, HL.out]; omega)] at h1
          rw [List.drop_zero, Nat.zero_mul, Nat.add_zero] at h2
          exact ⟨h1, h2⟩)
        clear hg hcl
        have hc0 : ¬ c = 0 := by omega
        by_cases hck : c = k
        · have HE2 : Hid (∀ W A, EV W A (l.drop k)) := Lib.hid (fun W A => Or.inl (List.drop_eq_nil_of_le (by rw [HL.out]; omega)))
          subst hck
          obtain rfl : n = c := by omega
          go_wp2_with fail
          refine (HB1.out _ _ _ ((HE2.out _ _)) (fun h => by cases h) (by omega)).mono ?_
          rintro e w5 ⟨rfl, v5, L5, hT5, hi5⟩
          have HT5 := Lib.hid hT5
          have HI5 := Lib.hid hi5
          clear hT5 hi5
          go_wp2_with fail
          refine (HB2.out _ _ _ HT5.out HI5.out _ _ _ ((HE.out _ HT5.out.a.at_).2) (fun h => by cases h) (rfl)).mono ?_
          rintro e w6 ⟨rfl, v6, hT6⟩
          have HT6 := Lib.hid hT6
          clear hT6
          go_wp2
          go_meet
          case rel => exact ⟨v6, rfl, HT6⟩
        · skip
          go_wp2_with fail
          refine (HB1.out _ _ _ ((HE.out _ HT4.out.a.at_).1) (fun h => by cases h) (rfl)).mono ?_
          rintro e w5 ⟨rfl, v5, L5, hT5, hi5⟩
          have HT5 := Lib.hid hT5
          have HI5 := Lib.hid hi5
          clear hT5 hi5
          go_wp2_with fail
          refine (HB2.out _ _ _ HT5.out HI5.out _ _ _ ((HE.out _ HT5.out.a.at_).2) (fun h => by cases h) (rfl)).mono ?_
          rintro e w6 ⟨rfl, v6, hT6⟩
          have HT6 := Lib.hid hT6
          clear hT6
          go_wp2
          go_meet
          case rel => exact ⟨v6, rfl, HT6⟩
    obtain ⟨v6, rfl, HT6⟩ := hcut
    have hla : La.length ≤ 60 := by have := is_len HVM.out HLA.out; rw [HL.out] at this; omega
    clear HB1 HB2 HT4 b1 b2 b3 b4
    have y1 : IntKind.i64.wrap ((n : Int) - 1) = (n : Int) - 1 := IntWalk.i64_in _ (by omega)
    go_wp2
    go_loopw [9] (fun i wr => ∃ (k : Nat) (zi : Int) (v : Value) (K : List (Int × Int)), k ≤ n ∧ zi = (k : Int) - 1 ∧ i = .int .i64 zi ∧ Hid (Tri w wr x y z v4 v6 v 100 La La K ∧ Is (l.drop k) K)) (fun i _ => (intOf i + 1).toNat)
    case atStart => exact ⟨n, _, _, [], Nat.le_refl _, rfl, rfl, Lib.hid ⟨HT6.out, by rw [List.drop_eq_nil_of_le (by rw [HL.out]; exact Nat.le_refl _)]; exact Is.nil⟩⟩
    case round =>
      obtain ⟨k, zi, v, K, hk, hzi, rfl, HTK⟩ := hrel
      by_cases h0 : 0 < k
      · obtain ⟨j, rfl⟩ : ∃ j, k = j + 1 := ⟨k - 1, by omega⟩
        obtain rfl : zi = (j : Int) := by omega
        have hjn : j < n := by omega
        obtain ⟨g, o, rfl, hg, hc⟩ := HX.out.pos (by rw [HL.out]; omega)
        have hcj := hc j (by rw [HL.out]; exact hjn)
        have c1 : wr.cell? ⟨g, o + j * 2, none⟩ = some (.int .i64 (l.getD j (0, 0)).1) := (Below.cell HTK.out.1.a.at_ (p := ⟨g, o + j * 2, none⟩) hg).trans hcj.1
        have c2 : wr.cell? ⟨g, o + j * 2 + 1, none⟩ = some (.int .i64 (l.getD j (0, 0)).2) := (Below.cell HTK.out.1.a.at_ (p := ⟨g, o + j * 2 + 1, none⟩) hg).trans hcj.2
        have hmem := getD_mem (show j < l.length by rw [HL.out]; exact hjn)
        have hom := one_more l j (by rw [HL.out]; exact hjn)
        obtain ⟨p, hp⟩ : ∃ p, l.getD j (0, 0) = p := ⟨_, rfl⟩
        rw [hp] at c1 c2 hmem hom
        obtain ⟨p1, p2⟩ := p
        simp only at c1 c2
        have HOM := Lib.hid hom
        have HME := Lib.hid hmem
        have q1 : (0 : Int) ≤ (j : Int) := by omega
        have q2 : (j : Int) < (n : Int) := by omega
        have q3 : IntKind.i64.wrap ((j : Int) - 1) = (j : Int) - 1 := IntWalk.i64_in _ (by omega)
        clear hc hcj hp hmem hom hzi
        have HTA : Hid (Tri w (wr.alloc (.cells #[.int .i64 p1, .int .i64 p2] 28)) x y z v4 v6 v 100 La La K) := Lib.hid (HTK.out.1.on ((At.start wr).alloc _))
        have HAD := Lib.hid (add_any (some ⟨wr.heap.size, 0, none⟩) 1 1 [(p1, p2)] HTA.out.c.sv (by omega) (fun h => by cases h) rfl (ev_one wr p1 p2))
        go_wp2_with fail
        refine HAD.out.mono ?_
        rintro e w8 had
        obtain ⟨v8, K8, rfl, hs8, hd8, hi8⟩ := had.ok (allB_sub HV.out fun e he => by rw [List.mem_singleton.1 he]; exact HME.out) HTK.out.2 (fun e he => HVM.out e (List.mem_of_mem_drop he)) (by simp [HL.out]; omega)
        have HT8 := Lib.hid (HTA.out.did_c hs8 hd8)
        have HI8 := Lib.hid (hi8.like HOM.out)
        clear had hs8 hd8 hi8
        go_wp2
        go_roundw
        case rel => exact ⟨j, (j : Int) - 1, v8, K8, by omega, rfl, by go_num, Lib.hid ⟨HT8.out, HI8.out⟩⟩
        case measure => simp [intOf]
      · obtain rfl : k = 0 := by omega
        obtain rfl : zi = -1 := by omega
        obtain rfl : La = K := is_one HLA.out (by have := HTK.out.2; rwa [List.drop_zero] at this)
        have HT9 := Lib.hid HTK.out.1
        obtain ⟨N, hN⟩ : ∃ N, N = La.length := ⟨_, rfl⟩
        have HN := Lib.hid hN
        have hes : esB La La = true := decide_eq_true rfl
        have HES := Lib.hid hes
        have HXT : Hid (∀ (W : World) (b : Nat) (v : Value), Sv W b v 100 La → Calls Try.prog 11 #[.pointer (some ⟨b, 0, none⟩)] W (fun e W' => ∃ A c, e = .returned (.slice A N c) ∧ EV W' A La ∧ At W W')) := Lib.hid (fun W b v hs => by
          refine (extents_any hs (by omega)).mono ?_
          rintro e W' ⟨v', rfl, ho, ha, -⟩
          obtain ⟨A', c', rfl, -, -, hev⟩ := ho.ev
          exact ⟨A', c', by rw [HN.out], hev, ha⟩)
        have HSM : Hid (∀ (W : World) (A1 A2 : Option Addr) (c1 c2 : Nat), EV W A1 La → EV W A2 La → Calls Try.prog 20 #[.slice A1 N c1, .slice A2 N c2] W (Gives (.bool true) W)) := Lib.hid (fun W A1 A2 c1 c2 h1 h2 => by
          have := same_any A1 A2 N c1 N c2 La La W (by omega) (by omega) HN.out.symm HN.out.symm h1 h2
          rwa [HES.out] at this)
        clear hN hes HTK hzi h0
        go_wp2_with fail
        refine (HXT.out _ _ _ HT9.out.a.sv).mono ?_
        rintro e u1 ⟨A1, c1, rfl, he1, ha1⟩
        have HT1 := Lib.hid (HT9.out.on ha1)
        have HE1 := Lib.hid he1
        clear he1 ha1
        go_wp2_with fail
        refine (HXT.out _ _ _ HT1.out.b.sv).mono ?_
        rintro e u2 ⟨A2, c2, rfl, he2, ha2⟩
        have HT2 := Lib.hid (HT1.out.on ha2)
        have HE12 := Lib.hid (HE1.out.on ha2)
        have HE2 := Lib.hid he2
        clear he2 ha2
        go_wp2_with fail
        refine (HSM.out _ _ _ _ _ HE12.out HE2.out).mono ?_
        rintro e u3 ⟨rfl, ha3⟩
        have HT3 := Lib.hid (HT2.out.on ha3)
        clear ha3
        go_wp2_with fail
        refine (HXT.out _ _ _ HT3.out.a.sv).mono ?_
        rintro e u4 ⟨A4, c4, rfl, he4, ha4⟩
        have HT4 := Lib.hid (HT3.out.on ha4)
        have HE4 := Lib.hid he4
        clear he4 ha4
        go_wp2_with fail
        refine (HXT.out _ _ _ HT4.out.c.sv).mono ?_
        rintro e u5 ⟨A5, c5, rfl, he5, ha5⟩
        have HT5 := Lib.hid (HT4.out.on ha5)
        have HE45 := Lib.hid (HE4.out.on ha5)
        have HE5 := Lib.hid he5
        clear he5 ha5
        go_wp2_with fail
        refine (HSM.out _ _ _ _ _ HE45.out HE5.out).mono ?_
        rintro e u6 ⟨rfl, ha6⟩
        have HT6' := Lib.hid (HT5.out.on ha6)
        clear ha6
        go_wp2_with fail
        refine (count_any HT6'.out.a.sv (by omega)).mono ?_
        rintro e u7 ⟨rfl, ha7⟩
        have HT7 := Lib.hid (HT6'.out.on ha7)
        clear ha7
        go_wp2_with fail
        refine (count_any HT7.out.c.sv (by omega)).mono ?_
        rintro e u8 ⟨rfl, ha8⟩
        have HT8 := Lib.hid (HT7.out.on ha8)
        clear ha8
        go_wp2_with fail
        refine (awake_any _).mono ?_
        rintro e u9 ⟨rfl, ha9⟩
        have HA9 := Lib.hid (HT8.out.a.at_.next ha9)
        clear ha9
        go_wp2
        go_ret
        exact ⟨rfl, HA9.out⟩

set_option maxHeartbeats 1000000 in
theorem joins_any (A : Option Addr) (n c : Nat) (l : List (Int × Int)) (a : Int) (w : World) (hz : A = none → n = 0 ∧ c = 0) (hnc : n ≤ c) (hl : l.length = n) (hx : EV w A l) :
    Calls Try.prog 7 #[.slice A n c, .int .i64 a] w (Gives (.bool true) w) := by
  by_cases h : n ≤ 60
  · exact joins_yes A n c l a w h hz hnc hl hx
  · have h' : (60 : Int) < (n : Int) := by omega
    clear hx
    go_enter Try.func7, Try.ntmps7
    go_wp2_with (go_at_call 14; refine (awake_any _).mono ?_; rintro e w' ⟨rfl, hb⟩)
    go_ret
    exact ⟨rfl, hb⟩

end Go.Proofs.Ytbhlpdfejnfeeaa
