/- Proved: what the library's symMerge gives at a row of ints: two sorted stretches that stand beside each other merged. -/
import Derived.Test.YtefpaagbopmmlaaSyp
import Derived.Deep.CutRange
namespace Go.Proofs.Ytefpaagbopmmlaa
open Go.RowKit Go.Sort

/-- What symMerge gives, at stretches of no more than k elements together. -/
def SymOk (F : Nat → Int) (cf : Nat → Nat → Int) (T : Nat → Nat → Prop) (w : World) (blk off n cap sb k : Nat) : Prop :=
  ∀ (p A B s : List Nat) (m : Nat) (a c b : Int), 0 < A.length → 0 < B.length → A.length + B.length ≤ k → A.Pairwise T → B.Pairwise T → (∀ x ∈ A, ∀ y ∈ B, Cross T cf x y) → (p ++ A ++ B ++ s).length = n →
    a = p.length → c = (p.length + A.length : Nat) → b = (p.length + A.length + B.length : Nat) →
    Calls Try.prog 41 #[.slice (some ⟨blk, off, none⟩) n cap, .int .i64 a, .int .i64 c, .int .i64 b, cv sb] (RW F w blk off (p ++ A ++ B ++ s) m) fun e w' =>
      e = .returned (.tuple #[]) ∧ ∃ m' C, w' = RW F w blk off (p ++ C ++ s) m' ∧ C.Perm (A ++ B) ∧ C.Pairwise T

set_option maxHeartbeats 8000000 in
set_option maxRecDepth 100000 in
theorem sym_gen (F : Nat → Int) (cf : Nat → Nat → Int) (T : Nat → Nat → Prop) (hT : Ord T) (w : World) (blk off n cap sb k : Nat) (H : Rw F w blk off n) (hC : CmpOk F cf w blk off n sb) (hn : n ≤ 1000000) (IH : SymOk F cf T w blk off n cap sb k)
    (p A B s : List Nat) (m : Nat) (a c b : Int) (hA2 : 2 ≤ A.length) (hB2 : 2 ≤ B.length) (hk : A.length + B.length ≤ k + 1)
    (hA : A.Pairwise T) (hB : B.Pairwise T) (hX : ∀ x ∈ A, ∀ y ∈ B, Cross T cf x y) (hlen : (p ++ A ++ B ++ s).length = n) (ha : a = p.length) (hc : c = (p.length + A.length : Nat)) (hb : b = (p.length + A.length + B.length : Nat)) :
    Calls Try.prog 41 #[.slice (some ⟨blk, off, none⟩) n cap, .int .i64 a, .int .i64 c, .int .i64 b, cv sb] (RW F w blk off (p ++ A ++ B ++ s) m) fun e w' =>
      e = .returned (.tuple #[]) ∧ ∃ m' C, w' = RW F w blk off (p ++ C ++ s) m' ∧ C.Perm (A ++ B) ∧ C.Pairwise T := by
  have hlen' : p.length + A.length + B.length + s.length = n := by simp at hlen; omega
  obtain ⟨Z, hZ⟩ : ∃ Z, Z = p.length := ⟨_, rfl⟩
  obtain ⟨NA, hNA⟩ : ∃ NA, NA = A.length := ⟨_, rfl⟩
  obtain ⟨NB, hNB⟩ : ∃ NB, NB = B.length := ⟨_, rfl⟩
  obtain ⟨D, hD⟩ : ∃ D, D = (NA + NB) / 2 := ⟨_, rfl⟩
  obtain ⟨g0, h0, hg0⟩ : ∃ g0 h0, (D < NA ∧ g0 + NB = D ∧ h0 = D) ∨ (¬ D < NA ∧ g0 = 0 ∧ h0 = NA) := by
    by_cases h : D < NA
    · exact ⟨D - NB, D, .inl ⟨h, by omega, rfl⟩⟩
    · exact ⟨0, NA, .inr ⟨h, rfl, rfl⟩⟩
  rw [← hZ] at ha; rw [← hZ, ← hNA] at hc; rw [← hZ, ← hNA, ← hNB] at hb
  rw [← hNA, ← hNB] at hk
  rw [← hNA] at hA2; rw [← hNB] at hB2
  subst ha
  replace hc : c = (Z : Int) + (NA : Int) := by omega
  replace hb : b = (Z : Int) + (NA : Int) + (NB : Int) := by omega
  subst hb hc
  have b1 : Z + NA + NB ≤ n := by omega
  have d1 : g0 ≤ h0 := by omega
  have d2 : h0 ≤ D := by omega
  have d3 : h0 ≤ NA := by omega
  have d4 : D ≤ g0 + NB := by omega
  have d5 : 1 ≤ D := by omega
  have d6 : D < NA + NB := by omega
  have HZ := Lib.hid hZ
  have HNA := Lib.hid hNA
  have HNB := Lib.hid hNB
  have HD := Lib.hid hD
  have HG0 := Lib.hid hg0
  have HN := Lib.hid hlen'
  have HH := Lib.hid H
  have HC := Lib.hid hC
  have HT := Lib.hid hT
  have HA := Lib.hid hA
  have HB := Lib.hid hB
  have HX := Lib.hid hX
  have HIH := Lib.hid IH
  have HXL : Hid ((p ++ A ++ B ++ s).length = n) := Lib.hid hlen
  have evm : ((Z : Int) + ((Z : Int) + (NA : Int) + (NB : Int))) / 2 = (Z : Int) + (D : Int) := by omega
  clear hZ hNA hNB hD hg0 hlen hlen' H hC hT hA hB hX IH
  obtain ⟨wx, hwx⟩ : ∃ wx, wx = RW F w blk off (p ++ A ++ B ++ s) m := ⟨_, rfl⟩
  rw [← hwx]
  have HWX := Lib.hid hwx
  clear hwx
  unfold cv
  have t0 : ((Z : Int) + (NA : Int) - (Z : Int) == 1) = false := by rw [beq_eq_false_iff_ne]; omega
  have t1 : ((Z : Int) + (NA : Int) + (NB : Int) - ((Z : Int) + (NA : Int)) == 1) = false := by rw [beq_eq_false_iff_ne]; omega
  go_enter Try.func41, Try.ntmps41
  go_upto_if 140 with fail
  go_cut [20, 21] from 138 to 146 (fun s r wy => s = .int .i64 ((Z : Int) + (g0 : Int)) ∧ r = .int .i64 ((Z : Int) + (h0 : Int)) ∧ wy = wx)
  case first =>
    rcases HG0.out with ⟨h1, h2, h3⟩ | ⟨h1, h2, h3⟩
    · have HE : Hid ((Z : Int) + (D : Int) + ((Z : Int) + (NA : Int)) - ((Z : Int) + (NA : Int) + (NB : Int)) = (Z : Int) + (g0 : Int) ∧ h0 = D) := Lib.hid ⟨by omega, h3⟩
      clear h2 h3
      go_wp2_with fail
      go_meet
      case rel => exact ⟨by rw [HE.out.1], by rw [HE.out.2], rfl⟩
    · have HE : Hid (g0 = 0 ∧ h0 = NA) := Lib.hid ⟨h2, h3⟩
      clear h2 h3
      go_wp2_with fail
      go_meet
      case rel => exact ⟨by rw [HE.out.1]; go_num, by rw [HE.out.2], rfl⟩
  obtain ⟨rfl, rfl, rfl⟩ := hcut
  go_wp2_with fail
  go_loopw [20, 21] (fun i j wr => ∃ (g h m' : Nat), g0 ≤ g ∧ g ≤ h ∧ h ≤ h0 ∧ i = .int .i64 ((Z : Int) + (g : Int)) ∧ j = .int .i64 ((Z : Int) + (h : Int)) ∧ Hid (Found T A B D g0 h0 g h ∧ wr = RW F w blk off (p ++ A ++ B ++ s) m')) (fun i j _ => (intOf j).toNat - (intOf i).toNat)
  case atStart => exact ⟨g0, h0, m, Nat.le_refl _, d1, Nat.le_refl _, rfl, rfl, Lib.hid ⟨⟨fun t h1 h2 => by omega, fun t h1 h2 => by omega⟩, HWX.out⟩⟩
  case round =>
    clear HWX
    obtain ⟨g, h, m', hgg, hgh, hhh, rfl, rfl, HR⟩ := hrel
    by_cases hlt : g < h
    · obtain ⟨t, ht⟩ : ∃ t, t = (g + h) / 2 := ⟨_, rfl⟩
      obtain ⟨x, hx⟩ : ∃ x, x = A.getD t 0 := ⟨_, rfl⟩
      obtain ⟨u, hu⟩ : ∃ u, u + 1 + t = D := ⟨D - 1 - t, by omega⟩
      obtain ⟨y, hy⟩ : ∃ y, y = B.getD u 0 := ⟨_, rfl⟩
      have hNAv := HNA.out
      have hNBv := HNB.out
      have hZv := HZ.out
      have hcr : Cross T cf x y := HX.out x (by rw [hx]; exact at_mem (by omega)) y (by rw [hy]; exact at_mem (by omega))
      have e1 : (p ++ A ++ B ++ s).getD (Z + t) 0 = x := by
        rw [hZv, List.append_assoc (p ++ A), List.append_assoc p, getD_right, getD_left _ _ _ (by omega), hx]
      have e2 : (p ++ A ++ B ++ s).getD (Z + NA + u) 0 = y := by
        have e : Z + NA = (p ++ A).length := by simp; omega
        rw [e, List.append_assoc (p ++ A), getD_right, getD_left _ _ _ (by omega), hy]
      have c1 := rw_cell HH.out HXL.out m' (Z + t) (by omega)
      have c2 := rw_cell HH.out HXL.out m' (Z + NA + u) (by omega)
      have hc := cmp_at HC.out HXL.out m' y x
      rw [e1] at c1
      rw [e2] at c2
      rw [← HR.out.2] at c1 c2 hc
      have eu : D - 1 - t = u := by omega
      have hup := fun hh => found_up HT.out HA.out HB.out (k := t) HR.out.1 (by omega) (fun q q1 q2 => by omega) (by omega) hh
      have hdn := fun hh => found_down HT.out HA.out HB.out (k := t) HR.out.1 (by omega) (by omega) (by omega) hh
      rw [eu, ← hx, ← hy] at hup hdn
      have HTT : Hid (t = (g + h) / 2) := Lib.hid ht
      have ev : ((Z : Int) + (g : Int) + ((Z : Int) + (h : Int))) / 2 = (Z : Int) + (t : Int) := by omega
      have ew : (Z : Int) + (D : Int) + ((Z : Int) + (NA : Int)) - 1 - ((Z : Int) + (t : Int)) = (Z : Int) + (NA : Int) + (u : Int) := by omega
      have ba : (0 : Int) ≤ (Z : Int) + (t : Int) := by omega
      have ca : (Z : Int) + (t : Int) < (n : Int) := by omega
      have bb : (0 : Int) ≤ (Z : Int) + (NA : Int) + (u : Int) := by omega
      have cb : (Z : Int) + (NA : Int) + (u : Int) < (n : Int) := by omega
      have HW : Hid (∀ q, wr.drewN q = RW F w blk off (p ++ A ++ B ++ s) (m' + q)) := Lib.hid (fun q => by rw [HR.out.2, rw_drewN])
      by_cases hlv : cf y x < 0
      · have HREL := Lib.hid (hdn (by
          rcases hcr with ⟨_, q⟩ | ⟨q, _⟩
          · exact q
          · exact absurd hlv q))
        have hnd : (!decide (cf y x < 0)) = false := by rw [decide_eq_true hlv]; rfl
        clear e1 e2 hx hy hu ht hcr HR eu hup hdn hNAv hNBv hZv
        go_wp2
        go_quiet ((go_at_call 29; exact Calls.quiet_of (hc _)))
        go_wp2
        have := HTT.out
        go_roundw
        case rel => exact ⟨g, t, _, hgg, by omega, by omega, rfl, by go_num, Lib.hid ⟨HREL.out, HW.out _⟩⟩
        case measure => simp [intOf]; omega
      · have HREL := Lib.hid (hup (by
          rcases hcr with ⟨q, _⟩ | ⟨_, q⟩
          · exact absurd q hlv
          · exact q))
        have hnd : (!decide (cf y x < 0)) = true := by rw [decide_eq_false hlv]; rfl
        clear e1 e2 hx hy hu ht hcr HR eu hup hdn hNAv hNBv hZv
        go_wp2
        go_quiet ((go_at_call 29; exact Calls.quiet_of (hc _)))
        go_wp2
        have := HTT.out
        go_roundw
        case rel => exact ⟨t + 1, h, _, by omega, by omega, hhh, by go_num, rfl, Lib.hid ⟨HREL.out, HW.out _⟩⟩
        case measure => simp [intOf]; omega
    · obtain rfl : g = h := by omega
      have hNAv := HNA.out
      have hNBv := HNB.out
      have hZv := HZ.out
      have hNv := HN.out
      obtain ⟨A1, A2, B1, B2, HP, l1, l2⟩ := parts_of HT.out HA.out HB.out HR.out.1 hgg hhh (by omega) (by omega) (by omega) (by have := HG0.out; omega) (by have := HG0.out; omega)
      obtain ⟨E, hE⟩ : ∃ E, g + E = D := ⟨D - g, by omega⟩
      have l3 : A1.length + A2.length = NA := by rw [hNAv, HP.a]; simp
      have l4 : B1.length + B2.length = NB := by rw [hNBv, HP.b]; simp
      have l2' : B1.length = E := by omega
      have q1 : A1.Pairwise T := by have := HA.out; rw [HP.a, List.pairwise_append] at this; exact this.1
      have q2 : A2.Pairwise T := by have := HA.out; rw [HP.a, List.pairwise_append] at this; exact this.2.1
      have q3 : B1.Pairwise T := by have := HB.out; rw [HP.b, List.pairwise_append] at this; exact this.1
      have q4 : B2.Pairwise T := by have := HB.out; rw [HP.b, List.pairwise_append] at this; exact this.2.1
      have x1 : ∀ x ∈ A1, ∀ y ∈ B1, Cross T cf x y := fun x hx y hy => HX.out x (by rw [HP.a]; simp [hx]) y (by rw [HP.b]; simp [hy])
      have x2 : ∀ x ∈ A2, ∀ y ∈ B2, Cross T cf x y := fun x hx y hy => HX.out x (by rw [HP.a]; simp [hx]) y (by rw [HP.b]; simp [hy])
      have HW : Hid (wr = RW F w blk off (p ++ A1 ++ A2 ++ B1 ++ (B2 ++ s)) m') := Lib.hid (by rw [HR.out.2, HP.a, HP.b]; simp)
      have HL : Hid (A1.length = g ∧ A2.length = NA - g ∧ B1.length = E ∧ B2.length = NB - E ∧ p.length = Z ∧ p.length + NA + NB + s.length = n) := Lib.hid ⟨l1, by omega, l2', by omega, by omega, by omega⟩
      have HQ : Hid (A1.Pairwise T ∧ A2.Pairwise T ∧ B1.Pairwise T ∧ B2.Pairwise T) := Lib.hid ⟨q1, q2, q3, q4⟩
      have HX1 := Lib.hid x1
      have HX2 := Lib.hid x2
      have HPP := Lib.hid HP
      have e24 : (Z : Int) + (D : Int) + ((Z : Int) + (NA : Int)) - ((Z : Int) + (g : Int)) = (Z : Int) + (NA : Int) + (E : Int) := by omega
      have g1 : g ≤ NA := by omega
      have g2 : E ≤ NB := by omega
      have HE := Lib.hid hE
      clear hNAv hNBv hZv hNv HP l1 l2 l3 l4 l2' q1 q2 q3 q4 x1 x2 hE HR HX
      have hge : ¬ ((Z : Int) + (g : Int) < (Z : Int) + (g : Int)) := by omega
      obtain ⟨tb, htb⟩ : ∃ tb : Bool, tb = decide (g < NA ∧ 0 < E) := ⟨_, rfl⟩
      have HTB := Lib.hid htb
      obtain ⟨tc, htc⟩ : ∃ tc : Bool, tc = decide (0 < g ∧ 0 < E) := ⟨_, rfl⟩
      have HTC := Lib.hid htc
      obtain ⟨td, htd⟩ : ∃ td : Bool, td = decide (g < NA ∧ E < NB) := ⟨_, rfl⟩
      have HTD := Lib.hid htd
      clear htb htc htd
      go_upto_region 39 with fail
      go_cut [24, 185] from 178 to 185 (fun e t wy => e = .int .i64 ((Z : Int) + (NA : Int) + (E : Int)) ∧ t = .bool tb ∧ wy = wr)
      case first =>
        by_cases a1 : g < NA
        · by_cases a2 : 0 < E
          · have HV : Hid (tb = true) := Lib.hid (by rw [HTB.out]; exact decide_eq_true ⟨a1, a2⟩)
            go_wp2_with fail
            go_meet
            case rel => exact ⟨rfl, by have := HE.out; rw [HV.out]; try first | rfl | exact congrArg Value.bool (decide_eq_true (by omega)) | exact congrArg Value.bool (decide_eq_false (by omega)), rfl⟩
          · have HV : Hid (tb = false) := Lib.hid (by rw [HTB.out]; exact decide_eq_false (by omega))
            have a3 : decide ((Z : Int) + (NA : Int) < (Z : Int) + (NA : Int) + (E : Int)) = false := decide_eq_false (by omega)
            go_wp2_with fail
            go_meet
            case rel => exact ⟨rfl, by have := HE.out; rw [HV.out]; try first | rfl | exact congrArg Value.bool (decide_eq_true (by omega)) | exact congrArg Value.bool (decide_eq_false (by omega)), rfl⟩
        · have HV : Hid (tb = false) := Lib.hid (by rw [HTB.out]; exact decide_eq_false (by omega))
          go_wp2_with fail
          go_meet
          case rel => exact ⟨rfl, by have := HE.out; rw [HV.out]; try first | rfl | exact congrArg Value.bool (decide_eq_true (by omega)) | exact congrArg Value.bool (decide_eq_false (by omega)), rfl⟩
      obtain ⟨rfl, rfl, rfl⟩ := hcut
      go_upto_if 185 with fail
      go_cut [24] from 178 to 191 (fun e wy => e = .int .i64 ((Z : Int) + (NA : Int) + (E : Int)) ∧ ∃ m1, Hid (wy = RW F w blk off (p ++ A1 ++ B1 ++ (A2 ++ B2 ++ s)) m1))
      case first =>
        cases tb
        · have HWY : Hid (wc = RW F w blk off (p ++ A1 ++ B1 ++ (A2 ++ B2 ++ s)) m') := Lib.hid (by
            have hq := of_decide_eq_false HTB.out.symm
            obtain ⟨k1, k2, k3, k4, k5, k6⟩ := HL.out
            rw [HW.out]
            by_cases h : g < NA
            · obtain rfl : B1 = [] := List.eq_nil_of_length_eq_zero (by omega)
              simp
            · obtain rfl : A2 = [] := List.eq_nil_of_length_eq_zero (by omega)
              simp)
          go_wp2_with fail
          go_meet
          case rel => exact ⟨rfl, m', HWY.out⟩
        · have hrot := (by
            have hq := of_decide_eq_true HTB.out.symm
            obtain ⟨k1, k2, k3, k4, k5, k6⟩ := HL.out
            exact rotate_any F w blk off n cap (cv sb) HH.out hn (p ++ A1) A2 B1 (B2 ++ s) m' ((Z : Int) + (g : Int)) ((Z : Int) + (NA : Int)) ((Z : Int) + (NA : Int) + (E : Int)) (by omega) (by omega) (by simp; omega) (by simp; omega) (by simp; omega) (by simp; omega))
          rw [← HW.out] at hrot
          unfold cv at hrot
          have HRT := Lib.hid hrot
          clear hrot
          go_wp2_with (go_at_call 43; refine HRT.out.mono ?_; rintro e w2 ⟨rfl, m2, hw2⟩; have HW2 := Lib.hid hw2; clear hw2)
          go_meet
          case rel => exact ⟨rfl, m2, Lib.hid (by rw [HW2.out]; simp)⟩
      obtain ⟨rfl, m1, HW1⟩ := hcut
      clear HW
      obtain ⟨wd, hwd⟩ : ∃ wd, wd = wc := ⟨_, rfl⟩
      subst hwd
      go_upto_region 41 with fail
      go_cut [24, 199] from 178 to 199 (fun e t wy => e = .int .i64 ((Z : Int) + (NA : Int) + (E : Int)) ∧ t = .bool tc ∧ wy = wd)
      case first =>
        by_cases a1 : 0 < g
        · by_cases a2 : 0 < E
          · have HV : Hid (tc = true) := Lib.hid (by rw [HTC.out]; exact decide_eq_true ⟨a1, a2⟩)
            have a3 : (Z : Int) + (g : Int) < (Z : Int) + (D : Int) := by have := HE.out; omega
            go_wp2_with fail
            go_meet
            case rel => exact ⟨rfl, by have := HE.out; rw [HV.out]; try first | rfl | exact congrArg Value.bool (decide_eq_true (by omega)) | exact congrArg Value.bool (decide_eq_false (by omega)), rfl⟩
          · have HV : Hid (tc = false) := Lib.hid (by rw [HTC.out]; exact decide_eq_false (by omega))
            have a3 : decide ((Z : Int) + (g : Int) < (Z : Int) + (D : Int)) = false := decide_eq_false (by have := HE.out; omega)
            go_wp2_with fail
            go_meet
            case rel => exact ⟨rfl, by have := HE.out; rw [HV.out]; try first | rfl | exact congrArg Value.bool (decide_eq_true (by omega)) | exact congrArg Value.bool (decide_eq_false (by omega)), rfl⟩
        · have HV : Hid (tc = false) := Lib.hid (by rw [HTC.out]; exact decide_eq_false (by omega))
          go_wp2_with fail
          go_meet
          case rel => exact ⟨rfl, by have := HE.out; rw [HV.out]; try first | rfl | exact congrArg Value.bool (decide_eq_true (by omega)) | exact congrArg Value.bool (decide_eq_false (by omega)), rfl⟩
      obtain ⟨rfl, rfl, rfl⟩ := hcut
      go_upto_if 199 with fail
      go_cut [24] from 178 to 205 (fun e wy => e = .int .i64 ((Z : Int) + (NA : Int) + (E : Int)) ∧ ∃ m2 C1, Hid (wy = RW F w blk off (p ++ C1 ++ (A2 ++ B2 ++ s)) m2 ∧ C1.Perm (A1 ++ B1) ∧ C1.Pairwise T))
      case first =>
        cases tc
        · have HWY : Hid (wc = RW F w blk off (p ++ (A1 ++ B1) ++ (A2 ++ B2 ++ s)) m1 ∧ (A1 ++ B1).Pairwise T) := Lib.hid (by
            have hq := of_decide_eq_false HTC.out.symm
            obtain ⟨k1, k2, k3, k4, k5, k6⟩ := HL.out
            exact ⟨by rw [HW1.out]; simp, one_empty HQ.out.1 HQ.out.2.2.1 (by omega)⟩)
          go_wp2_with fail
          go_meet
          case rel => exact ⟨rfl, m1, _, Lib.hid ⟨HWY.out.1, List.Perm.refl _, HWY.out.2⟩⟩
        · have hrec := (by
            have hq := of_decide_eq_true HTC.out.symm
            obtain ⟨k1, k2, k3, k4, k5, k6⟩ := HL.out
            have := HE.out
            exact HIH.out p A1 B1 (A2 ++ B2 ++ s) m1 (Z : Int) ((Z : Int) + (g : Int)) ((Z : Int) + (D : Int)) (by omega) (by omega) (by omega) HQ.out.1 HQ.out.2.2.1 HX1.out (by simp; omega) (by omega) (by omega) (by omega))
          rw [← HW1.out] at hrec
          unfold cv at hrec
          have HRC := Lib.hid hrec
          clear hrec
          go_wp2_with (go_at_call 41; refine HRC.out.mono ?_; rintro e w2 ⟨rfl, m2, C1, hw2, hp2, hs2⟩; have HW2 := Lib.hid hw2; have HP2 := Lib.hid hp2; have HS2 := Lib.hid hs2; clear hw2 hp2 hs2)
          go_meet
          case rel => exact ⟨rfl, m2, C1, Lib.hid ⟨HW2.out, HP2.out, HS2.out⟩⟩
      obtain ⟨rfl, m2, C1, HW2⟩ := hcut
      clear HW1
      obtain ⟨we, hwe⟩ : ∃ we, we = wc := ⟨_, rfl⟩
      subst hwe
      have hc1 : Hid (C1.length = g + E) := Lib.hid (by
        have := HW2.out.2.1.length_eq
        obtain ⟨k1, k2, k3, k4, k5, k6⟩ := HL.out
        rw [List.length_append] at this; omega)
      go_upto_region 43 with fail
      go_cut [24, 213] from 178 to 213 (fun e t wy => e = .int .i64 ((Z : Int) + (NA : Int) + (E : Int)) ∧ t = .bool td ∧ wy = we)
      case first =>
        by_cases a1 : g < NA
        · have a3 : (Z : Int) + (D : Int) < (Z : Int) + (NA : Int) + (E : Int) := by have := HE.out; omega
          by_cases a2 : E < NB
          · have HV : Hid (td = true) := Lib.hid (by rw [HTD.out]; exact decide_eq_true ⟨a1, a2⟩)
            go_wp2_with fail
            go_meet
            case rel => exact ⟨rfl, by have := HE.out; rw [HV.out]; try first | rfl | exact congrArg Value.bool (decide_eq_true (by omega)) | exact congrArg Value.bool (decide_eq_false (by omega)), rfl⟩
          · have HV : Hid (td = false) := Lib.hid (by rw [HTD.out]; exact decide_eq_false (by omega))
            have a4 : decide ((Z : Int) + (NA : Int) + (E : Int) < (Z : Int) + (NA : Int) + (NB : Int)) = false := decide_eq_false (by omega)
            go_wp2_with fail
            go_meet
            case rel => exact ⟨rfl, by have := HE.out; rw [HV.out]; try first | rfl | exact congrArg Value.bool (decide_eq_true (by omega)) | exact congrArg Value.bool (decide_eq_false (by omega)), rfl⟩
        · have HV : Hid (td = false) := Lib.hid (by rw [HTD.out]; exact decide_eq_false (by omega))
          have a3 : ¬ ((Z : Int) + (D : Int) < (Z : Int) + (NA : Int) + (E : Int)) := by have := HE.out; omega
          go_wp2_with fail
          go_meet
          case rel => exact ⟨rfl, by have := HE.out; rw [HV.out]; try first | rfl | exact congrArg Value.bool (decide_eq_true (by omega)) | exact congrArg Value.bool (decide_eq_false (by omega)), rfl⟩
      obtain ⟨rfl, rfl, rfl⟩ := hcut
      cases td
      · have HFIN : Hid (wc = RW F w blk off (p ++ (C1 ++ (A2 ++ B2)) ++ s) m2 ∧ (C1 ++ (A2 ++ B2)).Perm (A ++ B) ∧ (C1 ++ (A2 ++ B2)).Pairwise T) := Lib.hid (by
          have hq := of_decide_eq_false HTD.out.symm
          obtain ⟨k1, k2, k3, k4, k5, k6⟩ := HL.out
          obtain ⟨r1, r2⟩ := halves HA.out HB.out HPP.out HW2.out.2.1 HW2.out.2.2 (List.Perm.refl _) (one_empty HQ.out.2.1 HQ.out.2.2.2 (by omega))
          exact ⟨by rw [HW2.out.1]; simp, r1, r2⟩)
        go_wp2_with fail
        go_end0
        exact ⟨rfl, m2, _, by rw [HFIN.out.1]; simp, HFIN.out.2.1, HFIN.out.2.2⟩
      · have hrec := (by
          have hq := of_decide_eq_true HTD.out.symm
          obtain ⟨k1, k2, k3, k4, k5, k6⟩ := HL.out
          have := HE.out
          have := hc1.out
          exact HIH.out (p ++ C1) A2 B2 s m2 ((Z : Int) + (D : Int)) ((Z : Int) + (NA : Int) + (E : Int)) ((Z : Int) + (NA : Int) + (NB : Int)) (by omega) (by omega) (by omega) HQ.out.2.1 HQ.out.2.2.2 HX2.out (by simp; omega) (by simp; omega) (by simp; omega) (by simp; omega))
        have ew : RW F w blk off (p ++ C1 ++ A2 ++ B2 ++ s) m2 = wc := by rw [HW2.out.1]; simp
        rw [ew] at hrec
        unfold cv at hrec
        have HRC := Lib.hid hrec
        clear hrec ew
        go_wp2_with (go_at_call 41; refine HRC.out.mono ?_; rintro e w2 ⟨rfl, m3, C2, hw2, hp2, hs2⟩; have HW3 := Lib.hid hw2; have HP3 := Lib.hid hp2; have HS3 := Lib.hid hs2; clear hw2 hp2 hs2)
        go_end0
        obtain ⟨r1, r2⟩ := halves HA.out HB.out HPP.out HW2.out.2.1 HW2.out.2.2 HP3.out HS3.out
        exact ⟨rfl, m3, C1 ++ C2, by rw [HW3.out]; simp, r1, r2⟩

theorem sym_any (F : Nat → Int) (cf : Nat → Nat → Int) (T : Nat → Nat → Prop) (hT : Ord T) (w : World) (blk off n cap sb : Nat) (H : Rw F w blk off n) (hC : CmpOk F cf w blk off n sb) (hn : n ≤ 1000000) : ∀ k, SymOk F cf T w blk off n cap sb k := by
  intro k
  induction k with
  | zero => intro p A B s m a c b h1 h2 h3; omega
  | succ k ih =>
    intro p A B s m a c b h1 h2 hk hA hB hX hlen ha hc hb
    by_cases a1 : A.length = 1
    · obtain ⟨x, rfl⟩ : ∃ x, A = [x] := List.length_eq_one_iff.1 a1
      have := sym_left F cf T hT w blk off n cap sb H hC hn p B s x m a c b hB (fun y hy => hX x (by simp) y hy) hlen ha (by simpa using hc) (by simpa using hb)
      refine this.mono ?_
      rintro e w' ⟨he, m', C, h1, h2, h3⟩
      exact ⟨he, m', C, h1, by simpa using h2, h3⟩
    · by_cases b1 : B.length = 1
      · obtain ⟨y, rfl⟩ : ∃ x, B = [x] := List.length_eq_one_iff.1 b1
        have := sym_right F cf T hT w blk off n cap sb H hC hn p A s y m a c b (by omega) hA (fun x hx => hX x hx y (by simp)) hlen ha hc (by simpa using hb)
        refine this.mono ?_
        rintro e w' ⟨he, m', C, h1, h2, h3⟩
        exact ⟨he, m', C, h1, h2.trans (List.perm_append_singleton y A).symm, h3⟩
      · exact sym_gen F cf T hT w blk off n cap sb k H hC hn ih p A B s m a c b (by omega) (by omega) hk hA hB hX hlen ha hc hb

end Go.Proofs.Ytefpaagbopmmlaa
