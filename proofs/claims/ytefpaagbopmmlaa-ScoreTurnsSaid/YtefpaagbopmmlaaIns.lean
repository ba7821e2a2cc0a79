/- Proved: what the library's insertion sort gives at a stretch of a row of ints: the stretch in the one order that the comparison and the places before make. -/
import Derived.Test.YtefpaagbopmmlaaRot
namespace Go.Proofs.Ytefpaagbopmmlaa
open Go.RowKit Go.Sort

/-- A strict order. -/
def Ord (T : Nat → Nat → Prop) : Prop := (∀ x y z, T x y → T y z → T x z) ∧ (∀ x y, T x y → ¬ T y x)
/-- x stands ahead of y, and the comparison tells by which of them the order goes. -/
def Cross (T : Nat → Nat → Prop) (cf : Nat → Nat → Int) (x y : Nat) : Prop := (cf y x < 0 ∧ T y x) ∨ (¬ cf y x < 0 ∧ T x y)
/-- What the comparison gives, in every world of the sort's. -/
def CmpOk (F : Nat → Int) (cf : Nat → Nat → Int) (w : World) (blk off n sb : Nat) : Prop :=
  ∀ (L : List Nat) (m x y : Nat), L.length = n → Calls Try.prog 29 #[.int .i64 (F x), .int .i64 (F y), .pointer (some ⟨sb, 0, none⟩)] (RW F w blk off L m) fun e w' =>
    e = .returned (.int .i64 (cf x y)) ∧ ∃ q, w' = (RW F w blk off L m).drewN q

theorem cmp_at {F : Nat → Int} {cf : Nat → Nat → Int} {w : World} {blk off n sb : Nat} (h : CmpOk F cf w blk off n sb) {L : List Nat} (hl : L.length = n) (m x y : Nat) (q : Nat) :
    Calls Try.prog 29 #[.int .i64 (F x), .int .i64 (F y), .pointer (some ⟨sb, 0, none⟩)] ((RW F w blk off L m).drewN q) fun e w' =>
      e = .returned (.int .i64 (cf x y)) ∧ ∃ t, w' = ((RW F w blk off L m).drewN q).drewN t := by
  rw [rw_drewN]
  exact h L (m + q) x y hl

/-- The inserted one, x, stands between D and E. -/
def InsAt (T : Nat → Nat → Prop) (A1 D E : List Nat) (x : Nat) : Prop := (D ++ E).Perm A1 ∧ (D ++ E).Pairwise T ∧ ∀ e ∈ E, T x e
theorem ins_stop {T : Nat → Nat → Prop} (hT : Ord T) {A1 D E : List Nat} {x : Nat} (h : InsAt T A1 D E x) (hd : ∀ D' y, D = D' ++ [y] → T y x) : (D ++ x :: E).Perm (A1 ++ [x]) ∧ (D ++ x :: E).Pairwise T := by
  obtain ⟨h1, h2, h3⟩ := h
  refine ⟨?_, ?_⟩
  · have : (D ++ x :: E).Perm (x :: (D ++ E)) := List.perm_middle
    refine this.trans ?_
    refine (List.Perm.cons x h1).trans ?_
    exact List.perm_append_singleton x A1 |>.symm
  · rw [List.pairwise_append] at h2 ⊢
    obtain ⟨a, b, c⟩ := h2
    refine ⟨a, List.pairwise_cons.2 ⟨h3, b⟩, ?_⟩
    intro d hdm e he
    have hdx : T d x := by
      rcases List.eq_nil_or_concat D with hD | ⟨D', y, hD⟩
      · rw [hD] at hdm; cases hdm
      · rw [List.concat_eq_append] at hD
        have hy := hd D' y hD
        rw [hD] at hdm a
        rw [List.mem_append, List.mem_singleton] at hdm
        rcases hdm with hdm | rfl
        · exact hT.1 _ _ _ ((List.pairwise_append.1 a).2.2 d hdm y (by simp)) hy
        · exact hy
    rcases List.mem_cons.1 he with rfl | he
    · exact hdx
    · exact c d hdm e he
theorem ins_go {T : Nat → Nat → Prop} {A1 D E : List Nat} {x y : Nat} (h : InsAt T A1 (D ++ [y]) E x) (hy : T x y) : InsAt T A1 D (y :: E) x := by
  obtain ⟨h1, h2, h3⟩ := h
  have e : D ++ [y] ++ E = D ++ y :: E := by simp
  rw [e] at h1 h2
  refine ⟨h1, h2, ?_⟩
  intro z hz
  rcases List.mem_cons.1 hz with rfl | hz
  · exact hy
  · exact h3 z hz

set_option maxHeartbeats 4000000 in
set_option maxRecDepth 100000 in
theorem insertion_some (F : Nat → Int) (cf : Nat → Nat → Int) (T : Nat → Nat → Prop) (hT : Ord T) (w : World) (blk off n cap sb : Nat) (H : Rw F w blk off n) (hC : CmpOk F cf w blk off n sb) (hn : n ≤ 1000000) (p A s : List Nat) (m : Nat) (a b : Int) (h0 : 0 < A.length)
    (hA : A.Pairwise (Cross T cf)) (hlen : (p ++ A ++ s).length = n) (ha : a = p.length) (hb : b = (p.length + A.length : Nat)) :
    Calls Try.prog 40 #[.slice (some ⟨blk, off, none⟩) n cap, .int .i64 a, .int .i64 b, cv sb] (RW F w blk off (p ++ A ++ s) m) fun e w' =>
      e = .returned (.tuple #[]) ∧ ∃ m' C, w' = RW F w blk off (p ++ C ++ s) m' ∧ C.Perm A ∧ C.Pairwise T := by
  have hlen' : p.length + A.length + s.length = n := by simpa [Nat.add_assoc] using hlen
  obtain ⟨Z, hZ⟩ : ∃ Z, Z = p.length := ⟨_, rfl⟩
  obtain ⟨N, hN⟩ : ∃ N, N = A.length := ⟨_, rfl⟩
  rw [← hZ] at ha; rw [← hZ, ← hN] at hb
  subst ha
  replace hb : b = (Z : Int) + (N : Int) := by omega
  subst hb
  have b1 : Z + N ≤ n := by omega
  have b2 : 0 < N := by omega
  have HZ := Lib.hid hZ
  have HNN := Lib.hid hN
  have HN := Lib.hid hlen'
  have HH := Lib.hid H
  have HC := Lib.hid hC
  have HT := Lib.hid hT
  have HA := Lib.hid hA
  clear hZ hN h0 hlen hlen' H hC hT hA
  obtain ⟨wx, hwx⟩ : ∃ wx, wx = RW F w blk off (p ++ A ++ s) m := ⟨_, rfl⟩
  rw [← hwx]
  have HWX := Lib.hid hwx
  clear hwx
  unfold cv
  go_enter Try.func40, Try.ntmps40
  go_wp2
  go_loopw [8] (fun i wr => ∃ (k m' : Nat) (A1 A2 C : List Nat), 1 ≤ k ∧ k ≤ N ∧ i = .int .i64 ((Z : Int) + (k : Int)) ∧ Hid (A = A1 ++ A2 ∧ A1.length = k ∧ C.Perm A1 ∧ C.Pairwise T ∧ wr = RW F w blk off (p ++ C ++ A2 ++ s) m')) (fun i _ => (Z + N) - (intOf i).toNat)
  case atStart =>
    obtain ⟨x, A2, hx⟩ : ∃ x A2, A = x :: A2 := by
      cases h : A with
      | nil => have := HNN.out; rw [h] at this; simp at this; omega
      | cons x t => exact ⟨x, t, rfl⟩
    exact ⟨1, m, [x], A2, [x], Nat.le_refl _, b2, by go_num, Lib.hid ⟨by rw [hx]; rfl, rfl, List.Perm.refl _, List.pairwise_singleton _ _, by rw [HWX.out, hx]; simp⟩⟩
  case round =>
    clear HWX
    obtain ⟨k, m', A1, A2, C, hk1, hk, rfl, HR⟩ := hrel
    by_cases hlt : k < N
    · obtain ⟨x, A3, hx⟩ : ∃ x A3, A2 = x :: A3 := by
        cases h : A2 with
        | nil => exfalso; have h2 := congrArg List.length HR.out.1; have := HR.out.2.1; have := HNN.out; rw [h] at h2; simp at h2; omega
        | cons x t => exact ⟨x, t, rfl⟩
      subst hx
      have hcl : C.length = k := by rw [HR.out.2.2.1.length_eq]; exact HR.out.2.1
      have hA3 : Z + k + 1 + A3.length + s.length = n := by
        have h2 := congrArg List.length HR.out.1; have := HR.out.2.1; have := HNN.out; have := HN.out; have := HZ.out
        simp at h2; omega
      have HX : Hid (∀ y ∈ A1, Cross T cf y x) := Lib.hid (fun y hy => by
        have := HA.out
        rw [HR.out.1, List.pairwise_append] at this
        exact this.2.2 y hy x (by simp))
      obtain ⟨wo, hwo⟩ : ∃ wo : World, wo = wr := ⟨_, rfl⟩
      subst hwo
      have HI : Hid (InsAt T A1 C [] x) := Lib.hid ⟨by simpa using HR.out.2.2.1, by simpa using HR.out.2.2.2.1, fun e he => by cases he⟩
      have HA1 : Hid (A = (A1 ++ [x]) ++ A3 ∧ (A1 ++ [x]).length = k + 1) := Lib.hid ⟨by rw [HR.out.1]; simp, by simp [HR.out.2.1]⟩
      have HWO : Hid (wo = RW F w blk off (p ++ C ++ x :: A3 ++ s) m') := Lib.hid HR.out.2.2.2.2
      have HZ2 := Lib.hid hA3
      have HCL := Lib.hid hcl
      clear HR hcl hA3
      have lt1 : (Z : Int) + (k : Int) < (Z : Int) + (N : Int) := by omega
      go_wp2
      go_loopw [9] (fun j wr => ∃ (d m2 : Nat) (D E : List Nat), d ≤ k ∧ j = .int .i64 ((Z : Int) + (d : Int)) ∧ Hid (D.length = d ∧ InsAt T A1 D E x ∧ wr = RW F w blk off (p ++ D ++ x :: E ++ A3 ++ s) m2)) (fun j _ => (intOf j).toNat)
      case atStart => exact ⟨k, m', C, [], Nat.le_refl _, rfl, Lib.hid ⟨HCL.out, HI.out, by rw [HWO.out]; simp⟩⟩
      case round =>
        clear HI HWO HCL
        obtain ⟨d, m2, D, E, hd, rfl, HR⟩ := hrel
        by_cases hd0 : 0 < d
        · obtain ⟨e, rfl⟩ : ∃ e, d = e + 1 := ⟨d - 1, by omega⟩
          obtain ⟨D', y, hD⟩ : ∃ D' y, D = D' ++ [y] := by
            rcases List.eq_nil_or_concat D with h | ⟨D', y, h⟩
            · exfalso; have := HR.out.1; rw [h] at this; simp at this
            · exact ⟨D', y, by rw [h, List.concat_eq_append]⟩
          have hDl : D'.length = e := by have := HR.out.1; rw [hD] at this; simp at this; exact this
          have hE : E.length + (e + 1) = k := by
            have h1 := HR.out.2.1.1.length_eq
            have := HR.out.1
            have h3 := HA1.out.2
            simp at h1 h3; omega
          have hy : y ∈ A1 := HR.out.2.1.1.mem_iff.1 (by rw [hD]; simp)
          have hcr := HX.out y hy
          have hw := HR.out.2.2
          have e0 : p ++ D ++ x :: E ++ A3 ++ s = (p ++ D') ++ y :: ([] ++ x :: (E ++ A3 ++ s)) := by rw [hD]; simp
          rw [e0] at hw
          obtain ⟨X, hX⟩ : ∃ X, X = (p ++ D') ++ y :: ([] ++ x :: (E ++ A3 ++ s)) := ⟨_, rfl⟩
          rw [← hX] at hw
          have hZv := HZ.out
          have hZ2 := HZ2.out
          have hXl : X.length = n := by rw [hX]; simp; omega
          obtain ⟨iN, hiN⟩ : ∃ t, t = Z + (e + 1) := ⟨_, rfl⟩
          obtain ⟨jN, hjN⟩ : ∃ t, t = Z + e := ⟨_, rfl⟩
          have p1 : jN = (p ++ D').length := by simp; omega
          have p2 : iN = (p ++ D').length + 1 + ([] : List Nat).length := by simp; omega
          have c1 := rw_cell HH.out hXl m2 iN (by omega)
          have c2 := rw_cell HH.out hXl m2 jN (by omega)
          have f1 := rw_frozen HH.out hXl m2 iN (by omega)
          have f2 := rw_frozen HH.out hXl m2 jN (by omega)
          have g1 : X.getD iN 0 = x := by rw [hX, p2]; exact getD_mid2 _ _ _ _ _
          have g2 : X.getD jN 0 = y := by rw [hX, p1]; exact getD_mid _ _ _
          have hc := cmp_at HC.out hXl m2 x y
          rw [g1] at c1
          rw [g2] at c2
          rw [← hw] at c1 c2 f1 f2 hc
          have ea : ((Z : Int) + ((e : Int) + 1)).toNat = iN := by omega
          have eb : ((Z : Int) + (e : Int)).toNat = jN := by omega
          have eb' : (Z : Int) + ((e : Int) + 1) - 1 = (Z : Int) + (e : Int) := by omega
          have ba : (0 : Int) ≤ (Z : Int) + ((e : Int) + 1) := by omega
          have bb : (0 : Int) ≤ (Z : Int) + (e : Int) := by omega
          have ca : (Z : Int) + ((e : Int) + 1) < (n : Int) := by omega
          have cb : (Z : Int) + (e : Int) < (n : Int) := by omega
          have gt : (Z : Int) < (Z : Int) + ((e : Int) + 1) := by omega
          by_cases hlv : cf x y < 0
          · have hTxy : T x y := by
              rcases hcr with ⟨_, h⟩ | ⟨h, _⟩
              · exact h
              · exact absurd hlv h
            have HREL : Hid (D'.length = e ∧ InsAt T A1 D' (y :: E) x) := Lib.hid ⟨hDl, ins_go (by rw [← hD]; exact HR.out.2.1) hTxy⟩
            have S2 := fun q => rw_swap F w blk off X (m2 + q) iN jN (by omega) (by omega)
            have g3 : sw X iN jN = p ++ D' ++ x :: (y :: E) ++ A3 ++ s := by rw [hX, p1, p2, sw_split']; simp
            have c3 := fun q => rw_second HH.out hXl (m2 + q) iN jN (by omega) (by omega) (.int .i64 (F y))
            rw [g1, g2, g3] at S2
            have HS2 := Lib.hid S2
            have HC3 := Lib.hid c3
            have HW := Lib.hid hw
            have HIN := Lib.hid (show iN = jN + 1 by omega)
            clear S2 c3 hcr hTxy hy hE hDl hD e0 hX p1 p2 hXl g1 g2 g3 hw hiN hjN hZv hZ2 HR
            go_wp2
            go_quiet ((go_at_call 29; exact Calls.quiet_of (hc _)))
            go_wp2
            obtain ⟨w2, hw2⟩ : ∃ w2, w2 = wr.drewN nq := ⟨_, rfl⟩
            rw [← hw2]
            have d1 : w2.cell? ⟨blk, off + iN, none⟩ = some (.int .i64 (F x)) := by rw [hw2]; exact c1
            have d2 : w2.cell? ⟨blk, off + jN, none⟩ = some (.int .i64 (F y)) := by rw [hw2]; exact c2
            have q1 : w2.frozen? ⟨blk, off + iN, none⟩ = false := by rw [hw2]; exact f1
            have q2 : w2.frozen? ⟨blk, off + jN, none⟩ = false := by rw [hw2]; exact f2
            have hw3 : w2 = RW F w blk off X (m2 + nq) := by rw [hw2, HW.out, rw_drewN]
            obtain ⟨uu, d3⟩ := HC3.out nq
            have hs2 := HS2.out nq
            rw [← hw3] at d3 hs2
            have HS3 := Lib.hid hs2
            clear c1 c2 f1 f2 hc hs2 hw3 hw2 HS2 HC3 HW
            go_region
            all_goals
              go_wp2
              go_roundw
              case rel => exact ⟨e, _, _, _, by omega, rfl, Lib.hid ⟨HREL.out.1, HREL.out.2, HS3.out⟩⟩
              case measure => simp [intOf]; omega
          · have hTyx : T y x := by
              rcases hcr with ⟨h, _⟩ | ⟨_, h⟩
              · exact absurd h hlv
              · exact h
            obtain ⟨r1, r2⟩ := ins_stop HT.out HR.out.2.1 (fun D1 y1 h => by
              rw [hD] at h
              have := (List.append_inj' h rfl).2
              simp only [List.cons.injEq, and_true] at this
              rw [← this]; exact hTyx)
            have HREL : Hid ((D ++ x :: E).Perm (A1 ++ [x]) ∧ (D ++ x :: E).Pairwise T) := Lib.hid ⟨r1, r2⟩
            have HW : Hid (∀ q, wr.drewN q = RW F w blk off (p ++ (D ++ x :: E) ++ A3 ++ s) (m2 + q)) := Lib.hid (fun q => by rw [hw, rw_drewN, hX, hD]; simp)
            clear hcr hTyx hy hE hDl hD e0 hX p1 p2 hXl g1 g2 hw hiN hjN hZv hZ2 HR r1 r2
            go_wp2
            go_quiet ((go_at_call 29; exact Calls.quiet_of (hc _)))
            go_wp2
            go_roundw
            case rel => exact ⟨k + 1, _, _, _, _, by omega, by omega, by go_num, Lib.hid ⟨HA1.out.1, HA1.out.2, HREL.out.1, HREL.out.2, HW.out _⟩⟩
            case measure => simp [intOf]; omega
        · obtain rfl : d = 0 := by omega
          have hD : D = [] := List.eq_nil_of_length_eq_zero HR.out.1
          obtain ⟨r1, r2⟩ := ins_stop HT.out HR.out.2.1 (fun D1 y1 h => by rw [hD] at h; simp at h)
          have HREL : Hid ((D ++ x :: E).Perm (A1 ++ [x]) ∧ (D ++ x :: E).Pairwise T) := Lib.hid ⟨r1, r2⟩
          have hw := HR.out.2.2
          have HW : Hid (∀ q, wr.drewN q = RW F w blk off (p ++ (D ++ x :: E) ++ A3 ++ s) (m2 + q)) := Lib.hid (fun q => by rw [hw, rw_drewN]; simp)
          clear hD hw HR r1 r2
          go_wp2
          go_quiet (fail)
          go_wp2
          go_roundw
          case rel => exact ⟨k + 1, _, _, _, _, by omega, by omega, by go_num, Lib.hid ⟨HA1.out.1, HA1.out.2, HREL.out.1, HREL.out.2, HW.out _⟩⟩
          case measure => simp [intOf]; omega
    · obtain rfl : k = N := by omega
      have hA2 : A2 = [] := by
        have h2 := congrArg List.length HR.out.1
        have := HR.out.2.1
        have := HNN.out
        simp at h2
        exact List.eq_nil_of_length_eq_zero (by omega)
      have HFIN : Hid (∃ m' C, wr = RW F w blk off (p ++ C ++ s) m' ∧ C.Perm A ∧ C.Pairwise T) := Lib.hid (by
        obtain ⟨h1, h2, h3, h4, h5⟩ := HR.out
        subst hA2
        rw [List.append_nil] at h1
        exact ⟨m', C, by rw [h5]; simp, by rw [h1]; exact h3, h4⟩)
      clear hA2 HR
      go_wp2
      go_end0
      exact ⟨rfl, HFIN.out⟩

set_option maxHeartbeats 400000 in
/-- An empty stretch: nothing is asked of the row. -/
theorem insertion_none (v fv : Value) (a b : Int) (w : World) (h : b ≤ a + 1) (h1 : -1000000 ≤ a) (h2 : a ≤ 1000000) :
    Calls Try.prog 40 #[v, .int .i64 a, .int .i64 b, fv] w fun e w' => e = .returned (.tuple #[]) ∧ w' = w := by
  have hge : ¬ (a + 1 < b) := by omega
  go_enter Try.func40, Try.ntmps40
  go_wp2
  refine wp_loop_rounds 1 ?_
  rw [rounds_succ]
  go_wp2
  go_end0
  exact ⟨rfl, rfl⟩

end Go.Proofs.Ytefpaagbopmmlaa
