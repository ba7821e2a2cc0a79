/- Proved: what the library's swapRange gives at a row of ints: two stretches as long as each other exchanged. -/
import Derived.Test.YtefpaagbopmmlaaLst
import Derived.WalkKit
import Derived.Deep.LoopGhost
import Derived.BigRegion
import Derived.Deep.QuietTactic
import Derived.BigQuiet
namespace Go.Proofs.Ytefpaagbopmmlaa
open Go.RowKit Go.Sort

/-- The comparison that is handed to the sort. -/
def cv (sb : Nat) : Value := .func (.func 29) #[] #[.pointer (some ⟨sb, 0, none⟩)]

set_option maxHeartbeats 2000000 in
set_option maxRecDepth 100000 in
theorem swapRange_any (F : Nat → Int) (w : World) (blk off n cap : Nat) (fv : Value) (H : Rw F w blk off n) (hn : n ≤ 1000000) (p u q v s : List Nat) (m : Nat) (a b c : Int) (hl : u.length = v.length) (hlen : (p ++ u ++ q ++ v ++ s).length = n)
    (ha : a = p.length) (hb : b = (p.length + u.length + q.length : Nat)) (hc : c = u.length) :
    Calls Try.prog 44 #[.slice (some ⟨blk, off, none⟩) n cap, .int .i64 a, .int .i64 b, .int .i64 c, fv] (RW F w blk off (p ++ u ++ q ++ v ++ s) m) fun e w' =>
      e = .returned (.tuple #[]) ∧ ∃ m', w' = RW F w blk off (p ++ v ++ q ++ u ++ s) m' := by
  have hlen' : p.length + u.length + q.length + v.length + s.length = n := by simpa [Nat.add_assoc] using hlen
  obtain ⟨A, hA⟩ : ∃ A, A = p.length := ⟨_, rfl⟩
  obtain ⟨B, hB⟩ : ∃ B, B = p.length + u.length + q.length := ⟨_, rfl⟩
  obtain ⟨C, hC⟩ : ∃ C, C = u.length := ⟨_, rfl⟩
  rw [← hA] at ha; rw [← hB] at hb; rw [← hC] at hc
  subst ha hb hc
  have b1 : A + C ≤ n := by omega
  have b2 : B + C ≤ n := by omega
  have HA := Lib.hid hA
  have HB := Lib.hid hB
  have HC := Lib.hid hC
  have HL := Lib.hid hl
  have HN := Lib.hid hlen'
  have HH := Lib.hid H
  clear hA hB hC hl hlen hlen' H
  obtain ⟨wx, hwx⟩ : ∃ wx, wx = RW F w blk off (p ++ u ++ q ++ v ++ s) m := ⟨_, rfl⟩
  rw [← hwx]
  have HWX := Lib.hid hwx
  clear hwx
  go_enter Try.func44, Try.ntmps44
  go_wp2
  go_loopw [10] (fun i wr => ∃ (k m' : Nat) (u1 u2 v1 v2 : List Nat), k ≤ C ∧ i = .int .i64 k ∧ Hid (u = u1 ++ u2 ∧ v = v1 ++ v2 ∧ u1.length = k ∧ v1.length = k ∧ wr = RW F w blk off (p ++ v1 ++ u2 ++ q ++ u1 ++ v2 ++ s) m')) (fun i _ => C - (intOf i).toNat)
  case atStart => exact ⟨0, m, [], u, [], v, Nat.zero_le _, rfl, Lib.hid ⟨rfl, rfl, rfl, rfl, by rw [HWX.out]; simp⟩⟩
  case round =>
    clear HWX
    obtain ⟨k, m', u1, u2, v1, v2, hk, rfl, HR⟩ := hrel
    by_cases hlt : k < C
    · obtain ⟨x, u3, hx⟩ : ∃ x u3, u2 = x :: u3 := by
        cases h : u2 with
        | nil => exfalso; have := HR.out.1; rw [h] at this; have h2 := congrArg List.length this; have := HR.out.2.2.1; have := HC.out; simp at h2; omega
        | cons x t => exact ⟨x, t, rfl⟩
      obtain ⟨y, v3, hy⟩ : ∃ y v3, v2 = y :: v3 := by
        cases h : v2 with
        | nil => exfalso; have := HR.out.2.1; rw [h] at this; have h2 := congrArg List.length this; have := HR.out.2.2.2.1; have := HC.out; have := HL.out; simp at h2; omega
        | cons x t => exact ⟨x, t, rfl⟩
      have hu : u = u1 ++ x :: u3 := by rw [← hx]; exact HR.out.1
      have hv : v = v1 ++ y :: v3 := by rw [← hy]; exact HR.out.2.1
      have hul := congrArg List.length hu
      have hvl := congrArg List.length hv
      simp only [List.length_append, List.length_cons] at hul hvl
      have l1 := HR.out.2.2.1
      have l2 := HR.out.2.2.2.1
      have hAv := HA.out
      have hBv := HB.out
      have hCv := HC.out
      have hNv := HN.out
      have hLv := HL.out
      have e0 : p ++ v1 ++ u2 ++ q ++ u1 ++ v2 ++ s = (p ++ v1) ++ x :: ((u3 ++ q ++ u1) ++ y :: (v3 ++ s)) := by rw [hx, hy]; simp
      have p1 : A + k = (p ++ v1).length := by simp; omega
      have p2 : B + k = (p ++ v1).length + 1 + (u3 ++ q ++ u1).length := by simp; omega
      have hw := HR.out.2.2.2.2
      have hlenc : ((p ++ v1) ++ x :: ((u3 ++ q ++ u1) ++ y :: (v3 ++ s))).length = n := by simp; omega
      rw [e0] at hw
      obtain ⟨iN, hiN⟩ : ∃ t, t = A + k := ⟨_, rfl⟩
      obtain ⟨jN, hjN⟩ : ∃ t, t = B + k := ⟨_, rfl⟩
      obtain ⟨X, hX⟩ : ∃ X, X = (p ++ v1) ++ x :: ((u3 ++ q ++ u1) ++ y :: (v3 ++ s)) := ⟨_, rfl⟩
      rw [← hX] at hw hlenc
      have c1 := rw_cell HH.out hlenc m' iN (by omega)
      have c2 := rw_cell HH.out hlenc m' jN (by omega)
      have f1 := rw_frozen HH.out hlenc m' iN (by omega)
      have f2 := rw_frozen HH.out hlenc m' jN (by omega)
      obtain ⟨uu, c3⟩ := rw_second HH.out hlenc m' iN jN (by omega) (by omega) (.int .i64 (F y))
      have S2 := rw_swap F w blk off X m' iN jN (by omega) (by omega)
      have g1 : X.getD iN 0 = x := by rw [hX, hiN, p1]; exact getD_mid _ _ _
      have g2 : X.getD jN 0 = y := by rw [hX, hjN, p2]; exact getD_mid2 _ _ _ _ _
      have g3 : sw X iN jN = (p ++ (v1 ++ [y])) ++ u3 ++ q ++ (u1 ++ [x]) ++ v3 ++ s := by
        rw [hX, hiN, hjN, p1, p2, sw_split]; simp
      rw [g1] at c1 S2
      rw [g2] at c2 S2
      rw [g3] at S2
      rw [← hw] at c1 c2 c3 f1 f2 S2
      have HS2 := Lib.hid S2
      clear S2
      have HREL : Hid (u = (u1 ++ [x]) ++ u3 ∧ v = (v1 ++ [y]) ++ v3 ∧ (u1 ++ [x]).length = k + 1 ∧ (v1 ++ [y]).length = k + 1) := Lib.hid ⟨by rw [hu]; simp, by rw [hv]; simp, by simp [l1], by simp [l2]⟩
      have ea : ((A : Int) + (k : Int)).toNat = iN := by omega
      have eb : ((B : Int) + (k : Int)).toNat = jN := by omega
      have ba : (0 : Int) ≤ (A : Int) + (k : Int) := by omega
      have bb : (0 : Int) ≤ (B : Int) + (k : Int) := by omega
      have ca : (A : Int) + (k : Int) < (n : Int) := by omega
      have cb : (B : Int) + (k : Int) < (n : Int) := by omega
      clear hu hv hul hvl l1 l2 hAv hBv hCv hNv hLv e0 p1 p2 hw hlenc hiN hjN hX g1 g2 g3 hx hy HR
      go_wp2
      go_region
      all_goals
        go_wp2
        go_roundw
        case rel => exact ⟨k + 1, _, _, _, _, _, by omega, by go_num, Lib.hid ⟨HREL.out.1, HREL.out.2.1, HREL.out.2.2.1, HREL.out.2.2.2, HS2.out⟩⟩
        case measure => simp [intOf]; omega
    · go_wp2
      go_end0
      refine ⟨rfl, m', ?_⟩
      obtain ⟨h1, h2, h3, h4, h5⟩ := HR.out
      have hCv := HC.out
      have hLv := HL.out
      have hu2 : u2 = [] := List.eq_nil_of_length_eq_zero (by have := congrArg List.length h1; simp at this; omega)
      have hv2 : v2 = [] := List.eq_nil_of_length_eq_zero (by have := congrArg List.length h2; simp at this; omega)
      subst hu2 hv2
      rw [h5, h1, h2]; simp

end Go.Proofs.Ytefpaagbopmmlaa
