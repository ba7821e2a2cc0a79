/- Proved: what the library's rotate gives at a row of ints: two stretches that stand beside each other change their places. -/
import Derived.Test.YtefpaagbopmmlaaSwr
namespace Go.Proofs.Ytefpaagbopmmlaa
open Go.RowKit Go.Sort

theorem split_len (V : List Nat) (k : Nat) (h : k ≤ V.length) : ∃ V1 V2, V = V1 ++ V2 ∧ V1.length = k ∧ V2.length = V.length - k :=
  ⟨V.take k, V.drop k, (List.take_append_drop k V).symm, by simp; omega, by simp⟩

set_option maxHeartbeats 2000000 in
set_option maxRecDepth 100000 in
theorem rotate_any (F : Nat → Int) (w : World) (blk off n cap : Nat) (fv : Value) (H : Rw F w blk off n) (hn : n ≤ 1000000) (p u v s : List Nat) (m : Nat) (a c b : Int) (hu : 0 < u.length) (hv : 0 < v.length) (hlen : (p ++ u ++ v ++ s).length = n)
    (ha : a = p.length) (hc : c = (p.length + u.length : Nat)) (hb : b = (p.length + u.length + v.length : Nat)) :
    Calls Try.prog 43 #[.slice (some ⟨blk, off, none⟩) n cap, .int .i64 a, .int .i64 c, .int .i64 b, fv] (RW F w blk off (p ++ u ++ v ++ s) m) fun e w' =>
      e = .returned (.tuple #[]) ∧ ∃ m', w' = RW F w blk off (p ++ v ++ u ++ s) m' := by
  have hlen' : p.length + u.length + v.length + s.length = n := by simpa [Nat.add_assoc] using hlen
  obtain ⟨A, hA⟩ : ∃ A, A = p.length := ⟨_, rfl⟩
  obtain ⟨B, hB⟩ : ∃ B, B = p.length + u.length + v.length := ⟨_, rfl⟩
  obtain ⟨C, hC⟩ : ∃ C, C = p.length + u.length := ⟨_, rfl⟩
  rw [← hA] at ha; rw [← hB] at hb; rw [← hC] at hc
  subst ha hb hc
  have b1 : A < C := by omega
  have b2 : C < B := by omega
  have b3 : B ≤ n := by omega
  have hU : u.length = C - A := by omega
  have hV : v.length = B - C := by omega
  have HU := Lib.hid hU
  have HV := Lib.hid hV
  have HC := Lib.hid hC
  have HN := Lib.hid hlen'
  have HH := Lib.hid H
  clear hA hB hC hU hV hu hv hlen hlen' H
  obtain ⟨wx, hwx⟩ : ∃ wx, wx = RW F w blk off (p ++ u ++ v ++ s) m := ⟨_, rfl⟩
  rw [← hwx]
  have HWX := Lib.hid hwx
  clear hwx
  go_enter Try.func43, Try.ntmps43
  go_wp2
  go_loopw [10, 11] (fun i j wr => ∃ (k l m' : Nat) (X U V Y : List Nat), 0 < k ∧ 0 < l ∧ k ≤ C ∧ C + l ≤ n ∧ i = .int .i64 k ∧ j = .int .i64 l ∧ Hid (U.length = k ∧ V.length = l ∧ X.length + k = C ∧ X.length + k + l + Y.length = n ∧ X ++ V ++ U ++ Y = p ++ v ++ u ++ s ∧ wr = RW F w blk off (X ++ U ++ V ++ Y) m')) (fun i j _ => (intOf i).toNat + (intOf j).toNat)
  case atStart =>
    have e1 : (C : Int) - (A : Int) = ((C - A : Nat) : Int) := by omega
    have e2 : (B : Int) - (C : Int) = ((B - C : Nat) : Int) := by omega
    have := HU.out
    have := HV.out
    have := HC.out
    have := HN.out
    exact ⟨C - A, B - C, m, p, u, v, s, by omega, by omega, by omega, by omega, by rw [e1], by rw [e2], Lib.hid ⟨HU.out, HV.out, by omega, by omega, rfl, HWX.out⟩⟩
  case round =>
    clear HWX HU HV HC HN
    obtain ⟨k, l, m', X, U, V, Y, hk0, hl0, hkC, hln, rfl, rfl, HR⟩ := hrel
    obtain ⟨h1, h2, h3, h4, h5, h6⟩ := HR.out
    rcases Nat.lt_trichotomy k l with hkl | hkl | hkl
    · -- the shorter one is ahead
      obtain ⟨V1, V2, e1, e2, e3⟩ := split_len V (l - k) (by omega)
      have hs := fun q : Int => swapRange_any F w blk off n cap fv HH.out hn X U V1 V2 Y m' ((C : Int) - (k : Int)) ((C : Int) + (l : Int) - (k : Int)) (k : Int) (by omega) (by subst e1; simp; simp at h2; omega) (by omega) (by omega) (by omega)
      have ew : RW F w blk off (X ++ U ++ V1 ++ V2 ++ Y) m' = wr := by rw [h6, e1]; simp
      rw [ew] at hs
      have HS := Lib.hid (hs 0)
      have HREL : Hid (V2.length = k ∧ V1.length = l - k ∧ X.length + k = C ∧ X.length + k + (l - k) + (U ++ Y).length = n ∧ X ++ V1 ++ V2 ++ (U ++ Y) = p ++ v ++ u ++ s) := Lib.hid ⟨by omega, e2, h3, by simp; omega, by rw [← h5, e1]; simp⟩
      have t1 : ((k : Int) != (l : Int)) = true := by rw [bne_iff_ne]; omega
      have t2 : ¬ ((l : Int) < (k : Int)) := by omega
      clear h1 h2 h3 h4 h5 h6 e1 e2 e3 hs ew HR
      go_wp2_with (go_at_call 44; refine HS.out.mono ?_; rintro e w2 ⟨rfl, m2, hw2⟩; have HW2 := Lib.hid hw2; clear hw2)
      go_roundw
      case rel => exact ⟨k, l - k, m2, X, V2, V1, U ++ Y, hk0, by omega, hkC, by omega, rfl, by congr 1; omega, Lib.hid ⟨HREL.out.1, HREL.out.2.1, HREL.out.2.2.1, HREL.out.2.2.2.1, HREL.out.2.2.2.2, by rw [HW2.out]; simp⟩⟩
      case measure => simp [intOf]; omega
    · subst hkl
      have hs := swapRange_any F w blk off n cap fv HH.out hn X U [] V Y m' ((C : Int) - (k : Int)) (C : Int) (k : Int) (by omega) (by simp; omega) (by omega) (by simp; omega) (by omega)
      have ew : RW F w blk off (X ++ U ++ [] ++ V ++ Y) m' = wr := by rw [h6]; simp
      rw [ew] at hs
      have HS := Lib.hid hs
      have HE := Lib.hid h5
      have t1 : ((k : Int) != (k : Int)) = false := by simp
      clear h1 h2 h3 h4 h5 h6 hs ew HR
      go_wp2_with (go_at_call 44; refine HS.out.mono ?_; rintro e w2 ⟨rfl, m2, hw2⟩; have HW2 := Lib.hid hw2; clear hw2)
      go_end0
      exact ⟨rfl, m2, by rw [HW2.out, ← HE.out]; simp⟩
    · obtain ⟨U1, U2, e1, e2, e3⟩ := split_len U l (by omega)
      have hs := swapRange_any F w blk off n cap fv HH.out hn X U1 U2 V Y m' ((C : Int) - (k : Int)) (C : Int) (l : Int) (by omega) (by subst e1; simp; simp at h1; omega) (by omega) (by omega) (by omega)
      have ew : RW F w blk off (X ++ U1 ++ U2 ++ V ++ Y) m' = wr := by rw [h6, e1]; simp
      rw [ew] at hs
      have HS := Lib.hid hs
      have HREL : Hid (U2.length = k - l ∧ U1.length = l ∧ (X ++ V).length + (k - l) = C ∧ (X ++ V).length + (k - l) + l + Y.length = n ∧ (X ++ V) ++ U1 ++ U2 ++ Y = p ++ v ++ u ++ s) := Lib.hid ⟨by omega, e2, by simp; omega, by simp; omega, by rw [← h5, e1]; simp⟩
      have t1 : ((k : Int) != (l : Int)) = true := by rw [bne_iff_ne]; omega
      have t2 : (l : Int) < (k : Int) := by omega
      clear h1 h2 h3 h4 h5 h6 e1 e2 e3 hs ew HR
      go_wp2_with (go_at_call 44; refine HS.out.mono ?_; rintro e w2 ⟨rfl, m2, hw2⟩; have HW2 := Lib.hid hw2; clear hw2)
      go_roundw
      case rel => exact ⟨k - l, l, m2, X ++ V, U2, U1, Y, by omega, hl0, by omega, by omega, by congr 1; omega, rfl, Lib.hid ⟨HREL.out.1, HREL.out.2.1, HREL.out.2.2.1, HREL.out.2.2.2.1, HREL.out.2.2.2.2, by rw [HW2.out]⟩⟩
      case measure => simp [intOf]; omega

end Go.Proofs.Ytefpaagbopmmlaa
