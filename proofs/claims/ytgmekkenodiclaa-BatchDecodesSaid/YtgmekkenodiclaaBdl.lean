/- Proved: the law BatchDecodes answers true for any rows of bytes and leaves what there was as it was: what Decode tells of a row is what the document's own reading tells. -/
import Derived.Test.YtgmekkenodiclaaRdb
import Derived.Test.YtgmekkenodiclaaRrw
import Derived.Test.YtgmekkenodiclaaTot
import Derived.Test.YtgmekkenodiclaaInb
namespace Go.Proofs.Ytgmekkenodiclaa
open Go.RowKit
attribute [local go_sem ↓] Go.wp_at_zero Go.wp_at_succ

/-- What both tell. -/
def DecQ (R : List (List Nat)) (w' : World) (s : Int) (A : Option Addr) (n _c : Nat) (e m v : Int) : Prop :=
  (∃ (en_ sn : Nat) (L : List Tx), Rok R en_ sn L ∧ TV w' A L ∧ s = (sn : Int) ∧ L.length = n ∧ e = (en_ : Int) ∧ m = ((tot L + 1 : Nat) : Int) ∧ v = 0) ∨
  (Dk R R.length ∧ s = 0 ∧ n = 0 ∧ e = 0 ∧ m = 0 ∧ v = 14) ∨
  ((∀ e s L, ¬ Rok R e s L) ∧ ¬ Dk R R.length ∧ s = 0 ∧ n = 0 ∧ e = 0 ∧ m = 0 ∧ v = 13)
theorem decp_q {R : List (List Nat)} {w w' : World} {x : Ending} (h : DecP R w x w') : ∃ (s : Int) (A : Option Addr) (n c : Nat) (e m v : Int), x = .returned (.tuple #[.agg #[.int .i64 s, .slice A n c], .int .i64 e, .int .i64 m, .int .i64 v]) ∧ At w w' ∧ DecQ R w' s A n c e m v ∧ ∀ e s L e' s' L', Rok R e s L → Rok R e' s' L' → L' = L := by
  obtain ⟨hA, ⟨e, s, L, A, c, h1, h2, h3, rfl⟩ | ⟨h1, rfl⟩ | ⟨h1, h2, rfl⟩⟩ := h
  · exact ⟨_, A, _, c, _, _, _, rfl, hA, Or.inl ⟨e, s, L, h1, h3, rfl, rfl, rfl, rfl, rfl⟩, fun _ _ _ _ _ _ k1 k2 => (h2 _ _ _ k2).trans (h2 _ _ _ k1).symm⟩
  · exact ⟨_, none, 0, 0, _, _, _, rfl, hA, Or.inr (Or.inl ⟨h1, rfl, rfl, rfl, rfl, rfl⟩), fun _ _ _ _ _ _ k1 _ => absurd k1 (dk_no h1 _ _ _)⟩
  · exact ⟨_, none, 0, 0, _, _, _, rfl, hA, Or.inr (Or.inr ⟨h1, h2, rfl, rfl, rfl, rfl, rfl⟩), fun _ _ _ _ _ _ k1 _ => absurd k1 (h1 _ _ _)⟩
theorem recp_q {R : List (List Nat)} {w w' : World} {x : Ending} (h : RecP R w x w') : ∃ (s : Int) (A : Option Addr) (n c : Nat) (e m v : Int), x = .returned (.tuple #[.agg #[.int .i64 s, .slice A n c], .int .i64 e, .int .i64 m, .int .i64 v]) ∧ At w w' ∧ DecQ R w' s A n c e m v := by
  obtain ⟨hA, ⟨e, s, L, A, c, h1, h3, rfl⟩ | ⟨h1, rfl⟩ | ⟨h1, h2, rfl⟩⟩ := h
  · exact ⟨_, A, _, c, _, _, _, rfl, hA, Or.inl ⟨e, s, L, h1, h3, rfl, rfl, rfl, rfl, rfl⟩⟩
  · exact ⟨_, none, 0, 0, _, _, _, rfl, hA, Or.inr (Or.inl ⟨h1, rfl, rfl, rfl, rfl, rfl⟩)⟩
  · exact ⟨_, none, 0, 0, _, _, _, rfl, hA, Or.inr (Or.inr ⟨h1, h2, rfl, rfl, rfl, rfl, rfl⟩)⟩
theorem decq_same {R : List (List Nat)} {w1 w2 : World} {s s' e e' m m' v v' : Int} {A A' : Option Addr} {n n' c c' : Nat} (h : DecQ R w1 s A n c e m v) (h' : DecQ R w2 s' A' n' c' e' m' v') (hu : ∀ e s L e' s' L', Rok R e s L → Rok R e' s' L' → L' = L) :
    s' = s ∧ n' = n ∧ e' = e ∧ m' = m ∧ v' = v ∧ ∃ L, L.length = n ∧ n ≤ 1000 ∧ (∀ x ∈ L, x.2.length ≤ 1000000 ∧ ∀ p ∈ x.2, p.2.length = 40) ∧ TV w1 A L ∧ TV w2 A' L := by
  obtain ⟨en_, sn, L, h1, h2, rfl, rfl, rfl, rfl, rfl⟩ | ⟨h1, rfl, rfl, rfl, rfl, rfl⟩ | ⟨h1, h2, rfl, rfl, rfl, rfl, rfl⟩ := h
  · obtain ⟨en', sn', L', k1, k2, rfl, rfl, rfl, rfl, rfl⟩ | ⟨k1, _⟩ | ⟨k1, _⟩ := h'
    · obtain rfl := hu _ _ _ _ _ _ h1 k1
      obtain ⟨rfl, rfl⟩ := rok_same h1 k1
      exact ⟨rfl, rfl, rfl, rfl, rfl, L', rfl, by have := h1.bk.n8; omega, fun x hx => ⟨by have := h1.bk.n16 x hx; omega, h1.bk.n40 x hx⟩, h2, k2⟩
    · exact absurd h1 (dk_no k1 _ _ _)
    · exact absurd h1 (k1 _ _ _)
  · obtain ⟨en', sn', L', k1, _⟩ | ⟨_, rfl, rfl, rfl, rfl, rfl⟩ | ⟨_, k1, _⟩ := h'
    · exact absurd k1 (dk_no h1 _ _ _)
    · exact ⟨rfl, rfl, rfl, rfl, rfl, [], rfl, by omega, (fun x hx => by cases hx), TV.nil _ _, TV.nil _ _⟩
    · exact absurd h1 k1
  · obtain ⟨en', sn', L', k1, _⟩ | ⟨k1, _⟩ | ⟨_, _, rfl, rfl, rfl, rfl, rfl⟩ := h'
    · exact absurd k1 (h1 _ _ _)
    · exact absurd k1 h2
    · exact ⟨rfl, rfl, rfl, rfl, rfl, [], rfl, by omega, (fun x hx => by cases hx), TV.nil _ _, TV.nil _ _⟩

set_option maxHeartbeats 4000000 in
set_option maxRecDepth 100000 in
theorem bdec_any (A0 : Option Addr) (R : List (List Nat)) (n c0 : Nat) (hn : R.length = n) (hk : ∀ r ∈ R, ROk r) (hm : n ≤ maxLen) (w : World) (hv : RV w A0 R) : Calls Try.prog 3 #[.slice A0 n c0] w (Gives (.bool true) w) := by
  have HN := Lib.hid hn
  have HV := Lib.hid hv
  have HK := Lib.hid hk
  have HAW := Lib.hid awake_any
  have HTO := Lib.hid (total_any A0 R n c0 6000 hn hm w hv)
  have HML := Lib.hid hm
  clear hn hv hk hm
  by_cases h60 : 60 < n
  · have z0 : decide (60 < (n : Int)) = true := decide_eq_true (by omega)
    go_enter Try.func3, Try.ntmps3
    go_wp2_with fail
    refine (HAW.out w).mono ?_
    rintro x w1 ⟨rfl, hA⟩
    go_wp2_with fail
    try rw [Exit.noGoto_ret]
    go_ret
    exact ⟨rfl, hA⟩
  have z0 : decide (60 < (n : Int)) = false := decide_eq_false (by omega)
  have h60' : n ≤ 60 := by omega
  go_enter Try.func3, Try.ntmps3
  go_wp2_with fail
  refine HTO.out.mono ?_
  rintro x w1 ⟨v, rfl, hv1, _, hA1⟩
  have HA1 := Lib.hid hA1
  clear hA1
  by_cases h6 : 6000 < v
  · have z1 : decide ((6000 : Int) < (v : Int)) = true := decide_eq_true (by omega)
    have z1b : decide (6000 < v) = true := decide_eq_true h6
    go_wp2_with fail
    refine (HAW.out w1).mono ?_
    rintro x w2 ⟨rfl, hA2⟩
    have HA2 := Lib.hid (HA1.out.next hA2)
    clear hA2
    go_wp2_with fail
    try rw [Exit.noGoto_ret]
    go_ret
    exact ⟨rfl, HA2.out⟩
  have z1 : decide ((6000 : Int) < (v : Int)) = false := decide_eq_false (by omega)
  have z1b : decide (6000 < v) = false := decide_eq_false h6
  have HDE := Lib.hid (decode_any A0 R n c0 HN.out (by omega) (fun r hr => (HK.out r hr).1) w1 (HV.out.on HA1.out))
  go_wp2_with fail
  refine HDE.out.mono ?_
  rintro x w2 hd
  obtain ⟨s, A1, n1, c1, e, m, ev, rfl, hA2, hq, hu⟩ := decp_q hd
  have HU := Lib.hid hu
  have HA2 := Lib.hid (HA1.out.next hA2)
  have HQ := Lib.hid hq
  obtain ⟨w3, hw3⟩ : ∃ W, w2.alloc (.cells #[.int .i64 s, .slice A1 n1 c1] 27) = W := ⟨_, rfl⟩
  obtain ⟨q3, hq3⟩ : ∃ q, w2.heap.size = q := ⟨_, rfl⟩
  have hA23 : At w2 w3 := by rw [← hw3]; exact (At.start w2).alloc _
  have HA23 := Lib.hid hA23
  have HB3 : Hid (Bb w3 q3 s (.slice A1 n1 c1)) := Lib.hid (by rw [← hw3, ← hq3]; exact bb_new _ _ _)
  have HA3 := Lib.hid (HA2.out.next hA23)
  have HRE := Lib.hid (rdecodeb_any A0 R n c0 HN.out h60' (fun r hr => (HK.out r hr).1) w3 (HV.out.on HA3.out))
  clear hd hA2 hq hu hA23 HDE
  go_wp2_with fail
  refine HRE.out.mono ?_
  rintro x w4 hd
  obtain ⟨s', A2, n2, c2, e', m', ev', rfl, hA4, hq⟩ := recp_q hd
  obtain ⟨h1, h2, h3, h4, h5, L, hL, hL2, hLx, ht1, ht2⟩ := decq_same HQ.out hq HU.out
  clear hq hd HRE HQ HU
  subst h1 h2 h3 h4 h5
  have HA34 := Lib.hid hA4
  obtain ⟨w5, hw5⟩ : ∃ W, w4.alloc (.cells #[.int .i64 s', .slice A2 n2 c2] 27) = W := ⟨_, rfl⟩
  obtain ⟨q5, hq5⟩ : ∃ q, w4.heap.size = q := ⟨_, rfl⟩
  have hA45 : At w4 w5 := by rw [← hw5]; exact (At.start w4).alloc _
  have HB5 : Hid (Bb w5 q5 s' (.slice A2 n2 c2)) := Lib.hid (by rw [← hw5, ← hq5]; exact bb_new _ _ _)
  have HB35 := Lib.hid (HB3.out.on (hA4.next hA45))
  have HA5 := Lib.hid ((HA3.out.next hA4).next hA45)
  have HSA := Lib.hid (sameBatch_any s' A1 A2 L n2 c1 c2 hL hL2 hLx w5 (ht1.on (HA23.out.next (hA4.next hA45))) (ht2.on hA45))
  obtain ⟨b0, b1⟩ := HB35.out.cells
  obtain ⟨d0, d1⟩ := HB5.out.cells
  clear hL hL2 hLx ht1 ht2 hA4 hA45
  go_wp2_with fail
  refine HSA.out.mono ?_
  rintro x w6 ⟨rfl, hA6⟩
  have HA6 := Lib.hid (HA5.out.next hA6)
  clear hA6
  go_wp2_with fail
  refine (HAW.out w6).mono ?_
  rintro x w7 ⟨rfl, hA7⟩
  have HA7 := Lib.hid (HA6.out.next hA7)
  clear hA7
  go_wp2_with fail
  try rw [Exit.noGoto_ret]
  go_ret
  exact ⟨rfl, HA7.out⟩

end Go.Proofs.Ytgmekkenodiclaa
