/- Proved: the law IvalBits answers true for any two words: a set has just the blocks that were added, in whatever order; its extents do not touch. -/
import Derived.Test.YtbhlpdfejnfeeaaTri
import Derived.Lib.Zigzag
import Derived.Laws.BitsAllLaws
namespace Go.Proofs.Ytbhlpdfejnfeeaa
open Go.RowKit

/-- The place of step j, the blocks after so many steps. -/
def ix (t : Bool) (j : Nat) : Nat := if t then 63 - j else j
def xs (t : Bool) (a : Nat) : Nat → List (Int × Int)
  | 0 => []
  | k + 1 => xs t a k ++ (if a.testBit (ix t k) then [(((ix t k : Nat) : Int), (1 : Int))] else [])
theorem xs_len (t : Bool) (a : Nat) : ∀ k, (xs t a k).length ≤ k
  | 0 => Nat.le_refl _
  | k + 1 => by
    have := xs_len t a k
    rw [xs, List.length_append]
    split <;> simp <;> omega
theorem ix_le (t : Bool) {j : Nat} (h : j < 64) : ix t j < 64 := by unfold ix; split <;> omega
theorem xs_in (t : Bool) (a : Nat) (x : Int) : ∀ k, In (xs t a k) x ↔ ∃ j, j < k ∧ x = ((ix t j : Nat) : Int) ∧ a.testBit (ix t j) = true
  | 0 => ⟨fun h => (in_nil _ h).elim, fun ⟨_, h, _⟩ => absurd h (by omega)⟩
  | k + 1 => by
    rw [xs, in_app, xs_in t a x k]
    constructor
    · rintro (⟨j, hj, h⟩ | h)
      · exact ⟨j, by omega, h⟩
      · by_cases hb : a.testBit (ix t k) = true
        · rw [if_pos hb, in_one] at h
          exact ⟨k, by omega, by simp only at h; omega, hb⟩
        · rw [if_neg hb] at h; exact (in_nil _ h).elim
    · rintro ⟨j, hj, h1, h2⟩
      by_cases e : j = k
      · subst e
        rw [if_pos h2, in_one]
        exact Or.inr ⟨by simp only; omega, by simp only; omega⟩
      · exact Or.inl ⟨j, by omega, h1, h2⟩
theorem xs_vm (t : Bool) (a : Nat) : ∀ {k : Nat}, k ≤ 64 → ∀ e ∈ xs t a k, Vm e
  | 0, _, e, he => by cases he
  | k + 1, h, e, he => by
    rw [xs] at he
    rcases List.mem_append.1 he with he | he
    · exact xs_vm t a (by omega) e he
    · have := ix_le t (show k < 64 by omega)
      split at he
      · rw [List.mem_singleton.1 he]; exact ⟨by simp only; omega, by simp only; omega, by simp only; omega⟩
      · cases he
/-- Block x is one of a word's. -/
def Bt (a : Nat) (x : Int) : Prop := ∃ i : Nat, i < 64 ∧ x = (i : Int) ∧ a.testBit i = true
theorem xs_bt (t : Bool) (a : Nat) (x : Int) : In (xs t a 64) x ↔ Bt a x := by
  rw [xs_in]
  constructor
  · rintro ⟨j, hj, h1, h2⟩; exact ⟨_, ix_le t hj, h1, h2⟩
  · rintro ⟨i, hi, h1, h2⟩
    refine ⟨ix t i, ix_le t hi, ?_⟩
    have e : ix t (ix t i) = i := by unfold ix; split <;> omega
    rw [e]; exact ⟨h1, h2⟩
theorem bt_at (a : Nat) {i : Nat} : Bt a (i : Int) ↔ i < 64 ∧ a.testBit i = true := by
  constructor
  · rintro ⟨j, hj, h1, h2⟩
    obtain rfl : j = i := by omega
    exact ⟨hj, h2⟩
  · rintro ⟨h1, h2⟩; exact ⟨i, h1, rfl, h2⟩
/-- How many of the first k are one of the word's. -/
def cnt (a k : Nat) : Nat := (List.range k).countP fun i => a.testBit i
theorem cnt_succ (a k : Nat) : cnt a (k + 1) = cnt a k + (if a.testBit k then 1 else 0) := by
  unfold cnt; rw [List.range_succ, List.countP_append, List.countP_singleton]
theorem cnt_le (a k : Nat) : cnt a k ≤ k := by
  have := List.countP_le_length (p := fun i => a.testBit i) (l := List.range k)
  rw [List.length_range] at this; exact this
theorem cnt_sm {a : Nat} {L : List (Int × Int)} (hL : Nm L) (h : ∀ x, In L x ↔ Bt a x) : sm L = (cnt a 64 : Int) := by
  have e : bl L = ((List.range 64).filter fun i => a.testBit i).map (fun i : Nat => (i : Int)) := by
    refine up_one (bl_up hL) ?_ fun x => ?_
    · rw [List.pairwise_map]
      exact (List.pairwise_lt_range.filter _).imp fun h => by omega
    · rw [bl_in, h, List.mem_map]
      constructor
      · rintro ⟨i, h1, h2, h3⟩
        exact ⟨i, List.mem_filter.2 ⟨List.mem_range.2 h1, h3⟩, h2.symm⟩
      · rintro ⟨i, h1, h2⟩
        obtain ⟨h3, h4⟩ := List.mem_filter.1 h1
        exact ⟨i, List.mem_range.1 h3, h2.symm, h4⟩
  rw [← bl_len (L := L) (fun e he => by have := (hL.1 e he).2.1; omega), e, List.length_map]
  unfold cnt
  rw [List.countP_eq_length_filter]
theorem bit_cast (a i : Nat) : (a : Int) / 2 ^ i = ((a / 2 ^ i : Nat) : Int) := by simp
theorem bit_and (a i : Nat) (ha : a < 18446744073709551616) : bits .and .u64 ((a : Int) / 2 ^ i) 1 = ((a / 2 ^ i % 2 : Nat) : Int) := by
  have h : a / 2 ^ i ≤ a := Nat.div_le_self _ _
  rw [bit_cast]
  generalize a / 2 ^ i = z at h ⊢
  rw [Go.Lib.u64_and1 _ (by omega) (by omega)]; omega
theorem bit_yes {a i : Nat} (ha : a < 18446744073709551616) (h : a.testBit i = true) : bits .and .u64 ((a : Int) / 2 ^ i) 1 = 1 := by
  rw [bit_and a i ha]
  rw [Nat.testBit_eq_decide_div_mod_eq] at h
  have := of_decide_eq_true h
  omega
theorem bit_no {a i : Nat} (ha : a < 18446744073709551616) (h : a.testBit i = false) : bits .and .u64 ((a : Int) / 2 ^ i) 1 = 0 := by
  rw [bit_and a i ha]
  rw [Nat.testBit_eq_decide_div_mod_eq] at h
  have := of_decide_eq_false h
  omega
/-- The sets cross, just if the words have a bit in common. -/
theorem cross_and {a b : Nat} (ha : a < 18446744073709551616) {K L : List (Int × Int)} (hK : ∀ x, In K x ↔ Bt a x) (hL : ∀ x, In L x ↔ Bt b x) (vK : ∀ e ∈ K, Vm e) (vL : ∀ e ∈ L, Vm e) : crB K L = true ↔ a &&& b ≠ 0 := by
  rw [cr_iff vK vL]
  constructor
  · rintro ⟨x, h1, h2⟩ h0
    obtain ⟨i, hi, rfl, hb⟩ := (hL x).1 h1
    obtain ⟨_, hc⟩ := (bt_at a).1 ((hK _).1 h2)
    have := Nat.testBit_and a b i
    rw [h0, Nat.zero_testBit, hb, hc] at this; cases this
  · intro h
    obtain ⟨i, hi⟩ := Nat.exists_testBit_of_ne_zero h
    rw [Nat.testBit_and, Bool.and_eq_true] at hi
    have hi64 : i < 64 := by
      rcases Nat.lt_or_ge i 64 with h' | h'
      · exact h'
      · have h2 : a < 2 ^ i := Nat.lt_of_lt_of_le (show a < 2 ^ 64 by omega) (Nat.pow_le_pow_right (by omega) h')
        rw [Nat.testBit_lt_two_pow h2] at hi; cases hi.1
    exact ⟨(i : Int), (hL _).2 ⟨i, hi64, rfl, hi.2⟩, (hK _).2 ⟨i, hi64, rfl, hi.1⟩⟩

theorem me_bt {a : Nat} {L : List (Int × Int)} (hL : Nm L) (h : ∀ x, In L x ↔ Bt a x) {k : Nat} (hk : k ≤ 1000) : meB L (k : Int) 1 = true ↔ k < 64 ∧ a.testBit k = true := by
  rw [me_iff hL.1, ← bt_at]
  constructor
  · rintro ⟨_, x, h1, h2⟩
    have := (in_one _ _).1 h1
    simp only at this
    obtain rfl : x = (k : Int) := by omega
    exact (h _).1 h2
  · intro h1
    exact ⟨⟨by simp only; omega, by simp only; omega, by simp, by simp, by simp only; omega⟩, (k : Int), (in_one _ _).2 ⟨by simp only; omega, by simp only; omega⟩, (h _).2 h1⟩
theorem me_yes {a : Nat} {L : List (Int × Int)} (hL : Nm L) (h : ∀ x, In L x ↔ Bt a x) {k : Nat} (hk : k < 64) (hb : a.testBit k = true) : meB L (k : Int) 1 = true := (me_bt hL h (by omega)).2 ⟨hk, hb⟩
theorem me_no {a : Nat} {L : List (Int × Int)} (hL : Nm L) (h : ∀ x, In L x ↔ Bt a x) {k : Nat} (hk : k ≤ 1000) (hb : ¬ (k < 64 ∧ a.testBit k = true)) : meB L (k : Int) 1 = false := by
  cases hm : meB L (k : Int) 1
  · rfl
  · exact absurd ((me_bt hL h hk).1 hm) hb

/-- The two sets behind k rounds. -/
def Two (w w' : World) (x y : Nat) (t : Bool) (a b k : Nat) (L M : List (Int × Int)) (u v : Value) : Prop := Duo w w' x y u v 100 L M ∧ Is (xs t a k) L ∧ Is (xs false b k) M
theorem allB_bit {i : Nat} (h : i < 64) : allB [((i : Int), 1)] = true := by rw [allB_one]; exact vaB_yes ⟨by simp only; omega, by simp only; omega, by simp, by simp, by simp only; omega⟩
theorem xs_yes {t : Bool} {a k i : Nat} (hi : i = ix t k) (h : a.testBit i = true) : xs t a (k + 1) = xs t a k ++ [((i : Int), 1)] := by rw [xs, ← hi, if_pos h]
theorem xs_no {t : Bool} {a k i : Nat} (hi : i = ix t k) (h : a.testBit i = false) : xs t a (k + 1) = xs t a k := by rw [xs, ← hi, h]; simp

set_option maxHeartbeats 4000000 in
set_option maxRecDepth 100000 in
theorem bits_walk (a b : Nat) (t : Bool) (ha : a < 18446744073709551616) (hb : b < 18446744073709551616) (w : World) :
    Calls Try.prog 3 #[.int .u64 (a : Int), .int .u64 (b : Int), .bool t] w (Gives (.bool true) w) := by
  go_enter Try.func3, Try.ntmps3
  go_wp2_with fail
  refine (new_any 100 _).mono ?_
  rintro e w1 n1
  obtain ⟨rfl, h1⟩ := st_new n1
  clear n1
  go_wp2_with fail
  refine (new_any 100 _).mono ?_
  rintro e w2 n2
  obtain ⟨rfl, h2⟩ := st_new n2
  clear n2
  have hD : Duo w w2 w.heap.size w1.heap.size (.slice none 0 0) (.slice none 0 0) 100 [] [] := ⟨h1.on h2.at_, h2.back h1.at_, ap_new (h1.sv.lt _ (Or.inl rfl))⟩
  have HD := Lib.hid hD
  clear h1 h2 hD
  generalize w1.heap.size = y at *
  obtain ⟨x, hxx⟩ : ∃ x, x = w.heap.size := ⟨_, rfl⟩
  rw [← hxx] at HD
  rw [← hxx]
  clear hxx
  go_wp2
  go_loopw [9] (fun i wr => ∃ (k : Nat) (L M : List (Int × Int)) (u v : Value), k ≤ 64 ∧ i = .int .i64 (k : Int) ∧ Hid (Two w wr x y t a b k L M u v)) (fun i _ => 64 - (intOf i).toNat)
  case atStart => exact ⟨0, [], [], _, _, by omega, rfl, Lib.hid ⟨HD.out, Is.nil, Is.nil⟩⟩
  case round =>
    obtain ⟨k, L, M, u, v, hk, rfl, HT⟩ := hrel
    by_cases hlt : k < 64
    · have g1 : (k : Int) < 64 := by omega
      have g0 : (0 : Int) ≤ (k : Int) := by omega
      cases t with
      | false =>
        have HIX : Hid (k = ix false k) := Lib.hid (by rfl)
        cases hba : a.testBit k with
        | true =>
          have a1 := bit_yes ha hba
          have HBA := Lib.hid hba
          clear hba
          have HTA : Hid (Duo w (wr.alloc (.cells #[.int .i64 (k : Int), .int .i64 1] 28)) x y u v 100 L M) := Lib.hid (HT.out.1.on ((At.start wr).alloc _))
          have HAD := Lib.hid (add_any (some ⟨wr.heap.size, 0, none⟩) 1 1 [((k : Int), 1)] HTA.out.a.sv (by omega) (fun h => by cases h) rfl (ev_one wr (k : Int) 1))
          go_wp2_with fail
          refine HAD.out.mono ?_
          rintro e w3 had
          obtain ⟨v3, L3, rfl, hs3, hd3, hi3⟩ := had.ok (allB_bit (by omega)) HT.out.2.1 (xs_vm false a hk) (by have := xs_len false a k; simp; omega)
          have HT3 := Lib.hid (HTA.out.did_a hs3 hd3)
          rw [← xs_yes HIX.out HBA.out] at hi3
          have HI3 := Lib.hid hi3
          clear had hs3 hd3 hi3 HAD
          cases hbb : b.testBit k with
          | true =>
            have b1 := bit_yes hb hbb
            have HBB := Lib.hid hbb
            clear hbb
            have HTB : Hid (Duo w (w3.alloc (.cells #[.int .i64 (k : Int), .int .i64 1] 28)) x y v3 v 100 L3 M) := Lib.hid (HT3.out.on ((At.start w3).alloc _))
            have HAD := Lib.hid (add_any (some ⟨w3.heap.size, 0, none⟩) 1 1 [((k : Int), 1)] HTB.out.b.sv (by omega) (fun h => by cases h) rfl (ev_one w3 (k : Int) 1))
            go_wp2_with fail
            refine HAD.out.mono ?_
            rintro e w4 had
            obtain ⟨v4, M4, rfl, hs4, hd4, hi4⟩ := had.ok (allB_bit hlt) HT.out.2.2 (xs_vm false b hk) (by have := xs_len false b k; simp; omega)
            have HT4 := Lib.hid (HTB.out.did_b hs4 hd4)
            rw [← xs_yes (t := false) (by rfl) HBB.out] at hi4
            have HI4 := Lib.hid hi4
            clear had hs4 hd4 hi4 b1
            go_wp2
            go_roundw
            case rel => exact ⟨k + 1, L3, M4, v3, v4, by omega, by go_num, Lib.hid ⟨HT4.out, HI3.out, HI4.out⟩⟩
            case measure => simp [intOf]; omega
          | false =>
            have b1 := bit_no hb hbb
            have HBB := Lib.hid hbb
            clear hbb
            go_wp2
            go_roundw
            case rel => exact ⟨k + 1, L3, M, v3, v, by omega, by go_num, Lib.hid ⟨HT3.out, HI3.out, by rw [xs_no (t := false) (by rfl) HBB.out]; exact HT.out.2.2⟩⟩
            case measure => simp [intOf]; omega
        | false =>
          have a1 := bit_no ha hba
          have HBA := Lib.hid hba
          clear hba
          have HT3 := Lib.hid HT.out.1
          cases hbb : b.testBit k with
          | true =>
            have b1 := bit_yes hb hbb
            have HBB := Lib.hid hbb
            clear hbb
            have HTB : Hid (Duo w (wr.alloc (.cells #[.int .i64 (k : Int), .int .i64 1] 28)) x y u v 100 L M) := Lib.hid (HT3.out.on ((At.start wr).alloc _))
            have HAD := Lib.hid (add_any (some ⟨wr.heap.size, 0, none⟩) 1 1 [((k : Int), 1)] HTB.out.b.sv (by omega) (fun h => by cases h) rfl (ev_one wr (k : Int) 1))
            go_wp2_with fail
            refine HAD.out.mono ?_
            rintro e w4 had
            obtain ⟨v4, M4, rfl, hs4, hd4, hi4⟩ := had.ok (allB_bit hlt) HT.out.2.2 (xs_vm false b hk) (by have := xs_len false b k; simp; omega)
            have HT4 := Lib.hid (HTB.out.did_b hs4 hd4)
            rw [← xs_yes (t := false) (by rfl) HBB.out] at hi4
            have HI4 := Lib.hid hi4
            clear had hs4 hd4 hi4 b1
            go_wp2
            go_roundw
            case rel => exact ⟨k + 1, L, M4, u, v4, by omega, by go_num, Lib.hid ⟨HT4.out, by rw [xs_no HIX.out HBA.out]; exact HT.out.2.1, HI4.out⟩⟩
            case measure => simp [intOf]; omega
          | false =>
            have b1 := bit_no hb hbb
            have HBB := Lib.hid hbb
            clear hbb
            go_wp2
            go_roundw
            case rel => exact ⟨k + 1, L, M, u, v, by omega, by go_num, Lib.hid ⟨HT3.out, by rw [xs_no HIX.out HBA.out]; exact HT.out.2.1, by rw [xs_no (t := false) (by rfl) HBB.out]; exact HT.out.2.2⟩⟩
            case measure => simp [intOf]; omega
      | true =>
        obtain ⟨i, hi⟩ : ∃ i, i = 63 - k := ⟨_, rfl⟩
        have q1 : (63 : Int) - (k : Int) = (i : Int) := by omega
        have q2 : (0 : Int) ≤ (i : Int) := by omega
        have hi63 : i < 64 := by omega
        have HI0 := Lib.hid hi
        clear hi
        have HIX : Hid (i = ix true k) := Lib.hid (by exact HI0.out)
        cases hba : a.testBit i with
        | true =>
          have a1 := bit_yes ha hba
          have HBA := Lib.hid hba
          clear hba
          have HTA : Hid (Duo w (wr.alloc (.cells #[.int .i64 (i : Int), .int .i64 1] 28)) x y u v 100 L M) := Lib.hid (HT.out.1.on ((At.start wr).alloc _))
          have HAD := Lib.hid (add_any (some ⟨wr.heap.size, 0, none⟩) 1 1 [((i : Int), 1)] HTA.out.a.sv (by omega) (fun h => by cases h) rfl (ev_one wr (i : Int) 1))
          go_wp2_with fail
          refine HAD.out.mono ?_
          rintro e w3 had
          obtain ⟨v3, L3, rfl, hs3, hd3, hi3⟩ := had.ok (allB_bit (by omega)) HT.out.2.1 (xs_vm true a hk) (by have := xs_len true a k; simp; omega)
          have HT3 := Lib.hid (HTA.out.did_a hs3 hd3)
          rw [← xs_yes HIX.out HBA.out] at hi3
          have HI3 := Lib.hid hi3
          clear had hs3 hd3 hi3 HAD
          cases hbb : b.testBit k with
          | true =>
            have b1 := bit_yes hb hbb
            have HBB := Lib.hid hbb
            clear hbb
            have HTB : Hid (Duo w (w3.alloc (.cells #[.int .i64 (k : Int), .int .i64 1] 28)) x y v3 v 100 L3 M) := Lib.hid (HT3.out.on ((At.start w3).alloc _))
            have HAD := Lib.hid (add_any (some ⟨w3.heap.size, 0, none⟩) 1 1 [((k : Int), 1)] HTB.out.b.sv (by omega) (fun h => by cases h) rfl (ev_one w3 (k : Int) 1))
            go_wp2_with fail
            refine HAD.out.mono ?_
            rintro e w4 had
            obtain ⟨v4, M4, rfl, hs4, hd4, hi4⟩ := had.ok (allB_bit hlt) HT.out.2.2 (xs_vm false b hk) (by have := xs_len false b k; simp; omega)
            have HT4 := Lib.hid (HTB.out.did_b hs4 hd4)
            rw [← xs_yes (t := false) (by rfl) HBB.out] at hi4
            have HI4 := Lib.hid hi4
            clear had hs4 hd4 hi4 b1
            go_wp2
            go_roundw
            case rel => exact ⟨k + 1, L3, M4, v3, v4, by omega, by go_num, Lib.hid ⟨HT4.out, HI3.out, HI4.out⟩⟩
            case measure => simp [intOf]; omega
          | false =>
            have b1 := bit_no hb hbb
            have HBB := Lib.hid hbb
            clear hbb
            go_wp2
            go_roundw
            case rel => exact ⟨k + 1, L3, M, v3, v, by omega, by go_num, Lib.hid ⟨HT3.out, HI3.out, by rw [xs_no (t := false) (by rfl) HBB.out]; exact HT.out.2.2⟩⟩
            case measure => simp [intOf]; omega
        | false =>
          have a1 := bit_no ha hba
          have HBA := Lib.hid hba
          clear hba
          have HT3 := Lib.hid HT.out.1
          cases hbb : b.testBit k with
          | true =>
            have b1 := bit_yes hb hbb
            have HBB := Lib.hid hbb
            clear hbb
            have HTB : Hid (Duo w (wr.alloc (.cells #[.int .i64 (k : Int), .int .i64 1] 28)) x y u v 100 L M) := Lib.hid (HT3.out.on ((At.start wr).alloc _))
            have HAD := Lib.hid (add_any (some ⟨wr.heap.size, 0, none⟩) 1 1 [((k : Int), 1)] HTB.out.b.sv (by omega) (fun h => by cases h) rfl (ev_one wr (k : Int) 1))
            go_wp2_with fail
            refine HAD.out.mono ?_
            rintro e w4 had
            obtain ⟨v4, M4, rfl, hs4, hd4, hi4⟩ := had.ok (allB_bit hlt) HT.out.2.2 (xs_vm false b hk) (by have := xs_len false b k; simp; omega)
            have HT4 := Lib.hid (HTB.out.did_b hs4 hd4)
            rw [← xs_yes (t := false) (by rfl) HBB.out] at hi4
            have HI4 := Lib.hid hi4
            clear had hs4 hd4 hi4 b1
            go_wp2
            go_roundw
            case rel => exact ⟨k + 1, L, M4, u, v4, by omega, by go_num, Lib.hid ⟨HT4.out, by rw [xs_no HIX.out HBA.out]; exact HT.out.2.1, HI4.out⟩⟩
            case measure => simp [intOf]; omega
          | false =>
            have b1 := bit_no hb hbb
            have HBB := Lib.hid hbb
            clear hbb
            go_wp2
            go_roundw
            case rel => exact ⟨k + 1, L, M, u, v, by omega, by go_num, Lib.hid ⟨HT3.out, by rw [xs_no HIX.out HBA.out]; exact HT.out.2.1, by rw [xs_no (t := false) (by rfl) HBB.out]; exact HT.out.2.2⟩⟩
            case measure => simp [intOf]; omega
    · have HT : Hid (Two w wr x y t a b 64 L M u v) := Lib.hid (by
        have := HT.out
        rwa [show k = 64 by omega] at this)
      have hge : decide ((k : Int) < 64) = false := decide_eq_false (by omega)
      clear hk hlt
      have hL := HT.out.2.1.1
      have hM := HT.out.2.2.1
      have hLb : ∀ x, In L x ↔ Bt a x := fun x => (HT.out.2.1.2 x).trans (xs_bt t a x)
      have hMb : ∀ x, In M x ↔ Bt b x := fun x => (HT.out.2.2.2 x).trans (xs_bt false b x)
      have HLM := Lib.hid (And.intro hL (And.intro hM (And.intro hLb hMb)))
      have HTD := Lib.hid HT.out.1
      have hll : L.length ≤ 64 := by have := is_len (xs_vm t a (Nat.le_refl _)) HT.out.2.1; have := xs_len t a 64; omega
      have hml : M.length ≤ 64 := by have := is_len (xs_vm false b (Nat.le_refl _)) HT.out.2.2; have := xs_len false b 64; omega
      clear hL hM hLb hMb HT HD
      go_wp2
      go_loopw [11, 12] (fun nn i wr => ∃ (k : Nat) (z : Int), k ≤ 66 ∧ i = .int .i64 (k : Int) ∧ z = (cnt a (min k 64) : Int) ∧ nn = .int .i64 z ∧ Hid (Duo w wr x y u v 100 L M)) (fun _ i _ => 66 - (intOf i).toNat)
      case atStart => exact ⟨0, 0, by omega, rfl, rfl, rfl, Lib.hid HTD.out⟩
      case round =>
        obtain ⟨k, z, hk, rfl, hz, rfl, HTR⟩ := hrel
        have hz1 := cnt_le a (min k 64)
        by_cases hlt : k < 66
        · have g1 : (k : Int) < 66 := by omega
          have g0 : (0 : Int) ≤ (k : Int) := by omega
          have HHS := Lib.hid (has_any HTR.out.a.sv (by omega) (k : Int))
          by_cases hk64 : k < 64
          · have g2 : (k : Int) < 64 := by omega
            have g3 : IntKind.i64.wrap (z + 1) = z + 1 := IntWalk.i64_in _ (by omega)
            have hcs := cnt_succ a k
            have e1 : min k 64 = k := by omega
            have e2 : min (k + 1) 64 = k + 1 := by omega
            rw [e1] at hz
            cases hba : a.testBit k with
            | true =>
              have a1 := bit_yes ha hba
              rw [me_yes HLM.out.1 HLM.out.2.2.1 hk64 hba] at HHS
              rw [hba, if_pos rfl] at hcs
              have HZZ : Hid (z + 1 = (cnt a (min (k + 1) 64) : Int)) := Lib.hid (by rw [e2, hcs, hz]; omega)
              clear hba hz hcs e1 e2
              go_wp2_with fail
              refine HHS.out.mono ?_
              rintro e w5 ⟨rfl, ha5⟩
              have HT5 := Lib.hid (HTR.out.on ha5)
              clear ha5
              go_wp2
              go_roundw
              case rel => exact ⟨k + 1, _, by omega, by go_num, HZZ.out, rfl, Lib.hid HT5.out⟩
              case measure => simp [intOf]; omega
            | false =>
              have a1 := bit_no ha hba
              rw [me_no HLM.out.1 HLM.out.2.2.1 (by omega) (by rw [hba]; simp)] at HHS
              rw [hba] at hcs
              have HZZ : Hid (z = (cnt a (min (k + 1) 64) : Int)) := Lib.hid (by rw [e2, hcs, hz]; simp)
              clear hba hz hcs e1 e2
              go_wp2_with fail
              refine HHS.out.mono ?_
              rintro e w5 ⟨rfl, ha5⟩
              have HT5 := Lib.hid (HTR.out.on ha5)
              clear ha5
              go_wp2
              go_roundw
              case rel => exact ⟨k + 1, _, by omega, by go_num, HZZ.out, rfl, Lib.hid HT5.out⟩
              case measure => simp [intOf]; omega
          · have g2 : decide ((k : Int) < 64) = false := decide_eq_false (by omega)
            rw [me_no HLM.out.1 HLM.out.2.2.1 (by omega) (fun h => hk64 h.1)] at HHS
            have HZZ : Hid (z = (cnt a (min (k + 1) 64) : Int)) := Lib.hid (by rw [hz, show min (k + 1) 64 = min k 64 by omega])
            clear hz
            go_wp2_with fail
            refine HHS.out.mono ?_
            rintro e w5 ⟨rfl, ha5⟩
            have HT5 := Lib.hid (HTR.out.on ha5)
            clear ha5
            go_wp2
            go_roundw
            case rel => exact ⟨k + 1, _, by omega, by go_num, HZZ.out, rfl, Lib.hid HT5.out⟩
            case measure => simp [intOf]; omega
        · obtain rfl : k = 66 := by omega
          have hzs : z = sm L := by rw [hz, cnt_sm HLM.out.1 HLM.out.2.2.1]; rfl
          have HZS := Lib.hid hzs
          obtain ⟨N, hN⟩ : ∃ N, N = L.length := ⟨_, rfl⟩
          have HN := Lib.hid hN
          have hN64 : N ≤ 64 := by omega
          have HEX : Hid (Calls Try.prog 11 #[.pointer (some ⟨x, 0, none⟩)] wr (fun e W' => ∃ A c, e = .returned (.slice A N c) ∧ EV W' A L ∧ At wr W')) := Lib.hid (by
            refine (extents_any HTR.out.a.sv (by omega)).mono ?_
            rintro e W' ⟨v', rfl, ho, hat, -⟩
            obtain ⟨A', c', rfl, -, -, hev⟩ := ho.ev
            exact ⟨A', c', by rw [HN.out], hev, hat⟩)
          clear hz hzs hN hz1
          go_wp2_with fail
          refine HEX.out.mono ?_
          rintro e w6 ⟨A6, c6, rfl, he6, ha6⟩
          have HT6 := Lib.hid (HTR.out.on ha6)
          have HE6 := Lib.hid he6
          clear he6 ha6 HEX
          go_wp2
          go_loopw [15] (fun i wr => ∃ k : Nat, 1 ≤ k ∧ (k ≤ N ∨ k = 1) ∧ i = .int .i64 (k : Int) ∧ Hid (At w6 wr)) (fun i _ => N - (intOf i).toNat)
          case atStart => exact ⟨1, by omega, Or.inr rfl, rfl, Lib.hid (At.start w6)⟩
          case round =>
            obtain ⟨k, hk1, hkN, rfl, HA⟩ := hrel
            by_cases hlt : k < N
            · obtain ⟨g, o, rfl, hg, hc⟩ := HE6.out.pos (by rw [← HN.out]; omega)
              obtain ⟨j, hj⟩ : ∃ j, k = j + 1 := ⟨k - 1, by omega⟩
              have h1 := hc k (by rw [← HN.out]; exact hlt)
              have h2 := hc j (by rw [← HN.out]; omega)
              have d1 : wr.cell? ⟨g, o + k * 2, none⟩ = some (.int .i64 (L.getD k (0, 0)).1) := (Below.cell HA.out (p := ⟨g, o + k * 2, none⟩) hg).trans h1.1
              have d2 : wr.cell? ⟨g, o + j * 2, none⟩ = some (.int .i64 (L.getD j (0, 0)).1) := (Below.cell HA.out (p := ⟨g, o + j * 2, none⟩) hg).trans h2.1
              have d3 : wr.cell? ⟨g, o + j * 2 + 1, none⟩ = some (.int .i64 (L.getD j (0, 0)).2) := (Below.cell HA.out (p := ⟨g, o + j * 2 + 1, none⟩) hg).trans h2.2
              have hlt2 := nm_lt HLM.out.1 (show j < k by omega) (by rw [← HN.out]; exact hlt)
              have hv1 := nm_at HLM.out.1 (show k < L.length by rw [← HN.out]; exact hlt)
              have hv2 := nm_at HLM.out.1 (show j < L.length by rw [← HN.out]; omega)
              unfold Vm at hv1 hv2
              generalize (L.getD k (0, 0)).1 = p1 at d1 hlt2 hv1
              generalize (L.getD j (0, 0)).1 = p2 at d2 hlt2 hv2
              generalize (L.getD j (0, 0)).2 = p3 at d3 hlt2 hv2
              have hle : decide (p1 ≤ p2 + p3) = false := decide_eq_false (by omega)
              have q1 : (k : Int) - 1 = (j : Int) := by omega
              have q2 : (0 : Int) ≤ (k : Int) := by omega
              have q3 : (k : Int) < (N : Int) := by omega
              have q4 : (0 : Int) ≤ (j : Int) := by omega
              have q5 : (j : Int) < (N : Int) := by omega
              have q6 : IntKind.i64.wrap (j : Int) = (j : Int) := IntWalk.i64_in _ (by omega)
              have q7 : IntKind.i64.wrap (p2 + p3) = p2 + p3 := IntWalk.i64_in _ (by omega)
              have HNW : Hid (∀ m, At w6 (wr.drewN m)) := Lib.hid (fun m => HA.out.drewN m)
              clear hc h1 h2 hj hv1 hv2 hlt2
              go_wp2_with fail
              go_quiet (fail)
              go_wp2
              go_roundw
              case rel => exact ⟨k + 1, by omega, Or.inl (by omega), by go_num, Lib.hid (HNW.out _)⟩
              case measure => simp [intOf]; omega
            · have hge : decide ((k : Int) < (N : Int)) = false := decide_eq_false (by omega)
              have HT7 := Lib.hid (HT6.out.on HA.out)
              obtain ⟨s, hs⟩ : ∃ s : Nat, s = a &&& b := ⟨_, rfl⟩
              have hand : bits .and .u64 (a : Int) (b : Int) = (s : Int) := by rw [u64_and_nat a b ha hb, hs]
              have hcr : crB L M = (s != 0) := by
                have h1 := cross_and ha HLM.out.2.2.1 HLM.out.2.2.2 HLM.out.1.1 HLM.out.2.1.1
                rw [← hs] at h1
                cases hc : crB L M
                · have : s = 0 := by
                    rcases Nat.eq_zero_or_pos s with h | h
                    · exact h
                    · rw [h1.2 (by omega)] at hc; cases hc
                  rw [this]; rfl
                · have := h1.1 hc; simp [this]
              have hcr2 : crB M L = (s != 0) := by
                have h1 := cross_and hb HLM.out.2.2.2 HLM.out.2.2.1 HLM.out.2.1.1 HLM.out.1.1
                rw [Nat.and_comm, ← hs] at h1
                cases hc : crB M L
                · have : s = 0 := by
                    rcases Nat.eq_zero_or_pos s with h | h
                    · exact h
                    · rw [h1.2 (by omega)] at hc; cases hc
                  rw [this]; rfl
                · have := h1.1 hc; simp [this]
              have HCN := Lib.hid (count_any HT7.out.a.sv (by omega))
              rw [← HZS.out] at HCN
              have HCR := Lib.hid (And.intro hcr hcr2)
              clear hcr hcr2 hs hk1 hkN
              by_cases hs0 : s = 0
              · have HCR2 : Hid (crB L M = false ∧ crB M L = false) := Lib.hid ⟨by rw [HCR.out.1, hs0]; rfl, by rw [HCR.out.2, hs0]; rfl⟩
                subst hs0
                have HC1 : Hid (∀ W, Duo w W x y u v 100 L M → Calls Try.prog 13 #[.pointer (some ⟨x, 0, none⟩), .pointer (some ⟨y, 0, none⟩)] W (Gives (.bool false) W)) := Lib.hid (fun W hW => by
                  have := crosses_any hW.a.sv (by omega) hW.b.sv (by omega)
                  rwa [HCR2.out.1] at this)
                have HC2 : Hid (∀ W, Duo w W x y u v 100 L M → Calls Try.prog 13 #[.pointer (some ⟨y, 0, none⟩), .pointer (some ⟨x, 0, none⟩)] W (Gives (.bool false) W)) := Lib.hid (fun W hW => by
                  have := crosses_any hW.b.sv (by omega) hW.a.sv (by omega)
                  rwa [HCR2.out.2] at this)
                go_wp2_with fail
                refine HCN.out.mono ?_
                rintro e w7 ⟨rfl, ha7⟩
                have HT8 := Lib.hid (HT7.out.on ha7)
                clear ha7
                go_wp2_with fail
                refine (HC1.out _ HT8.out).mono ?_
                rintro e w8 ⟨rfl, ha8⟩
                have HT9 := Lib.hid (HT8.out.on ha8)
                clear ha8
                go_wp2_with fail
                refine (HC2.out _ HT9.out).mono ?_
                rintro e w9 ⟨rfl, ha9⟩
                have HT10 := Lib.hid (HT9.out.on ha9)
                clear ha9
                go_wp2_with fail
                refine (awake_any _).mono ?_
                rintro e w10 ⟨rfl, ha10⟩
                have HA11 := Lib.hid (HT10.out.a.at_.next ha10)
                clear ha10
                go_wp2
                go_ret
                exact ⟨rfl, HA11.out⟩
              · have HCR2 : Hid (crB L M = true ∧ crB M L = true) := Lib.hid ⟨by rw [HCR.out.1]; simp [hs0], by rw [HCR.out.2]; simp [hs0]⟩
                have hs1 : ((s : Int) == 0) = false := by simp; omega
                have hs3 : ((s : Int) != 0) = true := by simp; omega
                have HC1 : Hid (∀ W, Duo w W x y u v 100 L M → Calls Try.prog 13 #[.pointer (some ⟨x, 0, none⟩), .pointer (some ⟨y, 0, none⟩)] W (Gives (.bool true) W)) := Lib.hid (fun W hW => by
                  have := crosses_any hW.a.sv (by omega) hW.b.sv (by omega)
                  rwa [HCR2.out.1] at this)
                have HC2 : Hid (∀ W, Duo w W x y u v 100 L M → Calls Try.prog 13 #[.pointer (some ⟨y, 0, none⟩), .pointer (some ⟨x, 0, none⟩)] W (Gives (.bool true) W)) := Lib.hid (fun W hW => by
                  have := crosses_any hW.b.sv (by omega) hW.a.sv (by omega)
                  rwa [HCR2.out.2] at this)
                go_wp2_with fail
                refine HCN.out.mono ?_
                rintro e w7 ⟨rfl, ha7⟩
                have HT8 := Lib.hid (HT7.out.on ha7)
                clear ha7
                go_wp2_with fail
                refine (HC1.out _ HT8.out).mono ?_
                rintro e w8 ⟨rfl, ha8⟩
                have HT9 := Lib.hid (HT8.out.on ha8)
                clear ha8
                go_wp2_with fail
                refine (HC2.out _ HT9.out).mono ?_
                rintro e w9 ⟨rfl, ha9⟩
                have HT10 := Lib.hid (HT9.out.on ha9)
                clear ha9
                go_wp2_with fail
                refine (awake_any _).mono ?_
                rintro e w10 ⟨rfl, ha10⟩
                have HA11 := Lib.hid (HT10.out.a.at_.next ha10)
                clear ha10
                go_wp2
                go_ret
                exact ⟨rfl, HA11.out⟩


end Go.Proofs.Ytbhlpdfejnfeeaa
