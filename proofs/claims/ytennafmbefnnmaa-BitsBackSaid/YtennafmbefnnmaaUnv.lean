/- Proved: what the landed Unvarint and the document's own read: the number at a row's beginning and how many bytes it has, or 0 and 0. -/
import Derived.Test.YtennafmbefnnmaaGet
namespace Go.Proofs.Ytennafmbefnnmaa
open Go.RowKit

theorem andNot_more (c : Nat) (hc : c < 256) : bits .andNot .u8 (c : Int) 128 = (c : Int) % 128 := by
  have h : ∀ c, c < 256 → c &&& 127 = c % 128 := by decide +kernel
  rw [u8_andNot _ _ (by omega) (by omega) (by omega) (by omega), Int.toNat_natCast]
  show ((c &&& 127 : Nat) : Int) = _
  rw [h c hc]; omega
theorem and_more (c : Nat) (hc : c < 256) : bits .and .u8 (c : Int) 127 = (c : Int) % 128 := by
  have h : ∀ c, c < 256 → c &&& 127 = c % 128 := by decide +kernel
  rw [u8_and _ _ (by omega) (by omega) (by omega) (by omega), Int.toNat_natCast]
  show ((c &&& 127 : Nat) : Int) = _
  rw [h c hc]; omega
/-- At place i, where v has been read, one group more. -/
theorem or_group (v c i : Nat) (hv : v < 2 ^ (7 * i)) (h : i < 9 ∨ (i = 9 ∧ c ≤ 1)) : IntKind.u64.wrap ((c : Int) % 128 * 2 ^ (7 * i)) = (c : Int) % 128 * 2 ^ (7 * i) ∧
    bits .or .u64 (v : Int) ((c : Int) % 128 * 2 ^ (7 * i)) = ((v + c % 128 * 2 ^ (7 * i) : Nat) : Int) ∧ v + c % 128 * 2 ^ (7 * i) < 2 ^ (7 * (i + 1)) ∧ v + c % 128 * 2 ^ (7 * i) < 18446744073709551616 := by
  have e : ((c : Int) % 128 * 2 ^ (7 * i)) = ((c % 128 * 2 ^ (7 * i) : Nat) : Int) := by simp
  have hb : c % 128 * 2 ^ (7 * i) + 2 ^ (7 * i) ≤ 2 ^ 64 := by
    rcases h with h | ⟨rfl, h⟩
    · have hp : 2 ^ (7 * i) ≤ 2 ^ 56 := Nat.pow_le_pow_right (by omega) (by omega)
      have hm : (c % 128 + 1) * 2 ^ (7 * i) ≤ 128 * 2 ^ 56 := Nat.mul_le_mul (by omega) hp
      rw [Nat.add_mul] at hm
      omega
    · have : c % 128 ≤ 1 := by omega
      omega
  have ho : v ||| c % 128 * 2 ^ (7 * i) = v + c % 128 * 2 ^ (7 * i) := by
    rw [Nat.or_comm, Nat.mul_comm, ← Nat.two_pow_add_eq_or_of_lt hv (c % 128)]
    omega
  refine ⟨?_, ?_, ?_, by omega⟩
  · rw [e, IntKind.wrap_u64]; omega
  · rw [e, u64_or _ _ (by omega) (by omega) (by omega) (by omega), Int.toNat_natCast, Int.toNat_natCast, ho]
  · rw [pow7]
    have : (c % 128 + 1) * 2 ^ (7 * i) ≤ 128 * 2 ^ (7 * i) := Nat.mul_le_mul_right _ (by omega)
    rw [Nat.add_mul] at this
    omega
theorem drop_one (L : List Nat) (k : Nat) (h : k < L.length) : L.drop k = L.getD k 0 :: L.drop (k + 1) := by
  rw [List.drop_eq_getElem_cons h, List.getD_eq_getElem?_getD, List.getElem?_eq_getElem h]; rfl

set_option maxHeartbeats 2000000 in
set_option maxRecDepth 100000 in
theorem unv_any (A : Option Addr) (m c : Nat) (L : List Nat) (hm : m ≤ 1000000) (hl : L.length = m) (hL : AllB L) (w : World) (hv : BV w A L) :
    Calls Try.prog 9 #[.slice A m c] w fun e w' => e = .returned (.tuple #[.int .u64 ((uv L).1 : Int), .int .i64 ((uv L).2 : Int)]) ∧ w = w' := by
  have HV := Lib.hid hv
  have HL := Lib.hid hL
  have HN := Lib.hid hl
  clear hL hl hv
  go_enter Try.func9, Try.ntmps9
  go_wp2
  go_step3
  go_wp2
  go_step3
  go_wp2
  go_loop [2, 8] (fun c2 c8 => ∃ k v : Nat, k ≤ m ∧ k ≤ 9 ∧ c8 = .int .i64 (k : Int) ∧ c2 = .int .u64 (v : Int) ∧ v < 2 ^ (7 * k) ∧ v < 18446744073709551616 ∧ Hid (ug k v (L.drop k) = uv L)) (fun _ i => m - (intOf i).toNat)
  case atStart => exact ⟨0, 0, by omega, by omega, rfl, rfl, by simp, by omega, rfl⟩
  case round =>
    obtain ⟨k, v, hk, hk9, rfl, rfl, hvk, hv64, HU⟩ := hrel
    by_cases hlt : k < m
    · have hkL : k < L.length := by rw [HN.out]; omega
      obtain ⟨b, o, rfl, _, hx⟩ := HV.out.pos (by omega)
      have e1 := hx k hkL
      have d1 := allB_at HL.out k
      have hu := HU.out
      rw [drop_one L k hkL] at hu
      obtain ⟨x, hxe⟩ : ∃ x, x = L.getD k 0 := ⟨_, rfl⟩
      rw [← hxe] at e1 d1 hu
      have HUU := Lib.hid hu
      have q1 := andNot_more x d1
      clear hxe hu hkL hx HU
      have k0 : (0 : Int) ≤ (k : Int) := by omega
      have x0 : (0 : Int) ≤ (x : Int) := by omega
      by_cases h9 : k = 9
      · subst h9
        have p9 : ((9 : Int) == 9) = true := rfl
        by_cases hx1 : 1 < x
        · have hr : uv L = (0, 0) := by rw [← HUU.out]; exact ug_ten rfl hx1
          have HR := Lib.hid hr
          have t1 : decide ((1 : Int) < (x : Int)) = true := decide_eq_true (by omega)
          clear hr hx1
          go_wp2
          try rw [Exit.noGoto_ret]
          go_ret2
          exact ⟨by rw [HR.out]; rfl, rfl⟩
        · have t1 : decide ((1 : Int) < (x : Int)) = false := decide_eq_false (by omega)
          by_cases hx0 : x = 0
          · have hr : uv L = (0, 0) := by rw [← HUU.out]; exact ug_zero (by omega) hx0
            have HR := Lib.hid hr
            subst hx0
            clear hr
            go_wp2
            try rw [Exit.noGoto_ret]
            go_ret2
            exact ⟨by rw [HR.out]; rfl, rfl⟩
          · obtain ⟨b1, b2, _, _⟩ := or_group v x 9 hvk (Or.inr ⟨rfl, by omega⟩)
            have a1 : IntKind.u64.wrap ((x : Int) % 128 * 9223372036854775808) = (x : Int) % 128 * 9223372036854775808 := b1
            have a2 : bits .or .u64 (v : Int) ((x : Int) % 128 * 9223372036854775808) = (v : Int) + (x : Int) % 128 * 9223372036854775808 := b2
            have hr : uv L = (v + x % 128 * 9223372036854775808, 10) := by rw [← HUU.out, ug_end (by omega) (by omega) (by omega), Nat.mod_eq_of_lt (by omega : x < 128)]
            have HR := Lib.hid hr
            have t2 : ((x : Int) == 0) = false := by simp; omega
            have t3 : (x : Int) < 128 := by omega
            clear hr b1 b2 hvk
            go_wp2
            try rw [Exit.noGoto_ret]
            go_ret2
            exact ⟨by rw [HR.out]; rfl, rfl⟩
      · have p9 : ((k : Int) == 9) = false := by simp; omega
        obtain ⟨a1, a2, a3, a4⟩ := or_group v x k hvk (Or.inl (by omega))
        by_cases hk0 : k = 0
        · subst hk0
          have hv0 : v = 0 := by simpa using hvk
          subst hv0
          rw [Nat.add_zero] at e1
          have b2 : bits .or .u64 0 ((x : Int) % 128) = (x : Int) % 128 := by simpa using a2
          clear a1 a2 a3 a4 hvk p9
          by_cases hC : x < 128
          · have hr : uv L = (x, 1) := by rw [← HUU.out, ug_end (by omega) (by omega) hC]; simp
            have HR := Lib.hid hr
            have t3 : (x : Int) < 128 := by omega
            have b3 : (x : Int) % 128 = (x : Int) := by omega
            have b4 : bits .or .u64 0 (x : Int) = (x : Int) := by rw [b3] at b2; exact b2
            clear hr b2
            go_wp2
            try rw [Exit.noGoto_ret]
            go_ret2
            exact ⟨by rw [HR.out]; rfl, rfl⟩
          · have hu : Hid (ug 1 (x % 128) (L.drop 1) = uv L) := Lib.hid (by rw [← HUU.out, ug_on (by omega) (by omega), show x - 128 = x % 128 by omega]; simp)
            have t3 : decide ((x : Int) < 128) = false := decide_eq_false (by omega)
            have hx8 : x % 128 < 2 ^ (7 * 1) := by omega
            go_wp2
            go_round
            case rel => exact ⟨1, x % 128, by omega, by omega, rfl, rfl, hx8, by omega, hu⟩
            case measure => simp [intOf]; omega
        · by_cases hB : x = 0
          · subst hB
            have hr : uv L = (0, 0) := by rw [← HUU.out]; exact ug_zero (by omega) rfl
            have HR := Lib.hid hr
            have t1 : (0 : Int) < (k : Int) := by omega
            clear hr hvk a3
            go_wp2
            try rw [Exit.noGoto_ret]
            go_ret2
            exact ⟨by rw [HR.out]; rfl, rfl⟩
          · have t1 : (0 : Int) < (k : Int) := by omega
            have t2 : ((x : Int) == 0) = false := by simp; omega
            by_cases hC : x < 128
            · have hr : uv L = (v + x % 128 * 2 ^ (7 * k), k + 1) := by rw [← HUU.out, ug_end (by omega) (by omega) hC, Nat.mod_eq_of_lt hC]
              have HR := Lib.hid hr
              have t3 : (x : Int) < 128 := by omega
              clear hr hvk a3
              go_wp2
              try rw [Exit.noGoto_ret]
              go_ret2
              exact ⟨by rw [HR.out]; simp, rfl⟩
            · have hu : Hid (ug (k + 1) (v + x % 128 * 2 ^ (7 * k)) (L.drop (k + 1)) = uv L) := Lib.hid (by rw [← HUU.out, ug_on (by omega) (by omega), show x - 128 = x % 128 by omega])
              have t3 : decide ((x : Int) < 128) = false := decide_eq_false (by omega)
              have A3 := Lib.hid a3
              clear hvk a3
              go_wp2
              go_round
              case rel => exact ⟨k + 1, _, by omega, by omega, by go_num, by simp, A3.out, a4, hu⟩
              case measure => simp [intOf]; omega
    · have hkm : k = m := by omega
      subst hkm
      have hr : uv L = (0, 0) := by rw [← HU.out, List.drop_of_length_le (by rw [HN.out]; omega)]; rfl
      have HR := Lib.hid hr
      clear hr
      go_wp2
      try rw [Exit.noGoto_ret]
      go_ret2
      exact ⟨by rw [HR.out]; rfl, rfl⟩

set_option maxHeartbeats 2000000 in
set_option maxRecDepth 100000 in
theorem runv_any (A : Option Addr) (m c : Nat) (L : List Nat) (hm : m ≤ 1000000) (hl : L.length = m) (hL : AllB L) (w : World) (hv : BV w A L) :
    Calls Try.prog 10 #[.slice A m c] w fun e w' => e = .returned (.tuple #[.int .u64 ((uv L).1 : Int), .int .i64 ((uv L).2 : Int)]) ∧ w = w' := by
  have HV := Lib.hid hv
  have HL := Lib.hid hL
  have HN := Lib.hid hl
  clear hL hl hv
  go_enter Try.func10, Try.ntmps10
  go_wp2
  go_loop [4, 5] (fun c2 c8 => ∃ k v : Nat, k ≤ m ∧ k ≤ 9 ∧ c8 = .int .i64 (k : Int) ∧ c2 = .int .u64 (v : Int) ∧ v < 2 ^ (7 * k) ∧ v < 18446744073709551616 ∧ Hid (ug k v (L.drop k) = uv L)) (fun _ i => m - (intOf i).toNat)
  case atStart => exact ⟨0, 0, by omega, by omega, rfl, rfl, by simp, by omega, rfl⟩
  case round =>
    obtain ⟨k, v, hk, hk9, rfl, rfl, hvk, hv64, HU⟩ := hrel
    by_cases hlt : k < m
    · have hkL : k < L.length := by rw [HN.out]; omega
      obtain ⟨b, o, rfl, _, hx⟩ := HV.out.pos (by omega)
      have e1 := hx k hkL
      have d1 := allB_at HL.out k
      have hu := HU.out
      rw [drop_one L k hkL] at hu
      obtain ⟨x, hxe⟩ : ∃ x, x = L.getD k 0 := ⟨_, rfl⟩
      rw [← hxe] at e1 d1 hu
      have HUU := Lib.hid hu
      have q1 := and_more x d1
      clear hxe hu hkL hx HU
      have k0 : (0 : Int) ≤ (k : Int) := by omega
      have x0 : (0 : Int) ≤ (x : Int) := by omega
      by_cases h9 : k = 9
      · subst h9
        have p9 : ((9 : Int) == 9) = true := rfl
        by_cases hx1 : 1 < x
        · have hr : uv L = (0, 0) := by rw [← HUU.out]; exact ug_ten rfl hx1
          have HR := Lib.hid hr
          have t1 : decide ((1 : Int) < (x : Int)) = true := decide_eq_true (by omega)
          clear hr hx1
          go_wp2
          go_ret2
          exact ⟨by rw [HR.out]; rfl, rfl⟩
        · have t1 : decide ((1 : Int) < (x : Int)) = false := decide_eq_false (by omega)
          by_cases hx0 : x = 0
          · have hr : uv L = (0, 0) := by rw [← HUU.out]; exact ug_zero (by omega) hx0
            have HR := Lib.hid hr
            subst hx0
            clear hr
            go_wp2
            go_ret2
            exact ⟨by rw [HR.out]; rfl, rfl⟩
          · obtain ⟨b1, b2, _, _⟩ := or_group v x 9 hvk (Or.inr ⟨rfl, by omega⟩)
            have a1 : IntKind.u64.wrap ((x : Int) % 128 * 9223372036854775808) = (x : Int) % 128 * 9223372036854775808 := b1
            have a2 : bits .or .u64 (v : Int) ((x : Int) % 128 * 9223372036854775808) = (v : Int) + (x : Int) % 128 * 9223372036854775808 := b2
            have hr : uv L = (v + x % 128 * 9223372036854775808, 10) := by rw [← HUU.out, ug_end (by omega) (by omega) (by omega), Nat.mod_eq_of_lt (by omega : x < 128)]
            have HR := Lib.hid hr
            have t2 : ((x : Int) == 0) = false := by simp; omega
            have t3 : (x : Int) < 128 := by omega
            clear hr b1 b2 hvk
            go_wp2
            go_ret2
            exact ⟨by rw [HR.out]; rfl, rfl⟩
      · have p9 : ((k : Int) == 9) = false := by simp; omega
        obtain ⟨a1, a2, a3, a4⟩ := or_group v x k hvk (Or.inl (by omega))
        by_cases hk0 : k = 0
        · subst hk0
          have hv0 : v = 0 := by simpa using hvk
          subst hv0
          rw [Nat.add_zero] at e1
          have b2 : bits .or .u64 0 ((x : Int) % 128) = (x : Int) % 128 := by simpa using a2
          clear a1 a2 a3 a4 hvk p9
          by_cases hC : x < 128
          · have hr : uv L = (x, 1) := by rw [← HUU.out, ug_end (by omega) (by omega) hC]; simp
            have HR := Lib.hid hr
            have t3 : (x : Int) < 128 := by omega
            have b3 : (x : Int) % 128 = (x : Int) := by omega
            have b4 : bits .or .u64 0 (x : Int) = (x : Int) := by rw [b3] at b2; exact b2
            clear hr b2
            by_cases hx0 : x = 0
            · subst hx0
              go_wp2
              go_ret2
              exact ⟨by rw [HR.out]; rfl, rfl⟩
            · have t2 : ((x : Int) == 0) = false := by simp; omega
              go_wp2
              go_ret2
              exact ⟨by rw [HR.out]; rfl, rfl⟩
          · have hu : Hid (ug 1 (x % 128) (L.drop 1) = uv L) := Lib.hid (by rw [← HUU.out, ug_on (by omega) (by omega), show x - 128 = x % 128 by omega]; simp)
            have t3 : decide ((x : Int) < 128) = false := decide_eq_false (by omega)
            have hx8 : x % 128 < 2 ^ (7 * 1) := by omega
            go_wp2
            go_round
            case rel => exact ⟨1, x % 128, by omega, by omega, rfl, rfl, hx8, by omega, hu⟩
            case measure => simp [intOf]; omega
        · by_cases hB : x = 0
          · subst hB
            have hr : uv L = (0, 0) := by rw [← HUU.out]; exact ug_zero (by omega) rfl
            have HR := Lib.hid hr
            have t1 : (0 : Int) < (k : Int) := by omega
            clear hr hvk a3
            go_wp2
            go_ret2
            exact ⟨by rw [HR.out]; rfl, rfl⟩
          · have t1 : (0 : Int) < (k : Int) := by omega
            have t2 : ((x : Int) == 0) = false := by simp; omega
            by_cases hC : x < 128
            · have hr : uv L = (v + x % 128 * 2 ^ (7 * k), k + 1) := by rw [← HUU.out, ug_end (by omega) (by omega) hC, Nat.mod_eq_of_lt hC]
              have HR := Lib.hid hr
              have t3 : (x : Int) < 128 := by omega
              clear hr hvk a3
              go_wp2
              go_ret2
              exact ⟨by rw [HR.out]; simp, rfl⟩
            · have hu : Hid (ug (k + 1) (v + x % 128 * 2 ^ (7 * k)) (L.drop (k + 1)) = uv L) := Lib.hid (by rw [← HUU.out, ug_on (by omega) (by omega), show x - 128 = x % 128 by omega])
              have t3 : decide ((x : Int) < 128) = false := decide_eq_false (by omega)
              have A3 := Lib.hid a3
              clear hvk a3
              go_wp2
              go_round
              case rel => exact ⟨k + 1, _, by omega, by omega, by go_num, by simp, A3.out, a4, hu⟩
              case measure => simp [intOf]; omega
    · have hkm : k = m := by omega
      subst hkm
      have hr : uv L = (0, 0) := by rw [← HU.out, List.drop_of_length_le (by rw [HN.out]; omega)]; rfl
      have HR := Lib.hid hr
      clear hr
      go_wp2
      go_ret2
      exact ⟨by rw [HR.out]; rfl, rfl⟩

end Go.Proofs.Ytennafmbefnnmaa
