/- Proved: what the landed Varint and the document's own lay: a number's groups, in memory of their own. -/
import Derived.Test.YtennafmbefnnmaaMem
namespace Go.Proofs.Ytennafmbefnnmaa
open Go.RowKit

theorem or_more (x : Nat) : bits .or .u8 ((x : Int) % 256) 128 = ((x % 128 + 128 : Nat) : Int) := by
  have h : ∀ c, c < 256 → c ||| 128 = c % 128 + 128 := by decide +kernel
  have := u8_or ((x : Int) % 256) 128 (by omega) (by omega) (by omega) (by omega)
  rw [this]
  congr 1
  have e : ((x : Int) % 256).toNat = x % 256 := by omega
  rw [e]
  show x % 256 ||| 128 = _
  rw [h _ (by omega)]; omega
theorem and_low (x : Nat) (hx : x < 18446744073709551616) : bits .and .u64 (x : Int) 127 = ((x % 128 : Nat) : Int) := by
  rw [u64_and _ _ (by omega) (by omega) (by omega) (by omega)]
  congr 1
  rw [Int.toNat_natCast]
  show x &&& 127 = _
  exact Nat.and_two_pow_sub_one_eq_mod x 7
theorem or_low (y : Nat) (hy : y < 128) : bits .or .u64 (y : Int) 128 = ((y + 128 : Nat) : Int) := by
  have h : ∀ c, c < 128 → c ||| 128 = c + 128 := by decide +kernel
  rw [u64_or _ _ (by omega) (by omega) (by omega) (by omega)]
  congr 1
  rw [Int.toNat_natCast]
  show y ||| 128 = _
  exact h y hy
theorem vi_snoc {P : List Nat} {x v : Nat} (h : P ++ vi x = vi v) (hx : 128 ≤ x) : (P ++ [x % 128 + 128]) ++ vi (x / 128) = vi v := by
  rw [← h, vi_hi hx]; simp
theorem one_cell (w : World) (c : Nat) (e : TypeId) : ∀ j u, [bt c][j]? = some u → (w.alloc (.cells #[.int .u8 (c : Int)] e)).cell? ((⟨w.heap.size, 0, none⟩ : Addr).add j) = some u := by
  intro j u hj
  match j, hj with
  | 0, hj => simp at hj; subst hj; simp [Addr.add, bt]

set_option maxHeartbeats 1000000 in
set_option maxRecDepth 100000 in
theorem varint_any (v : Nat) (hv : v < 18446744073709551616) (w : World) :
    Calls Try.prog 15 #[.int .u64 (v : Int)] w (Lays (vi v) w) := by
  obtain ⟨i0, hi, hz0, hz1, hz2⟩ := info_parts info_u8
  obtain ⟨B, hB⟩ : ∃ B, B = w.heap.size := ⟨_, rfl⟩
  have HB := Lib.hid hB
  have HT := Lib.hid (vi_ten hv)
  clear hB
  go_enter Try.func15, Try.ntmps15
  go_wp2
  go_loopw [0, 3] (fun c0 c3 wr => ∃ (x : Nat) (P : List Nat), c0 = .int .u64 (x : Int) ∧ x < 18446744073709551616 ∧ Hid (P ++ vi x = vi v) ∧ wr.ownsRow B 5 1 c3 P.length (P.map bt) ∧ Below B w wr) (fun c0 _ _ => (intOf c0).toNat)
  case atStart => exact ⟨v, [], rfl, hv, rfl, World.ownsRow_nil _ _ _ _, Below.refl _ _⟩
  case round =>
    obtain ⟨x, P, rfl, hx, HP, hown, hnx⟩ := hrel
    have hsz : B ≤ wr.heap.size := by rw [HB.out]; exact hnx.size
    have hpl : P.length ≤ 10 := by have := congrArg List.length HP.out; rw [List.length_append] at this; have := HT.out; omega
    have q1 := or_more x
    by_cases hlt : 128 ≤ x
    · have HP2 := Lib.hid (vi_snoc HP.out hlt)
      go_wp2_with (at_builtin; refine wpList_append_own _ rfl _ _ 22 rfl B 5 i0 (.int .u8 0) 1 1 Try.underlying22 hi hz0 hz1 hz2 rfl (by decide) _ _ _ rfl (hown.alloc _) ⟨wr.heap.size, 0, none⟩ 1 1 [bt (x % 128 + 128)] rfl rfl (one_cell _ _ _) (bt_one [_]) (by unfold maxLen; omega) (by omega) (by simp; omega) ?_; intro v' w1 hown' hgrow _)
      have R1 : w1.ownsRow B 5 1 v' (P ++ [x % 128 + 128]).length ((P ++ [x % 128 + 128]).map bt) := by simpa using hown'
      have R2 : Below B w w1 := (hnx.alloc hsz _).grown hgrow (by simp; omega) (fun j hj => (hown.lt j hj).1)
      clear hown' hgrow hown hnx
      go_roundw
      case rel => exact ⟨x / 128, P ++ [x % 128 + 128], by go_num, by omega, HP2, R1, R2⟩
      case measure => simp [intOf]; omega
    · have HP2 : Hid (P ++ [x] = vi v) := Lib.hid (by rw [← HP.out, vi_lo (by omega)])
      have hx2 : x < 128 := by omega
      go_wp2_with (at_builtin; refine wpList_append_own _ rfl _ _ 22 rfl B 5 i0 (.int .u8 0) 1 1 Try.underlying22 hi hz0 hz1 hz2 rfl (by decide) _ _ _ rfl (hown.alloc _) ⟨wr.heap.size, 0, none⟩ 1 1 [bt x] rfl rfl (one_cell _ _ _) (bt_one [_]) (by unfold maxLen; omega) (by omega) (by simp; omega) ?_; intro v' w1 hown' hgrow _)
      have R1 : w1.ownsRow B 5 1 v' (vi v).length ((vi v).map bt) := by rw [← HP2.out]; simpa using hown'
      have R2 : Below B w w1 := (hnx.alloc hsz _).grown hgrow (by simp; omega) (fun j hj => (hown.lt j hj).1)
      clear hown' hgrow hown hnx
      go_wp2
      go_ret
      have hB := HB.out
      subst hB
      exact lays_own R1 (vi_pos v) R2

set_option maxHeartbeats 1000000 in
set_option maxRecDepth 100000 in
theorem rvarint_any (v : Nat) (hv : v < 18446744073709551616) (w : World) :
    Calls Try.prog 16 #[.int .u64 (v : Int)] w (Lays (vi v) w) := by
  obtain ⟨i0, hi, hz0, hz1, hz2⟩ := info_parts info_u8
  obtain ⟨B, hB⟩ : ∃ B, B = w.heap.size := ⟨_, rfl⟩
  have HB := Lib.hid hB
  have HT := Lib.hid (vi_ten hv)
  clear hB
  go_enter Try.func16, Try.ntmps16
  go_wp2
  go_loopw [0, 3] (fun c0 c3 wr => ∃ (x : Nat) (P : List Nat), c0 = .int .u64 (x : Int) ∧ x < 18446744073709551616 ∧ Hid (P ++ vi x = vi v) ∧ wr.ownsRow B 5 1 c3 P.length (P.map bt) ∧ Below B w wr) (fun c0 _ _ => (intOf c0).toNat)
  case atStart => exact ⟨v, [], rfl, hv, rfl, World.ownsRow_nil _ _ _ _, Below.refl _ _⟩
  case round =>
    obtain ⟨x, P, rfl, hx, HP, hown, hnx⟩ := hrel
    have hsz : B ≤ wr.heap.size := by rw [HB.out]; exact hnx.size
    have hpl : P.length ≤ 10 := by have := congrArg List.length HP.out; rw [List.length_append] at this; have := HT.out; omega
    have q0 := and_low x hx
    have q1 : bits .or .u64 ((x : Int) % 128) 128 = (x : Int) % 128 + 128 := by simpa using or_low (x % 128) (by omega)
    have q2 : ((x : Int) % 128 + 128) % 256 = (x : Int) % 128 + 128 := by omega
    by_cases hlt : 128 ≤ x
    · have HP2 := Lib.hid (vi_snoc HP.out hlt)
      go_wp2_with (at_builtin; refine wpList_append_own _ rfl _ _ 22 rfl B 5 i0 (.int .u8 0) 1 1 Try.underlying22 hi hz0 hz1 hz2 rfl (by decide) _ _ _ rfl (hown.alloc _) ⟨wr.heap.size, 0, none⟩ 1 1 [bt (x % 128 + 128)] rfl rfl (one_cell _ _ _) (bt_one [_]) (by unfold maxLen; omega) (by omega) (by simp; omega) ?_; intro v' w1 hown' hgrow _)
      have R1 : w1.ownsRow B 5 1 v' (P ++ [x % 128 + 128]).length ((P ++ [x % 128 + 128]).map bt) := by simpa using hown'
      have R2 : Below B w w1 := (hnx.alloc hsz _).grown hgrow (by simp; omega) (fun j hj => (hown.lt j hj).1)
      clear hown' hgrow hown hnx
      go_roundw
      case rel => exact ⟨x / 128, P ++ [x % 128 + 128], by go_num, by omega, HP2, R1, R2⟩
      case measure => simp [intOf]; omega
    · have HP2 : Hid (P ++ [x] = vi v) := Lib.hid (by rw [← HP.out, vi_lo (by omega)])
      have hx2 : x < 128 := by omega
      go_wp2_with (at_builtin; refine wpList_append_own _ rfl _ _ 22 rfl B 5 i0 (.int .u8 0) 1 1 Try.underlying22 hi hz0 hz1 hz2 rfl (by decide) _ _ _ rfl (hown.alloc _) ⟨wr.heap.size, 0, none⟩ 1 1 [bt x] rfl rfl (one_cell _ _ _) (bt_one [_]) (by unfold maxLen; omega) (by omega) (by simp; omega) ?_; intro v' w1 hown' hgrow _)
      have R1 : w1.ownsRow B 5 1 v' (vi v).length ((vi v).map bt) := by rw [← HP2.out]; simpa using hown'
      have R2 : Below B w w1 := (hnx.alloc hsz _).grown hgrow (by simp; omega) (fun j hj => (hown.lt j hj).1)
      clear hown' hgrow hown hnx
      go_wp2
      go_ret
      have hB := HB.out
      subst hB
      exact lays_own R1 (vi_pos v) R2

end Go.Proofs.Ytennafmbefnnmaa
