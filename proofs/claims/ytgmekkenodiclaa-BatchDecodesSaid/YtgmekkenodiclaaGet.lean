/- Proved: what get, Get32 and Get64, and the document's own Get, read: the number of the first four or eight bytes, or that there are fewer. -/
import Derived.Test.YtgmekkenodiclaaPut
namespace Go.Proofs.Ytgmekkenodiclaa
open Go.RowKit

theorem or_shift (v c s : Nat) (hv : v < 2 ^ s) (hc : c < 256) (hs : s ≤ 56) : bits .or .u64 (v : Int) ((c : Int) * 2 ^ s) = ((v + c * 2 ^ s : Nat) : Int) := by
  have hp : 2 ^ s ≤ 2 ^ 56 := Nat.pow_le_pow_right (by omega) hs
  have hm : c * 2 ^ s ≤ 255 * 2 ^ 56 := Nat.mul_le_mul (by omega) hp
  have e : ((c : Int) * 2 ^ s) = ((c * 2 ^ s : Nat) : Int) := by simp
  rw [e, u64_or _ _ (by omega) (by omega) (by omega) (by omega), Int.toNat_natCast, Int.toNat_natCast, Nat.or_comm, Nat.mul_comm, ← Nat.two_pow_add_eq_or_of_lt hv c]
  omega
/-- What a shift by a place leaves. -/
theorem shl_byte (c s : Nat) (hc : c < 256) (hs : s ≤ 56) : IntKind.u64.wrap ((c : Int) * 2 ^ s) = (c : Int) * 2 ^ s := by
  have hp : 2 ^ s ≤ 2 ^ 56 := Nat.pow_le_pow_right (by omega) hs
  have hm : c * 2 ^ s ≤ 255 * 2 ^ 56 := Nat.mul_le_mul (by omega) hp
  have e : ((c : Int) * 2 ^ s) = ((c * 2 ^ s : Nat) : Int) := by simp
  rw [e, IntKind.wrap_u64]
  omega

set_option maxHeartbeats 1000000 in
set_option maxRecDepth 100000 in
theorem get_no (A : Option Addr) (m c n : Nat) (h : m < n) (w : World) :
    Calls Try.prog 50 #[.slice A m c, .int .i64 (n : Int)] w fun e w' => e = .returned (.tuple #[.int .u64 0, .bool false]) ∧ w = w' := by
  have q : decide (m < n) = true := decide_eq_true h
  go_enter Try.func50, Try.ntmps50
  go_wp2
  go_ret2
  exact ⟨rfl, rfl⟩
set_option maxHeartbeats 1000000 in
set_option maxRecDepth 100000 in
theorem rget_no (A : Option Addr) (m c n : Nat) (h : m < n) (w : World) :
    Calls Try.prog 41 #[.slice A m c, .int .i64 (n : Int)] w fun e w' => e = .returned (.tuple #[.int .u64 0, .bool false]) ∧ w = w' := by
  have q : decide (m < n) = true := decide_eq_true h
  go_enter Try.func41, Try.ntmps41
  go_wp2
  go_ret2
  exact ⟨rfl, rfl⟩

set_option maxHeartbeats 2000000 in
set_option maxRecDepth 100000 in
theorem get_yes (A : Option Addr) (m c n : Nat) (L : List Nat) (hn : n ≤ 8) (h0 : 0 < n) (h : n ≤ m) (hc : m ≤ c) (hl : L.length = m) (hL : AllB L) (w : World) (hv : BV w A L) :
    Calls Try.prog 50 #[.slice A m c, .int .i64 (n : Int)] w fun e w' => e = .returned (.tuple #[.int .u64 (gt (L.take n) : Int), .bool true]) ∧ w = w' := by
  have q : decide (m < n) = false := decide_eq_false (by omega)
  obtain ⟨b, o, rfl, _, hx⟩ := hv.pos (by omega)
  have HX := Lib.hid hx
  have HL := Lib.hid hL
  have HN := Lib.hid hl
  clear hx hL hl hv
  go_enter Try.func50, Try.ntmps50
  go_wp2
  go_loop [4, 16] (fun c4 c16 => ∃ k : Nat, k ≤ n ∧ c16 = .int .i64 (k : Int) ∧ c4 = .int .u64 (gt (L.take k) : Int)) (fun _ i => n - (intOf i).toNat)
  case atStart => exact ⟨0, by omega, rfl, rfl⟩
  case round =>
    obtain ⟨k, hk, rfl, rfl⟩ := hrel
    by_cases hlt : k < n
    · have hkL : k < L.length := by rw [HN.out]; omega
      have e1 := HX.out k hkL
      have d1 := allB_at HL.out k
      have ht := gt_take L k hkL
      have hg := gt_lt (L.take k) (allB_take HL.out k)
      rw [List.length_take, Nat.min_eq_left (by omega)] at hg
      obtain ⟨x, hxe⟩ : ∃ x, x = L.getD k 0 := ⟨_, rfl⟩
      rw [← hxe] at e1 d1 ht
      obtain ⟨y, hye⟩ : ∃ y, y = gt (L.take k) := ⟨_, rfl⟩
      rw [← hye] at hg ht ⊢
      have q1 := shl_byte x (8 * k) d1 (by omega)
      have q2 := or_shift y x (8 * k) hg d1 (by omega)
      have HT := Lib.hid ht
      have hp : y < 18446744073709551616 := Nat.lt_of_lt_of_le hg (Nat.pow_le_pow_right (by omega) (show 8 * k ≤ 64 by omega))
      clear hxe hye ht hkL hg
      go_wp2
      go_round
      case rel => exact ⟨k + 1, by omega, by go_num, by rw [HT.out]; simp⟩
      case measure => simp [intOf]; omega
    · have hkn : k = n := by omega
      subst hkn
      go_wp2
      go_ret2
      exact ⟨rfl, rfl⟩

theorem or_next (y x : Nat) (hy : y < 72057594037927936) (hx : x < 256) : bits .or .u64 ((y : Int) * 256) (x : Int) = ((x + 256 * y : Nat) : Int) := by
  have e : ((y : Int) * 256) = ((2 ^ 8 * y : Nat) : Int) := by omega
  rw [e, u64_or _ _ (by omega) (by omega) (by omega) (by omega), Int.toNat_natCast, Int.toNat_natCast, ← Nat.two_pow_add_eq_or_of_lt (by omega : x < 2 ^ 8) y]
  omega
set_option maxHeartbeats 2000000 in
set_option maxRecDepth 100000 in
theorem rget_yes (A : Option Addr) (m c n : Nat) (L : List Nat) (hn : n ≤ 8) (h0 : 0 < n) (h : n ≤ m) (hl : L.length = m) (hL : AllB L) (w : World) (hv : BV w A L) :
    Calls Try.prog 41 #[.slice A m c, .int .i64 (n : Int)] w fun e w' => e = .returned (.tuple #[.int .u64 (gt (L.take n) : Int), .bool true]) ∧ w = w' := by
  have q : decide (m < n) = false := decide_eq_false (by omega)
  obtain ⟨b, o, rfl, _, hx⟩ := hv.pos (by omega)
  have HX := Lib.hid hx
  have HL := Lib.hid hL
  have HN := Lib.hid hl
  obtain ⟨M, hM⟩ : ∃ M, M = L.take n := ⟨_, rfl⟩
  have hml : M.length = n := by rw [hM, List.length_take]; omega
  have hMat : ∀ j, j < n → M.getD j 0 = L.getD j 0 := fun j hj => by
    rw [hM]; simp only [List.getD_eq_getElem?_getD, List.getElem?_take, if_pos hj]
  have hmB : AllB M := by rw [hM]; exact allB_take hL n
  rw [← hM]
  have HM := Lib.hid hml
  have HMA := Lib.hid hMat
  have HMB := Lib.hid hmB
  clear hx hL hl hv hM hml hMat hmB
  go_enter Try.func41, Try.ntmps41
  go_wp2
  go_loop [6, 7] (fun c6 c7 => ∃ k : Nat, k ≤ n ∧ c7 = .int .i64 ((k : Int) - 1) ∧ c6 = .int .u64 (gt (M.drop k) : Int)) (fun _ i => (intOf i + 1).toNat)
  case atStart => exact ⟨n, by omega, rfl, by rw [List.drop_of_length_le (by rw [HM.out]; omega)]; rfl⟩
  case round =>
    obtain ⟨k, hk, rfl, rfl⟩ := hrel
    by_cases hlt : 0 < k
    · obtain ⟨j, rfl⟩ : ∃ j, k = j + 1 := ⟨k - 1, by omega⟩
      have e1 := HX.out j (by rw [HN.out]; omega)
      have d1 := allB_at HL.out j
      have ht := gt_drop M j (by rw [HM.out]; omega)
      have hg := gt_lt (M.drop (j + 1)) (allB_drop HMB.out _)
      rw [List.length_drop, HM.out] at hg
      rw [HMA.out j (by omega)] at ht
      obtain ⟨x, hxe⟩ : ∃ x, x = L.getD j 0 := ⟨_, rfl⟩
      rw [← hxe] at e1 d1 ht
      obtain ⟨y, hye⟩ : ∃ y, y = gt (M.drop (j + 1)) := ⟨_, rfl⟩
      rw [← hye] at hg ht ⊢
      have hy : y < 72057594037927936 := Nat.lt_of_lt_of_le hg (Nat.pow_le_pow_right (by omega) (show 8 * (n - (j + 1)) ≤ 56 by omega))
      have q1 := or_next y x hy d1
      have q2 : IntKind.u64.wrap ((y : Int) * 256) = (y : Int) * 256 := by rw [IntKind.wrap_u64]; omega
      have q3 : ((j + 1 : Nat) : Int) - 1 = (j : Int) := by omega
      have HT := Lib.hid ht
      rw [q3]
      clear hxe hye ht hg q3
      go_wp2
      go_round
      case rel => exact ⟨j, by omega, by go_num, by rw [HT.out]; simp⟩
      case measure => simp [intOf]
    · have hkn : k = 0 := by omega
      subst hkn
      go_wp2
      go_ret2
      exact ⟨rfl, rfl⟩

/-- What is read of the first n bytes. -/
def gn (L : List Nat) (n : Nat) : Nat := if n ≤ L.length then gt (L.take n) else 0
theorem gn_lt (L : List Nat) (n : Nat) (hL : AllB L) : gn L n < 2 ^ (8 * n) := by
  unfold gn; split
  · have := gt_lt (L.take n) (allB_take hL n)
    rwa [List.length_take, Nat.min_eq_left (by omega)] at this
  · exact Nat.two_pow_pos _
theorem get_any (A : Option Addr) (m c n : Nat) (L : List Nat) (hn : n ≤ 8) (h0 : 0 < n) (hc : m ≤ c) (hl : L.length = m) (hL : AllB L) (w : World) (hv : BV w A L) :
    Calls Try.prog 50 #[.slice A m c, .int .i64 (n : Int)] w fun e w' => e = .returned (.tuple #[.int .u64 (gn L n : Int), .bool (decide (n ≤ m))]) ∧ w = w' := by
  by_cases h : n ≤ m
  · rw [decide_eq_true h, show gn L n = gt (L.take n) by unfold gn; rw [if_pos (by omega)]]
    exact get_yes A m c n L hn h0 h hc hl hL w hv
  · rw [decide_eq_false h, show gn L n = 0 by unfold gn; rw [if_neg (by omega)]]
    exact get_no A m c n (by omega) w
theorem rget_any (A : Option Addr) (m c n : Nat) (L : List Nat) (hn : n ≤ 8) (h0 : 0 < n) (hl : L.length = m) (hL : AllB L) (w : World) (hv : BV w A L) :
    Calls Try.prog 41 #[.slice A m c, .int .i64 (n : Int)] w fun e w' => e = .returned (.tuple #[.int .u64 (gn L n : Int), .bool (decide (n ≤ m))]) ∧ w = w' := by
  by_cases h : n ≤ m
  · rw [decide_eq_true h, show gn L n = gt (L.take n) by unfold gn; rw [if_pos (by omega)]]
    exact rget_yes A m c n L hn h0 h hl hL w hv
  · rw [decide_eq_false h, show gn L n = 0 by unfold gn; rw [if_neg (by omega)]]
    exact rget_no A m c n (by omega) w
set_option maxRecDepth 100000 in
theorem get32_any (A : Option Addr) (m c : Nat) (L : List Nat) (hc : m ≤ c) (hl : L.length = m) (hL : AllB L) (w : World) (hv : BV w A L) :
    Calls Try.prog 49 #[.slice A m c] w fun e w' => e = .returned (.tuple #[.int .u32 (gn L 4 : Int), .bool (decide (4 ≤ m))]) ∧ w = w' := by
  have hg : gn L 4 < 4294967296 := gn_lt L 4 hL
  have HG := Lib.hid (get_any A m c 4 L (by omega) (by omega) hc hl hL w hv)
  obtain ⟨x, hx⟩ : ∃ x, x = gn L 4 := ⟨_, rfl⟩
  rw [← hx] at HG hg ⊢
  obtain ⟨q, hq⟩ : ∃ q, q = decide (4 ≤ m) := ⟨_, rfl⟩
  rw [← hq] at HG ⊢
  clear hx hq hl
  go_enter Try.func49, Try.ntmps49
  go_wp2_with (go_at_call 50; refine HG.out.mono ?_; rintro e w1 ⟨rfl, rfl⟩)
  go_ret2
  exact ⟨rfl, rfl⟩
set_option maxRecDepth 100000 in
theorem get64_any (A : Option Addr) (m c : Nat) (L : List Nat) (hc : m ≤ c) (hl : L.length = m) (hL : AllB L) (w : World) (hv : BV w A L) :
    Calls Try.prog 40 #[.slice A m c] w fun e w' => e = .returned (.tuple #[.int .u64 (gn L 8 : Int), .bool (decide (8 ≤ m))]) ∧ w = w' := by
  have HG := Lib.hid (get_any A m c 8 L (by omega) (by omega) hc hl hL w hv)
  obtain ⟨x, hx⟩ : ∃ x, x = gn L 8 := ⟨_, rfl⟩
  rw [← hx] at HG ⊢
  obtain ⟨q, hq⟩ : ∃ q, q = decide (8 ≤ m) := ⟨_, rfl⟩
  rw [← hq] at HG ⊢
  clear hx hq hl
  go_enter Try.func40, Try.ntmps40
  go_wp2_with (go_at_call 50; refine HG.out.mono ?_; rintro e w1 ⟨rfl, rfl⟩)
  go_ret2
  exact ⟨rfl, rfl⟩

end Go.Proofs.Ytgmekkenodiclaa
