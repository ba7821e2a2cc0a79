/- Proved: FormatUint at base 16 gives the fourteen hexadecimal digits of a number from 2^52 to 2^53; what is made lies in new blocks. -/
import Derived.Test.YtlbnfnfenphfbaaGreatDoorEnv
import Derived.Laws.IdiomStrings
import Derived.Laws.Rows
import Derived.Lib.Walk
import Derived.BigCall
import Derived.BigGuard
import Derived.Deep.LoopGhost
import Derived.Outline
namespace Go.Proofs.YtlbnfnfenphfbaaGreatDoor
open Go.RowKit Fl Tx

theorem pow2_any (w : World) :
    Calls Tryz.prog 106 #[.int .i64 16] w fun e w' => e = .returned (.bool true) ∧ w = w' := by
  have hb : bits .and .i64 16 15 = 0 := by decide +kernel
  go_enter Tryz.func106, Tryz.ntmps106
  go_wp2
  go_ret
  exact ⟨rfl, rfl⟩

theorem tz64_any (w : World) (h : w.cell? ⟨6, 15, none⟩ = some (.int .u8 4)) :
    Calls Tryz.prog 112 #[.int .u64 16] w fun e w' => e = .returned (.int .i64 4) ∧ w = w' := by
  have e1 : IntKind.u64.wrap (-16) = 18446744073709551600 := by decide +kernel
  have e2 : bits .and .u64 16 18446744073709551600 = 16 := by decide +kernel
  go_enter Tryz.func112, Tryz.ntmps112
  go_wp2
  go_ret
  exact ⟨rfl, rfl⟩

theorem tz_any (w : World) (h : w.cell? ⟨6, 15, none⟩ = some (.int .u8 4)) :
    Calls Tryz.prog 107 #[.int .u64 16] w fun e w' => e = .returned (.int .i64 4) ∧ w = w' := by
  go_enter Tryz.func107, Tryz.ntmps107
  go_wp2_with (go_at_call 112; refine (tz64_any _ h).mono ?_; rintro e w' ⟨rfl, rfl⟩)
  go_ret
  exact ⟨rfl, rfl⟩

/-- The digits' text. -/
def dig36 : ByteArray := ⟨#[48, 49, 50, 51, 52, 53, 54, 55, 56, 57, 97, 98, 99, 100, 101, 102, 103, 104, 105, 106, 107, 108, 109, 110, 111, 112, 113, 114, 115, 116, 117, 118, 119, 120, 121, 122]⟩
theorem dig36_size : dig36.size = 36 := rfl
theorem dig36_fin : ∀ d : Fin 16, (if h : d.val < dig36.size then dig36[d.val]'h else 0) = hx d.val := by decide
theorem dig36_at (d : Nat) (hd : d < 16) (h : d < dig36.size) : dig36[d]'h = hx d := by
  have := dig36_fin ⟨d, hd⟩
  rwa [dif_pos h] at this

/-- The bytes of k digits stand at the end of the row. -/
def Tail (cs : Array Value) (p k f : Nat) : Prop := cs.size = 65 ∧ p + k = 65 ∧ ∀ (j : Nat) (hj : j < (hexA k f).length), cs[p + j]? = some (.int .u8 (((hexA k f)[j]).toNat : Int))

theorem tail_more (cs : Array Value) (q k u : Nat) (h : Tail cs (q + 1) k (u % 16 ^ k)) :
    Tail (cs.setIfInBounds q (.int .u8 ((hx (u / 16 ^ k % 16)).toNat : Int))) q (k + 1) (u % 16 ^ (k + 1)) := by
  obtain ⟨h1, h2, h3⟩ := h
  have hp : 0 < 16 ^ k := Nat.pow_pos (by decide)
  have e1 : u % 16 ^ (k + 1) / 16 ^ k = u / 16 ^ k % 16 := by rw [Nat.pow_succ, Nat.mod_mul_right_div_self]
  have e2 : u % 16 ^ (k + 1) % 16 ^ k = u % 16 ^ k := by rw [Nat.pow_succ, Nat.mod_mul_right_mod]
  refine ⟨by simpa using h1, by omega, fun j hj => ?_⟩
  cases j with
  | zero =>
    simp only [hexA, e1, List.getElem_cons_zero, Nat.add_zero]
    rw [Array.getElem?_setIfInBounds_self_of_lt (by omega)]
  | succ i =>
    have hi : i < (hexA k (u % 16 ^ k)).length := by rw [hexA_length] at hj ⊢; omega
    simp only [hexA, e2, List.getElem_cons_succ]
    rw [Array.getElem?_setIfInBounds_ne (by omega), show q + (i + 1) = q + 1 + i by omega]
    exact h3 i hi

set_option maxHeartbeats 4000000 in
set_option maxRecDepth 100000 in
theorem fbits_hex (u : Nat) (h0 : 16 ^ 13 ≤ u) (h1 : u < 2 * 16 ^ 13) (w : World) (hE : Env w) :
    Calls Tryz.prog 95 #[.slice none 0 0, .int .u64 u, .int .i64 16, .bool false, .bool false] w fun e w' =>
      e = .returned (.tuple #[.slice none 0 0, .string ⟨(49 :: hexA 13 (u % 16 ^ 13)).toArray⟩]) ∧ Below w.heap.size w w' := by
  have hT := hE.bruijn
  have hT2 : ∀ o, (w.alloc o).cell? ⟨6, 15, none⟩ = some (.int .u8 4) := fun o => (World.cell?_alloc_lt w o _ (Lib.lt_of_cell hT)).trans hT
  have HU : Hid (16 ^ 13 ≤ u ∧ u < 2 * 16 ^ 13) := Lib.hid ⟨h0, h1⟩
  have u1 : u < 9007199254740992 := by simpa using h1
  clear h0 h1
  go_enter Tryz.func95, Tryz.ntmps95
  go_wp2_with (first | (go_at_call 106; refine (pow2_any _).mono ?_; rintro e w' ⟨rfl, rfl⟩) | (go_at_call 107; refine (tz_any _ (hT2 _)).mono ?_; rintro e w' ⟨rfl, rfl⟩))
  go_loopw [1, 13] (fun vu vi wr => ∃ (k m p : Nat) (cs : Array Value), vu = .int .u64 (m : Int) ∧ vi = .int .i64 (p : Int) ∧ Hid (wr.heap[w.heap.size]? = some (.cells cs 130 (0, 0))) ∧ Hid (k ≤ 13 ∧ m = u / 16 ^ k ∧ Tail cs p k (u % 16 ^ k)) ∧ Below w.heap.size w wr)
    (fun vu _ _ => (intOf vu).toNat)
  case atStart =>
    refine ⟨0, u, 65, _, rfl, rfl, Lib.hid (heap_alloc_new w _), Lib.hid ⟨by omega, by simp, by kernel_rfl, rfl, fun j hj => ?_⟩, (Below.refl _ _).alloc (Nat.le_refl _) _⟩
    simp [hexA] at hj
  case round =>
    obtain ⟨k, m, p, cs, rfl, rfl, HB, HK, hbw⟩ := hrel
    have hk := HK.out
    have hu := HU.out
    have hpw : 0 < 16 ^ k := Nat.pow_pos (by decide)
    have hp : p + k = 65 := hk.2.2.2.1
    have hcs : cs.size = 65 := hk.2.2.1
    have hm : m < 9007199254740992 := by rw [hk.2.1]; exact Nat.lt_of_le_of_lt (Nat.div_le_self _ _) u1
    have hk13 : k ≤ 13 := hk.1
    obtain ⟨q, rfl⟩ : ∃ q, p = q + 1 := ⟨p - 1, by omega⟩
    have hq : q < 65 := by omega
    have hc : wr.cell? ⟨w.heap.size, q, none⟩ = some (cs[q]'(by omega)) := (cell_of_row wr w.heap.size q cs _ _ HB.out).trans (Array.getElem?_eq_getElem _)
    obtain ⟨x0, hx0⟩ : ∃ x, x = cs[q]'(by omega) := ⟨_, rfl⟩
    rw [← hx0] at hc
    clear hx0
    have hf : wr.frozen? ⟨w.heap.size, q, none⟩ = false := by
      have := HB.out
      simp [World.frozen?, this]
    by_cases h16 : 16 ≤ m
    · have hk12 : k ≤ 12 := by
        rcases Nat.lt_or_ge k 13 with h | h
        · omega
        · obtain rfl : k = 13 := by omega
          have : u / 16 ^ 13 < 2 := Nat.div_lt_of_lt_mul (by rw [Nat.mul_comm]; exact hu.2)
          omega
      have HN : Hid (k + 1 ≤ 13 ∧ m / 16 = u / 16 ^ (k + 1) ∧ Tail (cs.setIfInBounds q (.int .u8 ((hx (m % 16)).toNat : Int))) q (k + 1) (u % 16 ^ (k + 1))) := by
        refine Lib.hid ⟨by omega, by rw [hk.2.1, Nat.div_div_eq_div_mul, Nat.pow_succ], ?_⟩
        rw [hk.2.1]
        exact tail_more cs q k u hk.2.2
      have hand : bits .and .u64 (m : Int) 15 = ((m % 16 : Nat) : Int) := by
        rw [u64_and _ _ (by omega) (by omega) (by omega) (by omega)]
        have := Nat.and_two_pow_sub_one_eq_mod m 4
        simp only [Int.toNat_natCast, Int.reduceToNat]
        rw [show m &&& 15 = m % 16 from this]
      clear hk hu hcs hpw
      go_wp2
      go_roundw
      case rel => exact ⟨k + 1, m / 16, q, _, by go_num, by go_num, Lib.hid (by have h := HB.out; simp [World.setCell, Array.getElem?_modify, h]; exact congrArg (fun b : UInt8 => cs.setIfInBounds q (.int .u8 (b.toNat : Int))) (dig36_at (m % 16) (by omega) _)), HN, hbw.setCell (Nat.le_refl _) _⟩
      case measure => simp [intOf]; omega
    · have hk13' : k = 13 := by
        rcases Nat.lt_or_ge k 13 with h | h
        · exfalso
          have : 16 ^ (k + 1) ≤ 16 ^ 13 := Nat.pow_le_pow_right (by decide) (by omega)
          have : 16 ≤ u / 16 ^ k := by
            rw [Nat.le_div_iff_mul_le hpw, Nat.mul_comm, ← Nat.pow_succ]
            omega
          omega
        · omega
      subst hk13'
      have hm1 : m = 1 := by
        have a : u / 16 ^ 13 < 2 := Nat.div_lt_of_lt_mul (by rw [Nat.mul_comm]; exact hu.2)
        have b : 1 ≤ u / 16 ^ 13 := by rw [Nat.le_div_iff_mul_le hpw]; omega
        omega
      obtain rfl : q = 51 := by omega
      have HT : Hid (Tail cs 52 13 (u % 16 ^ 13)) := Lib.hid hk.2.2
      clear hk hu
      subst hm1
      obtain ⟨b1, hb1⟩ : ∃ b1, b1 = dig36[1]'(by decide) := ⟨_, rfl⟩
      have hb49 : b1 = 49 := by rw [hb1]; rfl
      have hcv : (convert 48 9 (.slice (some ⟨w.heap.size, 51, none⟩) 14 14)).run Tryz.prog (wr.setCell ⟨w.heap.size, 51, none⟩ (.int .u8 (b1.toNat : Int))) = .ok (.string ⟨(49 :: hexA 13 (u % 16 ^ 13)).toArray⟩) (wr.setCell ⟨w.heap.size, 51, none⟩ (.int .u8 (b1.toNat : Int))) := by
        have h := run_convert_bytes_back (P := Tryz.prog) (wr.setCell ⟨w.heap.size, 51, none⟩ (.int .u8 (b1.toNat : Int))) 48 9 5 ⟨w.heap.size, 51, none⟩ 14 (49 :: hexA 13 (u % 16 ^ 13)) Tryz.underlying48 Tryz.underlying5 Tryz.underlying9 (fun j hj => by
          have hadd : (⟨w.heap.size, 51, none⟩ : Addr).add j = ⟨w.heap.size, 51 + j, none⟩ := by unfold Addr.add; split <;> simp_all
          rw [hadd]
          cases j with
          | zero => rw [List.getElem_cons_zero, World.cell?_setCell_same _ _ _ hc, hb49]
          | succ i =>
            have hi : i < (hexA 13 (u % 16 ^ 13)).length := by simpa using hj
            rw [World.cell?_setCell_other _ _ _ _ (by simp), List.getElem_cons_succ]
            rw [cell_of_row wr w.heap.size _ cs _ _ HB.out, show 51 + (i + 1) = 52 + i by omega]
            exact HT.out.2.2 i hi)
        rw [List.length_cons, hexA_length] at h
        exact h
      rw [hb1] at hcv
      unfold dig36 at hcv
      clear hb1 hb49
      have hal : Tryz.prog.arrayLen 130 = 65 := by simp [Program.arrayLen, Tryz.underlying130]
      have hsl : ∀ W, (Instr.sliceAt 130 (.pointer (some ⟨w.heap.size, 0, none⟩)) (some (.int .i64 51)) none none).run Tryz.prog W = .ok (.slice (some ⟨w.heap.size, 51, none⟩) 14 14) W := fun W => by
        rw [run_sliceAt_array_l W 130 ⟨w.heap.size, 0, none⟩ (by simp [Program.arrayLen, Program.elem, Tryz.underlying130]) .i64 51 (by omega) (by rw [hal]; omega)]
        go_simp
      clear hal
      go_wp2
      go_ret2
      exact ⟨rfl, hbw.setCell (Nat.le_refl _) _⟩

theorem ifu_hex (u : Nat) (h0 : 16 ^ 13 ≤ u) (h1 : u < 2 * 16 ^ 13) (w : World) (hE : Env w) :
    Calls Tryz.prog 74 #[.int .u64 u, .int .i64 16] w fun e w' => e = .returned (.string ⟨(49 :: hexA 13 (u % 16 ^ 13)).toArray⟩) ∧ Below w.heap.size w w' := by
  have HU : Hid (16 ^ 13 ≤ u ∧ u < 2 * 16 ^ 13) := Lib.hid ⟨h0, h1⟩
  clear h0 h1
  go_enter Tryz.func74, Tryz.ntmps74
  go_wp2_with (go_at_call 95; refine (fbits_hex u HU.out.1 HU.out.2 _ hE).mono ?_; rintro e w' ⟨rfl, hb⟩)
  go_ret
  exact ⟨rfl, hb⟩

theorem fu_hex (u : Nat) (h0 : 16 ^ 13 ≤ u) (h1 : u < 2 * 16 ^ 13) (w : World) (hE : Env w) :
    Calls Tryz.prog 53 #[.int .u64 u, .int .i64 16] w fun e w' => e = .returned (.string ⟨(49 :: hexA 13 (u % 16 ^ 13)).toArray⟩) ∧ Below w.heap.size w w' := by
  have HU : Hid (16 ^ 13 ≤ u ∧ u < 2 * 16 ^ 13) := Lib.hid ⟨h0, h1⟩
  clear h0 h1
  go_enter Tryz.func53, Tryz.ntmps53
  go_wp2_with (go_at_call 74; refine (ifu_hex u HU.out.1 HU.out.2 _ hE).mono ?_; rintro e w' ⟨rfl, hb⟩)
  go_ret
  exact ⟨rfl, hb⟩

end Go.Proofs.YtlbnfnfenphfbaaGreatDoor
