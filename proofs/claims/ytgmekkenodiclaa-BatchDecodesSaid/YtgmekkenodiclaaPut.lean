/- Proved: what put, Put32 and Put64, and the document's own Put, lay: so many bytes of a number, the least first, in memory of their own. -/
import Derived.Test.YtgmekkenodiclaaMem
namespace Go.Proofs.Ytgmekkenodiclaa
open Go.RowKit

theorem make_u8 (n : Nat) (hn : n ≤ 1000) (w : World) : (Instr.makeSlice 39 (.int .i64 (n : Int)) (.int .i64 (n : Int))).run Try.prog w =
    .ok (.slice (some ⟨w.heap.size, 0, none⟩) n n) (w.alloc (.cells (madeCells (Value.int .u8 0).cells n) 5)) := by
  obtain ⟨i0, hi, hz0, hz1, hz2⟩ := info_parts info_u8
  have h := run_make (P := Try.prog) w 39 5 i0 (.int .u8 0) Try.underlying39 hi hz0 .i64 .i64 n n (by omega) (by omega) (by rw [hz2]; omega) (by omega)
  rw [h, hz1]
  simp only [Int.toNat_natCast, Nat.mul_one]
theorem made8 : madeCells (Value.int .u8 0).cells 8 = #[.int .u8 0, .int .u8 0, .int .u8 0, .int .u8 0, .int .u8 0, .int .u8 0, .int .u8 0, .int .u8 0] := by kernel_rfl
theorem made4 : madeCells (Value.int .u8 0).cells 4 = #[.int .u8 0, .int .u8 0, .int .u8 0, .int .u8 0] := by kernel_rfl

theorem pt8 (v : Nat) : pt 8 v = [v % 256, v / 256 % 256, v / 65536 % 256, v / 16777216 % 256, v / 4294967296 % 256, v / 1099511627776 % 256, v / 281474976710656 % 256, v / 72057594037927936 % 256] := by
  simp only [pt, Nat.div_div_eq_div_mul]
theorem pt4 (v : Nat) : pt 4 v = [v % 256, v / 256 % 256, v / 65536 % 256, v / 16777216 % 256] := by
  simp only [pt, Nat.div_div_eq_div_mul]
theorem row_bv (w : World) (cs : Array Value) (L : List Nat) (h : cs.toList = L.map bt) : BV (w.alloc (.cells cs 5)) (some ⟨w.heap.size, 0, none⟩) L := by
  refine Or.inr ⟨_, _, rfl, by simp, fun j hj => ?_⟩
  rw [World.cell?_alloc_at _ _ _ _ rfl]
  have : cs[0 + j]? = cs.toList[j]? := by simp
  rw [this, h, List.getElem?_map, List.getElem?_eq_getElem hj, List.getD_eq_getElem?_getD, List.getElem?_eq_getElem hj]
  rfl
theorem row_lays (w : World) (cs : Array Value) (n : Nat) (L : List Nat) (hn : L.length = n) (h : cs.toList = L.map bt) : Lays L w (.returned (.slice (some ⟨w.heap.size, 0, none⟩) n n)) (w.alloc (.cells cs 5)) := by
  subst hn
  exact ⟨_, _, rfl, Nat.le_refl _, row_bv w cs L h, (Below.refl _ _).alloc (Nat.le_refl _) _⟩

set_option maxHeartbeats 2000000 in
set_option maxRecDepth 100000 in
theorem put_8 (v : Nat) (hv : v < 18446744073709551616) (w : World) :
    Calls Try.prog 53 #[.int .u64 (v : Int), .int .i64 8] w (Lays (pt 8 v) w) := by
  have hmk : (Instr.makeSlice 39 (.int .i64 8) (.int .i64 8)).run Try.prog w = .ok (.slice (some ⟨w.heap.size, 0, none⟩) 8 8) (w.alloc (.cells #[.int .u8 0, .int .u8 0, .int .u8 0, .int .u8 0, .int .u8 0, .int .u8 0, .int .u8 0, .int .u8 0] 5)) := by
    have := make_u8 8 (by omega) w
    rwa [made8] at this
  have HP : Hid (pt 8 v = [v % 256, v / 256 % 256, v / 65536 % 256, v / 16777216 % 256, v / 4294967296 % 256, v / 1099511627776 % 256, v / 281474976710656 % 256, v / 72057594037927936]) := Lib.hid (by rw [pt8, Nat.mod_eq_of_lt (show v / 72057594037927936 < 256 by omega)])
  go_enter Try.func53, Try.ntmps53
  go_wp2
  refine wp_loop_rounds 9 ?_
  iterate 9 (rw [rounds_succ]; go_wp2)
  go_ret
  exact row_lays w _ 8 (pt 8 v) (pt_len 8 v) (by rw [HP.out]; rfl)

set_option maxHeartbeats 2000000 in
set_option maxRecDepth 100000 in
theorem put_4 (v : Nat) (hv : v < 4294967296) (w : World) :
    Calls Try.prog 53 #[.int .u64 (v : Int), .int .i64 4] w (Lays (pt 4 v) w) := by
  have hmk : (Instr.makeSlice 39 (.int .i64 4) (.int .i64 4)).run Try.prog w = .ok (.slice (some ⟨w.heap.size, 0, none⟩) 4 4) (w.alloc (.cells #[.int .u8 0, .int .u8 0, .int .u8 0, .int .u8 0] 5)) := by
    have := make_u8 4 (by omega) w
    rwa [made4] at this
  have HP := Lib.hid (pt4 v)
  have hv2 : v < 18446744073709551616 := by omega
  clear hv
  go_enter Try.func53, Try.ntmps53
  go_wp2
  refine wp_loop_rounds 5 ?_
  iterate 5 (rw [rounds_succ]; go_wp2)
  go_ret
  exact row_lays w _ 4 (pt 4 v) (pt_len 4 v) (by rw [HP.out]; rfl)

set_option maxRecDepth 100000 in
theorem put32_any (v : Nat) (hv : v < 4294967296) (w : World) :
    Calls Try.prog 47 #[.int .u32 (v : Int)] w (Lays (pt 4 v) w) := by
  go_enter Try.func47, Try.ntmps47
  go_wp2_with (go_at_call 53; refine (put_4 v hv _).mono ?_; rintro e w1 ⟨g, c, rfl, h1, h2, h3⟩)
  go_ret
  exact ⟨g, c, rfl, h1, h2, h3⟩
set_option maxRecDepth 100000 in
theorem put64_any (v : Nat) (hv : v < 18446744073709551616) (w : World) :
    Calls Try.prog 46 #[.int .u64 (v : Int)] w (Lays (pt 8 v) w) := by
  go_enter Try.func46, Try.ntmps46
  go_wp2_with (go_at_call 53; refine (put_8 v hv _).mono ?_; rintro e w1 ⟨g, c, rfl, h1, h2, h3⟩)
  go_ret
  exact ⟨g, c, rfl, h1, h2, h3⟩

theorem shr_byte (v k : Nat) (hk : k < 8) : (v : Int) / 2 ^ min (8 * (k : Int)).toNat 64 % 256 = ((v / 2 ^ (8 * k) % 256 : Nat) : Int) := by
  have e : min (8 * (k : Int)).toNat 64 = 8 * k := by omega
  rw [e]; simp
set_option maxHeartbeats 1000000 in
set_option maxRecDepth 100000 in
theorem rput_any (v n : Nat) (h0 : 0 < n) (hn : n ≤ 8) (w : World) :
    Calls Try.prog 44 #[.int .u64 (v : Int), .int .i64 (n : Int)] w (Lays (pt n v) w) := by
  obtain ⟨i0, hi, hz0, hz1, hz2⟩ := info_parts info_u8
  obtain ⟨B, hB⟩ : ∃ B, B = w.heap.size := ⟨_, rfl⟩
  have HB := Lib.hid hB
  clear hB
  go_enter Try.func44, Try.ntmps44
  go_wp2
  go_loopw [5, 6] (fun c5 c6 wr => ∃ k : Nat, k ≤ n ∧ c6 = .int .i64 (k : Int) ∧ wr.ownsRow B 5 1 c5 k ((pt k v).map bt) ∧ Below B w wr) (fun _ c6 _ => n - (intOf c6).toNat)
  case atStart => exact ⟨0, by omega, rfl, World.ownsRow_nil _ _ _ _, Below.refl _ _⟩
  case round =>
    obtain ⟨k, hk, rfl, hown, hnx⟩ := hrel
    have hsz : B ≤ wr.heap.size := by rw [HB.out]; exact hnx.size
    by_cases hlt : k < n
    · have q1 := shr_byte v k (by omega)
      have hm := Lib.hid (pt_more k v)
      go_wp2_with (at_builtin; refine wpList_append_own _ rfl _ _ 39 rfl B 5 i0 (.int .u8 0) 1 1 Try.underlying39 hi hz0 hz1 hz2 rfl (by decide) _ _ _ rfl (hown.alloc _) ⟨wr.heap.size, 0, none⟩ 1 1 [bt (v / 2 ^ (8 * k) % 256)] rfl rfl (one_cell _ _ _) (bt_one [_]) (by unfold maxLen; omega) (by omega) (by simp; omega) ?_; intro v' w1 hown' hgrow _)
      have R1 : w1.ownsRow B 5 1 v' (k + 1) ((pt (k + 1) v).map bt) := by rw [hm.out]; simpa using hown'
      have R2 : Below B w w1 := (hnx.alloc hsz _).grown hgrow (by simp; omega) (fun j hj => (hown.lt j hj).1)
      clear hown' hgrow hown hnx
      go_wp2
      go_roundw
      case rel => exact ⟨k + 1, by omega, by go_num, R1, R2⟩
      case measure => simp [intOf]; omega
    · have hkn : k = n := by omega
      subst hkn
      go_wp2
      go_ret
      have hB := HB.out
      subst hB
      have hl := pt_len k v
      exact lays_own (by rw [hl]; exact hown) (by omega) hnx

end Go.Proofs.Ytgmekkenodiclaa
