/- Proved: Encode lays a number's eight bytes in new memory, the most significant one first. -/
import Derived.Test.YtmdnahbopjkjhaaClass
import Derived.LoopN
import Derived.Handy
namespace Go.Proofs.Ytmdnahbopjkjhaa
open Go.RowKit Fl

theorem info_u8 : (Try.prog.info? 5).map (fun i => (i.zero, i.size, i.bytes)) = some (some (.int .u8 0), 1, 1) := by kernel_rfl

theorem make8 (w : World) : (Instr.makeSlice 29 (.int .i64 8) (.int .i64 8)).run Try.prog w =
    .ok (.slice (some ⟨w.heap.size, 0, none⟩) 8 8) (w.alloc (.cells #[.int .u8 0, .int .u8 0, .int .u8 0, .int .u8 0, .int .u8 0, .int .u8 0, .int .u8 0, .int .u8 0] 5)) := by
  obtain ⟨i0, hi, hz0, hz1, hz2⟩ := info_parts info_u8
  have h := run_make (P := Try.prog) w 29 5 i0 (.int .u8 0) Try.underlying29 hi hz0 .i64 .i64 8 8 (by omega) (by omega) (by rw [hz2]; decide) (by decide)
  have e : madeCells (Value.int .u8 0).cells 8 = #[.int .u8 0, .int .u8 0, .int .u8 0, .int .u8 0, .int .u8 0, .int .u8 0, .int .u8 0, .int .u8 0] := by kernel_rfl
  rw [h, hz1]
  show Result.ok _ (w.alloc (.cells (madeCells (Value.int .u8 0).cells 8) 5)) = _
  rw [e]; rfl

def encV (c : Nat) : Array Value := #[.int .u8 ((c : Int) / 72057594037927936), .int .u8 ((c : Int) / 281474976710656 % 256), .int .u8 ((c : Int) / 1099511627776 % 256), .int .u8 ((c : Int) / 4294967296 % 256), .int .u8 ((c : Int) / 16777216 % 256), .int .u8 ((c : Int) / 65536 % 256), .int .u8 ((c : Int) / 256 % 256), .int .u8 ((c : Int) % 256)]

set_option maxHeartbeats 1000000 in
theorem encode_any (b : Nat) (hb : b < 18446744073709551616) (w : World) :
    Calls Try.prog 29 #[.float .f64 b] w fun e w' => e = .returned (.slice (some ⟨w.heap.size, 0, none⟩) 8 8) ∧ w' = w.alloc (.cells (encV (cb b)) 5) := by
  have hlt := cb_lt b hb
  have hmk := make8 w
  go_enter Try.func29, Try.ntmps29
  go_wp2_with (go_at_call 13; refine (bits_any _ hb _).mono ?_; rintro e w' ⟨rfl, rfl⟩)
  refine wp_loop_rounds 9 ?_
  rw [rounds_succ]; go_wp2
  rw [rounds_succ]; go_wp2
  rw [rounds_succ]; go_wp2
  rw [rounds_succ]; go_wp2
  rw [rounds_succ]; go_wp2
  rw [rounds_succ]; go_wp2
  rw [rounds_succ]; go_wp2
  rw [rounds_succ]; go_wp2
  rw [rounds_succ]; go_wp2
  go_ret
  exact ⟨rfl, rfl⟩

def decR (v : Nat) : Array Value := if isN v = true ∧ v ≠ 9221120237041090560 then #[.float .f64 0, .int .i64 13] else #[.float .f64 (cb v), .int .i64 0]
theorem or_step0 (y : Nat) (h : y < 256) : bits .or .u64 0 (y : Int) = (y : Int) := by
  rw [u64_or _ _ (by omega) (by omega) (by omega) (by omega)]; simp
theorem or_step (v y : Nat) (hv : v < 72057594037927936) (h : y < 256) : bits .or .u64 (IntKind.u64.wrap ((v : Int) * 256)) (y : Int) = ((v * 256 + y : Nat) : Int) := by
  rw [IntKind.wrap_u64, u64_or _ _ (by omega) (by omega) (by omega) (by omega)]
  have e1 : ((v : Int) * 256 % 18446744073709551616).toNat = 2 ^ 8 * v := by omega
  rw [e1, Int.toNat_natCast, ← Nat.two_pow_add_eq_or_of_lt (by omega : y < 2 ^ 8) v]
  omega
theorem q_nanne (b : Nat) : ((b : Int) != 9221120237041090560) = decide (b ≠ 9221120237041090560) := by
  rw [Bool.eq_iff_iff]; simp only [bne_iff_ne, decide_eq_true_eq]; omega

set_option maxHeartbeats 2000000 in
theorem decode8 (B off cap : Nat) (y0 y1 y2 y3 y4 y5 y6 y7 v : Nat) (w : World)
    (c0 : w.cell? ⟨B, off, none⟩ = some (.int .u8 (y0 : Int)))
    (c1 : w.cell? ⟨B, off + 1, none⟩ = some (.int .u8 (y1 : Int)))
    (c2 : w.cell? ⟨B, off + 2, none⟩ = some (.int .u8 (y2 : Int)))
    (c3 : w.cell? ⟨B, off + 3, none⟩ = some (.int .u8 (y3 : Int)))
    (c4 : w.cell? ⟨B, off + 4, none⟩ = some (.int .u8 (y4 : Int)))
    (c5 : w.cell? ⟨B, off + 5, none⟩ = some (.int .u8 (y5 : Int)))
    (c6 : w.cell? ⟨B, off + 6, none⟩ = some (.int .u8 (y6 : Int)))
    (c7 : w.cell? ⟨B, off + 7, none⟩ = some (.int .u8 (y7 : Int)))
    (h0 : y0 < 256) (h1 : y1 < 256) (h2 : y2 < 256) (h3 : y3 < 256) (h4 : y4 < 256) (h5 : y5 < 256) (h6 : y6 < 256) (h7 : y7 < 256) (hv : v = (((((((y0 * 256 + y1) * 256 + y2) * 256 + y3) * 256 + y4) * 256 + y5) * 256 + y6) * 256 + y7)) :
    Calls Try.prog 24 #[.slice (some ⟨B, off, none⟩) 8 cap] w fun e w' => e = .returned (.tuple (decR v)) ∧ w = w' := by
  obtain ⟨v0, k0⟩ : ∃ v : Nat, v = y0 := ⟨_, rfl⟩
  obtain ⟨v1, k1⟩ : ∃ v : Nat, v = v0 * 256 + y1 := ⟨_, rfl⟩
  obtain ⟨v2, k2⟩ : ∃ v : Nat, v = v1 * 256 + y2 := ⟨_, rfl⟩
  obtain ⟨v3, k3⟩ : ∃ v : Nat, v = v2 * 256 + y3 := ⟨_, rfl⟩
  obtain ⟨v4, k4⟩ : ∃ v : Nat, v = v3 * 256 + y4 := ⟨_, rfl⟩
  obtain ⟨v5, k5⟩ : ∃ v : Nat, v = v4 * 256 + y5 := ⟨_, rfl⟩
  obtain ⟨v6, k6⟩ : ∃ v : Nat, v = v5 * 256 + y6 := ⟨_, rfl⟩
  obtain ⟨v7, k7⟩ : ∃ v : Nat, v = v6 * 256 + y7 := ⟨_, rfl⟩
  have r0 : bits .or .u64 0 (y0 : Int) = (v0 : Int) := by rw [k0]; exact or_step0 y0 h0
  have r1 : bits .or .u64 (IntKind.u64.wrap ((v0 : Int) * 256)) (y1 : Int) = (v1 : Int) := by rw [k1]; exact or_step v0 y1 (by omega) h1
  have r2 : bits .or .u64 (IntKind.u64.wrap ((v1 : Int) * 256)) (y2 : Int) = (v2 : Int) := by rw [k2]; exact or_step v1 y2 (by omega) h2
  have r3 : bits .or .u64 (IntKind.u64.wrap ((v2 : Int) * 256)) (y3 : Int) = (v3 : Int) := by rw [k3]; exact or_step v2 y3 (by omega) h3
  have r4 : bits .or .u64 (IntKind.u64.wrap ((v3 : Int) * 256)) (y4 : Int) = (v4 : Int) := by rw [k4]; exact or_step v3 y4 (by omega) h4
  have r5 : bits .or .u64 (IntKind.u64.wrap ((v4 : Int) * 256)) (y5 : Int) = (v5 : Int) := by rw [k5]; exact or_step v4 y5 (by omega) h5
  have r6 : bits .or .u64 (IntKind.u64.wrap ((v5 : Int) * 256)) (y6 : Int) = (v6 : Int) := by rw [k6]; exact or_step v5 y6 (by omega) h6
  have r7 : bits .or .u64 (IntKind.u64.wrap ((v6 : Int) * 256)) (y7 : Int) = (v7 : Int) := by rw [k7]; exact or_step v6 y7 (by omega) h7
  have hv7 : v7 = v := by rw [hv, k7, k6, k5, k4, k3, k2, k1, k0]
  have hvl : v < 18446744073709551616 := by omega
  have hT : (v : Int).toNat = v := Int.toNat_natCast v
  subst hv7
  clear hv k0 k1 k2 k3 k4 k5 k6 k7
  have e1 := q_nanne v7
  have e2 := isN_andNot (v7 : Int) (by omega) (by omega)
  rw [hT] at e2
  by_cases hn : isN v7 = true
  · by_cases hq : v7 = 9221120237041090560
    · have hr : decR v7 = #[.float .f64 (cb v7), .int .i64 0] := by unfold decR; rw [if_neg (by simp [hq])]
      replace e1 := e1.trans (decide_eq_false (by simpa using hq))
      rw [hn] at e2
      have HR := Lib.hid hr
      have HT := Lib.hid hT
      clear hq hr hT
      go_enter Try.func24, Try.ntmps24
      go_wp2
      refine wp_loop_rounds 9 ?_
      iterate 9 (rw [rounds_succ]; go_wp2_with (first | (go_at_call 34; refine (isnan_any _ (by omega) (by omega) _).mono ?_; rintro e w' ⟨rfl, rfl⟩) | (go_at_call 26; refine (from_any _ (by omega) (by omega) _).mono ?_; rintro e w' ⟨rfl, rfl⟩)))
      go_ret2
      exact ⟨by rw [HR.out]; first | rfl | (rw [HT.out]; rfl), rfl⟩
    · have hr : decR v7 = #[.float .f64 0, .int .i64 13] := by unfold decR; rw [if_pos ⟨hn, hq⟩]
      replace e1 := e1.trans (decide_eq_true hq)
      rw [hn] at e2
      have HR := Lib.hid hr
      clear hr
      go_enter Try.func24, Try.ntmps24
      go_wp2
      refine wp_loop_rounds 9 ?_
      iterate 9 (rw [rounds_succ]; go_wp2_with (first | (go_at_call 34; refine (isnan_any _ (by omega) (by omega) _).mono ?_; rintro e w' ⟨rfl, rfl⟩) | (go_at_call 26; refine (from_any _ (by omega) (by omega) _).mono ?_; rintro e w' ⟨rfl, rfl⟩)))
      go_ret2
      exact ⟨by rw [HR.out]; rfl, rfl⟩
  · have hn : isN v7 = false := by simpa using hn
    have hr : decR v7 = #[.float .f64 (cb v7), .int .i64 0] := by unfold decR; rw [if_neg (by simp [hn])]
    rw [hn] at e2
    have HR := Lib.hid hr
    have HT := Lib.hid hT
    clear hr hT
    go_enter Try.func24, Try.ntmps24
    go_wp2
    refine wp_loop_rounds 9 ?_
    iterate 9 (rw [rounds_succ]; go_wp2_with (first | (go_at_call 34; refine (isnan_any _ (by omega) (by omega) _).mono ?_; rintro e w' ⟨rfl, rfl⟩) | (go_at_call 26; refine (from_any _ (by omega) (by omega) _).mono ?_; rintro e w' ⟨rfl, rfl⟩)))
    go_ret2
    exact ⟨by rw [HR.out]; first | rfl | (rw [HT.out]; rfl), rfl⟩

set_option maxHeartbeats 2000000 in
theorem rdecode8 (B off cap : Nat) (y0 y1 y2 y3 y4 y5 y6 y7 v : Nat) (w : World)
    (c0 : w.cell? ⟨B, off, none⟩ = some (.int .u8 (y0 : Int)))
    (c1 : w.cell? ⟨B, off + 1, none⟩ = some (.int .u8 (y1 : Int)))
    (c2 : w.cell? ⟨B, off + 2, none⟩ = some (.int .u8 (y2 : Int)))
    (c3 : w.cell? ⟨B, off + 3, none⟩ = some (.int .u8 (y3 : Int)))
    (c4 : w.cell? ⟨B, off + 4, none⟩ = some (.int .u8 (y4 : Int)))
    (c5 : w.cell? ⟨B, off + 5, none⟩ = some (.int .u8 (y5 : Int)))
    (c6 : w.cell? ⟨B, off + 6, none⟩ = some (.int .u8 (y6 : Int)))
    (c7 : w.cell? ⟨B, off + 7, none⟩ = some (.int .u8 (y7 : Int)))
    (h0 : y0 < 256) (h1 : y1 < 256) (h2 : y2 < 256) (h3 : y3 < 256) (h4 : y4 < 256) (h5 : y5 < 256) (h6 : y6 < 256) (h7 : y7 < 256) (hv : v = (((((((y0 * 256 + y1) * 256 + y2) * 256 + y3) * 256 + y4) * 256 + y5) * 256 + y6) * 256 + y7)) :
    Calls Try.prog 25 #[.slice (some ⟨B, off, none⟩) 8 cap] w fun e w' => e = .returned (.tuple (decR v)) ∧ w = w' := by
  obtain ⟨v0, k0⟩ : ∃ v : Nat, v = y0 := ⟨_, rfl⟩
  obtain ⟨v1, k1⟩ : ∃ v : Nat, v = v0 * 256 + y1 := ⟨_, rfl⟩
  obtain ⟨v2, k2⟩ : ∃ v : Nat, v = v1 * 256 + y2 := ⟨_, rfl⟩
  obtain ⟨v3, k3⟩ : ∃ v : Nat, v = v2 * 256 + y3 := ⟨_, rfl⟩
  obtain ⟨v4, k4⟩ : ∃ v : Nat, v = v3 * 256 + y4 := ⟨_, rfl⟩
  obtain ⟨v5, k5⟩ : ∃ v : Nat, v = v4 * 256 + y5 := ⟨_, rfl⟩
  obtain ⟨v6, k6⟩ : ∃ v : Nat, v = v5 * 256 + y6 := ⟨_, rfl⟩
  obtain ⟨v7, k7⟩ : ∃ v : Nat, v = v6 * 256 + y7 := ⟨_, rfl⟩
  have r0 : bits .or .u64 0 (y0 : Int) = (v0 : Int) := by rw [k0]; exact or_step0 y0 h0
  have r1 : bits .or .u64 (IntKind.u64.wrap ((v0 : Int) * 256)) (y1 : Int) = (v1 : Int) := by rw [k1]; exact or_step v0 y1 (by omega) h1
  have r2 : bits .or .u64 (IntKind.u64.wrap ((v1 : Int) * 256)) (y2 : Int) = (v2 : Int) := by rw [k2]; exact or_step v1 y2 (by omega) h2
  have r3 : bits .or .u64 (IntKind.u64.wrap ((v2 : Int) * 256)) (y3 : Int) = (v3 : Int) := by rw [k3]; exact or_step v2 y3 (by omega) h3
  have r4 : bits .or .u64 (IntKind.u64.wrap ((v3 : Int) * 256)) (y4 : Int) = (v4 : Int) := by rw [k4]; exact or_step v3 y4 (by omega) h4
  have r5 : bits .or .u64 (IntKind.u64.wrap ((v4 : Int) * 256)) (y5 : Int) = (v5 : Int) := by rw [k5]; exact or_step v4 y5 (by omega) h5
  have r6 : bits .or .u64 (IntKind.u64.wrap ((v5 : Int) * 256)) (y6 : Int) = (v6 : Int) := by rw [k6]; exact or_step v5 y6 (by omega) h6
  have r7 : bits .or .u64 (IntKind.u64.wrap ((v6 : Int) * 256)) (y7 : Int) = (v7 : Int) := by rw [k7]; exact or_step v6 y7 (by omega) h7
  have hv7 : v7 = v := by rw [hv, k7, k6, k5, k4, k3, k2, k1, k0]
  have hvl : v < 18446744073709551616 := by omega
  have hT : (v : Int).toNat = v := Int.toNat_natCast v
  subst hv7
  clear hv k0 k1 k2 k3 k4 k5 k6 k7
  have e1 := q_nanne v7
  have e2 := isN_andNot (v7 : Int) (by omega) (by omega)
  rw [hT] at e2
  by_cases hn : isN v7 = true
  · by_cases hq : v7 = 9221120237041090560
    · have hr : decR v7 = #[.float .f64 (cb v7), .int .i64 0] := by unfold decR; rw [if_neg (by simp [hq])]
      replace e1 := e1.trans (decide_eq_false (by simpa using hq))
      rw [hn] at e2
      have HR := Lib.hid hr
      have HT := Lib.hid hT
      clear hq hr hT
      go_enter Try.func25, Try.ntmps25
      go_wp2
      refine wp_loop_rounds 9 ?_
      iterate 9 (rw [rounds_succ]; go_wp2_with (go_at_call 27; refine (rfrom_any _ (by omega) (by omega) _).mono ?_; rintro e w' ⟨rfl, rfl⟩))
      go_ret2
      exact ⟨by rw [HR.out]; first | rfl | (rw [HT.out]; rfl), rfl⟩
    · have hr : decR v7 = #[.float .f64 0, .int .i64 13] := by unfold decR; rw [if_pos ⟨hn, hq⟩]
      replace e1 := e1.trans (decide_eq_true hq)
      rw [hn] at e2
      have HR := Lib.hid hr
      clear hr
      go_enter Try.func25, Try.ntmps25
      go_wp2
      refine wp_loop_rounds 9 ?_
      iterate 9 (rw [rounds_succ]; go_wp2_with (go_at_call 27; refine (rfrom_any _ (by omega) (by omega) _).mono ?_; rintro e w' ⟨rfl, rfl⟩))
      go_ret2
      exact ⟨by rw [HR.out]; rfl, rfl⟩
  · have hn : isN v7 = false := by simpa using hn
    have hr : decR v7 = #[.float .f64 (cb v7), .int .i64 0] := by unfold decR; rw [if_neg (by simp [hn])]
    rw [hn] at e2
    have HR := Lib.hid hr
    have HT := Lib.hid hT
    clear hr hT
    go_enter Try.func25, Try.ntmps25
    go_wp2
    refine wp_loop_rounds 9 ?_
    iterate 9 (rw [rounds_succ]; go_wp2_with (go_at_call 27; refine (rfrom_any _ (by omega) (by omega) _).mono ?_; rintro e w' ⟨rfl, rfl⟩))
    go_ret2
    exact ⟨by rw [HR.out]; first | rfl | (rw [HT.out]; rfl), rfl⟩

end Go.Proofs.Ytmdnahbopjkjhaa
