/- Proved: least, empty and New make a device of eight empty zones, in memory of its own. -/
import Derived.Test.YtgehnljkiocijaaSml
import Derived.RegionTactic
import Derived.ChangeAlike
namespace Go.Proofs.Ytgehnljkiocijaa
open Go.RowKit

theorem info_content : (Try.prog.info? 54).map (fun i => (i.zero, i.size, i.bytes)) = some (some (.agg #[.slice none 0 0, .int .i64 0]), 2, 32) := by kernel_rfl
theorem made_zones : madeCells (Value.agg #[.slice none 0 0, .int .i64 0]).cells 16 = (zc (fun _ => Zr.none)).toArray := by kernel_rfl
theorem make_zones (w : World) : (Instr.makeSlice 55 (.int .i64 8) (.int .i64 8)).run Try.prog w = .ok (.slice (some ⟨w.heap.size, 0, none⟩) 8 8) (w.alloc (.cells (zc (fun _ => Zr.none)).toArray 54)) := by
  obtain ⟨i0, hi, hz0, hz1, hz2⟩ := info_parts info_content
  have h := run_make (P := Try.prog) w 55 54 i0 _ Try.underlying55 hi hz0 .i64 .i64 8 8 (by omega) (by omega) (by rw [hz2]; omega) (by omega)
  rw [h, hz1, ← made_zones]
  simp only [show Int.toNat 8 = 8 from rfl, show 8 * 2 = 16 from rfl]

/-- A new device. -/
structure Nw (w : World) (b z sz : Nat) (w' : World) : Prop where
  dv : Dv w' b z sz 0 0 (fun _ => Zr.none)
  ft : ∀ g, Ft b z (fun _ => Zr.none) g → w.heap.size ≤ g
  stands : At w w'
theorem ft_none {b z g : Nat} (h : Ft b z (fun _ => Zr.none) g) : g = b ∨ g = z := by
  rcases h with h | h | ⟨k, _, a, ha, _⟩
  · exact Or.inl h
  · exact Or.inr h
  · cases ha
theorem nw_two (w : World) (sz : Nat) (hs : sz ≤ 192) : Nw w (w.heap.size + 1) w.heap.size sz ((w.alloc (.cells (zc (fun _ => Zr.none)).toArray 54)).alloc (.cells #[.slice (some ⟨w.heap.size, 0, none⟩) 8 8, .int .i64 (sz : Int), .int .i64 0, .int .i64 0, .int .i64 (-1), .bool false] 57)) where
  dv :=
    { box := ⟨8, by omega, by unfold maxLen; omega, by
        have := heap_alloc_new (w.alloc (.cells (zc (fun _ => Zr.none)).toArray 54)) (.cells #[.slice (some ⟨w.heap.size, 0, none⟩) 8 8, .int .i64 (sz : Int), .int .i64 0, .int .i64 0, .int .i64 (-1), .bool false] 57)
        simpa using this⟩
      zon := ⟨[], by
        rw [List.append_nil, Below.heap_alloc _ _ _ (by simp)]
        exact heap_alloc_new _ _⟩
      row := fun _ _ => Zn.none_ _ 0
      sep := fun _ _ _ _ _ a ha => by cases ha
      le := fun _ _ => Nat.zero_le _
      dur := fun _ _ => Nat.zero_le _
      top := hs }
  ft := fun g hg => by rcases ft_none hg with h | h <;> omega
  stands := ((At.start w).alloc _).alloc _
theorem Nw.from_ {w w1 : World} {b z sz : Nat} {w' : World} (h : Nw w1 b z sz w') (ha : At w w1) : Nw w b z sz w' :=
  ⟨h.dv, fun g hg => Nat.le_trans ha.size (h.ft g hg), ha.next h.stands⟩
theorem Nw.drewN {w : World} {b z sz : Nat} {w' : World} (h : Nw w b z sz w') (n : Nat) : Nw w b z sz (w'.drewN n) :=
  ⟨h.dv.on ((At.start _).drewN n), h.ft, h.stands.drewN n⟩

set_option maxHeartbeats 1000000 in
set_option maxRecDepth 100000 in
theorem empty_any (sz : Nat) (hs : sz ≤ 192) (w : World) : Calls Try.prog 25 #[.agg #[.int .i64 8, .int .i64 (sz : Int)]] w fun e w' => ∃ b z, e = .returned (.pointer (some ⟨b, 0, none⟩)) ∧ Nw w b z sz w' := by
  have hmk := make_zones
  have A1 : Hid (At w (w.alloc (.cells #[.int .i64 8, .int .i64 (sz : Int)] 29))) := Lib.hid ((At.start w).alloc _)
  have n1 := nw_two (w.alloc (.cells #[.int .i64 8, .int .i64 (sz : Int)] 29)) sz hs
  rw [show (w.alloc (.cells #[.int .i64 8, .int .i64 (sz : Int)] 29)).heap.size = w.heap.size + 1 by simp] at n1
  have N1 := Lib.hid ((n1.from_ A1.out).drewN 1)
  clear n1
  go_enter Try.func25, Try.ntmps25
  go_wp2
  go_region
  go_wp2
  go_ret
  exact ⟨_, _, rfl, N1.out⟩

set_option maxRecDepth 100000 in
theorem least_any (w : World) : Calls Try.prog 9 #[] w (Gives (.agg #[.int .i64 8, .int .i64 96]) w) := by
  have A1 : Hid (At w (w.alloc (.cells #[.int .i64 8, .int .i64 96] 29))) := Lib.hid ((At.start w).alloc _)
  go_enter Try.func9, Try.ntmps9
  go_wp2
  exact bodyPost_ret (v := .agg #[.int .i64 8, .int .i64 96]) (by simp [results, Try.results9, go_sem]) rfl ⟨rfl, A1.out⟩

set_option maxHeartbeats 1000000 in
set_option maxRecDepth 100000 in
theorem new_any (sz : Nat) (h1 : 96 ≤ sz) (h2 : sz ≤ 192) (w : World) : Calls Try.prog 8 #[.agg #[.int .i64 8, .int .i64 (sz : Int)]] w fun e w' => ∃ b z, e = .returned (.tuple #[.pointer (some ⟨b, 0, none⟩), .int .i64 0]) ∧ Nw w b z sz w' := by
  have A1 : Hid (At w (w.alloc (.cells #[.int .i64 8, .int .i64 (sz : Int)] 29))) := Lib.hid ((At.start w).alloc _)
  go_enter Try.func8, Try.ntmps8
  go_wp2_with (first
    | (go_at_call 24; refine (within_yes _ _ _ _ (by omega) (by omega)).mono ?_; rintro e w' ⟨rfl, rfl⟩)
    | (go_at_call 25; refine (empty_any sz h2 _).mono ?_; rintro e w' ⟨b, z, rfl, hn⟩))
  go_ret2
  exact ⟨b, z, rfl, hn.from_ A1.out⟩

end Go.Proofs.Ytgehnljkiocijaa
