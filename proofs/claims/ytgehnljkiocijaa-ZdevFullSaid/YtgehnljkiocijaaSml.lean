/- Proved: what within, none, has, startOp, Ops, Off, Pointer and Cut answer of a device, and of none. -/
import Derived.Test.YtgehnljkiocijaaSet
import Derived.LaidEql
namespace Go.Proofs.Ytgehnljkiocijaa
open Go.RowKit

theorem within_yes (v l m : Int) (w : World) (h1 : l ≤ v) (h2 : v ≤ m) : Calls Try.prog 24 #[.int .i64 v, .int .i64 l, .int .i64 m] w fun e w' => e = .returned (.bool true) ∧ w = w' := by
  go_enter Try.func24, Try.ntmps24
  go_wp2
  go_ret
  exact ⟨rfl, rfl⟩
theorem within_no (v l m : Int) (w : World) (h : ¬ (l ≤ v ∧ v ≤ m)) : Calls Try.prog 24 #[.int .i64 v, .int .i64 l, .int .i64 m] w fun e w' => e = .returned (.bool false) ∧ w = w' := by
  by_cases h1 : l ≤ v
  · have h2 : ¬ v ≤ m := fun h' => h ⟨h1, h'⟩
    clear h
    go_enter Try.func24, Try.ntmps24
    go_wp2
    go_ret
    exact ⟨rfl, rfl⟩
  · clear h
    go_enter Try.func24, Try.ntmps24
    go_wp2
    go_ret
    exact ⟨rfl, rfl⟩

theorem info_dev : (Try.prog.info? 57).isSome = true := by kernel_rfl
theorem none_nil (w : World) : Calls Try.prog 28 #[.pointer none] w fun e w' => e = .returned (.bool true) ∧ w = w' := by
  go_enter Try.func28, Try.ntmps28
  go_wp2
  go_ret
  exact ⟨rfl, rfl⟩
theorem has_nil (k : Int) (w : World) : Calls Try.prog 26 #[.pointer none, .int .i64 k] w fun e w' => e = .returned (.bool false) ∧ w = w' := by
  go_enter Try.func26, Try.ntmps26
  go_wp2_with (go_at_call 28; refine (none_nil _).mono ?_; rintro e w' ⟨rfl, rfl⟩)
  go_ret
  exact ⟨rfl, rfl⟩

section
variable {w : World} {b z sz ops rds : Nat} {S : Nat → Zr}
theorem none_dv (h : Dv w b z sz ops rds S) : Calls Try.prog 28 #[.pointer (some ⟨b, 0, none⟩)] w fun e w' => e = .returned (.bool false) ∧ w = w' := by
  obtain ⟨⟨c, _, _, c0⟩, _⟩ := h.cells
  have H := Lib.hid h
  clear h
  go_enter Try.func28, Try.ntmps28
  go_wp2
  go_ret
  exact ⟨rfl, rfl⟩
theorem has_dv (h : Dv w b z sz ops rds S) (k : Nat) (hk : k < 8) : Calls Try.prog 26 #[.pointer (some ⟨b, 0, none⟩), .int .i64 (k : Int)] w fun e w' => e = .returned (.bool true) ∧ w = w' := by
  obtain ⟨⟨c, _, _, c0⟩, _⟩ := h.cells
  have H := Lib.hid h
  clear h
  go_enter Try.func26, Try.ntmps26
  go_wp2_with (first
    | (go_at_call 28; refine (none_dv H.out).mono ?_; rintro e w' ⟨rfl, rfl⟩)
    | (go_at_call 24; refine (within_yes _ _ _ _ (by omega) (by omega)).mono ?_; rintro e w' ⟨rfl, rfl⟩))
  go_ret
  exact ⟨rfl, rfl⟩
theorem start_dv (h : Dv w b z sz ops rds S) (ho : ops ≤ 1000000) : Calls Try.prog 27 #[.pointer (some ⟨b, 0, none⟩)] w fun e w' => e = .returned (.bool true) ∧ Dv w' b z sz (ops + 1) rds S ∧ Did w b z S S w' := by
  obtain ⟨_, _, c2, _, c4, c5⟩ := h.cells
  have f2 := h.free 2
  have hs := h.setOps (ops + 1)
  obtain ⟨w1, hw1⟩ : ∃ w1, w1 = w.setCell ⟨b, 2, none⟩ (.int .i64 ((ops + 1 : Nat) : Int)) := ⟨_, rfl⟩
  have hd : Did w b z S S w1 := Did.of_mv (by rw [hw1]; exact (Mv.refl _ w).set (Or.inl (Or.inl rfl)) _)
  rw [← hw1] at hs
  have HS := Lib.hid hs
  have HD := Lib.hid hd
  have HW : Hid (w1 = w.setCell ⟨b, 2, none⟩ (.int .i64 ((ops : Int) + 1))) := Lib.hid (by rw [hw1]; rfl)
  clear h hs hd hw1
  go_enter Try.func27, Try.ntmps27
  go_wp2
  go_ret
  refine ⟨rfl, ?_⟩
  rw [← HW.out]
  exact ⟨HS.out, HD.out⟩
theorem ops_dv (h : Dv w b z sz ops rds S) : Calls Try.prog 15 #[.pointer (some ⟨b, 0, none⟩)] w fun e w' => e = .returned (.int .i64 (ops : Int)) ∧ w = w' := by
  obtain ⟨_, _, c2, _⟩ := h.cells
  have H := Lib.hid h
  clear h
  go_enter Try.func15, Try.ntmps15
  go_wp2_with (go_at_call 28; refine (none_dv H.out).mono ?_; rintro e w' ⟨rfl, rfl⟩)
  go_ret
  exact ⟨rfl, rfl⟩
theorem off_dv (h : Dv w b z sz ops rds S) : Calls Try.prog 17 #[.pointer (some ⟨b, 0, none⟩)] w fun e w' => e = .returned (.bool false) ∧ w = w' := by
  obtain ⟨_, _, _, _, _, c5⟩ := h.cells
  have H := Lib.hid h
  clear h
  go_enter Try.func17, Try.ntmps17
  go_wp2_with (go_at_call 28; refine (none_dv H.out).mono ?_; rintro e w' ⟨rfl, rfl⟩)
  go_ret
  exact ⟨rfl, rfl⟩
theorem pointer_dv (h : Dv w b z sz ops rds S) (k : Nat) (hk : k < 8) : Calls Try.prog 14 #[.pointer (some ⟨b, 0, none⟩), .int .i64 (k : Int)] w fun e w' => e = .returned (.tuple #[.int .i64 ((S k).n : Int), .int .i64 0]) ∧ w = w' := by
  obtain ⟨⟨c, hc1, hc2, c0⟩, _⟩ := h.cells
  have cr := h.zrow hk
  obtain ⟨n, hn⟩ : ∃ n, n = (S k).n := ⟨_, rfl⟩
  obtain ⟨g, hg⟩ : ∃ g, g = (S k).g := ⟨_, rfl⟩
  obtain ⟨cc, hcc⟩ : ∃ cc, cc = (S k).c := ⟨_, rfl⟩
  rw [← hn, ← hg, ← hcc] at cr
  rw [← hn]
  have g1 : (0 : Int) ≤ (k : Int) := by omega
  have g2 : (k : Int) < 8 := by omega
  have H := Lib.hid h
  clear h hn hg hcc
  go_enter Try.func14, Try.ntmps14
  go_wp2_with (go_at_call 26; refine (has_dv H.out k hk).mono ?_; rintro e w' ⟨rfl, rfl⟩)
  go_ret2
  exact ⟨rfl, rfl⟩
theorem cut_dv (h : Dv w b z sz ops rds S) : Calls Try.prog 22 #[.pointer (some ⟨b, 0, none⟩), .int .i64 0] w fun e w' => e = .returned (.tuple #[]) ∧ Mv (Ft b z S) w w' := by
  obtain ⟨_, _, _, _, c4, c5⟩ := h.cells
  have f4 := h.free 4
  have H := Lib.hid h
  have HM : Hid (∀ u, Mv (Ft b z S) w (w.setCell ⟨b, 4, none⟩ u)) := Lib.hid fun u => (Mv.refl _ w).set (Or.inl (Or.inl rfl)) u
  clear h
  go_enter Try.func22, Try.ntmps22
  go_wp2_with (go_at_call 28; refine (none_dv H.out).mono ?_; rintro e w' ⟨rfl, rfl⟩)
  go_end0
  exact ⟨rfl, HM.out _⟩
end

end Go.Proofs.Ytgehnljkiocijaa
