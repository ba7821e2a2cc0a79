/- Proved: a text with one sign, digit, nought, blank or point more is none, or another number's. -/
import Derived.Test.YtlbnfnfenphfbaaDoorBack
import Derived.Deep.RegionHeld3
namespace Go.Proofs.YtlbnfnfenphfbaaDoor
open Go.RowKit Fl Tx

theorem At.drew {w0 w : World} (h : At w0 w) : At w0 w.drew := h.next (Below.refl _ _).drew
theorem At.alloc {w0 w : World} (h : At w0 w) (o : Obj) : At w0 (w.alloc o) := h.next ((Below.refl _ _).alloc (Nat.le_refl _) o)

theorem parse_no (S : ByteArray) (hs : S.size ≤ 100000) (hno : ∀ b, Can b → S.data.toList ≠ text b) (w : World) (hE : Env w) :
    Calls Tryd.prog 7 #[.string S] w fun e w' => e = .returned (.tuple #[.float .f64 0, .int .i64 13]) ∧ Below w.heap.size w w' := by
  refine (parse_any S hs w hE).mono ?_
  rintro e w' ⟨⟨c, hcc, ht, rfl⟩ | ⟨hno', rfl⟩, hb⟩
  · exact absurd ht (hno c hcc)
  · exact ⟨rfl, hb⟩

theorem cat_size (X : ByteArray) (a b : ByteArray) (ha : a.size ≤ 2) (hb : b.size ≤ 2) (hX : X.size ≤ 22) : (a ++ X).size ≤ 24 ∧ (X ++ b).size ≤ 24 := by
  simp only [ByteArray.size_append]; omega

theorem keepS {w0 wA wB : World} {a : Addr} {v : Value} {N : Nat} (hb : Below wA.heap.size wA wB) (h : wA.cell? a = some v ∧ At w0 wA ∧ N < wA.heap.size) (hN : a.block = N) :
    wB.cell? a = some v ∧ At w0 wB ∧ N < wB.heap.size :=
  ⟨(hb.cell (by rw [hN]; exact h.2.2)).trans h.1, h.2.1.next hb, Nat.lt_of_lt_of_le h.2.2 hb.size⟩
theorem heldAt {w0 w : World} {C L : Prop} (h : C ∧ At w0 w ∧ L) : At w0 w := h.2.1

set_option maxHeartbeats 1000000 in
theorem lawforms_0 (n : Int) (x : Nat) (cx : Can x) (hfx : ∀ w, Calls Tryd.prog 6 #[.int .u64 n] w fun e w' => e = .returned (.float .f64 x) ∧ w = w') (w : World) (h0 : At w w) :
    Calls Tryd.prog 4 #[.int .u64 n, .int .i64 0] w fun e w' => e = .returned (.bool true) ∧ Below w.heap.size w w' := by
  obtain ⟨X, hXl, hXs, htx⟩ := text_val x cx.2
  obtain ⟨S, hS⟩ : ∃ S : ByteArray, S = (⟨#[43]⟩ : ByteArray) ++ X := ⟨_, rfl⟩
  have hSs : S.size ≤ 24 := by rw [hS]; exact (cat_size X ⟨#[43]⟩ ⟨#[43]⟩ (by decide) (by decide) hXs).1
  by_cases hy : ∃ b, Can b ∧ S.data.toList = text b
  · obtain ⟨b, hb, hSb⟩ := hy
    obtain ⟨Y, hYl, hYs, hty⟩ := text_val b hb.2
    have hYS : Y = S := by
      rw [mk_list Y _ hYl, mk_list S _ hSb]
    subst hYS
    have hp := fun w hE => parse_text b hb Y hYl hYs w hE
    have hne : smB x b = false := by
      rw [smB_can x b cx hb]
      refine decide_eq_false fun h => ?_
      have h1 : X.data.toList = Y.data.toList := by rw [hXl, h, hYl]
      have h2 := congrArg List.length h1
      rw [hS] at h2
      simp at h2 <;> omega
    have hsx := fun w => rsame_val x b false cx.2 hb.2 hne w
    rw [hS] at hp hty
    clear hS hSb hYl hXl cx hb hne hYs hSs
    go_enter Tryd.func4, Tryd.ntmps4
    go_wp2_with (first
        | (go_at_call 6; refine (hfx _).mono ?_; rintro e w' ⟨rfl, rfl⟩)
        | (go_at_call 8; refine (htx _ (by assumption : At w _).env).mono ?_; rintro e w1 ⟨rfl, hb⟩; have hA1 := At.next (w0 := w) (by assumption) hb)
        | (go_at_call 7; refine (hp _ (hA1.alloc _).env).mono ?_; rintro e w2 ⟨rfl, hb2⟩; have hA2 := At.next (w0 := w) (hA1.alloc _) hb2; have hlt : w1.heap.size < w2.heap.size := (by have := hb2.size; simp at this; omega); have hcell : w2.cell? ⟨w1.heap.size, 0, none⟩ = some (.string ((⟨#[43]⟩ : ByteArray) ++ X)) := (hb2.cell (by simp)).trans (by simp)))
    go_region_held3 (fun w' => w'.cell? ⟨w1.heap.size, 0, none⟩ = some (.string ((⟨#[43]⟩ : ByteArray) ++ X)) ∧ At w w' ∧ w1.heap.size < w'.heap.size)
      (first | exact ⟨hcell, hA2.drew, hlt⟩ | assumption | exact keepS (by assumption) (by assumption) rfl)
      (first
        | (go_at_call 8; refine (hty _ (heldAt (w0 := w) (by assumption)).env).mono ?_; rintro e w3 ⟨rfl, hb3⟩)
        | (go_at_call 9; refine (hsx _).mono ?_; rintro e w' ⟨rfl, rfl⟩)
        | (go_at_call 10; refine (awake_any _ (heldAt (w0 := w) (by assumption)).env).mono ?_; rintro e w4 ⟨rfl, hb4⟩))
    go_wp2
    go_ret
    exact ⟨rfl, (heldAt (w0 := w) (by assumption)).below⟩
  · have hp := fun w hE => parse_no S (by omega) (fun b hb h => hy ⟨b, hb, h⟩) w hE
    rw [hS] at hp
    have hs0 := fun w => rsame_val 0 0 true (by decide) (by decide) (by decide) w
    clear hS hy hXl cx hSs
    go_enter Tryd.func4, Tryd.ntmps4
    go_wp2_with (first
        | (go_at_call 6; refine (hfx _).mono ?_; rintro e w' ⟨rfl, rfl⟩)
        | (go_at_call 8; refine (htx _ (by assumption : At w _).env).mono ?_; rintro e w1 ⟨rfl, hb⟩; have hA1 := At.next (w0 := w) (by assumption) hb)
        | (go_at_call 7; refine (hp _ (hA1.alloc _).env).mono ?_; rintro e w2 ⟨rfl, hb2⟩; have hA2 := At.next (w0 := w) (hA1.alloc _) hb2)
        | (go_at_call 9; refine (hs0 _).mono ?_; rintro e w' ⟨rfl, rfl⟩)
        | (go_at_call 10; refine (awake_any _ hA2.env).mono ?_; rintro e w3 ⟨rfl, hb3⟩; have hA3 := At.next (w0 := w) hA2 hb3))
    go_ret
    exact ⟨rfl, hA3.below⟩

set_option maxHeartbeats 1000000 in
theorem lawforms_1 (n : Int) (x : Nat) (cx : Can x) (hfx : ∀ w, Calls Tryd.prog 6 #[.int .u64 n] w fun e w' => e = .returned (.float .f64 x) ∧ w = w') (w : World) (h0 : At w w) :
    Calls Tryd.prog 4 #[.int .u64 n, .int .i64 1] w fun e w' => e = .returned (.bool true) ∧ Below w.heap.size w w' := by
  obtain ⟨X, hXl, hXs, htx⟩ := text_val x cx.2
  obtain ⟨S, hS⟩ : ∃ S : ByteArray, S = (⟨#[32]⟩ : ByteArray) ++ X := ⟨_, rfl⟩
  have hSs : S.size ≤ 24 := by rw [hS]; exact (cat_size X ⟨#[32]⟩ ⟨#[32]⟩ (by decide) (by decide) hXs).1
  by_cases hy : ∃ b, Can b ∧ S.data.toList = text b
  · obtain ⟨b, hb, hSb⟩ := hy
    obtain ⟨Y, hYl, hYs, hty⟩ := text_val b hb.2
    have hYS : Y = S := by
      rw [mk_list Y _ hYl, mk_list S _ hSb]
    subst hYS
    have hp := fun w hE => parse_text b hb Y hYl hYs w hE
    have hne : smB x b = false := by
      rw [smB_can x b cx hb]
      refine decide_eq_false fun h => ?_
      have h1 : X.data.toList = Y.data.toList := by rw [hXl, h, hYl]
      have h2 := congrArg List.length h1
      rw [hS] at h2
      simp at h2 <;> omega
    have hsx := fun w => rsame_val x b false cx.2 hb.2 hne w
    rw [hS] at hp hty
    clear hS hSb hYl hXl cx hb hne hYs hSs
    go_enter Tryd.func4, Tryd.ntmps4
    go_wp2_with (first
        | (go_at_call 6; refine (hfx _).mono ?_; rintro e w' ⟨rfl, rfl⟩)
        | (go_at_call 8; refine (htx _ (by assumption : At w _).env).mono ?_; rintro e w1 ⟨rfl, hb⟩; have hA1 := At.next (w0 := w) (by assumption) hb)
        | (go_at_call 7; refine (hp _ (hA1.alloc _).env).mono ?_; rintro e w2 ⟨rfl, hb2⟩; have hA2 := At.next (w0 := w) (hA1.alloc _) hb2; have hlt : w1.heap.size < w2.heap.size := (by have := hb2.size; simp at this; omega); have hcell : w2.cell? ⟨w1.heap.size, 1, none⟩ = some (.string ((⟨#[32]⟩ : ByteArray) ++ X)) := (hb2.cell (by simp)).trans (by simp)))
    go_region_held3 (fun w' => w'.cell? ⟨w1.heap.size, 1, none⟩ = some (.string ((⟨#[32]⟩ : ByteArray) ++ X)) ∧ At w w' ∧ w1.heap.size < w'.heap.size)
      (first | exact ⟨hcell, hA2.drew, hlt⟩ | assumption | exact keepS (by assumption) (by assumption) rfl)
      (first
        | (go_at_call 8; refine (hty _ (heldAt (w0 := w) (by assumption)).env).mono ?_; rintro e w3 ⟨rfl, hb3⟩)
        | (go_at_call 9; refine (hsx _).mono ?_; rintro e w' ⟨rfl, rfl⟩)
        | (go_at_call 10; refine (awake_any _ (heldAt (w0 := w) (by assumption)).env).mono ?_; rintro e w4 ⟨rfl, hb4⟩))
    go_wp2
    go_ret
    exact ⟨rfl, (heldAt (w0 := w) (by assumption)).below⟩
  · have hp := fun w hE => parse_no S (by omega) (fun b hb h => hy ⟨b, hb, h⟩) w hE
    rw [hS] at hp
    have hs0 := fun w => rsame_val 0 0 true (by decide) (by decide) (by decide) w
    clear hS hy hXl cx hSs
    go_enter Tryd.func4, Tryd.ntmps4
    go_wp2_with (first
        | (go_at_call 6; refine (hfx _).mono ?_; rintro e w' ⟨rfl, rfl⟩)
        | (go_at_call 8; refine (htx _ (by assumption : At w _).env).mono ?_; rintro e w1 ⟨rfl, hb⟩; have hA1 := At.next (w0 := w) (by assumption) hb)
        | (go_at_call 7; refine (hp _ (hA1.alloc _).env).mono ?_; rintro e w2 ⟨rfl, hb2⟩; have hA2 := At.next (w0 := w) (hA1.alloc _) hb2)
        | (go_at_call 9; refine (hs0 _).mono ?_; rintro e w' ⟨rfl, rfl⟩)
        | (go_at_call 10; refine (awake_any _ hA2.env).mono ?_; rintro e w3 ⟨rfl, hb3⟩; have hA3 := At.next (w0 := w) hA2 hb3))
    go_ret
    exact ⟨rfl, hA3.below⟩

set_option maxHeartbeats 1000000 in
theorem lawforms_2 (n : Int) (x : Nat) (cx : Can x) (hfx : ∀ w, Calls Tryd.prog 6 #[.int .u64 n] w fun e w' => e = .returned (.float .f64 x) ∧ w = w') (w : World) (h0 : At w w) :
    Calls Tryd.prog 4 #[.int .u64 n, .int .i64 2] w fun e w' => e = .returned (.bool true) ∧ Below w.heap.size w w' := by
  obtain ⟨X, hXl, hXs, htx⟩ := text_val x cx.2
  obtain ⟨S, hS⟩ : ∃ S : ByteArray, S = X ++ (⟨#[32]⟩ : ByteArray) := ⟨_, rfl⟩
  have hSs : S.size ≤ 24 := by rw [hS]; exact (cat_size X ⟨#[32]⟩ ⟨#[32]⟩ (by decide) (by decide) hXs).2
  by_cases hy : ∃ b, Can b ∧ S.data.toList = text b
  · obtain ⟨b, hb, hSb⟩ := hy
    obtain ⟨Y, hYl, hYs, hty⟩ := text_val b hb.2
    have hYS : Y = S := by
      rw [mk_list Y _ hYl, mk_list S _ hSb]
    subst hYS
    have hp := fun w hE => parse_text b hb Y hYl hYs w hE
    have hne : smB x b = false := by
      rw [smB_can x b cx hb]
      refine decide_eq_false fun h => ?_
      have h1 : X.data.toList = Y.data.toList := by rw [hXl, h, hYl]
      have h2 := congrArg List.length h1
      rw [hS] at h2
      simp at h2 <;> omega
    have hsx := fun w => rsame_val x b false cx.2 hb.2 hne w
    rw [hS] at hp hty
    clear hS hSb hYl hXl cx hb hne hYs hSs
    go_enter Tryd.func4, Tryd.ntmps4
    go_wp2_with (first
        | (go_at_call 6; refine (hfx _).mono ?_; rintro e w' ⟨rfl, rfl⟩)
        | (go_at_call 8; refine (htx _ (by assumption : At w _).env).mono ?_; rintro e w1 ⟨rfl, hb⟩; have hA1 := At.next (w0 := w) (by assumption) hb)
        | (go_at_call 7; refine (hp _ (hA1.alloc _).env).mono ?_; rintro e w2 ⟨rfl, hb2⟩; have hA2 := At.next (w0 := w) (hA1.alloc _) hb2; have hlt : w1.heap.size < w2.heap.size := (by have := hb2.size; simp at this; omega); have hcell : w2.cell? ⟨w1.heap.size, 2, none⟩ = some (.string (X ++ (⟨#[32]⟩ : ByteArray))) := (hb2.cell (by simp)).trans (by simp)))
    go_region_held3 (fun w' => w'.cell? ⟨w1.heap.size, 2, none⟩ = some (.string (X ++ (⟨#[32]⟩ : ByteArray))) ∧ At w w' ∧ w1.heap.size < w'.heap.size)
      (first | exact ⟨hcell, hA2.drew, hlt⟩ | assumption | exact keepS (by assumption) (by assumption) rfl)
      (first
        | (go_at_call 8; refine (hty _ (heldAt (w0 := w) (by assumption)).env).mono ?_; rintro e w3 ⟨rfl, hb3⟩)
        | (go_at_call 9; refine (hsx _).mono ?_; rintro e w' ⟨rfl, rfl⟩)
        | (go_at_call 10; refine (awake_any _ (heldAt (w0 := w) (by assumption)).env).mono ?_; rintro e w4 ⟨rfl, hb4⟩))
    go_wp2
    go_ret
    exact ⟨rfl, (heldAt (w0 := w) (by assumption)).below⟩
  · have hp := fun w hE => parse_no S (by omega) (fun b hb h => hy ⟨b, hb, h⟩) w hE
    rw [hS] at hp
    have hs0 := fun w => rsame_val 0 0 true (by decide) (by decide) (by decide) w
    clear hS hy hXl cx hSs
    go_enter Tryd.func4, Tryd.ntmps4
    go_wp2_with (first
        | (go_at_call 6; refine (hfx _).mono ?_; rintro e w' ⟨rfl, rfl⟩)
        | (go_at_call 8; refine (htx _ (by assumption : At w _).env).mono ?_; rintro e w1 ⟨rfl, hb⟩; have hA1 := At.next (w0 := w) (by assumption) hb)
        | (go_at_call 7; refine (hp _ (hA1.alloc _).env).mono ?_; rintro e w2 ⟨rfl, hb2⟩; have hA2 := At.next (w0 := w) (hA1.alloc _) hb2)
        | (go_at_call 9; refine (hs0 _).mono ?_; rintro e w' ⟨rfl, rfl⟩)
        | (go_at_call 10; refine (awake_any _ hA2.env).mono ?_; rintro e w3 ⟨rfl, hb3⟩; have hA3 := At.next (w0 := w) hA2 hb3))
    go_ret
    exact ⟨rfl, hA3.below⟩

set_option maxHeartbeats 1000000 in
theorem lawforms_3 (n : Int) (x : Nat) (cx : Can x) (hfx : ∀ w, Calls Tryd.prog 6 #[.int .u64 n] w fun e w' => e = .returned (.float .f64 x) ∧ w = w') (w : World) (h0 : At w w) :
    Calls Tryd.prog 4 #[.int .u64 n, .int .i64 3] w fun e w' => e = .returned (.bool true) ∧ Below w.heap.size w w' := by
  obtain ⟨X, hXl, hXs, htx⟩ := text_val x cx.2
  obtain ⟨S, hS⟩ : ∃ S : ByteArray, S = X ++ (⟨#[48]⟩ : ByteArray) := ⟨_, rfl⟩
  have hSs : S.size ≤ 24 := by rw [hS]; exact (cat_size X ⟨#[48]⟩ ⟨#[48]⟩ (by decide) (by decide) hXs).2
  by_cases hy : ∃ b, Can b ∧ S.data.toList = text b
  · obtain ⟨b, hb, hSb⟩ := hy
    obtain ⟨Y, hYl, hYs, hty⟩ := text_val b hb.2
    have hYS : Y = S := by
      rw [mk_list Y _ hYl, mk_list S _ hSb]
    subst hYS
    have hp := fun w hE => parse_text b hb Y hYl hYs w hE
    have hne : smB x b = false := by
      rw [smB_can x b cx hb]
      refine decide_eq_false fun h => ?_
      have h1 : X.data.toList = Y.data.toList := by rw [hXl, h, hYl]
      have h2 := congrArg List.length h1
      rw [hS] at h2
      simp at h2 <;> omega
    have hsx := fun w => rsame_val x b false cx.2 hb.2 hne w
    rw [hS] at hp hty
    clear hS hSb hYl hXl cx hb hne hYs hSs
    go_enter Tryd.func4, Tryd.ntmps4
    go_wp2_with (first
        | (go_at_call 6; refine (hfx _).mono ?_; rintro e w' ⟨rfl, rfl⟩)
        | (go_at_call 8; refine (htx _ (by assumption : At w _).env).mono ?_; rintro e w1 ⟨rfl, hb⟩; have hA1 := At.next (w0 := w) (by assumption) hb)
        | (go_at_call 7; refine (hp _ (hA1.alloc _).env).mono ?_; rintro e w2 ⟨rfl, hb2⟩; have hA2 := At.next (w0 := w) (hA1.alloc _) hb2; have hlt : w1.heap.size < w2.heap.size := (by have := hb2.size; simp at this; omega); have hcell : w2.cell? ⟨w1.heap.size, 3, none⟩ = some (.string (X ++ (⟨#[48]⟩ : ByteArray))) := (hb2.cell (by simp)).trans (by simp)))
    go_region_held3 (fun w' => w'.cell? ⟨w1.heap.size, 3, none⟩ = some (.string (X ++ (⟨#[48]⟩ : ByteArray))) ∧ At w w' ∧ w1.heap.size < w'.heap.size)
      (first | exact ⟨hcell, hA2.drew, hlt⟩ | assumption | exact keepS (by assumption) (by assumption) rfl)
      (first
        | (go_at_call 8; refine (hty _ (heldAt (w0 := w) (by assumption)).env).mono ?_; rintro e w3 ⟨rfl, hb3⟩)
        | (go_at_call 9; refine (hsx _).mono ?_; rintro e w' ⟨rfl, rfl⟩)
        | (go_at_call 10; refine (awake_any _ (heldAt (w0 := w) (by assumption)).env).mono ?_; rintro e w4 ⟨rfl, hb4⟩))
    go_wp2
    go_ret
    exact ⟨rfl, (heldAt (w0 := w) (by assumption)).below⟩
  · have hp := fun w hE => parse_no S (by omega) (fun b hb h => hy ⟨b, hb, h⟩) w hE
    rw [hS] at hp
    have hs0 := fun w => rsame_val 0 0 true (by decide) (by decide) (by decide) w
    clear hS hy hXl cx hSs
    go_enter Tryd.func4, Tryd.ntmps4
    go_wp2_with (first
        | (go_at_call 6; refine (hfx _).mono ?_; rintro e w' ⟨rfl, rfl⟩)
        | (go_at_call 8; refine (htx _ (by assumption : At w _).env).mono ?_; rintro e w1 ⟨rfl, hb⟩; have hA1 := At.next (w0 := w) (by assumption) hb)
        | (go_at_call 7; refine (hp _ (hA1.alloc _).env).mono ?_; rintro e w2 ⟨rfl, hb2⟩; have hA2 := At.next (w0 := w) (hA1.alloc _) hb2)
        | (go_at_call 9; refine (hs0 _).mono ?_; rintro e w' ⟨rfl, rfl⟩)
        | (go_at_call 10; refine (awake_any _ hA2.env).mono ?_; rintro e w3 ⟨rfl, hb3⟩; have hA3 := At.next (w0 := w) hA2 hb3))
    go_ret
    exact ⟨rfl, hA3.below⟩

set_option maxHeartbeats 1000000 in
theorem lawforms_4 (n : Int) (x : Nat) (cx : Can x) (hfx : ∀ w, Calls Tryd.prog 6 #[.int .u64 n] w fun e w' => e = .returned (.float .f64 x) ∧ w = w') (w : World) (h0 : At w w) :
    Calls Tryd.prog 4 #[.int .u64 n, .int .i64 4] w fun e w' => e = .returned (.bool true) ∧ Below w.heap.size w w' := by
  obtain ⟨X, hXl, hXs, htx⟩ := text_val x cx.2
  obtain ⟨S, hS⟩ : ∃ S : ByteArray, S = (⟨#[48]⟩ : ByteArray) ++ X := ⟨_, rfl⟩
  have hSs : S.size ≤ 24 := by rw [hS]; exact (cat_size X ⟨#[48]⟩ ⟨#[48]⟩ (by decide) (by decide) hXs).1
  by_cases hy : ∃ b, Can b ∧ S.data.toList = text b
  · obtain ⟨b, hb, hSb⟩ := hy
    obtain ⟨Y, hYl, hYs, hty⟩ := text_val b hb.2
    have hYS : Y = S := by
      rw [mk_list Y _ hYl, mk_list S _ hSb]
    subst hYS
    have hp := fun w hE => parse_text b hb Y hYl hYs w hE
    have hne : smB x b = false := by
      rw [smB_can x b cx hb]
      refine decide_eq_false fun h => ?_
      have h1 : X.data.toList = Y.data.toList := by rw [hXl, h, hYl]
      have h2 := congrArg List.length h1
      rw [hS] at h2
      simp at h2 <;> omega
    have hsx := fun w => rsame_val x b false cx.2 hb.2 hne w
    rw [hS] at hp hty
    clear hS hSb hYl hXl cx hb hne hYs hSs
    go_enter Tryd.func4, Tryd.ntmps4
    go_wp2_with (first
        | (go_at_call 6; refine (hfx _).mono ?_; rintro e w' ⟨rfl, rfl⟩)
        | (go_at_call 8; refine (htx _ (by assumption : At w _).env).mono ?_; rintro e w1 ⟨rfl, hb⟩; have hA1 := At.next (w0 := w) (by assumption) hb)
        | (go_at_call 7; refine (hp _ (hA1.alloc _).env).mono ?_; rintro e w2 ⟨rfl, hb2⟩; have hA2 := At.next (w0 := w) (hA1.alloc _) hb2; have hlt : w1.heap.size < w2.heap.size := (by have := hb2.size; simp at this; omega); have hcell : w2.cell? ⟨w1.heap.size, 4, none⟩ = some (.string ((⟨#[48]⟩ : ByteArray) ++ X)) := (hb2.cell (by simp)).trans (by simp)))
    go_region_held3 (fun w' => w'.cell? ⟨w1.heap.size, 4, none⟩ = some (.string ((⟨#[48]⟩ : ByteArray) ++ X)) ∧ At w w' ∧ w1.heap.size < w'.heap.size)
      (first | exact ⟨hcell, hA2.drew, hlt⟩ | assumption | exact keepS (by assumption) (by assumption) rfl)
      (first
        | (go_at_call 8; refine (hty _ (heldAt (w0 := w) (by assumption)).env).mono ?_; rintro e w3 ⟨rfl, hb3⟩)
        | (go_at_call 9; refine (hsx _).mono ?_; rintro e w' ⟨rfl, rfl⟩)
        | (go_at_call 10; refine (awake_any _ (heldAt (w0 := w) (by assumption)).env).mono ?_; rintro e w4 ⟨rfl, hb4⟩))
    go_wp2
    go_ret
    exact ⟨rfl, (heldAt (w0 := w) (by assumption)).below⟩
  · have hp := fun w hE => parse_no S (by omega) (fun b hb h => hy ⟨b, hb, h⟩) w hE
    rw [hS] at hp
    have hs0 := fun w => rsame_val 0 0 true (by decide) (by decide) (by decide) w
    clear hS hy hXl cx hSs
    go_enter Tryd.func4, Tryd.ntmps4
    go_wp2_with (first
        | (go_at_call 6; refine (hfx _).mono ?_; rintro e w' ⟨rfl, rfl⟩)
        | (go_at_call 8; refine (htx _ (by assumption : At w _).env).mono ?_; rintro e w1 ⟨rfl, hb⟩; have hA1 := At.next (w0 := w) (by assumption) hb)
        | (go_at_call 7; refine (hp _ (hA1.alloc _).env).mono ?_; rintro e w2 ⟨rfl, hb2⟩; have hA2 := At.next (w0 := w) (hA1.alloc _) hb2)
        | (go_at_call 9; refine (hs0 _).mono ?_; rintro e w' ⟨rfl, rfl⟩)
        | (go_at_call 10; refine (awake_any _ hA2.env).mono ?_; rintro e w3 ⟨rfl, hb3⟩; have hA3 := At.next (w0 := w) hA2 hb3))
    go_ret
    exact ⟨rfl, hA3.below⟩

set_option maxHeartbeats 1000000 in
theorem lawforms_5 (n : Int) (x : Nat) (cx : Can x) (hfx : ∀ w, Calls Tryd.prog 6 #[.int .u64 n] w fun e w' => e = .returned (.float .f64 x) ∧ w = w') (w : World) (h0 : At w w) :
    Calls Tryd.prog 4 #[.int .u64 n, .int .i64 5] w fun e w' => e = .returned (.bool true) ∧ Below w.heap.size w w' := by
  obtain ⟨X, hXl, hXs, htx⟩ := text_val x cx.2
  obtain ⟨S, hS⟩ : ∃ S : ByteArray, S = X ++ (⟨#[112, 48]⟩ : ByteArray) := ⟨_, rfl⟩
  have hSs : S.size ≤ 24 := by rw [hS]; exact (cat_size X ⟨#[112, 48]⟩ ⟨#[112, 48]⟩ (by decide) (by decide) hXs).2
  by_cases hy : ∃ b, Can b ∧ S.data.toList = text b
  · obtain ⟨b, hb, hSb⟩ := hy
    obtain ⟨Y, hYl, hYs, hty⟩ := text_val b hb.2
    have hYS : Y = S := by
      rw [mk_list Y _ hYl, mk_list S _ hSb]
    subst hYS
    have hp := fun w hE => parse_text b hb Y hYl hYs w hE
    have hne : smB x b = false := by
      rw [smB_can x b cx hb]
      refine decide_eq_false fun h => ?_
      have h1 : X.data.toList = Y.data.toList := by rw [hXl, h, hYl]
      have h2 := congrArg List.length h1
      rw [hS] at h2
      simp at h2 <;> omega
    have hsx := fun w => rsame_val x b false cx.2 hb.2 hne w
    rw [hS] at hp hty
    clear hS hSb hYl hXl cx hb hne hYs hSs
    go_enter Tryd.func4, Tryd.ntmps4
    go_wp2_with (first
        | (go_at_call 6; refine (hfx _).mono ?_; rintro e w' ⟨rfl, rfl⟩)
        | (go_at_call 8; refine (htx _ (by assumption : At w _).env).mono ?_; rintro e w1 ⟨rfl, hb⟩; have hA1 := At.next (w0 := w) (by assumption) hb)
        | (go_at_call 7; refine (hp _ (hA1.alloc _).env).mono ?_; rintro e w2 ⟨rfl, hb2⟩; have hA2 := At.next (w0 := w) (hA1.alloc _) hb2; have hlt : w1.heap.size < w2.heap.size := (by have := hb2.size; simp at this; omega); have hcell : w2.cell? ⟨w1.heap.size, 5, none⟩ = some (.string (X ++ (⟨#[112, 48]⟩ : ByteArray))) := (hb2.cell (by simp)).trans (by simp)))
    go_region_held3 (fun w' => w'.cell? ⟨w1.heap.size, 5, none⟩ = some (.string (X ++ (⟨#[112, 48]⟩ : ByteArray))) ∧ At w w' ∧ w1.heap.size < w'.heap.size)
      (first | exact ⟨hcell, hA2.drew, hlt⟩ | assumption | exact keepS (by assumption) (by assumption) rfl)
      (first
        | (go_at_call 8; refine (hty _ (heldAt (w0 := w) (by assumption)).env).mono ?_; rintro e w3 ⟨rfl, hb3⟩)
        | (go_at_call 9; refine (hsx _).mono ?_; rintro e w' ⟨rfl, rfl⟩)
        | (go_at_call 10; refine (awake_any _ (heldAt (w0 := w) (by assumption)).env).mono ?_; rintro e w4 ⟨rfl, hb4⟩))
    go_wp2
    go_ret
    exact ⟨rfl, (heldAt (w0 := w) (by assumption)).below⟩
  · have hp := fun w hE => parse_no S (by omega) (fun b hb h => hy ⟨b, hb, h⟩) w hE
    rw [hS] at hp
    have hs0 := fun w => rsame_val 0 0 true (by decide) (by decide) (by decide) w
    clear hS hy hXl cx hSs
    go_enter Tryd.func4, Tryd.ntmps4
    go_wp2_with (first
        | (go_at_call 6; refine (hfx _).mono ?_; rintro e w' ⟨rfl, rfl⟩)
        | (go_at_call 8; refine (htx _ (by assumption : At w _).env).mono ?_; rintro e w1 ⟨rfl, hb⟩; have hA1 := At.next (w0 := w) (by assumption) hb)
        | (go_at_call 7; refine (hp _ (hA1.alloc _).env).mono ?_; rintro e w2 ⟨rfl, hb2⟩; have hA2 := At.next (w0 := w) (hA1.alloc _) hb2)
        | (go_at_call 9; refine (hs0 _).mono ?_; rintro e w' ⟨rfl, rfl⟩)
        | (go_at_call 10; refine (awake_any _ hA2.env).mono ?_; rintro e w3 ⟨rfl, hb3⟩; have hA3 := At.next (w0 := w) hA2 hb3))
    go_ret
    exact ⟨rfl, hA3.below⟩

set_option maxHeartbeats 1000000 in
theorem lawforms_6 (n : Int) (x : Nat) (cx : Can x) (hfx : ∀ w, Calls Tryd.prog 6 #[.int .u64 n] w fun e w' => e = .returned (.float .f64 x) ∧ w = w') (w : World) (h0 : At w w) :
    Calls Tryd.prog 4 #[.int .u64 n, .int .i64 6] w fun e w' => e = .returned (.bool true) ∧ Below w.heap.size w w' := by
  obtain ⟨X, hXl, hXs, htx⟩ := text_val x cx.2
  obtain ⟨S, hS⟩ : ∃ S : ByteArray, S = (⟨#[45, 45]⟩ : ByteArray) ++ X := ⟨_, rfl⟩
  have hSs : S.size ≤ 24 := by rw [hS]; exact (cat_size X ⟨#[45, 45]⟩ ⟨#[45, 45]⟩ (by decide) (by decide) hXs).1
  by_cases hy : ∃ b, Can b ∧ S.data.toList = text b
  · obtain ⟨b, hb, hSb⟩ := hy
    obtain ⟨Y, hYl, hYs, hty⟩ := text_val b hb.2
    have hYS : Y = S := by
      rw [mk_list Y _ hYl, mk_list S _ hSb]
    subst hYS
    have hp := fun w hE => parse_text b hb Y hYl hYs w hE
    have hne : smB x b = false := by
      rw [smB_can x b cx hb]
      refine decide_eq_false fun h => ?_
      have h1 : X.data.toList = Y.data.toList := by rw [hXl, h, hYl]
      have h2 := congrArg List.length h1
      rw [hS] at h2
      simp at h2 <;> omega
    have hsx := fun w => rsame_val x b false cx.2 hb.2 hne w
    rw [hS] at hp hty
    clear hS hSb hYl hXl cx hb hne hYs hSs
    go_enter Tryd.func4, Tryd.ntmps4
    go_wp2_with (first
        | (go_at_call 6; refine (hfx _).mono ?_; rintro e w' ⟨rfl, rfl⟩)
        | (go_at_call 8; refine (htx _ (by assumption : At w _).env).mono ?_; rintro e w1 ⟨rfl, hb⟩; have hA1 := At.next (w0 := w) (by assumption) hb)
        | (go_at_call 7; refine (hp _ (hA1.alloc _).env).mono ?_; rintro e w2 ⟨rfl, hb2⟩; have hA2 := At.next (w0 := w) (hA1.alloc _) hb2; have hlt : w1.heap.size < w2.heap.size := (by have := hb2.size; simp at this; omega); have hcell : w2.cell? ⟨w1.heap.size, 6, none⟩ = some (.string ((⟨#[45, 45]⟩ : ByteArray) ++ X)) := (hb2.cell (by simp)).trans (by simp)))
    go_region_held3 (fun w' => w'.cell? ⟨w1.heap.size, 6, none⟩ = some (.string ((⟨#[45, 45]⟩ : ByteArray) ++ X)) ∧ At w w' ∧ w1.heap.size < w'.heap.size)
      (first | exact ⟨hcell, hA2.drew, hlt⟩ | assumption | exact keepS (by assumption) (by assumption) rfl)
      (first
        | (go_at_call 8; refine (hty _ (heldAt (w0 := w) (by assumption)).env).mono ?_; rintro e w3 ⟨rfl, hb3⟩)
        | (go_at_call 9; refine (hsx _).mono ?_; rintro e w' ⟨rfl, rfl⟩)
        | (go_at_call 10; refine (awake_any _ (heldAt (w0 := w) (by assumption)).env).mono ?_; rintro e w4 ⟨rfl, hb4⟩))
    go_wp2
    go_ret
    exact ⟨rfl, (heldAt (w0 := w) (by assumption)).below⟩
  · have hp := fun w hE => parse_no S (by omega) (fun b hb h => hy ⟨b, hb, h⟩) w hE
    rw [hS] at hp
    have hs0 := fun w => rsame_val 0 0 true (by decide) (by decide) (by decide) w
    clear hS hy hXl cx hSs
    go_enter Tryd.func4, Tryd.ntmps4
    go_wp2_with (first
        | (go_at_call 6; refine (hfx _).mono ?_; rintro e w' ⟨rfl, rfl⟩)
        | (go_at_call 8; refine (htx _ (by assumption : At w _).env).mono ?_; rintro e w1 ⟨rfl, hb⟩; have hA1 := At.next (w0 := w) (by assumption) hb)
        | (go_at_call 7; refine (hp _ (hA1.alloc _).env).mono ?_; rintro e w2 ⟨rfl, hb2⟩; have hA2 := At.next (w0 := w) (hA1.alloc _) hb2)
        | (go_at_call 9; refine (hs0 _).mono ?_; rintro e w' ⟨rfl, rfl⟩)
        | (go_at_call 10; refine (awake_any _ hA2.env).mono ?_; rintro e w3 ⟨rfl, hb3⟩; have hA3 := At.next (w0 := w) hA2 hb3))
    go_ret
    exact ⟨rfl, hA3.below⟩

set_option maxHeartbeats 1000000 in
theorem lawforms_7 (n : Int) (x : Nat) (cx : Can x) (hfx : ∀ w, Calls Tryd.prog 6 #[.int .u64 n] w fun e w' => e = .returned (.float .f64 x) ∧ w = w') (w : World) (h0 : At w w) :
    Calls Tryd.prog 4 #[.int .u64 n, .int .i64 7] w fun e w' => e = .returned (.bool true) ∧ Below w.heap.size w w' := by
  obtain ⟨X, hXl, hXs, htx⟩ := text_val x cx.2
  obtain ⟨S, hS⟩ : ∃ S : ByteArray, S = X ++ (⟨#[46]⟩ : ByteArray) := ⟨_, rfl⟩
  have hSs : S.size ≤ 24 := by rw [hS]; exact (cat_size X ⟨#[46]⟩ ⟨#[46]⟩ (by decide) (by decide) hXs).2
  by_cases hy : ∃ b, Can b ∧ S.data.toList = text b
  · obtain ⟨b, hb, hSb⟩ := hy
    obtain ⟨Y, hYl, hYs, hty⟩ := text_val b hb.2
    have hYS : Y = S := by
      rw [mk_list Y _ hYl, mk_list S _ hSb]
    subst hYS
    have hp := fun w hE => parse_text b hb Y hYl hYs w hE
    have hne : smB x b = false := by
      rw [smB_can x b cx hb]
      refine decide_eq_false fun h => ?_
      have h1 : X.data.toList = Y.data.toList := by rw [hXl, h, hYl]
      have h2 := congrArg List.length h1
      rw [hS] at h2
      simp at h2 <;> omega
    have hsx := fun w => rsame_val x b false cx.2 hb.2 hne w
    rw [hS] at hp hty
    clear hS hSb hYl hXl cx hb hne hYs hSs
    go_enter Tryd.func4, Tryd.ntmps4
    go_wp2_with (first
        | (go_at_call 6; refine (hfx _).mono ?_; rintro e w' ⟨rfl, rfl⟩)
        | (go_at_call 8; refine (htx _ (by assumption : At w _).env).mono ?_; rintro e w1 ⟨rfl, hb⟩; have hA1 := At.next (w0 := w) (by assumption) hb)
        | (go_at_call 7; refine (hp _ (hA1.alloc _).env).mono ?_; rintro e w2 ⟨rfl, hb2⟩; have hA2 := At.next (w0 := w) (hA1.alloc _) hb2; have hlt : w1.heap.size < w2.heap.size := (by have := hb2.size; simp at this; omega); have hcell : w2.cell? ⟨w1.heap.size, 7, none⟩ = some (.string (X ++ (⟨#[46]⟩ : ByteArray))) := (hb2.cell (by simp)).trans (by simp)))
    go_region_held3 (fun w' => w'.cell? ⟨w1.heap.size, 7, none⟩ = some (.string (X ++ (⟨#[46]⟩ : ByteArray))) ∧ At w w' ∧ w1.heap.size < w'.heap.size)
      (first | exact ⟨hcell, hA2.drew, hlt⟩ | assumption | exact keepS (by assumption) (by assumption) rfl)
      (first
        | (go_at_call 8; refine (hty _ (heldAt (w0 := w) (by assumption)).env).mono ?_; rintro e w3 ⟨rfl, hb3⟩)
        | (go_at_call 9; refine (hsx _).mono ?_; rintro e w' ⟨rfl, rfl⟩)
        | (go_at_call 10; refine (awake_any _ (heldAt (w0 := w) (by assumption)).env).mono ?_; rintro e w4 ⟨rfl, hb4⟩))
    go_wp2
    go_ret
    exact ⟨rfl, (heldAt (w0 := w) (by assumption)).below⟩
  · have hp := fun w hE => parse_no S (by omega) (fun b hb h => hy ⟨b, hb, h⟩) w hE
    rw [hS] at hp
    have hs0 := fun w => rsame_val 0 0 true (by decide) (by decide) (by decide) w
    clear hS hy hXl cx hSs
    go_enter Tryd.func4, Tryd.ntmps4
    go_wp2_with (first
        | (go_at_call 6; refine (hfx _).mono ?_; rintro e w' ⟨rfl, rfl⟩)
        | (go_at_call 8; refine (htx _ (by assumption : At w _).env).mono ?_; rintro e w1 ⟨rfl, hb⟩; have hA1 := At.next (w0 := w) (by assumption) hb)
        | (go_at_call 7; refine (hp _ (hA1.alloc _).env).mono ?_; rintro e w2 ⟨rfl, hb2⟩; have hA2 := At.next (w0 := w) (hA1.alloc _) hb2)
        | (go_at_call 9; refine (hs0 _).mono ?_; rintro e w' ⟨rfl, rfl⟩)
        | (go_at_call 10; refine (awake_any _ hA2.env).mono ?_; rintro e w3 ⟨rfl, hb3⟩; have hA3 := At.next (w0 := w) hA2 hb3))
    go_ret
    exact ⟨rfl, hA3.below⟩

set_option maxHeartbeats 1000000 in
theorem lawforms_any (n : Int) (hn0 : 0 ≤ n) (hn1 : n < 18446744073709551616) (k : Int) (w : World) (hE : Env w) :
    Calls Tryd.prog 4 #[.int .u64 n, .int .i64 k] w fun e w' => e = .returned (.bool true) ∧ Below w.heap.size w w' := by
  have hfx := fun w => rfrom_any n hn0 hn1 w
  have cx := can_cb n.toNat (by omega)
  obtain ⟨x, hx⟩ : ∃ x, x = cb n.toNat := ⟨_, rfl⟩
  rw [← hx] at hfx cx
  clear hx hn0 hn1
  have h0 : At w w := ⟨hE, Below.refl _ _⟩
  obtain ⟨X, hXl, hXs, htx⟩ := text_val x cx.2
  by_cases hk : k < 0 ∨ 8 ≤ k
  · clear cx hXl
    rcases hk with hk | hk
    all_goals
      go_enter Tryd.func4, Tryd.ntmps4
      go_wp2_with (first
        | (go_at_call 6; refine (hfx _).mono ?_; rintro e w' ⟨rfl, rfl⟩)
        | (go_at_call 8; refine (htx _ (by assumption : At w _).env).mono ?_; rintro e w1 ⟨rfl, hb⟩; have hA1 := At.next (w0 := w) (by assumption) hb)
        | (go_at_call 10; refine (awake_any _ (hA1.alloc _).env).mono ?_; rintro e w2 ⟨rfl, hb2⟩; have hA2 := At.next (w0 := w) (hA1.alloc _) hb2))
      go_ret
      exact ⟨rfl, hA2.below⟩
  · have hkk : k = 0 ∨ k = 1 ∨ k = 2 ∨ k = 3 ∨ k = 4 ∨ k = 5 ∨ k = 6 ∨ k = 7 := by omega
    rcases hkk with rfl | rfl | rfl | rfl | rfl | rfl | rfl | rfl
    · exact lawforms_0 n x cx hfx w h0
    · exact lawforms_1 n x cx hfx w h0
    · exact lawforms_2 n x cx hfx w h0
    · exact lawforms_3 n x cx hfx w h0
    · exact lawforms_4 n x cx hfx w h0
    · exact lawforms_5 n x cx hfx w h0
    · exact lawforms_6 n x cx hfx w h0
    · exact lawforms_7 n x cx hfx w h0

end Go.Proofs.YtlbnfnfenphfbaaDoor
