/- Proved: small and awake of the laws about sums; and what Mean, Spread and Dot answer, with their errors, each as a plain function. -/
import Derived.Test.YtphhonpibmbjmaaRdot
namespace Go.Proofs.Ytphhonpibmbjmaa
open Go.RowKit Fl

def mv (L : List Nat) : Nat := if L.length = 0 then 0 else meanW L
def mc (L : List Nat) : Int := if L.length = 0 then 14 else 0
def sv' (L : List Nat) : Nat := if L.length = 0 then 0 else spreadW L
def dv (A B : List Nat) : Nat := if A.length = B.length then dotW A B else 0
def dc (A B : List Nat) : Int := if A.length = B.length then 0 else 1
theorem mv_lt (L : List Nat) : mv L < 18446744073709551616 := by unfold mv; split; omega; exact fo_lt f_quo _ _
theorem sv_lt (L : List Nat) : sv' L < 18446744073709551616 := by unfold sv'; split; omega; exact fo_lt f_quo _ _
theorem dv_lt (A B : List Nat) : dv A B < 18446744073709551616 := by unfold dv; split; exact (sum_can _).2; omega

theorem sum_u {v : Value} {L : List Nat} {w : World} (hv : View w v L) (hb : L.length ≤ 1000000) (hf : ∀ x ∈ L, x < 18446744073709551616) :
    Calls Try.prog 21 #[v] w fun e w' => e = .returned (.float .f64 (sumW L)) ∧ Below w.heap.size w w' := by
  refine (sum_any v L w hv hb hf).mono ?_
  rintro e w' ⟨rfl, m, rfl⟩
  exact ⟨rfl, below_drawn _ _⟩
theorem rsum_u {v : Value} {L : List Nat} {w : World} (hv : View w v L) (hb : L.length ≤ 1000000) (hf : ∀ x ∈ L, x < 18446744073709551616) :
    Calls Try.prog 22 #[v] w fun e w' => e = .returned (.float .f64 (sumW L)) ∧ Below w.heap.size w w' := by
  refine (rsum_any v L w hv hb hf).mono ?_
  rintro e w' ⟨rfl, m, rfl⟩
  exact ⟨rfl, below_drawn _ _⟩
theorem mean_u {v : Value} {L : List Nat} {w : World} (hv : View w v L) (hb : L.length ≤ 1000000) (hf : ∀ x ∈ L, x < 18446744073709551616) :
    Calls Try.prog 14 #[v] w fun e w' => e = .returned (.tuple #[.float .f64 (mv L), .int .i64 (mc L)]) ∧ Below w.heap.size w w' := by
  unfold mv mc
  by_cases h : L.length = 0
  · rw [if_pos h, if_pos h]
    rw [List.eq_nil_of_length_eq_zero h] at hv
    refine (mean_none v w hv).mono ?_
    rintro e w' ⟨rfl, rfl⟩
    exact ⟨rfl, Below.refl _ _⟩
  · rw [if_neg h, if_neg h]
    refine (mean_any v L w hv (by omega) hb hf).mono ?_
    rintro e w' ⟨rfl, m, rfl⟩
    exact ⟨rfl, below_drawn _ _⟩
theorem rmean_u {v : Value} {L : List Nat} {w : World} (hv : View w v L) (hb : L.length ≤ 1000000) (hf : ∀ x ∈ L, x < 18446744073709551616) :
    Calls Try.prog 15 #[v] w fun e w' => e = .returned (.tuple #[.float .f64 (mv L), .int .i64 (mc L)]) ∧ Below w.heap.size w w' := by
  unfold mv mc
  by_cases h : L.length = 0
  · rw [if_pos h, if_pos h]
    rw [List.eq_nil_of_length_eq_zero h] at hv
    refine (rmean_none v w hv).mono ?_
    rintro e w' ⟨rfl, rfl⟩
    exact ⟨rfl, Below.refl _ _⟩
  · rw [if_neg h, if_neg h]
    refine (rmean_any v L w hv (by omega) hb hf).mono ?_
    rintro e w' ⟨rfl, m, rfl⟩
    exact ⟨rfl, below_drawn _ _⟩
theorem spread_u {v : Value} {L : List Nat} {w : World} (hv : View w v L) (hb : L.length ≤ 1000000) (hf : ∀ x ∈ L, x < 18446744073709551616) :
    Calls Try.prog 16 #[v] w fun e w' => e = .returned (.tuple #[.float .f64 (sv' L), .int .i64 (mc L)]) ∧ Below w.heap.size w w' := by
  unfold sv' mc
  by_cases h : L.length = 0
  · rw [if_pos h, if_pos h]
    rw [List.eq_nil_of_length_eq_zero h] at hv
    refine (spread_none v w hv).mono ?_
    rintro e w' ⟨rfl, rfl⟩
    exact ⟨rfl, Below.refl _ _⟩
  · rw [if_neg h, if_neg h]
    refine (spread_any v L w hv (by omega) hb hf).mono ?_
    rintro e w' ⟨⟨r, rfl, rfl⟩, h⟩
    exact ⟨rfl, h⟩
theorem rspread_u {v : Value} {L : List Nat} {w : World} (hv : View w v L) (hb : L.length ≤ 1000000) (hf : ∀ x ∈ L, x < 18446744073709551616) :
    Calls Try.prog 17 #[v] w fun e w' => e = .returned (.tuple #[.float .f64 (sv' L), .int .i64 (mc L)]) ∧ Below w.heap.size w w' := by
  unfold sv' mc
  by_cases h : L.length = 0
  · rw [if_pos h, if_pos h]
    rw [List.eq_nil_of_length_eq_zero h] at hv
    refine (rspread_none v w hv).mono ?_
    rintro e w' ⟨rfl, rfl⟩
    exact ⟨rfl, Below.refl _ _⟩
  · rw [if_neg h, if_neg h]
    refine (rspread_any v L w hv (by omega) hb hf).mono ?_
    rintro e w' ⟨⟨r, rfl, rfl⟩, h⟩
    exact ⟨rfl, h⟩
theorem dot_u {v u : Value} {A B : List Nat} {w : World} (hv : View w v A) (hu : View w u B) (hb : A.length ≤ 1000000) :
    Calls Try.prog 18 #[v, u] w fun e w' => e = .returned (.tuple #[.float .f64 (dv A B), .int .i64 (dc A B)]) ∧ Below w.heap.size w w' := by
  unfold dv dc
  by_cases h : A.length = B.length
  · rw [if_pos h, if_pos h]
    refine (dot_any v u A B w hv hu h hb).mono ?_
    rintro e w' ⟨⟨r, rfl, rfl⟩, h⟩
    exact ⟨rfl, h⟩
  · rw [if_neg h, if_neg h]
    refine (dot_off v u A B w hv hu h).mono ?_
    rintro e w' ⟨rfl, rfl⟩
    exact ⟨rfl, Below.refl _ _⟩
theorem rdot_u {v u : Value} {A B : List Nat} {w : World} (hv : View w v A) (hu : View w u B) (hb : A.length ≤ 1000000) :
    Calls Try.prog 19 #[v, u] w fun e w' => e = .returned (.tuple #[.float .f64 (dv A B), .int .i64 (dc A B)]) ∧ Below w.heap.size w w' := by
  unfold dv dc
  by_cases h : A.length = B.length
  · rw [if_pos h, if_pos h]
    refine (rdot_any v u A B w hv hu h hb).mono ?_
    rintro e w' ⟨⟨r, rfl, rfl⟩, h⟩
    exact ⟨rfl, h⟩
  · rw [if_neg h, if_neg h]
    refine (rdot_off v u A B w hv hu h).mono ?_
    rintro e w' ⟨rfl, rfl⟩
    exact ⟨rfl, Below.refl _ _⟩

/-- What stood at the law's beginning stands. -/
def At (w0 w : World) : Prop := Below w0.heap.size w0 w
theorem At.start (w : World) : At w w := Below.refl _ _
theorem At.next {w0 w w' : World} (h : At w0 w) (h' : Below w.heap.size w w') : At w0 w' := h.trans (h'.mono h.size)
theorem At.drawn {w0 w : World} (h : At w0 w) (m : Nat) : At w0 (w.drewN m) := h.next (below_drawn w m)
theorem At.view {w0 w : World} (h : At w0 w) {v : Value} {L : List Nat} (hv : View w0 v L) : View w v L := view_below hv h

theorem rsame_self (q : Nat) (h : q < 18446744073709551616) (w : World) :
    Calls Try.prog 20 #[.float .f64 q, .float .f64 q] w fun e w' => e = .returned (.bool true) ∧ w = w' := by
  have := rsame_any q q h h w
  rw [show smB q q = true by unfold smB; exact decide_eq_true rfl] at this
  exact this

set_option maxHeartbeats 400000 in
theorem small_any (a : Option Addr) (n cap : Nat) (w : World) :
    Calls Try.prog 12 #[.slice a n cap] w fun e w' => e = .returned (.bool (decide (n ≤ 300))) ∧ w = w' := by
  go_enter Try.func12, Try.ntmps12
  go_wp2
  go_ret
  exact ⟨by
    have : decide ((n : Int) ≤ 300) = decide (n ≤ 300) := by rw [decide_eq_decide]; omega
    rw [← this]; rfl, rfl⟩

theorem mv_12 : mv [4607182418800017408, 4611686018427387904] = 4609434218613702656 := by decide +kernel
theorem sum_4 : sumW [4607182418800017408, 6103021453049119613, 4607182418800017408, 15326393489903895421] = 4611686018427387904 := by decide +kernel

set_option maxHeartbeats 1000000 in
theorem awake_any (w : World) : Calls Try.prog 13 #[] w fun e w' => e = .returned (.bool true) ∧ Below w.heap.size w w' := by
  have h1 := fun w => mean_none (.slice none 0 0) w (.inl ⟨rfl, rfl⟩)
  have h2 : ∀ w : World, Calls Try.prog 14 #[.slice (some ⟨w.heap.size, 0, none⟩) 2 2] (w.alloc (.cells #[.float .f64 4607182418800017408, .float .f64 4611686018427387904] 25)) fun e w' =>
      e = .returned (.tuple #[.float .f64 4609434218613702656, .int .i64 0]) ∧ Below w.heap.size (w.alloc (.cells #[.float .f64 4607182418800017408, .float .f64 4611686018427387904] 25)) w' := fun w => by
    have := mean_u (v := .slice (some ⟨w.heap.size, 0, none⟩) 2 2) (L := [4607182418800017408, 4611686018427387904]) (w := w.alloc (.cells #[.float .f64 4607182418800017408, .float .f64 4611686018427387904] 25)) (.inr (.inr ⟨w.heap.size, 0, 2, rfl, by decide, by simp, fun j hj => by
      match j, hj with
      | 0, _ => simp [go_sem]
      | 1, _ => simp [go_sem]⟩)) (by decide) (by decide)
    rw [mv_12] at this
    refine this.mono ?_
    rintro e w' ⟨rfl, hb⟩
    exact ⟨rfl, hb.mono (by simp)⟩
  have h3 : ∀ w : World, Calls Try.prog 21 #[.slice (some ⟨w.heap.size, 0, none⟩) 4 4] (w.alloc (.cells #[.float .f64 4607182418800017408, .float .f64 6103021453049119613, .float .f64 4607182418800017408, .float .f64 15326393489903895421] 25)) fun e w' =>
      e = .returned (.float .f64 4611686018427387904) ∧ Below w.heap.size (w.alloc (.cells #[.float .f64 4607182418800017408, .float .f64 6103021453049119613, .float .f64 4607182418800017408, .float .f64 15326393489903895421] 25)) w' := fun w => by
    have := sum_any (.slice (some ⟨w.heap.size, 0, none⟩) 4 4) [4607182418800017408, 6103021453049119613, 4607182418800017408, 15326393489903895421] (w.alloc (.cells #[.float .f64 4607182418800017408, .float .f64 6103021453049119613, .float .f64 4607182418800017408, .float .f64 15326393489903895421] 25)) (.inr (.inr ⟨w.heap.size, 0, 4, rfl, by decide, by simp, fun j hj => by
      match j, hj with
      | 0, _ => simp [go_sem]
      | 1, _ => simp [go_sem]
      | 2, _ => simp [go_sem]
      | 3, _ => simp [go_sem]⟩)) (by decide) (by decide)
    rw [sum_4] at this
    refine this.mono ?_
    rintro e w' ⟨rfl, m, rfl⟩
    exact ⟨rfl, below_drewN (Below.refl _ _) m⟩
  have o1 : FloatKind.f64.format.order 4611686018427387904 4611686018427387904 = some .eq := ord_self _ (by decide) (by decide)
  have o2 : FloatKind.f64.format.order 4609434218613702656 4609434218613702656 = some .eq := ord_self _ (by decide) (by decide)
  go_enter Try.func13, Try.ntmps13
  go_wp2_with (first
    | (go_at_call 14; (with_reducible refine (h1 _).mono ?_); rintro e w' ⟨rfl, hw⟩; replace hw := hw.symm; subst hw)
    | (go_at_call 14; refine (h2 _).mono ?_; rintro e w2 ⟨rfl, hb2⟩; have HB2 := Lib.hid hb2; clear hb2)
    | (go_at_call 21; refine (h3 _).mono ?_; rintro e w3 ⟨rfl, hb3⟩; have HB3 := Lib.hid hb3; clear hb3))
  go_ret
  have k2 := (Below.refl w.heap.size w).alloc (Nat.le_refl _) (.cells #[.float .f64 4607182418800017408, .float .f64 4611686018427387904] 25) |>.trans HB2.out
  exact ⟨rfl, (k2.alloc k2.size _).trans (HB3.out.mono k2.size)⟩

end Go.Proofs.Ytphhonpibmbjmaa
