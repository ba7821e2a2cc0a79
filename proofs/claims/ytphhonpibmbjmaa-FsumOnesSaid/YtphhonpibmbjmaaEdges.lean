/- Proved: the law FsumEdges answers true at any list, and leaves what there was as it was. -/
import Derived.Test.YtphhonpibmbjmaaBound
import Derived.Test.YtphhonpibmbjmaaAwk
import Derived.Deep.LoopGhost
import Derived.Deep.CutRange
namespace Go.Proofs.Ytphhonpibmbjmaa
open Go.RowKit Fl

theorem mag_great (e r : Nat) (he : e = 2071) (h : r ≤ 9094988921128908188) : mag r ≤ 1 * 2 ^ e := by
  obtain ⟨x, hx⟩ : ∃ x : Nat, x = 9097271247288401920 / 4503599627370496 - 1 := ⟨_, rfl⟩
  have h1 : mag r ≤ mag 9097271247288401920 := mag_le (by omega)
  have h2 : mag 9097271247288401920 = 1 * 2 ^ e := by
    have he2 : e = 52 + x := by omega
    unfold mag
    rw [if_neg (by decide), ← hx, he2, Nat.pow_add, Nat.one_mul]
  omega
/-- Is a number finite and great? -/
def gx (x : Nat) : Bool := decide (rg x < 9218868437227405312 ∧ 9094988921128908188 < rg x)
/-- What the law's flags tell of the first k numbers. -/
def EI (e : Nat) (L : List Nat) (k : Nat) (bad up down great minus : Bool) : Prop :=
  (bad = true ↔ ∃ j, j < k ∧ isN (L.getD j 0) = true) ∧ (bad = false → great = false → Inv e k up down ((L.take k).foldl stW (0, 0))) ∧ (minus = true ↔ ∀ j, j < k → L.getD j 0 = 9223372036854775808)
theorem cls_is (x : Nat) (hx : x < 18446744073709551616) : ((cls x == 1) = isN x) ∧ ((cls x == 9) = (x == INF false)) ∧ ((cls x == 2) = (x == INF true)) ∧ ((cls x == 5) = (x == 9223372036854775808)) ∧
    (isN x = false → gx x = false → ∀ e, e = 2071 → Bd e 1 x ∨ x = INF false ∨ x = INF true) := by
  have i0 : INF false = 9218868437227405312 := by decide
  have i1 : INF true = 18442240474082181120 := by decide
  rw [i0, i1]
  have hbd : isN x = false → gx x = false → ∀ e, e = 2071 → Bd e 1 x ∨ x = 9218868437227405312 ∨ x = 18442240474082181120 := by
    intro hn hg e he
    have hm : ¬ 9218868437227405312 < x % 9223372036854775808 := by simpa [isN] using hn
    by_cases hf : x % 9223372036854775808 < 9218868437227405312
    · left
      refine ⟨⟨hx, hf⟩, ?_⟩
      rw [sm_abs]
      refine mag_great e _ he ?_
      have hg2 : ¬ (rg x < 9218868437227405312 ∧ 9094988921128908188 < rg x) := of_decide_eq_false hg
      unfold rg at hg2 ⊢
      omega
    · right; omega
  refine ⟨?_, ?_, ?_, ?_, hbd⟩
  all_goals
    rcases cls_cases x hx with ⟨hn, hc⟩ | ⟨hn, _, h⟩
    · have hm : 9218868437227405312 < x % 9223372036854775808 := by simpa [isN] using hn
      rw [hc]
      first
        | (rw [hn]; rfl)
        | (rw [Bool.eq_iff_iff, beq_iff_eq, beq_iff_eq]; constructor <;> intro k <;> omega)
    · have hm : ¬ 9218868437227405312 < x % 9223372036854775808 := by simpa [isN] using hn
      rcases h with ⟨k, hc⟩ | ⟨k, k', hc⟩ | ⟨k, k', hc⟩ | ⟨k, hc⟩ | ⟨k, hc⟩ | ⟨k, k', hc⟩ | ⟨k, k', hc⟩ | ⟨k, hc⟩ <;> rw [hc] <;>
      first
        | (rw [hn]; rfl)
        | (rw [Bool.eq_iff_iff, beq_iff_eq, beq_iff_eq]; constructor <;> intro k <;> omega)
theorem ei_step {e k : Nat} {L : List Nat} {bad up down great minus : Bool} (h : EI e L k bad up down great minus) (hk : k < L.length) (hk3 : L.length ≤ 300) (he : e = 2071) (hx : L.getD k 0 < 18446744073709551616) :
    EI e L (k + 1) (bad || cls (L.getD k 0) == 1) (up || cls (L.getD k 0) == 9) (down || cls (L.getD k 0) == 2) (great || gx (L.getD k 0)) (minus && cls (L.getD k 0) == 5) := by
  obtain ⟨c1, c2, c3, c4, c5⟩ := cls_is _ hx
  rw [c1, c2, c3, c4]
  refine ⟨?_, ?_, ?_⟩
  · rw [Bool.or_eq_true]
    constructor
    · rintro (hb | hb)
      · obtain ⟨j, hj, hn⟩ := h.1.1 hb
        exact ⟨j, by omega, hn⟩
      · exact ⟨k, by omega, hb⟩
    · rintro ⟨j, hj, hn⟩
      by_cases e : j = k
      · subst e; exact .inr hn
      · exact .inl (h.1.2 ⟨j, by omega, hn⟩)
  · intro hb hg
    rw [Bool.or_eq_false_iff] at hb hg
    rw [run_succ L k hk]
    exact inv_step (h.2.1 hb.1 hg.1) (c5 hb.2 hg.2 e he) (by omega) (by omega) (by omega)
  · rw [Bool.and_eq_true, beq_iff_eq]
    constructor
    · rintro ⟨h1, h2⟩ j hj
      by_cases e : j = k
      · subst e; exact h2
      · exact h.2.2.1 h1 j (by omega)
    · intro hj
      exact ⟨h.2.2.2 fun j h' => hj j (by omega), hj k (by omega)⟩
theorem ei_start (e : Nat) (L : List Nat) : EI e L 0 false false false false true := by
  refine ⟨?_, ?_, ?_⟩
  · constructor
    · intro h; cases h
    · rintro ⟨j, hj, _⟩; omega
  · intro _ _
    exact ⟨bd_zero e, by rw [Nat.mul_zero]; exact bd_zero e⟩
  · exact ⟨fun _ j hj => by omega, fun _ => rfl⟩
/-- Such an operation without an answer, in each world that was drawn from. -/
theorem nan_runs {P : Program} (w : World) (op : BinOp) (hop : Four op) (t : TypeId) (x y : Nat) (h : floatBits op .f64 x y = none) :
    ∃ f : Nat → Nat, ∀ m, isN (f m) = true ∧ f m < 18446744073709551616 ∧ (binOp op t (.float .f64 x) (.float .f64 y)).run P (w.drewN m) = .ok (.float .f64 (f m)) (w.drewN (m + 1)) := by
  have key : ∀ m : Nat, ∃ b, isN b = true ∧ b < 18446744073709551616 ∧ (binOp op t (.float .f64 x) (.float .f64 y)).run P (w.drewN m) = .ok (.float .f64 b) (w.drewN (m + 1)) := fun m => run_float_nan (P := P) (w.drewN m) op hop t x y h
  exact ⟨fun m => Classical.choose (key m), fun m => Classical.choose_spec (key m)⟩

theorem sum_inf {L : List Nat} {s : Bool} (h : runW L = (INF s, 9221120237041090560)) (hn : ¬ (L ≠ [] ∧ ∀ x ∈ L, x = 9223372036854775808)) : sumW L = INF s := by
  unfold sumW
  rw [if_neg hn, h]; rfl
theorem sum_both {L : List Nat} (h : runW L = (9221120237041090560, 9221120237041090560)) (hn : ¬ (L ≠ [] ∧ ∀ x ∈ L, x = 9223372036854775808)) : sumW L = 9221120237041090560 := by
  unfold sumW
  rw [if_neg hn, h]; rfl
/-- What the flags tell of the sum's class. -/
theorem ei_end {e : Nat} {L : List Nat} {bad up down great minus : Bool} (h : EI e L L.length bad up down great minus) (h0 : 0 < L.length) (hl : L.length ≤ 300) (he : e = 2071) (hf : ∀ x ∈ L, x < 18446744073709551616) :
    (bad = true → cls (sumW L) = 1) ∧ (bad = false → great = false → up = true → down = true → cls (sumW L) = 1) ∧ (bad = false → great = false → up = true → down = false → cls (sumW L) = 9) ∧
      (bad = false → great = false → up = false → down = true → cls (sumW L) = 2) ∧ (bad = false → great = false → up = false → down = false → minus = true → cls (sumW L) = 5) ∧
      (bad = false → great = false → up = false → down = false → ¬ cls (sumW L) = 1 ∧ ¬ cls (sumW L) = 9 ∧ ¬ cls (sumW L) = 2) := by
  have hrun : (L.take L.length).foldl stW (0, 0) = runW L := by rw [List.take_length]; rfl
  have hne : L ≠ [] := fun h => by rw [h] at h0; simp at h0
  have hm : minus = true ↔ ∀ x ∈ L, x = 9223372036854775808 := by rw [h.2.2, all_neg]
  have hneg0 : (∀ x ∈ L, x = 9223372036854775808) → runW L = (0, 0) ∨ True := fun _ => .inr trivial
  have hz : ∀ p : Nat × Nat, p = runW L → (∀ x ∈ L, x = 9223372036854775808) → Bd e L.length p.1 := fun p hp ha => by
    rw [hp]
    exact (run_bd (by omega) (by omega) L hl (fun x hx => by rw [ha x hx]; exact ⟨⟨by decide, by decide⟩, by
      have : sm 9223372036854775808 = 0 := by decide
      rw [this]; simp⟩)).1
  have ninf : ∀ s, ¬ Bd e L.length (INF s) := fun s k => by
    have := k.1.2
    have e : INF s % 9223372036854775808 = 9218868437227405312 := (word_num s _ (Nat.le_refl _)).2.2.1
    rw [e] at this; omega
  have nnan : ¬ Bd e L.length 9221120237041090560 := fun k => by
    have := k.1.2
    omega
  refine ⟨fun hb => ?_, fun hb hg hu hd => ?_, fun hb hg hu hd => ?_, fun hb hg hu hd => ?_, fun hb hg hu hd hmi => ?_, fun hb hg hu hd => ?_⟩
  · obtain ⟨j, hj, hn⟩ := h.1.1 hb
    rw [sum_nan_all L hf ⟨L.getD j 0, by rw [List.getD_eq_getElem?_getD, List.getElem?_eq_getElem hj]; exact List.getElem_mem hj, hn⟩]
    decide
  · have hi := h.2.1 hb hg
    rw [hu, hd, hrun] at hi
    have hi : runW L = _ := hi
    rw [sum_both hi (fun k => nnan (by have := hz _ rfl k.2; rw [hi] at this; exact this))]
    decide
  · have hi := h.2.1 hb hg
    rw [hu, hd, hrun] at hi
    have hi : runW L = _ := hi
    rw [sum_inf hi (fun k => ninf false (by have := hz _ rfl k.2; rw [hi] at this; exact this))]
    decide
  · have hi := h.2.1 hb hg
    rw [hu, hd, hrun] at hi
    have hi : runW L = _ := hi
    rw [sum_inf hi (fun k => ninf true (by have := hz _ rfl k.2; rw [hi] at this; exact this))]
    decide
  · rw [sum_neg ⟨hne, hm.1 hmi⟩]; decide
  · have hi := h.2.1 hb hg
    rw [hu, hd, hrun] at hi
    have hfin : Fin' (sumW L) := by
      unfold sumW
      split
      · exact ⟨by decide, by decide⟩
      · rw [if_neg (by rw [fin_num hi.2.1]; decide)]
        exact (add_bd hi.1 hi.2 (by omega) (by omega) (by omega)).1
    obtain ⟨c1, c2, c3, _, _⟩ := cls_is (sumW L) hfin.1
    have hN := fin_num hfin
    have hI : ∀ s, (sumW L == INF s) = false := fun s => by
      have e : INF s % 9223372036854775808 = 9218868437227405312 := (word_num s _ (Nat.le_refl _)).2.2.1
      have := hfin.2
      simp only [beq_eq_false_iff_ne, ne_eq]
      intro c; rw [c, e] at this; omega
    rw [hN] at c1
    rw [hI] at c2 c3
    exact ⟨by simpa using c1, by simpa using c2, by simpa using c3⟩

theorem rclass_val (b : Nat) (v : Int) (hb : b < 18446744073709551616) (h : cls b = v) (w : World) :
    Calls Try.prog 26 #[.float .f64 b] w fun e w' => e = .returned (.int .i64 v) ∧ w = w' := by
  have := rclass_any b hb w
  rw [h] at this
  exact this
theorem sub_self_nan (x : Nat) (hx : x < 18446744073709551616) (h : ¬ rg x < 9218868437227405312) : floatBits .sub .f64 x x = none := by
  unfold rg at h
  by_cases hn : isN x = true
  · exact none_l f_sub x x hx hn
  · have hm : ¬ 9218868437227405312 < x % 9223372036854775808 := by simpa [isN] using hn
    exact sub_self_inf x (by omega) hx
/-- How a number stands to the bound on either side. -/
theorem gx_ways (x : Nat) (hx : x < 18446744073709551616) : (¬ rg x < 9218868437227405312 ∧ gx x = false) ∨
    (rg x < 9218868437227405312 ∧ FloatKind.f64.format.order x 9094988921128908188 = some .gt ∧ gx x = true) ∨
    (rg x < 9218868437227405312 ∧ (FloatKind.f64.format.order x 9094988921128908188 == some .gt) = false ∧ FloatKind.f64.format.order x 18318360957983683996 = some .lt ∧ gx x = true) ∨
    (rg x < 9218868437227405312 ∧ (FloatKind.f64.format.order x 9094988921128908188 == some .gt) = false ∧ (FloatKind.f64.format.order x 18318360957983683996 == some .lt) = false ∧ gx x = false) := by
  by_cases hf : rg x < 9218868437227405312
  · right
    have hn : isN x = false := fin_num ⟨hx, hf⟩
    have s1 : sr 9094988921128908188 = 9094988921128908188 := by decide
    have s2 : sr 18318360957983683996 = -9094988921128908188 := by decide
    have hs : sr x = if x < 9223372036854775808 then (rg x : Int) else -(rg x : Int) := by
      unfold sr rg; split <;> omega
    by_cases h1 : 9094988921128908188 < sr x
    · left
      refine ⟨hf, ord_gt _ _ hx (by decide) hn (by decide) (by rw [s1]; exact h1), ?_⟩
      unfold gx
      rw [hs] at h1
      exact decide_eq_true ⟨hf, by split at h1 <;> omega⟩
    · right
      have o1 : (FloatKind.f64.format.order x 9094988921128908188 == some .gt) = false := by
        rcases Int.lt_or_le (sr x) 9094988921128908188 with k | k
        · rw [ord_lt _ _ hx (by decide) hn (by decide) (by rw [s1]; exact k)]; rfl
        · rw [ord_eq _ _ hx (by decide) hn (by decide) (by rw [s1]; omega)]; rfl
      by_cases h2 : sr x < -9094988921128908188
      · left
        refine ⟨hf, o1, ord_lt _ _ hx (by decide) hn (by decide) (by rw [s2]; exact h2), ?_⟩
        unfold gx
        rw [hs] at h2
        exact decide_eq_true ⟨hf, by split at h2 <;> omega⟩
      · right
        refine ⟨hf, o1, ?_, ?_⟩
        · rcases Int.lt_or_le (-9094988921128908188) (sr x) with k | k
          · rw [ord_gt _ _ hx (by decide) hn (by decide) (by rw [s2]; exact k)]; rfl
          · rw [ord_eq _ _ hx (by decide) hn (by decide) (by rw [s2]; omega)]; rfl
        · unfold gx
          rw [hs] at h1 h2
          exact decide_eq_false (by split at h1 <;> omega)
  · left
    refine ⟨hf, ?_⟩
    unfold gx
    exact decide_eq_false (fun h => hf h.1)

set_option maxHeartbeats 2000000 in
theorem edges_big (a : Option Addr) (n cap : Nat) (h : 300 < n) (w : World) :
    Calls Try.prog 6 #[.slice a n cap] w fun e w' => e = .returned (.bool true) ∧ Below w.heap.size w w' := by
  have q1 : decide (n ≤ 300) = false := decide_eq_false (by omega)
  clear h
  go_enter Try.func6, Try.ntmps6
  go_wp2_with (first | (go_at_call 12; refine (small_any _ _ _ _).mono ?_; rintro e w' ⟨rfl, rfl⟩) | (go_at_call 13; refine (awake_any _).mono ?_; rintro e w' ⟨rfl, hb⟩))
  go_ret
  exact ⟨rfl, hb⟩

set_option maxHeartbeats 2000000 in
theorem edges_none (a : Option Addr) (cap : Nat) (w : World) :
    Calls Try.prog 6 #[.slice a 0 cap] w fun e w' => e = .returned (.bool true) ∧ Below w.heap.size w w' := by
  have hs := fun w => sum_none a cap w
  have hs0 := sum_nil
  rw [hs0] at hs
  have hc := fun w => rclass_val 0 6 (by decide) (by decide) w
  clear hs0
  go_enter Try.func6, Try.ntmps6
  go_wp2_with (first | (go_at_call 12; refine (small_any _ _ _ _).mono ?_; rintro e w' ⟨rfl, rfl⟩))
  refine wp_loop_rounds 1 ?_
  rw [rounds_succ]
  go_wp2_with (first
    | (go_at_call 21; refine (hs _).mono ?_; rintro e w' ⟨rfl, m, rfl⟩)
    | (go_at_call 26; refine (hc _).mono ?_; rintro e w' ⟨rfl, rfl⟩)
    | (go_at_call 13; refine (awake_any _).mono ?_; rintro e w' ⟨rfl, hb⟩))
  go_ret
  exact ⟨rfl, (below_drawn w m).trans hb⟩

set_option maxHeartbeats 8000000 in
set_option maxRecDepth 100000 in
theorem edges_some (b off cap n : Nat) (L : List Nat) (w : World) (hL : L.length = n) (h0 : 0 < n) (hn : n ≤ 300) (hv : View w (.slice (some ⟨b, off, none⟩) n cap) L)
    (hx : ∀ j, j < n → w.cell? ⟨b, off + j, none⟩ = some (.float .f64 (L.getD j 0))) (hf : ∀ x ∈ L, x < 18446744073709551616) :
    Calls Try.prog 6 #[.slice (some ⟨b, off, none⟩) n cap] w fun e w' => e = .returned (.bool true) ∧ Below w.heap.size w w' := by
  have q1 : decide (n ≤ 300) = true := decide_eq_true hn
  obtain ⟨e, he⟩ : ∃ e : Nat, e = 2071 := ⟨_, rfl⟩
  have HSTEP : Hid (∀ k bad up down great minus, k < n → EI e L k bad up down great minus → EI e L (k + 1) (bad || cls (L.getD k 0) == 1) (up || cls (L.getD k 0) == 9) (down || cls (L.getD k 0) == 2) (great || gx (L.getD k 0)) (minus && cls (L.getD k 0) == 5)) :=
    Lib.hid (fun k _ _ _ _ _ hk h => ei_step h (by omega) (by omega) he (getD_lt L hf k (by omega)))
  have HEND : Hid (∀ bad up down great minus, EI e L n bad up down great minus → _) := Lib.hid (fun bad up down great minus h => ei_end (bad := bad) (up := up) (down := down) (great := great) (minus := minus) (by rw [hL]; exact h) (by omega) (by omega) he hf)
  have HX := Lib.hid hx
  have HF := Lib.hid (fun k hk => getD_lt L hf k (by rw [hL]; exact hk))
  have HSUM := Lib.hid (fun m => sum_any (.slice (some ⟨b, off, none⟩) n cap) L (w.drewN m) (view_below hv (below_drawn w m)) (by omega) hf)
  have hsl := (sum_can L).2
  have h0' : (0 : Int) < (n : Int) := by omega
  clear hx hf hv hL he
  generalize sumW L = S at *
  go_enter Try.func6, Try.ntmps6
  go_wp2_with (first | (go_at_call 12; refine (small_any _ _ _ _).mono ?_; rintro e w' ⟨rfl, rfl⟩))
  go_loopg [3, 4, 5, 6, 7, 8] n (fun gk s3 s4 s5 s6 s7 s8 wr => ∃ (k m : Nat) (g3 g4 g5 g6 g7 : Bool), k + gk = n ∧ s3 = .bool g3 ∧ s4 = .bool g4 ∧ s5 = .bool g5 ∧ s6 = .bool g6 ∧ s7 = .bool g7 ∧ s8 = .int .i64 k ∧ Hid (EI e L k g3 g4 g5 g6 g7) ∧ wr = w.drewN m)
  case atStart => exact ⟨0, 0, false, false, false, false, true, by omega, rfl, rfl, rfl, rfl, by first | rfl | simp [h0'], rfl, Lib.hid (ei_start e L), rfl⟩
  case round =>
    obtain ⟨k, m, g3, g4, g5, g6, g7, hkg, rfl, rfl, rfl, rfl, rfl, rfl, HE, rfl⟩ := hrel
    by_cases hlt : k < n
    · have c1 := HX.out k hlt
      have d1 := HF.out k hlt
      have HE2 := Lib.hid (HSTEP.out k _ _ _ _ _ hlt HE.out)
      have b1 : (0 : Int) ≤ (k : Int) := by omega
      have b2 : (k : Int) < (n : Int) := by omega
      obtain ⟨x, hx⟩ : ∃ x, x = L.getD k 0 := ⟨_, rfl⟩
      rw [← hx] at c1 d1 HE2
      have HKG := Lib.hid hkg
      clear hx hkg HE
      have hcl := fun w => rclass_any x d1 w
      have HGW := Lib.hid (gx_ways x d1)
      generalize gx x = gg at HE2 HGW
      generalize cls x = c at HE2 hcl
      go_upto_region 9 with (go_at_call 26; refine (hcl _).mono ?_; rintro e w' ⟨rfl, rfl⟩)
      go_cut [3] from 18 to 75 (fun s wx => s = .bool (g3 || c == 1) ∧ wx = w.drewN m)
      case first =>
        cases g3
        all_goals
          go_wp2_with fail
          go_meet
          case rel => exact ⟨rfl, rfl⟩
      obtain ⟨rfl, rfl⟩ := hcut

      go_upto_region 10 with (go_at_call 26; refine (hcl _).mono ?_; rintro e w' ⟨rfl, rfl⟩)
      go_cut [4] from 18 to 75 (fun s wx => s = .bool (g4 || c == 9) ∧ wx = w.drewN m)
      case first =>
        cases g4
        all_goals
          go_wp2_with fail
          go_meet
          case rel => exact ⟨rfl, rfl⟩
      obtain ⟨rfl, rfl⟩ := hcut

      go_upto_region 11 with (go_at_call 26; refine (hcl _).mono ?_; rintro e w' ⟨rfl, rfl⟩)
      go_cut [5] from 18 to 75 (fun s wx => s = .bool (g5 || c == 2) ∧ wx = w.drewN m)
      case first =>
        cases g5
        all_goals
          go_wp2_with fail
          go_meet
          case rel => exact ⟨rfl, rfl⟩
      obtain ⟨rfl, rfl⟩ := hcut

      go_upto_region 12 with (go_at_call 26; refine (hcl _).mono ?_; rintro e w' ⟨rfl, rfl⟩)
      go_cut [7] from 18 to 75 (fun s wx => s = .bool (g7 && c == 5) ∧ wx = w.drewN m)
      case first =>
        cases g7
        all_goals
          go_wp2_with fail
          go_meet
          case rel => exact ⟨rfl, rfl⟩
      obtain ⟨rfl, rfl⟩ := hcut
      clear hcl
      go_upto_region 13 with fail
      cases g6
      · rcases HGW.out with ⟨hnf, hgg⟩ | ⟨hfi, o1, hgg⟩ | ⟨hfi, o1, o2, hgg⟩ | ⟨hfi, o1, o2, hgg⟩
        · obtain ⟨f, hff⟩ := nan_runs (P := Try.prog) w .sub f_sub 25 x x (sub_self_nan x d1 hnf)
          have r1 := fun m => (hff m).2.2
          have o3 := fun m => ord_nan_l (f m) 0 (hff m).2.1 (hff m).1
          clear hff hnf
          rw [hgg] at HE2
          clear hgg HGW
          go_wp2_with fail
          go_region
          all_goals
            go_wp2_with fail
            go_roundg (gk - 1)
            case measure => have := HKG.out; omega
            case rel => exact ⟨k + 1, _, _, _, _, _, _, by have := HKG.out; omega, rfl, rfl, rfl, rfl, rfl, by go_num, HE2, rfl⟩
        · have r1 := fun w : World => run_float_arith (P := Try.prog) w .sub 25 .f64 x x 0 (sub_self_fin x hfi d1)
          have o3 : FloatKind.f64.format.order 0 0 = some .eq := ord_self 0 (by decide) (by decide)
          rw [hgg] at HE2
          clear hgg HGW hfi
          go_wp2_with fail
          go_quiet (fail)
          go_wp2_with fail
          go_roundg (gk - 1)
          case measure => have := HKG.out; omega
          case rel => exact ⟨k + 1, _, _, _, _, _, _, by have := HKG.out; omega, rfl, rfl, rfl, rfl, rfl, by go_num, HE2, rfl⟩
        · have r1 := fun w : World => run_float_arith (P := Try.prog) w .sub 25 .f64 x x 0 (sub_self_fin x hfi d1)
          have o3 : FloatKind.f64.format.order 0 0 = some .eq := ord_self 0 (by decide) (by decide)
          rw [hgg] at HE2
          clear hgg HGW hfi
          go_wp2_with fail
          go_quiet (fail)
          go_wp2_with fail
          go_roundg (gk - 1)
          case measure => have := HKG.out; omega
          case rel => exact ⟨k + 1, _, _, _, _, _, _, by have := HKG.out; omega, rfl, rfl, rfl, rfl, rfl, by go_num, HE2, rfl⟩
        · have r1 := fun w : World => run_float_arith (P := Try.prog) w .sub 25 .f64 x x 0 (sub_self_fin x hfi d1)
          have o3 : FloatKind.f64.format.order 0 0 = some .eq := ord_self 0 (by decide) (by decide)
          rw [hgg] at HE2
          clear hgg HGW hfi
          go_wp2_with fail
          go_quiet (fail)
          go_wp2_with fail
          go_roundg (gk - 1)
          case measure => have := HKG.out; omega
          case rel => exact ⟨k + 1, _, _, _, _, _, _, by have := HKG.out; omega, rfl, rfl, rfl, rfl, rfl, by go_num, HE2, rfl⟩
      · clear HGW
        go_wp2_with fail
        go_quiet (fail)
        go_wp2_with fail
        go_roundg (gk - 1)
        case measure => have := HKG.out; omega
        case rel => exact ⟨k + 1, _, _, _, _, _, _, by have := HKG.out; omega, rfl, rfl, rfl, rfl, rfl, by go_num, HE2, rfl⟩
    · obtain rfl : k = n := by omega
      have hge : ¬ ((k : Int) < (k : Int)) := by omega
      have hs := HSUM.out m
      have HH := Lib.hid (HEND.out _ _ _ _ _ HE.out)
      clear HSTEP HEND HSUM HE HX HF
      cases g3
      · cases g6
        · cases g4 <;> cases g5
          · cases g7
            · have hc3 := HH.out.2.2.2.2.2 rfl rfl rfl rfl
              have hcl := fun w => rclass_any S hsl w
              have HK := Lib.hid hc3
              generalize cls S = c at hcl HK
              have hk1 : (c != 1) = true := by simp [HK.out.1]
              have hk2 : (c != 9) = true := by simp [HK.out.2.1]
              have hk3 : (c != 2) = true := by simp [HK.out.2.2]
              clear HH hc3
              go_wp2_with (first
                | (go_at_call 21; refine hs.mono ?_; rintro e w' ⟨rfl, mm, rfl⟩)
                | (go_at_call 26; refine (hcl _).mono ?_; rintro e w' ⟨rfl, rfl⟩)
                | (go_at_call 13; refine (awake_any _).mono ?_; rintro e w' ⟨rfl, hb⟩))
              go_ret
              exact ⟨rfl, (below_drawn w _).trans hb⟩
            · have hcl := fun w => rclass_val S 5 hsl (HH.out.2.2.2.2.1 rfl rfl rfl rfl rfl) w
              clear HH
              go_wp2_with (first
                | (go_at_call 21; refine hs.mono ?_; rintro e w' ⟨rfl, mm, rfl⟩)
                | (go_at_call 26; refine (hcl _).mono ?_; rintro e w' ⟨rfl, rfl⟩)
                | (go_at_call 13; refine (awake_any _).mono ?_; rintro e w' ⟨rfl, hb⟩))
              go_ret
              exact ⟨rfl, (below_drawn w _).trans hb⟩
          · have hcl := fun w => rclass_val S 2 hsl (HH.out.2.2.2.1 rfl rfl rfl rfl) w
            clear HH
            go_wp2_with (first
              | (go_at_call 21; refine hs.mono ?_; rintro e w' ⟨rfl, mm, rfl⟩)
              | (go_at_call 26; refine (hcl _).mono ?_; rintro e w' ⟨rfl, rfl⟩)
              | (go_at_call 13; refine (awake_any _).mono ?_; rintro e w' ⟨rfl, hb⟩))
            go_ret
            exact ⟨rfl, (below_drawn w _).trans hb⟩
          · have hcl := fun w => rclass_val S 9 hsl (HH.out.2.2.1 rfl rfl rfl rfl) w
            clear HH
            go_wp2_with (first
              | (go_at_call 21; refine hs.mono ?_; rintro e w' ⟨rfl, mm, rfl⟩)
              | (go_at_call 26; refine (hcl _).mono ?_; rintro e w' ⟨rfl, rfl⟩)
              | (go_at_call 13; refine (awake_any _).mono ?_; rintro e w' ⟨rfl, hb⟩))
            go_ret
            exact ⟨rfl, (below_drawn w _).trans hb⟩
          · have hcl := fun w => rclass_val S 1 hsl (HH.out.2.1 rfl rfl rfl rfl) w
            clear HH
            go_wp2_with (first
              | (go_at_call 21; refine hs.mono ?_; rintro e w' ⟨rfl, mm, rfl⟩)
              | (go_at_call 26; refine (hcl _).mono ?_; rintro e w' ⟨rfl, rfl⟩)
              | (go_at_call 13; refine (awake_any _).mono ?_; rintro e w' ⟨rfl, hb⟩))
            go_ret
            exact ⟨rfl, (below_drawn w _).trans hb⟩
        · have hcl := fun w => rclass_any S hsl w
          clear HH
          generalize cls S = c at hcl
          go_wp2_with (first
            | (go_at_call 21; refine hs.mono ?_; rintro e w' ⟨rfl, mm, rfl⟩)
            | (go_at_call 26; refine (hcl _).mono ?_; rintro e w' ⟨rfl, rfl⟩)
            | (go_at_call 13; refine (awake_any _).mono ?_; rintro e w' ⟨rfl, hb⟩))
          go_ret
          exact ⟨rfl, (below_drawn w _).trans hb⟩
      · have hcl := fun w => rclass_val S 1 hsl (HH.out.1 rfl) w
        clear HH
        go_wp2_with (first
          | (go_at_call 21; refine hs.mono ?_; rintro e w' ⟨rfl, mm, rfl⟩)
          | (go_at_call 26; refine (hcl _).mono ?_; rintro e w' ⟨rfl, rfl⟩)
          | (go_at_call 13; refine (awake_any _).mono ?_; rintro e w' ⟨rfl, hb⟩))
        go_ret
        exact ⟨rfl, (below_drawn w _).trans hb⟩

end Go.Proofs.Ytphhonpibmbjmaa
