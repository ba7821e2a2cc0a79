/- Proved: what math.Floor of a number gives; what the landed at and Quantile give: the plain function of the sorted list and the part. -/
import Derived.Test.YtphhonpibmbjmaaQpure
import Derived.Test.YtphhonpibmbjmaaAwk
namespace Go.Proofs.Ytphhonpibmbjmaa
open Go.RowKit Fl

theorem toInt_num (n : String) (way : Ieee.Toward) (x : Nat) (h : ∀ s t, FloatKind.f64.decode x ≠ .nan s t) :
    Extern.MathFloor.toIntegral n way #[.float .f64 x] = pure (Value.float .f64 (FloatKind.f64.encode ((FloatKind.f64.decode x).integral way))) := by
  change ((match FloatKind.f64.decode x with
    | .nan s t => (if FloatKind.f64.format.quiet t = t then pure (Value.float .f64 x) else do
        let kept ← choose (.extern "math.Floor,Ceil,Trunc,RoundToEven.signallingNaN kept" 2)
        pure (Value.float .f64 (if kept == 1 then x else FloatKind.f64.encode (.nan s (FloatKind.f64.format.quiet t)))))
    | d => pure (Value.float .f64 (FloatKind.f64.encode (d.integral way)))) : Sem Value) = _
  cases hx : FloatKind.f64.decode x with
  | nan s t => exact absurd hx (h s t)
  | number s m i => rfl
  | infinity s => rfl

theorem not_nan (b : Nat) (hb : b < 18446744073709551616) (hn : isN b = false) : ∀ s t, FloatKind.f64.decode b ≠ .nan s t := fun s t h => by
  have := read_eq b hb
  have hm : ¬ 9218868437227405312 < b % 9223372036854775808 := by simpa [isN] using hn
  have h' : Ieee.double.read b = .nan s t := h
  rw [this] at h'
  split at h'
  · cases h'
  · rw [if_pos (by omega)] at h'; cases h'

theorem af_run (b : Nat) (hb : b < 18446744073709551616) (hn : isN b = false) (w : World) : (callFunc 49 #[.float .f64 b]).run Try.prog w = .ok (.value (.float .f64 (FloatKind.f64.encode ((FloatKind.f64.decode b).integral .down)))) w := by
  rw [run_callFunc_extern Try.func49 (by kernel_rfl) (by kernel_rfl) (by kernel_rfl) (e := Extern.MathFloor.toIntegral "math.archFloor" .down) (by kernel_rfl)]
  rw [toInt_num _ _ _ (not_nan b hb hn)]
  rfl
theorem floor_any (b c : Nat) (hb : b < 18446744073709551616) (hn : isN b = false) (hc : FloatKind.f64.encode ((FloatKind.f64.decode b).integral .down) = c) (w : World) :
    Calls Try.prog 38 #[.float .f64 b] w fun e w' => e = .returned (.float .f64 c) ∧ w = w' := by
  have h := fun w => af_run b hb hn w
  rw [hc] at h
  clear hc
  go_enter Try.func38, Try.ntmps38
  go_wp2
  go_ret
  exact ⟨rfl, rfl⟩

theorem same_val (a b : Nat) (ha : a < 18446744073709551616) (hb : b < 18446744073709551616) (v : Bool) (h : Hid (smB a b = v)) (w : World) :
    Calls Try.prog 48 #[.float .f64 a, .float .f64 b] w fun e w' => e = .returned (.bool v) ∧ w = w' := by
  have := same_any a b ha hb w
  rw [h.out] at this
  exact this
theorem rsame_val (a b : Nat) (ha : a < 18446744073709551616) (hb : b < 18446744073709551616) (v : Bool) (h : Hid (smB a b = v)) (w : World) :
    Calls Try.prog 20 #[.float .f64 a, .float .f64 b] w fun e w' => e = .returned (.bool v) ∧ w = w' := by
  have := rsame_any a b ha hb w
  rw [h.out] at this
  exact this

theorem div_le_of {x m : Nat} (h : x ≤ m * U) : x / U ≤ m := Nat.div_le_of_le_mul (by rw [Nat.mul_comm]; exact h)
theorem div_top {x m : Nat} (h : x ≤ m * U) (h2 : x / U = m) : x % U = 0 := by
  have := Nat.div_add_mod x U
  rw [h2, Nat.mul_comm] at this
  omega
/-- The computed number, from words that read as its parts. -/
theorem qx_read {x y K F d1 d2 z t i : Nat} (hx : x < 18446744073709551616) (hy : y < 18446744073709551616) (hF : F = floatOfInt .f64 (i : Int))
    (h1 : cb d1 = fo .sub K F) (l1 : d1 < 18446744073709551616) (h2 : cb d2 = fo .sub y x) (l2 : d2 < 18446744073709551616) (h3 : cb z = fo .mul d1 d2) (l3 : z < 18446744073709551616) (h4 : cb t = fo .add x z) : cb t = qx (cb x) (cb y) K i := by
  unfold qx
  rw [h4, ← hF]
  have e2 : fo .sub (cb y) (cb x) = fo .sub y x := fo_cb f_sub y x hy hx
  rw [e2]
  have e3 : fo .mul d1 d2 = fo .mul (fo .sub K F) (fo .sub y x) := fo_congr f_mul l1 l2 (fo_lt f_sub _ _) (fo_lt f_sub _ _) (by rw [h1, fo_can f_sub]) (by rw [h2, fo_can f_sub])
  rw [← e3]
  exact fo_congr f_add hx l3 (cb_lt x hx) (fo_lt f_mul _ _) (by rw [cb_cb]) (by rw [h3, fo_can f_mul])
theorem qin_same {R : List Nat} {K x y : Nat} (h : smB x y = true) (hx : cb x = qlo R (mag (rg K) / U)) (hy : cb y = qhi R (mag (rg K) / U)) : cb x = qin R K := by
  unfold qin
  rw [if_pos (.inl (by rw [← hx, ← hy]; simpa [smB] using h)), hx]
theorem qin_whole {R : List Nat} {K x : Nat} (h : mag (rg K) % U = 0) (hx : cb x = qlo R (mag (rg K) / U)) : cb x = qin R K := by
  unfold qin
  rw [if_pos (.inr h), hx]
theorem qin_nan {R : List Nat} {K x y t : Nat} (h : smB x y = false) (hx : cb x = qlo R (mag (rg K) / U)) (hy : cb y = qhi R (mag (rg K) / U)) (h0 : mag (rg K) % U ≠ 0) (ht : cb t = qx (cb x) (cb y) K (mag (rg K) / U)) (hn : isN t = true) : cb x = qin R K := by
  unfold qin
  rw [if_neg, if_pos, hx]
  · rw [← hx, ← hy, ← ht, isN_cb]; exact hn
  · rw [← hx, ← hy]
    have : cb x ≠ cb y := by simpa [smB] using h
    exact fun k => k.elim this h0
theorem qin_num {R : List Nat} {K x y t : Nat} (h : smB x y = false) (hx : cb x = qlo R (mag (rg K) / U)) (hy : cb y = qhi R (mag (rg K) / U)) (h0 : mag (rg K) % U ≠ 0) (ht : cb t = qx (cb x) (cb y) K (mag (rg K) / U)) (hn : isN t = false) : cb t = qin R K := by
  unfold qin
  rw [if_neg, if_neg, ht, hx, hy]
  · rw [← hx, ← hy, ← ht, isN_cb, hn]; simp
  · rw [← hx, ← hy]
    have : cb x ≠ cb y := by simpa [smB] using h
    exact fun k => k.elim this h0

set_option maxHeartbeats 2000000 in
theorem at_some (b off cap n K : Nat) (R : List Nat) (w : World) (hR : R.length = n) (h0 : 0 < n) (hn : n ≤ 1000000)
    (hx : ∀ j, j < n → w.cell? ⟨b, off + j, none⟩ = some (.float .f64 (R.getD j 0))) (hf : ∀ x ∈ R, x < 18446744073709551616)
    (hK : Fin' K) (hneg : neg' K = true → rg K = 0) (hm : mag (rg K) ≤ (n - 1) * U) :
    Calls Try.prog 37 #[.slice (some ⟨b, off, none⟩) n cap, .float .f64 K] w fun e w' => (∃ r, e = .returned (.float .f64 r) ∧ cb r = qin R K ∧ r < 18446744073709551616) ∧ ∃ m, w' = w.drewN m := by
  have hile : mag (rg K) / U ≤ n - 1 := div_le_of hm
  obtain ⟨F, hF, hFf, hFi, hF0, hF1⟩ := floor_facts K hK hneg (by omega)
  have hfl := fun w => floor_any K F hK.1 (fin_num hK) hF w
  have hcv := fun w : World => run_convert_float_int (P := Try.prog) w 25 3 .f64 .i64 F _ (by rw [Try.underlying25]; rfl) Try.underlying3 hFi
  have HL : Hid (cb (R.getD (mag (rg K) / U) 0) = qlo R (mag (rg K) / U)) := Lib.hid rfl
  have HH : Hid (cb (R.getD (min (mag (rg K) / U + 1) (n - 1)) 0) = qhi R (mag (rg K) / U)) := Lib.hid (by unfold qhi; rw [hR])
  have hdx := getD_lt R hf (mag (rg K) / U) (by omega)
  have hdy := getD_lt R hf (min (mag (rg K) / U + 1) (n - 1)) (by omega)
  have hcx := hx (mag (rg K) / U) (by omega)
  have HF0 := Lib.hid hF0
  have HF1 := Lib.hid hF1
  have hKl := hK.1
  have HTOP := Lib.hid (div_top hm)
  have hcy := hx (min (mag (rg K) / U + 1) (n - 1)) (by omega)
  clear hF0 hF1 hF hFi hx hf hneg hR hm hK
  obtain ⟨i, hi⟩ : ∃ i, i = mag (rg K) / U := ⟨_, rfl⟩
  have HI := Lib.hid hi
  rw [← hi] at hile hcv HL HH hdx hdy hcx HF0 HF1 HTOP hcy
  clear hi
  obtain ⟨x, hxe⟩ : ∃ x, x = R.getD i 0 := ⟨_, rfl⟩
  rw [← hxe] at hdx hcx HL
  clear hxe
  by_cases hcase : i + 1 ≤ n - 1
  · have e : min (i + 1) (n - 1) = i + 1 := by omega
    rw [e] at hdy hcy HH
    obtain ⟨y, hye⟩ : ∃ y, y = R.getD (i + 1) 0 := ⟨_, rfl⟩
    rw [← hye] at hdy hcy HH
    clear hye e
    have b1 : (0 : Int) ≤ (i : Int) := by omega
    have b2 : (i : Int) < (n : Int) := by omega
    have b3 : ¬ ((n : Int) - 1 < (i : Int) + 1) := by omega
    have b4 : (i : Int) + 1 < (n : Int) := by omega
    cases hs : smB x y
    · have HS := Lib.hid hs
      have hsame := fun w => same_val x y hdx hdy false HS w
      by_cases hz : mag (rg K) % U = 0
      · have o := (HF0.out hz).1
        have HQ : Hid (cb x = qin R K) := Lib.hid (qin_whole hz (by rw [← HI.out]; exact HL.out))
        clear hs hz
        go_enter Try.func37, Try.ntmps37
        go_wp2_with (go_at_call 38; refine (hfl _).mono ?_; rintro e w' ⟨rfl, rfl⟩)
        go_region
        all_goals
          go_wp2_with (go_at_call 48; refine (hsame _).mono ?_; rintro e w' ⟨rfl, rfl⟩)
          go_ret
          exact ⟨⟨x, rfl, HQ.out, hdx⟩, _, rfl⟩
      · have o := (HF1.out hz).1
        have HFe := Lib.hid (HF1.out hz).2.2
        have hFl := hFf.1
        obtain ⟨d1, n1, h1, l1, r1⟩ := run_foH (P := Try.prog) w 1 .sub f_sub 25 K F
        obtain ⟨d2, n2, h2, l2, r2⟩ := run_foH (P := Try.prog) w n1 .sub f_sub 25 y x
        obtain ⟨z, n3, h3, l3, r3⟩ := run_foH (P := Try.prog) w n2 .mul f_mul 25 d1 d2
        obtain ⟨t, n4, h4, l4, r4⟩ := run_foH (P := Try.prog) w n3 .add f_add 25 x z
        rw [← World.drew_is_drewN] at r1
        have HT : Hid (cb t = qx (cb x) (cb y) K i) := Lib.hid (qx_read hdx hdy HFe.out h1.out l1 h2.out l2 h3.out l3 h4.out)
        by_cases hnt : isN t = true
        · have o2 := ord_nan_l t t l4 hnt
          have HQ : Hid (cb x = qin R K) := Lib.hid (by rw [HI.out] at HL HH HT; exact qin_nan hs HL.out HH.out hz HT.out hnt)
          clear hs hz hnt
          go_enter Try.func37, Try.ntmps37
          go_wp2_with (go_at_call 38; refine (hfl _).mono ?_; rintro e w' ⟨rfl, rfl⟩)
          go_region
          all_goals
            go_wp2_with (go_at_call 48; refine (hsame _).mono ?_; rintro e w' ⟨rfl, rfl⟩)
            go_ret
            exact ⟨⟨x, rfl, HQ.out, hdx⟩, _, rfl⟩
        · replace hnt : isN t = false := by simpa using hnt
          have o2 := ord_self t l4 hnt
          have HQ : Hid (cb t = qin R K) := Lib.hid (by rw [HI.out] at HL HH HT; exact qin_num hs HL.out HH.out hz HT.out hnt)
          clear hs hz hnt
          go_enter Try.func37, Try.ntmps37
          go_wp2_with (go_at_call 38; refine (hfl _).mono ?_; rintro e w' ⟨rfl, rfl⟩)
          go_region
          all_goals
            go_wp2_with (go_at_call 48; refine (hsame _).mono ?_; rintro e w' ⟨rfl, rfl⟩)
            go_ret
            exact ⟨⟨t, rfl, HQ.out, l4⟩, _, rfl⟩
    · have HS := Lib.hid hs
      have hsame := fun w => same_val x y hdx hdy true HS w
      have HQ : Hid (cb x = qin R K) := Lib.hid (by rw [HI.out] at HL HH; exact qin_same hs HL.out HH.out)
      clear hs
      go_enter Try.func37, Try.ntmps37
      go_wp2_with (go_at_call 38; refine (hfl _).mono ?_; rintro e w' ⟨rfl, rfl⟩)
      go_region
      all_goals
        go_wp2_with (go_at_call 48; refine (hsame _).mono ?_; rintro e w' ⟨rfl, rfl⟩)
        go_ret
        exact ⟨⟨x, rfl, HQ.out, hdx⟩, _, rfl⟩
  · obtain rfl : n = i + 1 := by omega
    have hz : mag (rg K) % U = 0 := HTOP.out (by omega)
    have HQ : Hid (cb x = qin R K) := Lib.hid (qin_whole hz (by rw [← HI.out]; exact HL.out))
    have b1 : (0 : Int) ≤ (i : Int) := by omega
    have b2 : (i : Int) < (i : Int) + 1 := by omega
    have hsame := fun w => same_val x x hdx hdx true (Lib.hid (by simp [smB])) w
    clear hz hdy hcy HH hcase
    go_enter Try.func37, Try.ntmps37
    go_wp2_with (go_at_call 38; refine (hfl _).mono ?_; rintro e w' ⟨rfl, rfl⟩)
    go_region
    all_goals
      go_wp2_with (go_at_call 48; refine (hsame _).mono ?_; rintro e w' ⟨rfl, rfl⟩)
      go_ret
      exact ⟨⟨x, rfl, HQ.out, hdx⟩, _, rfl⟩

theorem bad_ways (q : Nat) (hq : q < 18446744073709551616) (h : Bad q) : (isN q = true ∧ FloatKind.f64.format.order q q = none) ∨
    (FloatKind.f64.format.order q q = some .eq ∧ FloatKind.f64.format.order q 0 = some .lt) ∨
    (FloatKind.f64.format.order q q = some .eq ∧ (FloatKind.f64.format.order q 0 == some .lt) = false ∧ FloatKind.f64.format.order q 4607182418800017408 = some .gt) := by
  cases hn : isN q
  · right
    have o := ord_self q hq hn
    have s0 : sr 0 = 0 := rfl
    have s1 : sr 4607182418800017408 = 4607182418800017408 := by decide
    by_cases h0 : sr q < 0
    · left
      exact ⟨o, ord_lt q 0 hq (by decide) hn (by decide) (by rw [s0]; exact h0)⟩
    · right
      have h1 : 4607182418800017408 < sr q := by
        rcases h with h | h | h
        · rw [hn] at h; cases h
        · exact absurd h h0
        · exact h
      refine ⟨o, ?_, ord_gt q _ hq (by decide) hn (by decide) (by rw [s1]; exact h1)⟩
      rw [ord_gt q 0 hq (by decide) hn (by decide) (by rw [s0]; omega)]; rfl
  · left; exact ⟨rfl, ord_nan_l q q hq hn⟩
theorem good_order (q : Nat) (hq : q < 18446744073709551616) (h : ¬ Bad q) : FloatKind.f64.format.order q q = some .eq ∧ (FloatKind.f64.format.order q 0 == some .lt) = false ∧ (FloatKind.f64.format.order q 4607182418800017408 == some .gt) = false := by
  obtain ⟨hn, _, _, _, h0, h1⟩ := good_parts hq h
  have s0 : sr 0 = 0 := rfl
  have s1 : sr 4607182418800017408 = 4607182418800017408 := by decide
  refine ⟨ord_self q hq hn, ?_, ?_⟩
  · rcases Int.lt_or_le 0 (sr q) with k | k
    · rw [ord_gt q 0 hq (by decide) hn (by decide) (by rw [s0]; exact k)]; rfl
    · rw [ord_eq q 0 hq (by decide) hn (by decide) (by rw [s0]; omega)]; rfl
  · rcases Int.lt_or_le (sr q) 4607182418800017408 with k | k
    · rw [ord_lt q _ hq (by decide) hn (by decide) (by rw [s1]; exact k)]; rfl
    · rw [ord_eq q _ hq (by decide) hn (by decide) (by rw [s1]; omega)]; rfl

/-- What Quantile answers. -/
def QPost (L : List Nat) (q : Nat) (w : World) (e : Ending) (w' : World) : Prop :=
  (∃ r R, e = .returned (.tuple #[.float .f64 r, .int .i64 (qc L.length q)]) ∧ Sorts L R ∧ cb r = qa R q ∧ r < 18446744073709551616) ∧ Below w.heap.size w w'

theorem sorts_of (L : List Nat) (hf : ∀ x ∈ L, x < 18446744073709551616) : ∃ R, Sorts L R := by
  refine ⟨L.mergeSort (fun a b => decide (kb a ≤ kb b)), ?_, ?_, fun x hx => hf x ((List.mergeSort_perm _ _).mem_iff.1 hx)⟩
  · have := List.pairwise_mergeSort (le := fun a b => decide (kb a ≤ kb b)) (fun a b c h1 h2 => by simp at *; omega) (fun a b => by simp; omega) L
    rw [List.pairwise_map]
    exact this.imp (fun h => by simpa using h)
  · exact (List.mergeSort_perm _ _).map kb

theorem qpost_none {L : List Nat} {q : Nat} {w w' : World} (h : L.length = 0) (hb : Below w.heap.size w w') : QPost L q w (.returned (.tuple #[.float .f64 0, .int .i64 14])) w' := by
  obtain rfl := List.eq_nil_of_length_eq_zero h
  refine ⟨⟨0, [], ?_, ⟨List.Pairwise.nil, List.Perm.refl _, fun _ h => by cases h⟩, ?_, by decide⟩, hb⟩
  · unfold qc; rw [if_pos h]
  · unfold qa; rw [if_pos h]; decide
theorem qpost_bad {L : List Nat} {q : Nat} {w w' : World} (hf : ∀ x ∈ L, x < 18446744073709551616) (h : L.length ≠ 0) (hq : Bad q) (hb : Below w.heap.size w w') : QPost L q w (.returned (.tuple #[.float .f64 0, .int .i64 1])) w' := by
  obtain ⟨R, hR⟩ := sorts_of L hf
  refine ⟨⟨0, R, ?_, hR, ?_, by decide⟩, hb⟩
  · unfold qc; rw [if_neg h, if_pos hq]
  · unfold qa; rw [if_neg (by rw [sorts_len hR]; exact h), if_pos hq]; decide
theorem qpost_nan {L R : List Nat} {q r : Nat} {w w' : World} (h : L.length ≠ 0) (hq : ¬ Bad q) (hR : Sorts L R) (hn : isN (R.getD (L.length - 1) 0) = true) (hr : isN r = true) (hl : r < 18446744073709551616) (hb : Below w.heap.size w w') : QPost L q w (.returned (.tuple #[.float .f64 r, .int .i64 0])) w' := by
  refine ⟨⟨r, R, ?_, hR, ?_, hl⟩, hb⟩
  · unfold qc; rw [if_neg h, if_neg hq]
  · unfold qa; rw [if_neg (by rw [sorts_len hR]; exact h), if_neg hq, sorts_len hR, if_pos hn, cb_nan r hr]
theorem qpost_in {L R : List Nat} {q r m : Nat} {w w' : World} (h : L.length = m + 1) (hq : ¬ Bad q) (hR : Sorts L R) (hn : isN (R.getD m 0) = false) (hr : cb r = qin R (fo .mul q (floatOfInt .f64 (m : Int)))) (hl : r < 18446744073709551616) (hb : Below w.heap.size w w') : QPost L q w (.returned (.tuple #[.float .f64 r, .int .i64 0])) w' := by
  refine ⟨⟨r, R, ?_, hR, ?_, hl⟩, hb⟩
  · unfold qc; rw [if_neg (by omega), if_neg hq]
  · unfold qa
    have e : (((m + 1 : Nat) : Int) - 1) = (m : Int) := by omega
    rw [if_neg (by rw [sorts_len hR]; omega), if_neg hq, sorts_len hR, h, Nat.add_sub_cancel, if_neg (by rw [hn]; decide), e]
    exact hr

set_option maxHeartbeats 2000000 in
theorem quan_none (a : Option Addr) (cap q : Nat) (w : World) :
    Calls Try.prog 23 #[.slice a 0 cap, .float .f64 q] w (QPost [] q w) := by
  go_enter Try.func23, Try.ntmps23
  go_wp2
  go_ret2
  exact qpost_none rfl (Below.refl _ _)

set_option maxHeartbeats 2000000 in
theorem quan_bad (a : Option Addr) (cap q : Nat) (L : List Nat) (hL : L.length ≠ 0) (hf : ∀ x ∈ L, x < 18446744073709551616) (hq : q < 18446744073709551616) (hb : Bad q) (w : World) :
    Calls Try.prog 23 #[.slice a L.length cap, .float .f64 q] w (QPost L q w) := by
  have HP := Lib.hid (qpost_bad (w := w) (w' := w) hf hL hb (Below.refl _ _))
  have hw := bad_ways q hq hb
  generalize L.length = n at hL ⊢
  have h0 : ¬ ((n : Int) = 0) := by omega
  clear hf hb
  rcases hw with ⟨_, o⟩ | ⟨o, o2⟩ | ⟨o, o2, o3⟩
  all_goals
    go_enter Try.func23, Try.ntmps23
    go_wp2
    go_ret2
    exact HP.out

set_option maxHeartbeats 2000000 in
theorem quan_good (v : Value) (m q : Nat) (L : List Nat) (hL : L.length = m + 1) (hm : m < 1000000) (hf : ∀ x ∈ L, x < 18446744073709551616) (hq : q < 18446744073709551616) (hb : ¬ Bad q) (w : World) (hv : View w v L) :
    Calls Try.prog 23 #[v, .float .f64 q] w (QPost L q w) := by
  have hs := hS v L w hv (by omega) hf
  obtain ⟨a, cap, rfl⟩ := view_len hv
  rw [hL] at hs ⊢
  have kf := k_facts q (m + 1) hq hb (by omega) (by omega)
  have e : (((m + 1 : Nat) : Int) - 1) = (m : Int) := by omega
  rw [e, Nat.add_sub_cancel] at kf
  have HKF := Lib.hid kf
  have HL := Lib.hid hL
  have HB := Lib.hid hb
  obtain ⟨o1, o2, o3⟩ := good_order q hq hb
  have h0 : ¬ ((m : Int) + 1 = 0) := by omega
  have h1 : (0 : Int) ≤ (m : Int) := by omega
  have h2 : (m : Int) < (m : Int) + 1 := by omega
  clear kf e hL hb hv hf
  go_enter Try.func23, Try.ntmps23
  go_wp2_with fail
  refine hs.mono ?_
  rintro e w1 ⟨v1, R, rfl, hR, hv1, hb1⟩
  have hRl : R.length = m + 1 := by rw [sorts_len hR, HL.out]
  obtain ⟨b, off, cap1, rfl, hbw, hc⟩ := view_pos hv1 (by omega)
  rw [hRl] at hc ⊢
  have c1 := hc m (by omega)
  have hd := getD_lt R hR.2.2 m (by omega)
  have HC := Lib.hid hc
  have HR := Lib.hid hR
  have HRL := Lib.hid hRl
  have HB1 := Lib.hid hb1
  clear hs hv1 hc hR hRl hb1
  obtain ⟨x, hx⟩ : ∃ x, x = R.getD m 0 := ⟨_, rfl⟩
  have HX := Lib.hid hx
  rw [← hx] at c1 hd
  clear hx
  by_cases hn : isN x = true
  · have o4 := ord_nan_l x x hd hn
    have HN := Lib.hid hn
    clear hn
    go_wp2_with fail
    go_ret2
    exact qpost_nan (by rw [HL.out]; omega) HB.out HR.out (by rw [HL.out, Nat.add_sub_cancel, ← HX.out]; exact HN.out) HN.out hd HB1.out
  · replace hn : isN x = false := by simpa using hn
    have o4 := ord_self x hd hn
    have HN := Lib.hid hn
    obtain ⟨K, n1, hk, hkl, r1⟩ := run_foH0 (P := Try.prog) w1 .mul f_mul 25 q (floatOfInt .f64 (m : Int))
    have HKe : Hid (K = fo .mul q (floatOfInt .f64 (m : Int))) := Lib.hid (cb_eq_num _ _ (fin_num HKF.out.1) (by rw [hk.out, fo_can f_mul]))
    have hat := at_some b off cap1 (m + 1) K R (w1.drewN n1) HRL.out (by omega) (by omega) HC.out HR.out.2.2 (by rw [HKe.out]; exact HKF.out.1) (by rw [HKe.out]; exact HKF.out.2.2.1) (by rw [HKe.out]; exact HKF.out.2.1)
    have HAT := Lib.hid hat
    clear hn hat
    go_wp2_with (go_at_call 37; refine HAT.out.mono ?_; rintro e w2 ⟨⟨r, rfl, hr, hrl⟩, mm, rfl⟩; have HRR := Lib.hid hr; clear hr)
    go_ret2
    exact qpost_in HL.out HB.out HR.out (by rw [← HX.out]; exact HN.out) (by rw [HRR.out, HKe.out]) hrl (below_drewN HB1.out (n1 + mm))

theorem quan_any (v : Value) (L : List Nat) (q : Nat) (w : World) (hv : View w v L) (hb : L.length ≤ 1000000) (hf : ∀ x ∈ L, x < 18446744073709551616) (hq : q < 18446744073709551616) :
    Calls Try.prog 23 #[v, .float .f64 q] w (QPost L q w) := by
  by_cases h0 : L.length = 0
  · obtain rfl := List.eq_nil_of_length_eq_zero h0
    obtain ⟨a, cap, rfl⟩ := view_len hv
    exact quan_none a cap q w
  · by_cases hbad : Bad q
    · obtain ⟨a, cap, rfl⟩ := view_len hv
      exact quan_bad a cap q L h0 hf hq hbad w
    · exact quan_good v (L.length - 1) q L (by omega) (by omega) hf hq hbad w hv

end Go.Proofs.Ytphhonpibmbjmaa
