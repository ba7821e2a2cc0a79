/- Proved: the law FsumDoubles answers true at any list, and leaves what there was as it was. -/
import Derived.Test.YtphhonpibmbjmaaDbl
import Derived.Test.YtphhonpibmbjmaaKeeps
namespace Go.Proofs.Ytphhonpibmbjmaa
open Go.RowKit Fl

theorem mag_top (E r : Nat) (hE : E = 1739) (h : r ≤ 7602076171001397248) : mag r ≤ 1 * 2 ^ E := by
  obtain ⟨x, hx⟩ : ∃ x : Nat, x = 7602076171001397248 / 4503599627370496 - 1 := ⟨_, rfl⟩
  have h1 : mag r ≤ mag 7602076171001397248 := mag_le h
  have h2 : mag 7602076171001397248 = 1 * 2 ^ E := by
    have he2 : E = 52 + x := by omega
    unfold mag
    rw [if_neg (by decide), ← hx, he2, Nat.pow_add, Nat.one_mul]
  omega
theorem mag_div (e r : Nat) (he : e = 357) (h : 1612288666598637568 ≤ r) : 2 ^ e ∣ mag r := by
  rw [mag_eq]
  exact Nat.dvd_trans (Nat.pow_dvd_pow 2 (by omega)) (Nat.dvd_mul_left _ _)
/-- A number that the law looks at. -/
def Ok (x : Nat) : Prop := rg x = 0 ∨ (1614679632300144556 < rg x ∧ rg x < 7598952565167317594)
theorem ok_gd (x e E : Nat) (hx : x < 18446744073709551616) (h : Ok x) (he : e = 357) (hE : E = 1739) : Gd e E 1 x := by
  rcases h with h | h
  · refine ⟨⟨⟨hx, by unfold rg at h; omega⟩, ?_⟩, ?_⟩
    · rw [sm_abs, h, mag_zero]; exact Nat.zero_le _
    · rw [h, mag_zero]; exact Nat.dvd_zero _
  · refine ⟨⟨⟨hx, by unfold rg at h; omega⟩, ?_⟩, ?_⟩
    · rw [sm_abs]; exact mag_top E _ hE (by omega)
    · exact mag_div e _ he (by omega)
theorem sr_rg (x : Nat) (hx : x < 18446744073709551616) : (x < 9223372036854775808 ∧ sr x = rg x) ∨ (9223372036854775808 ≤ x ∧ sr x = -(rg x : Int)) := by
  unfold sr rg
  split
  · left; omega
  · right; omega
/-- The ways of a number through the law's test. -/
theorem dbl_ways (x : Nat) (hx : x < 18446744073709551616) :
    (Ok x ∧ FloatKind.f64.format.order x 0 = some .eq) ∨
    (Ok x ∧ FloatKind.f64.format.order x 0 = some .gt ∧ FloatKind.f64.format.order x 1614679632300144556 = some .gt ∧ FloatKind.f64.format.order x 7598952565167317594 = some .lt) ∨
    (Ok x ∧ FloatKind.f64.format.order x 0 = some .lt ∧ (FloatKind.f64.format.order x 1614679632300144556 == some .gt) = false ∧ FloatKind.f64.format.order x 10838051669154920364 = some .lt ∧ FloatKind.f64.format.order x 16822324602022093402 = some .gt) ∨
    ((FloatKind.f64.format.order x 0 != some .eq) = true ∧ (FloatKind.f64.format.order x 1614679632300144556 == some .gt) = false ∧ (FloatKind.f64.format.order x 10838051669154920364 == some .lt) = false) ∨
    ((FloatKind.f64.format.order x 0 != some .eq) = true ∧ FloatKind.f64.format.order x 1614679632300144556 = some .gt ∧ (FloatKind.f64.format.order x 7598952565167317594 == some .lt) = false ∧ (FloatKind.f64.format.order x 10838051669154920364 == some .lt) = false) ∨
    ((FloatKind.f64.format.order x 0 != some .eq) = true ∧ (FloatKind.f64.format.order x 1614679632300144556 == some .gt) = false ∧ FloatKind.f64.format.order x 10838051669154920364 = some .lt ∧ (FloatKind.f64.format.order x 16822324602022093402 == some .gt) = false) := by
  cases hn : isN x
  · have s0 : sr 0 = 0 := rfl
    have s1 : sr 1614679632300144556 = 1614679632300144556 := by decide
    have s2 : sr 7598952565167317594 = 7598952565167317594 := by decide
    have s3 : sr 10838051669154920364 = -1614679632300144556 := by decide
    have s4 : sr 16822324602022093402 = -7598952565167317594 := by decide
    have lt : ∀ b, b < 18446744073709551616 → isN b = false → sr x < sr b → FloatKind.f64.format.order x b = some .lt := fun b h1 h2 h3 => ord_lt x b hx h1 hn h2 h3
    have gt : ∀ b, b < 18446744073709551616 → isN b = false → sr b < sr x → FloatKind.f64.format.order x b = some .gt := fun b h1 h2 h3 => ord_gt x b hx h1 hn h2 h3
    have ngt : ∀ b, b < 18446744073709551616 → isN b = false → sr x ≤ sr b → (FloatKind.f64.format.order x b == some .gt) = false := fun b h1 h2 h3 => by
      rcases Int.lt_or_le (sr x) (sr b) with k | k
      · rw [lt b h1 h2 k]; rfl
      · rw [ord_eq x b hx h1 hn h2 (by omega)]; rfl
    have nlt : ∀ b, b < 18446744073709551616 → isN b = false → sr b ≤ sr x → (FloatKind.f64.format.order x b == some .lt) = false := fun b h1 h2 h3 => by
      rcases Int.lt_or_le (sr b) (sr x) with k | k
      · rw [gt b h1 h2 k]; rfl
      · rw [ord_eq x b hx h1 hn h2 (by omega)]; rfl
    have hsr := sr_rg x hx
    rcases Int.lt_trichotomy (sr x) 0 with h | h | h
    · have o0 := lt 0 (by decide) (by decide) (by rw [s0]; exact h)
      have o1 := ngt 1614679632300144556 (by decide) (by decide) (by rw [s1]; omega)
      have n0 : (FloatKind.f64.format.order x 0 != some .eq) = true := by rw [o0]; rfl
      by_cases h3 : sr x < -1614679632300144556
      · have o3 := lt 10838051669154920364 (by decide) (by decide) (by rw [s3]; exact h3)
        by_cases h4 : -7598952565167317594 < sr x
        · right; right; left
          exact ⟨.inr (by omega), o0, o1, o3, gt _ (by decide) (by decide) (by rw [s4]; exact h4)⟩
        · right; right; right; right; right
          exact ⟨n0, o1, o3, ngt _ (by decide) (by decide) (by rw [s4]; omega)⟩
      · right; right; right; left
        exact ⟨n0, o1, nlt _ (by decide) (by decide) (by rw [s3]; omega)⟩
    · left
      exact ⟨.inl (by omega), ord_eq x 0 hx (by decide) hn (by decide) (by rw [s0]; exact h)⟩
    · have o0 := gt 0 (by decide) (by decide) (by rw [s0]; exact h)
      have n0 : (FloatKind.f64.format.order x 0 != some .eq) = true := by rw [o0]; rfl
      have o3 := nlt 10838051669154920364 (by decide) (by decide) (by rw [s3]; omega)
      by_cases h1 : 1614679632300144556 < sr x
      · have o1 := gt 1614679632300144556 (by decide) (by decide) (by rw [s1]; exact h1)
        by_cases h2 : sr x < 7598952565167317594
        · right; left
          exact ⟨.inr (by omega), o0, o1, lt _ (by decide) (by decide) (by rw [s2]; exact h2)⟩
        · right; right; right; right; left
          exact ⟨n0, o1, nlt _ (by decide) (by decide) (by rw [s2]; omega), o3⟩
      · right; right; right; left
        exact ⟨n0, ngt _ (by decide) (by decide) (by rw [s1]; omega), o3⟩
  · right; right; right; left
    rw [ord_nan_l x 0 hx hn, ord_nan_l x 1614679632300144556 hx hn, ord_nan_l x 10838051669154920364 hx hn]
    exact ⟨rfl, rfl, rfl⟩
theorem take_dw (L : List Nat) (k : Nat) (h : k < L.length) : (L.take (k + 1)).map dw = (L.take k).map dw ++ [dw (L.getD k 0)] := by
  rw [List.take_succ_eq_append_getElem h, List.map_append, List.getD_eq_getElem?_getD, List.getElem?_eq_getElem h]
  rfl
/-- A number and itself. -/
theorem twice {e E K b : Nat} (h : Gd e E K b) (he : 52 ≤ e) (hE1 : 52 ≤ E) (hE2 : E + 1 ≤ 2075) (hK : K ≤ 1000000) : floatBits .add .f64 b b = some (dw b) := by
  have h1 : floatBits .add .f64 b b = _ := add_fin b b h.1.1.1 h.1.1.1 h.1.1.2 h.1.1.2
  rw [h1]
  congr 1
  have e1 : (sm b + sm b).natAbs = 2 * mag (rg b) := by rw [← sm_abs]; omega
  have hr : rr (mag (rg b)) = rg b := rr_mag _ (by have := h.1.1.2; unfold rg; omega)
  have hD := rr_D e E K (mag (rg b)) he hE1 hE2 hK h.2 (by rw [← sm_abs]; exact h.1.2)
  rw [hr] at hD
  rw [e1, hD]
  unfold dw
  congr 1
  show (if sm b + sm b = 0 then neg' b && neg' b else decide (sm b + sm b < 0)) = neg' b
  by_cases h0 : sm b + sm b = 0
  · rw [if_pos h0, Bool.and_self]
  · rw [if_neg h0]
    have hs : sm b = if neg' b then -(mag (rg b) : Int) else (mag (rg b) : Int) := by
      have hw := word_self' b h.1.1.1
      conv => lhs; rw [← hw]
      exact sm_word _ _ (by have := h.1.1.2; unfold rg; omega)
    cases hn : neg' b
    · rw [hn] at hs
      have hs : sm b = (mag (rg b) : Int) := hs
      exact decide_eq_false (by omega)
    · rw [hn] at hs
      have hs : sm b = -(mag (rg b) : Int) := hs
      exact decide_eq_true (by omega)

set_option maxHeartbeats 2000000 in
theorem doubles_big (a : Option Addr) (n cap : Nat) (h : 300 < n) (w : World) :
    Calls Try.prog 10 #[.slice a n cap] w fun e w' => e = .returned (.bool true) ∧ Below w.heap.size w w' := by
  have q1 : decide (n ≤ 300) = false := decide_eq_false (by omega)
  clear h
  go_enter Try.func10, Try.ntmps10
  go_wp2_with (first | (go_at_call 12; refine (small_any _ _ _ _).mono ?_; rintro e w' ⟨rfl, rfl⟩) | (go_at_call 13; refine (awake_any _).mono ?_; rintro e w' ⟨rfl, hb⟩))
  go_ret
  exact ⟨rfl, hb⟩

set_option maxHeartbeats 4000000 in
set_option maxRecDepth 100000 in
theorem doubles_small (a : Option Addr) (n cap : Nat) (L : List Nat) (w : World) (hL : L.length = n) (hn : n ≤ 300) (hv : View w (.slice a n cap) L)
    (hx : ∀ j, j < n → ∃ b off, a = some ⟨b, off, none⟩ ∧ b < w.heap.size ∧ w.cell? ⟨b, off + j, none⟩ = some (.float .f64 (L.getD j 0))) (hf : ∀ x ∈ L, x < 18446744073709551616) :
    Calls Try.prog 10 #[.slice a n cap] w fun e w' => e = .returned (.bool true) ∧ Below w.heap.size w w' := by
  obtain ⟨i0, hi, hz0, hz1, hz2⟩ := info_parts info_f64
  have q1 : decide (n ≤ 300) = true := decide_eq_true hn
  obtain ⟨ee, hee⟩ : ∃ e : Nat, e = 357 := ⟨_, rfl⟩
  obtain ⟨E, hE⟩ : ∃ e : Nat, e = 1739 := ⟨_, rfl⟩
  have HOK : Hid (∀ x, x < 18446744073709551616 → Ok x → Gd ee E 1 x) := Lib.hid (fun x hx h => ok_gd x ee E hx h hee hE)
  have HEE : Hid (52 ≤ ee ∧ 52 ≤ E ∧ E + 1 ≤ 2075) := Lib.hid (by omega)
  obtain ⟨BB, hBB⟩ : ∃ BB, BB = w.heap.size := ⟨_, rfl⟩
  rw [← hBB]
  have HB := Lib.hid hBB
  have HX := Lib.hid hx
  have HL := Lib.hid hL
  have HF := Lib.hid hf
  have HV := Lib.hid hv
  clear hBB hx hf hv hL hee hE
  go_enter Try.func10, Try.ntmps10
  go_wp2_with (first | (go_at_call 12; refine (small_any _ _ _ _).mono ?_; rintro e w' ⟨rfl, rfl⟩))
  go_loopw [3, 4] (fun v i wr => ∃ (k : Nat) (Q : List Nat), k ≤ n ∧ i = .int .i64 k ∧ Hid (∀ j, j < k → Ok (L.getD j 0)) ∧ Hid (Q = (L.take k).map dw) ∧ Hid (wr.ownsRow BB 25 1 v k (Q.map (Value.float .f64))) ∧ Hid (Below BB w wr)) (fun _ i _ => n - (intOf i).toNat)
  case atStart => exact ⟨0, [], Nat.zero_le _, rfl, Lib.hid (fun _ h => absurd h (Nat.not_lt_zero _)), Lib.hid rfl, Lib.hid (World.ownsRow_nil _ _ _ _), Lib.hid (Below.refl _ _)⟩
  case round =>
    obtain ⟨k, Q, hk, rfl, HR, HQ, HO, HN⟩ := hrel
    by_cases hlt : k < n
    · obtain ⟨b, off, ha, hbw, hc0⟩ := HX.out k hlt
      subst ha
      have c1 := (HN.out.cell (p := ⟨b, off + k, none⟩) (by rw [HB.out]; exact hbw)).trans hc0
      have d1 := getD_lt L HF.out k (by rw [HL.out]; exact hlt)
      have bb1 : (0 : Int) ≤ (k : Int) := by omega
      have bb2 : (k : Int) < (n : Int) := by omega
      have HT := Lib.hid (take_dw L k (by rw [HL.out]; exact hlt))
      have HRk : Hid (∀ x, x = L.getD k 0 → Ok x → ∀ j, j < k + 1 → Ok (L.getD j 0)) := Lib.hid (fun z hz h1 j hj => by
        by_cases e : j = k
        · rw [e, ← hz]; exact h1
        · exact HR.out j (by omega))
      obtain ⟨x, hxe⟩ : ∃ x, x = L.getD k 0 := ⟨_, rfl⟩
      have HXX := Lib.hid hxe
      rw [← hxe] at c1 HT d1
      clear hxe hc0 hbw
      have hsz : BB ≤ wr.heap.size := by rw [HB.out]; exact HN.out.size
      rcases dbl_ways x d1 with ⟨hok, o0⟩ | ⟨hok, o0, o1, o2⟩ | ⟨hok, o0, o1, o2, o3⟩ | ⟨o0, o1, o2⟩ | ⟨o0, o1, o2, o3⟩ | ⟨o0, o1, o2, o3⟩
      · as_aux_lemma =>
        have hg := HOK.out x d1 hok
        have r1 := fun w : World => run_float_arith (P := Try.prog) w .add 25 .f64 x x (dw x) (twice hg HEE.out.1 HEE.out.2.1 HEE.out.2.2 (by omega))
        have HOKX := Lib.hid hok
        clear hg hok
        go_wp2_with (at_builtin; refine wpList_append_own _ rfl _ _ 22 rfl BB 25 i0 (.float .f64 0) 1 8 Try.underlying22 hi hz0 hz1 hz2 rfl (by decide) _ _ _ rfl (HO.out.alloc _) ⟨wr.heap.size, 0, none⟩ 1 1 [.float .f64 (dw x)] rfl rfl (new_cell wr _ _) (fun u hu => by simp at hu; subst hu; rfl) (by unfold maxLen; omega) (by omega) (by first | (simp; omega) | (show BB ≤ wr.heap.size + 1; omega)) ?_)
        intro v' w1 hown' hgrow _
        have R1 : Hid (w1.ownsRow BB 25 1 v' (k + 1) ((Q ++ [dw x]).map (Value.float .f64))) := Lib.hid (by rw [List.map_append]; exact hown')
        have R2 : Hid (Below BB w w1) := Lib.hid ((HN.out.alloc hsz _).grown hgrow (by simp; omega) (fun j hj => (HO.out.lt j hj).1))
        clear hown' hgrow
        go_wp2
        go_roundw
        case rel => exact ⟨k + 1, _, by omega, by go_num, Lib.hid (HRk.out x HXX.out HOKX.out), Lib.hid (by rw [HT.out, HQ.out]), R1, R2⟩
        case measure => simp [intOf]; omega
      · as_aux_lemma =>
        have hg := HOK.out x d1 hok
        have r1 := fun w : World => run_float_arith (P := Try.prog) w .add 25 .f64 x x (dw x) (twice hg HEE.out.1 HEE.out.2.1 HEE.out.2.2 (by omega))
        have HOKX := Lib.hid hok
        clear hg hok
        go_wp2_with (at_builtin; refine wpList_append_own _ rfl _ _ 22 rfl BB 25 i0 (.float .f64 0) 1 8 Try.underlying22 hi hz0 hz1 hz2 rfl (by decide) _ _ _ rfl (HO.out.alloc _) ⟨wr.heap.size, 0, none⟩ 1 1 [.float .f64 (dw x)] rfl rfl (new_cell wr _ _) (fun u hu => by simp at hu; subst hu; rfl) (by unfold maxLen; omega) (by omega) (by first | (simp; omega) | (show BB ≤ wr.heap.size + 1; omega)) ?_)
        intro v' w1 hown' hgrow _
        have R1 : Hid (w1.ownsRow BB 25 1 v' (k + 1) ((Q ++ [dw x]).map (Value.float .f64))) := Lib.hid (by rw [List.map_append]; exact hown')
        have R2 : Hid (Below BB w w1) := Lib.hid ((HN.out.alloc hsz _).grown hgrow (by simp; omega) (fun j hj => (HO.out.lt j hj).1))
        clear hown' hgrow
        go_wp2
        go_roundw
        case rel => exact ⟨k + 1, _, by omega, by go_num, Lib.hid (HRk.out x HXX.out HOKX.out), Lib.hid (by rw [HT.out, HQ.out]), R1, R2⟩
        case measure => simp [intOf]; omega
      · as_aux_lemma =>
        have hg := HOK.out x d1 hok
        have r1 := fun w : World => run_float_arith (P := Try.prog) w .add 25 .f64 x x (dw x) (twice hg HEE.out.1 HEE.out.2.1 HEE.out.2.2 (by omega))
        have HOKX := Lib.hid hok
        clear hg hok
        go_wp2_with (at_builtin; refine wpList_append_own _ rfl _ _ 22 rfl BB 25 i0 (.float .f64 0) 1 8 Try.underlying22 hi hz0 hz1 hz2 rfl (by decide) _ _ _ rfl (HO.out.alloc _) ⟨wr.heap.size, 0, none⟩ 1 1 [.float .f64 (dw x)] rfl rfl (new_cell wr _ _) (fun u hu => by simp at hu; subst hu; rfl) (by unfold maxLen; omega) (by omega) (by first | (simp; omega) | (show BB ≤ wr.heap.size + 1; omega)) ?_)
        intro v' w1 hown' hgrow _
        have R1 : Hid (w1.ownsRow BB 25 1 v' (k + 1) ((Q ++ [dw x]).map (Value.float .f64))) := Lib.hid (by rw [List.map_append]; exact hown')
        have R2 : Hid (Below BB w w1) := Lib.hid ((HN.out.alloc hsz _).grown hgrow (by simp; omega) (fun j hj => (HO.out.lt j hj).1))
        clear hown' hgrow
        go_wp2
        go_roundw
        case rel => exact ⟨k + 1, _, by omega, by go_num, Lib.hid (HRk.out x HXX.out HOKX.out), Lib.hid (by rw [HT.out, HQ.out]), R1, R2⟩
        case measure => simp [intOf]; omega
      all_goals
        go_wp2_with (first | (go_at_call 13; refine (awake_any _).mono ?_; rintro e w' ⟨rfl, hb⟩; have HBW := Lib.hid hb; clear hb))
        go_ret
        exact ⟨rfl, HN.out.trans (HBW.out.mono hsz)⟩
    · obtain rfl : k = n := by omega
      clear hlt
      have hge : ¬ ((k : Int) < (k : Int)) := by omega
      have ht : L.take k = L := take_all HL.out
      rw [ht] at HQ
      have hgd : ∀ x ∈ L, Gd ee E 1 x := fun x hx => by
        obtain ⟨j, hj, rfl⟩ := List.mem_iff_getElem.1 hx
        have := HR.out j (by rw [← HL.out]; exact hj)
        rw [List.getD_eq_getElem?_getD, List.getElem?_eq_getElem hj] at this
        exact HOK.out _ (HF.out _ hx) this
      have hS := sum_dw HEE.out.1 HEE.out.2.1 HEE.out.2.2 L (by rw [HL.out]; exact hn) hgd
      have hdl : ∀ x ∈ L.map dw, x < 18446744073709551616 := fun x hx => by
        obtain ⟨y, hy, rfl⟩ := List.mem_map.1 hx
        exact (dw_facts (hgd y hy) HEE.out.1 HEE.out.2.1 HEE.out.2.2 (by omega)).1.1
      have r1 := fun w : World => run_float_arith (P := Try.prog) w .add 25 .f64 (sumW L) (sumW L) (dw (sumW L)) (twice hS.2 HEE.out.1 HEE.out.2.1 HEE.out.2.2 (by omega))
      have hdS := (dw_facts hS.2 HEE.out.1 HEE.out.2.1 HEE.out.2.2 (by omega)).1.1
      have HVX : Hid (View wr _ (L.map dw)) := Lib.hid (view_own (by rw [← HQ.out]; exact HO.out))
      have HVL : Hid (View wr (.slice a k cap) L) := Lib.hid (view_below HV.out (by rw [← HB.out]; exact HN.out))
      have C1 := Lib.hid (fun W (hA : At wr W) => sum_u (hA.view HVL.out) (by rw [HL.out]; omega) HF.out)
      have C2 := Lib.hid (fun W (hA : At wr W) => sum_u (hA.view HVX.out) (by rw [List.length_map, HL.out]; omega) hdl)
      rw [hS.1] at C2
      have hAt := At.start wr
      have HSZ : Hid (BB ≤ wr.heap.size) := Lib.hid (by rw [HB.out]; exact HN.out.size)
      clear hS hgd hdl HQ HO HR HX HOK ht
      generalize sumW L = S at *
      generalize dw S = T at *
      cases h0 : (FloatKind.f64.format.order S 0 != some .eq)
      · go_wp2_with (first
          | (go_at_call 21; first
            | ((with_reducible refine (C1.out _ hAt).mono ?_); rintro e w' ⟨rfl, hb⟩; replace hAt := hAt.next hb; clear hb)
            | ((with_reducible refine (C2.out _ hAt).mono ?_); rintro e w' ⟨rfl, hb⟩; replace hAt := hAt.next hb; clear hb))
          | (go_at_call 20; refine (rsame_self T hdS _).mono ?_; rintro e w' ⟨rfl, rfl⟩)
          | (go_at_call 13; refine (awake_any _).mono ?_; rintro e w' ⟨rfl, hb⟩; replace hAt := hAt.next hb; clear hb))
        go_ret
        exact ⟨rfl, HN.out.trans (Below.mono hAt HSZ.out)⟩
      · cases h1 : (FloatKind.f64.format.order S 1614679632300144556 == some .lt)
        · go_wp2_with (first
            | (go_at_call 21; first
              | ((with_reducible refine (C1.out _ hAt).mono ?_); rintro e w' ⟨rfl, hb⟩; replace hAt := hAt.next hb; clear hb)
              | ((with_reducible refine (C2.out _ hAt).mono ?_); rintro e w' ⟨rfl, hb⟩; replace hAt := hAt.next hb; clear hb))
            | (go_at_call 20; refine (rsame_self T hdS _).mono ?_; rintro e w' ⟨rfl, rfl⟩)
            | (go_at_call 13; refine (awake_any _).mono ?_; rintro e w' ⟨rfl, hb⟩; replace hAt := hAt.next hb; clear hb))
          go_ret
          exact ⟨rfl, HN.out.trans (Below.mono hAt HSZ.out)⟩
        · cases h2 : (FloatKind.f64.format.order S 10838051669154920364 == some .gt)
          all_goals
            go_wp2_with (first
              | (go_at_call 21; first
                | ((with_reducible refine (C1.out _ hAt).mono ?_); rintro e w' ⟨rfl, hb⟩; replace hAt := hAt.next hb; clear hb)
                | ((with_reducible refine (C2.out _ hAt).mono ?_); rintro e w' ⟨rfl, hb⟩; replace hAt := hAt.next hb; clear hb))
              | (go_at_call 20; refine (rsame_self T hdS _).mono ?_; rintro e w' ⟨rfl, rfl⟩)
              | (go_at_call 13; refine (awake_any _).mono ?_; rintro e w' ⟨rfl, hb⟩; replace hAt := hAt.next hb; clear hb))
            go_ret
            exact ⟨rfl, HN.out.trans (Below.mono hAt HSZ.out)⟩

end Go.Proofs.Ytphhonpibmbjmaa
