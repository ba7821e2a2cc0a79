/- Proved: the law FsumOnes answers true at any list, and leaves what there was as it was. -/
import Derived.Test.YtphhonpibmbjmaaEdges
import Derived.Test.YtphhonpibmbjmaaKeeps
namespace Go.Proofs.Ytphhonpibmbjmaa
open Go.RowKit Fl

theorem word_self (x : Nat) (hx : x < 18446744073709551616) : Ieee.double.word (neg' x) (rg x) = x := by
  rw [word_val]
  unfold neg' rg
  by_cases h : 9223372036854775808 ≤ x
  · rw [decide_eq_true h, if_pos rfl]; omega
  · rw [decide_eq_false h, if_neg (by decide)]; omega
/-- A number times one. -/
theorem mul_one' (x : Nat) (hx : x < 18446744073709551616) : fo .mul x 4607182418800017408 = cb x := by
  by_cases hn : isN x = true
  · rw [fo_nan_l f_mul x _ hx hn, cb_nan x hn]
  · have hn : isN x = false := by simpa using hn
    rw [cb_num x hn]
    have hm : ¬ 9218868437227405312 < x % 9223372036854775808 := by simpa [isN] using hn
    by_cases hf : x % 9223372036854775808 < 9218868437227405312
    · rw [mul_fin x _ ⟨hx, hf⟩ ⟨by decide, by decide⟩]
      have e1 : neg' 4607182418800017408 = false := by decide
      have e2 : mag (rg 4607182418800017408) = U := mag_one
      rw [e1, Bool.xor_false, e2]
      have : rk eU (mag (rg x) * U) = rg x := rk_mag eU (rg x) (by unfold rg; omega)
      rw [this]
      exact word_self x hx
    · have hi : x = 9218868437227405312 ∨ x = 18442240474082181120 := by omega
      rcases hi with rfl | rfl <;> decide +kernel
/-- A finite number times nought. -/
theorem mul_nought (x e : Nat) (h : Fin' x) : Bd e 0 (fo .mul x 0) := by
  have hz : rg 0 = 0 := rfl
  rw [mul_fin x 0 h ⟨by decide, by decide⟩, hz, mag_zero, Nat.mul_zero, rk_nought]
  obtain ⟨w1, w2, w3, w4⟩ := word_num (neg' x ^^ neg' 0) 0 (by decide)
  refine ⟨⟨w2, by rw [w3]; decide⟩, ?_⟩
  rw [sm_abs]
  have : rg (Ieee.double.word (neg' x ^^ neg' 0) 0) = 0 := w3
  rw [this, mag_zero]; exact Nat.zero_le _
theorem fold_zero {e : Nat} (h1 : 52 ≤ e) (h2 : e ≤ 2075) : ∀ (M : List Nat) (p : Nat × Nat), (∀ x ∈ M, Bd e 0 x) → Bd e 0 p.1 → Bd e 0 p.2 → Bd e 0 (M.foldl stW p).1 ∧ Bd e 0 (M.foldl stW p).2 := by
  intro M
  induction M with
  | nil => intro p _ a b; exact ⟨a, b⟩
  | cons x M ih =>
    intro p hM a b
    have hx := hM x (by simp)
    have ht := add_bd a hx (by omega) h1 h2
    have hl : Bd e 0 (lostW p.1 x (fo .add p.1 x)) := by
      unfold lostW
      split
      · exact add_bd (sub_bd hx ht (by omega) h1 h2) a (by omega) h1 h2
      · exact add_bd (sub_bd a ht (by omega) h1 h2) hx (by omega) h1 h2
    exact ih (stW p x) (fun y hy => hM y (by simp [hy])) ht (add_bd b hl (by omega) h1 h2)
theorem bd_nought {e b : Nat} (h : Bd e 0 b) : rg b = 0 := by
  have := h.2
  rw [Nat.zero_mul, sm_abs] at this
  exact mag_inj (by rw [mag_zero]; omega)
theorem sum_nought (L : List Nat) (e : Nat) (h1 : 52 ≤ e) (h2 : e ≤ 2075) (h : ∀ x ∈ L, Bd e 0 x) : FloatKind.f64.format.order (sumW L) 0 = some .eq := by
  obtain ⟨a, b⟩ := fold_zero h1 h2 L (0, 0) h (bd_zero e) (bd_zero e)
  have key : rg (sumW L) = 0 := by
    unfold sumW
    split
    · rfl
    · rw [if_neg (by rw [show runW L = L.foldl stW (0, 0) from rfl, fin_num b.1]; decide)]
      exact bd_nought (add_bd a b (by omega) h1 h2)
  have hl := (sum_can L).2
  generalize sumW L = s at *
  unfold rg at key
  exact ord_eq s 0 hl (by decide) (fin_num ⟨hl, by omega⟩) (by decide) (by unfold sr; split <;> omega)
theorem dot_ones (L : List Nat) (hf : ∀ x ∈ L, x < 18446744073709551616) : dotW L (List.replicate L.length 4607182418800017408) = sumW L := by
  unfold dotW prodL
  refine sum_congr ?_ (fun x hx => (prod_can L (List.replicate L.length 4607182418800017408) x hx).2) hf
  apply List.ext_getElem
  · simp
  · intro j h1 h2
    simp only [List.length_map] at h2
    simp only [List.getElem_map, List.getElem_zipWith, List.getElem_replicate]
    rw [mul_one' _ (hf _ (List.getElem_mem h2)), cb_cb]
theorem dot_nought (L : List Nat) (hL : ∀ x ∈ L, Fin' x) : FloatKind.f64.format.order (dotW L (List.replicate L.length 0)) 0 = some .eq := by
  unfold dotW prodL
  refine sum_nought _ 100 (by decide) (by decide) (fun x hx => ?_)
  obtain ⟨j, hj, rfl⟩ := List.mem_iff_getElem.1 hx
  simp only [List.length_zipWith] at hj
  simp only [List.getElem_zipWith, List.getElem_replicate]
  exact mul_nought _ _ (hL _ (List.getElem_mem (by omega)))
theorem one_made (W : World) (v : Value) (hv : W.heap.size ≤ W.heap.size) : (W.alloc (.cells #[v] 25)).ownsRow W.heap.size 25 1 (.slice (some ⟨W.heap.size, 0, none⟩) 1 1) 1 [v] :=
  ⟨by simp, .inr ⟨W.heap.size, 1, #[v], rfl, hv, heap_alloc_new W _, Nat.le_refl _, by unfold maxLen; omega, rfl, by simp⟩⟩
theorem rep_set (n k : Nat) (Q : List Nat) (hk : k < n) (hQ : Q = List.replicate k 4607182418800017408 ++ List.replicate (n - k) 0) : Q.set k 4607182418800017408 = List.replicate (k + 1) 4607182418800017408 ++ List.replicate (n - (k + 1)) 0 := by
  have e : n - k = (n - (k + 1)) + 1 := by omega
  rw [hQ, e, List.replicate_succ, List.set_append_right _ _ (by simp), List.length_replicate, Nat.sub_self, List.set_cons_zero, List.replicate_succ']
  simp

set_option maxHeartbeats 2000000 in
theorem ones_big (a : Option Addr) (n cap : Nat) (h : 300 < n) (w : World) :
    Calls Try.prog 9 #[.slice a n cap] w fun e w' => e = .returned (.bool true) ∧ Below w.heap.size w w' := by
  have q1 : decide (n ≤ 300) = false := decide_eq_false (by omega)
  clear h
  go_enter Try.func9, Try.ntmps9
  go_wp2_with (first | (go_at_call 12; refine (small_any _ _ _ _).mono ?_; rintro e w' ⟨rfl, rfl⟩) | (go_at_call 13; refine (awake_any _).mono ?_; rintro e w' ⟨rfl, hb⟩))
  go_ret
  exact ⟨rfl, hb⟩

attribute [local go_sem] store_float
set_option maxHeartbeats 4000000 in
set_option maxRecDepth 100000 in
theorem ones_some (b off cap n : Nat) (L : List Nat) (w : World) (hL : L.length = n) (h0 : 0 < n) (hn : n ≤ 300) (hbw : b < w.heap.size) (hv : View w (.slice (some ⟨b, off, none⟩) n cap) L)
    (hx : ∀ j, j < n → w.cell? ⟨b, off + j, none⟩ = some (.float .f64 (L.getD j 0))) (hf : ∀ x ∈ L, x < 18446744073709551616) :
    Calls Try.prog 9 #[.slice (some ⟨b, off, none⟩) n cap] w fun e w' => e = .returned (.bool true) ∧ Below w.heap.size w w' := by
  obtain ⟨i0, hi, hz0, hz1, hz2⟩ := info_parts info_f64
  have q1 : decide (n ≤ 300) = true := decide_eq_true hn
  obtain ⟨BB, hBB⟩ : ∃ BB, BB = w.heap.size := ⟨_, rfl⟩
  have HBe := Lib.hid hBB
  have HBW : BB ≤ w.heap.size := by omega
  have HBb : Hid (b < BB) := Lib.hid (by omega)
  have HX := Lib.hid hx
  have HL := Lib.hid hL
  have HF := Lib.hid hf
  have HV := Lib.hid hv
  rw [← hBB]
  clear hx hf hv hL hbw hBB
  go_enter Try.func9, Try.ntmps9
  go_wp2_with (first | (go_at_call 12; refine (small_any _ _ _ _).mono ?_; rintro e w' ⟨rfl, rfl⟩) | (refine wpList_make_full _ rfl _ _ 22 rfl BB 25 i0 (.float .f64 0) 1 Try.underlying22 hi hz0 hz1 .i64 .i64 _ _ n rfl rfl rfl rfl (by rw [hz2]; omega) (by unfold maxLen; omega) (by omega) ?_))
  intro w1 hown hg
  have hown1 : Hid (w1.ownsRow BB 25 1 (.slice (some ⟨w.heap.size, 0, none⟩) n n) n ((List.replicate n 0).map (Value.float .f64))) := Lib.hid (by rw [← made_zero]; exact hown)
  have HN1 : Hid (Below BB w w1) := Lib.hid ((Below.refl _ _).grown hg HBW (by simp))
  clear hown hg
  have HBW1 : BB ≤ w1.heap.size := by have := HN1.out.size; omega
  have hlt1 : w.heap.size < w1.heap.size := (hown1.out.lt _ rfl).2
  go_wp2_with (refine wpList_make_full _ rfl _ _ 22 rfl BB 25 i0 (.float .f64 0) 1 Try.underlying22 hi hz0 hz1 .i64 .i64 _ _ n rfl rfl rfl rfl (by rw [hz2]; omega) (by unfold maxLen; omega) HBW1 ?_)
  intro w2 hown2 hg2
  have HO1 : Hid (w2.ownsRow BB 25 1 (.slice (some ⟨w.heap.size, 0, none⟩) n n) n ((List.replicate n 0).map (Value.float .f64))) := Lib.hid (hown1.out.kept hg2 (Or.inr (fun e => by cases e)))
  have HZ0 : Hid (∀ j, j < n → w2.cell? ⟨w1.heap.size, j, none⟩ = some (.float .f64 0)) := Lib.hid (fun j hj => by
    have ho : w2.ownsRow BB 25 1 (.slice (some ⟨w1.heap.size, 0, none⟩) n n) n ((List.replicate n 0).map (Value.float .f64)) := by rw [← made_zero]; exact hown2
    have := (own_cell ho j hj).1
    rwa [List.getD_eq_getElem?_getD, List.getElem?_replicate, if_pos hj] at this)
  have HN2 : Hid (Below BB w w2) := Lib.hid (HN1.out.grown hg2 HBW1 (by simp))
  clear hown2 hg2 hown1 HN1
  have HGS : BB ≤ w.heap.size := HBW
  have HGN : Hid (BB ≤ w1.heap.size) := Lib.hid HBW1
  go_wp2_with fail
  generalize w1.heap.size = gn at *
  have HSW : Hid (w.heap.size = BB) := Lib.hid HBe.out.symm
  obtain ⟨gs, hgs⟩ : ∃ gs, gs = w.heap.size := ⟨_, rfl⟩
  rw [← hgs] at HO1 hlt1 HGS ⊢
  clear hgs HBW HBW1
  go_loopw [5, 6] (fun s i wr => ∃ (k : Nat) (Q : List Nat) (g : Bool), k ≤ n ∧ s = .bool g ∧ i = .int .i64 k ∧ Hid (Q = List.replicate k 4607182418800017408 ++ List.replicate (n - k) 0) ∧ Hid (wr.ownsRow BB 25 1 (.slice (some ⟨gs, 0, none⟩) n n) n (Q.map (Value.float .f64))) ∧
    Hid (∀ j, j < n → wr.cell? ⟨gn, j, none⟩ = some (.float .f64 0)) ∧ Hid (g = false → ∀ j, j < k → Fin' (L.getD j 0)) ∧ Hid (Below BB w wr)) (fun _ i _ => n - (intOf i).toNat)
  case atStart => exact ⟨0, _, false, Nat.zero_le _, rfl, rfl, Lib.hid (by simp), HO1, HZ0, Lib.hid (fun _ _ h => absurd h (Nat.not_lt_zero _)), HN2⟩
  case round =>
    clear HO1 HZ0 HN2
    obtain ⟨k, Q, g, hk, rfl, rfl, HQ, HO, HZ, HG, HN⟩ := hrel
    by_cases hlt : k < n
    · have c1 := (HN.out.cell (p := ⟨b, off + k, none⟩) HBb.out).trans (HX.out k hlt)
      have d1 := getD_lt L HF.out k (by rw [HL.out]; exact hlt)
      have bb1 : (0 : Int) ≤ (k : Int) := by omega
      have bb2 : (k : Int) < (n : Int) := by omega
      have f1 := HO.out.frozenAt k
      obtain ⟨c3, _⟩ := own_cell HO.out k hlt
      have HQ2 := Lib.hid (rep_set n k Q hlt HQ.out)
      have HGk : Hid (∀ x, x = L.getD k 0 → g = false → Fin' x → ∀ j, j < k + 1 → Fin' (L.getD j 0)) := Lib.hid (fun x hx hg hxf j hj => by
        by_cases e : j = k
        · rw [e, ← hx]; exact hxf
        · exact HG.out hg j (by omega))
      obtain ⟨x, hx⟩ : ∃ x, x = L.getD k 0 := ⟨_, rfl⟩
      obtain ⟨z, hz⟩ : ∃ z, z = Q.getD k 0 := ⟨_, rfl⟩
      have HXX := Lib.hid hx
      rw [← hx] at c1 d1
      rw [← hz] at c3
      clear hx hz
      have hbg : b ≠ gs := by have := HBb.out; omega
      have hgg : gn ≠ gs := by omega
      have HST : Hid ((wr.setCell ⟨gs, k, none⟩ (.float .f64 4607182418800017408)).ownsRow BB 25 1 (.slice (some ⟨gs, 0, none⟩) n n) n ((Q.set k 4607182418800017408).map (Value.float .f64)) ∧ Below BB w (wr.setCell ⟨gs, k, none⟩ (.float .f64 4607182418800017408)) ∧
          ∀ j, j < n → (wr.setCell ⟨gs, k, none⟩ (.float .f64 4607182418800017408)).cell? ⟨gn, j, none⟩ = some (.float .f64 0)) := Lib.hid (by
        refine ⟨?_, HN.out.setCell HGS _, fun j hj => ?_⟩
        · rw [List.map_set]
          exact (HO.out.stored k (.float .f64 4607182418800017408)).1
        · rw [World.cell?_setCell_other _ _ _ _ (by intro e; injection e with e1; exact hgg e1.symm)]
          exact HZ.out j hj)
      have c1' : (wr.setCell ⟨gs, k, none⟩ (.float .f64 4607182418800017408)).cell? ⟨b, off + k, none⟩ = some (.float .f64 x) := by
        rw [World.cell?_setCell_other _ _ _ _ (by intro e; injection e with e1; exact hbg e1.symm)]
        exact c1
      go_upto_region 10 with fail
      obtain ⟨w3, hw3⟩ : ∃ w3, w3 = wr.setCell ⟨gs, k, none⟩ (.float .f64 4607182418800017408) := ⟨_, rfl⟩
      rw [← hw3] at HST c1' ⊢
      clear hw3 c1 c3 f1 HO HZ HN HQ HG
      cases g
      · by_cases hfi : rg x < 9218868437227405312
        · have r1 := fun w : World => run_float_arith (P := Try.prog) w .sub 25 .f64 x x 0 (sub_self_fin x hfi d1)
          have o3 : FloatKind.f64.format.order 0 0 = some .eq := ord_self 0 (by decide) (by decide)
          have HFX : Hid (Fin' x) := Lib.hid ⟨d1, hfi⟩
          clear hfi
          go_wp2_with fail
          go_quiet (fail)
          go_wp2_with fail
          go_roundw
          case rel => exact ⟨k + 1, _, false, by omega, rfl, by go_num, HQ2, Lib.hid (row_drawn HST.out.1 _), Lib.hid HST.out.2.2, Lib.hid (fun _ => HGk.out x HXX.out (by first | rfl | trivial) HFX.out), Lib.hid (below_drewN HST.out.2.1 _)⟩
          case measure => simp [intOf]; omega
        · obtain ⟨f, hff⟩ := nan_runs (P := Try.prog) w3 .sub f_sub 25 x x (sub_self_nan x d1 hfi)
          have r1 := (hff 1).2.2
          rw [← World.drew_is_drewN] at r1
          have o3 := fun m => ord_nan_l (f m) 0 (hff m).2.1 (hff m).1
          clear hff hfi
          go_wp2_with fail
          go_region
          all_goals
            go_wp2_with fail
            go_roundw
            case rel => exact ⟨k + 1, _, true, by omega, rfl, by go_num, HQ2, Lib.hid (row_drawn HST.out.1 _), Lib.hid HST.out.2.2, Lib.hid (fun h => by cases h), Lib.hid (below_drewN HST.out.2.1 _)⟩
            case measure => simp [intOf]; omega
      · go_wp2_with fail
        go_quiet (fail)
        go_wp2_with fail
        go_roundw
        case rel => exact ⟨k + 1, _, true, by omega, rfl, by go_num, HQ2, Lib.hid (row_drawn HST.out.1 _), Lib.hid HST.out.2.2, Lib.hid (fun h => by cases h), Lib.hid (below_drewN HST.out.2.1 _)⟩
        case measure => simp [intOf]; omega
    · obtain rfl : k = n := by omega
      clear hlt
      have hge : ¬ ((k : Int) < (k : Int)) := by omega
      have hQ : Q = List.replicate k 4607182418800017408 := by rw [HQ.out]; simp
      have HVO : Hid (View wr (.slice (some ⟨gs, 0, none⟩) k k) (List.replicate k 4607182418800017408)) := Lib.hid (by rw [← hQ]; exact own_view HO.out h0)
      have HVN : Hid (View wr (.slice (some ⟨gn, 0, none⟩) k k) (List.replicate k 0)) := Lib.hid (Or.inr (Or.inr ⟨gn, 0, k, by simp, by simpa using h0, World.block_lt_of_cell? wr ⟨gn, 0, none⟩ (HZ.out 0 h0), fun j hj => by
        rw [List.length_replicate] at hj
        rw [Nat.zero_add, HZ.out j hj]
        simp [List.getD_eq_getElem?_getD, hj]⟩))
      have HVL : Hid (View wr (.slice (some ⟨b, off, none⟩) k cap) L) := Lib.hid (view_below HV.out (by rw [HSW.out]; exact HN.out))
      have hp := dot_ones L HF.out
      rw [HL.out] at hp
      have C1 := Lib.hid (fun W (hA : At wr W) => dot_u (hA.view HVL.out) (hA.view HVO.out) (by rw [HL.out]; omega))
      have C2 := Lib.hid (fun W (hA : At wr W) => dot_u (hA.view HVL.out) (hA.view HVN.out) (by rw [HL.out]; omega))
      have C4 := Lib.hid (fun W (hA : At wr W) => sum_u (hA.view HVL.out) (by rw [HL.out]; omega) HF.out)
      have l1 : dv L (List.replicate k 4607182418800017408) = sumW L := by unfold dv; rw [if_pos (by simp [HL.out]), hp]
      have l2 : dc L (List.replicate k 4607182418800017408) = 0 := by unfold dc; rw [if_pos (by simp [HL.out])]
      have l3 : dv L (List.replicate k 0) = dotW L (List.replicate k 0) := by unfold dv; rw [if_pos (by simp [HL.out])]
      have l4 : dc L (List.replicate k 0) = 0 := by unfold dc; rw [if_pos (by simp [HL.out])]
      rw [l1, l2] at C1
      rw [l3, l4] at C2
      have HFIN : Hid (g = false → FloatKind.f64.format.order (dotW L (List.replicate k 0)) 0 = some .eq) := Lib.hid (fun hg => by
        have := dot_nought L (fun x hx => by
          obtain ⟨j, hj, rfl⟩ := List.mem_iff_getElem.1 hx
          have := HG.out hg j (by rw [← HL.out]; exact hj)
          rwa [List.getD_eq_getElem?_getD, List.getElem?_eq_getElem hj] at this)
        rwa [HL.out] at this)
      have HOFF := Lib.hid (fun (W : World) (v : Value) (hA : At wr W) (hv : View W v (4607182418800017408 :: List.replicate k 4607182418800017408)) => dot_off v (.slice (some ⟨b, off, none⟩) k cap) _ L W hv (hA.view HVL.out) (by rw [List.length_cons, List.length_replicate, HL.out]; omega))
      have ls := (sum_can L).2
      generalize sumW L = p at *
      generalize dotW L (List.replicate k 0) = d0 at *
      have hAt := At.start wr
      have HSZ : Hid (BB ≤ wr.heap.size) := Lib.hid (by have := HN.out.size; have := HSW.out; omega)
      have HRO : Hid (∀ W, At wr W → Reads W W.heap.size 1 (some ⟨gs, 0, none⟩) k ((List.replicate k 4607182418800017408).map (Value.float .f64))) := Lib.hid (fun W hA => (view_reads (hA.view HVO.out)).2)
      clear HQ hQ HO HZ HG HVN HVO hp l1 l2 l3 l4
      cases g
      · have o1 := HFIN.out rfl
        clear HFIN
        go_wp2_with fail
        refine (C1.out _ hAt).mono ?_
        rintro e W1 ⟨rfl, hb1⟩
        replace hAt := hAt.next hb1
        clear hb1
        go_wp2_with fail
        refine (C2.out _ hAt).mono ?_
        rintro e W2 ⟨rfl, hb2⟩
        replace hAt := hAt.next hb2
        clear hb2
        go_wp2_with (at_builtin; refine wpList_append_any _ rfl _ _ 22 rfl W2.heap.size 25 i0 (.float .f64 0) 1 8 Try.underlying22 hi hz0 hz1 hz2 rfl (by decide) _ 1 [.float .f64 4607182418800017408] rfl (one_made W2 _ (Nat.le_refl _)) W2.heap.size _ _ _ ((List.replicate k 4607182418800017408).map (Value.float .f64)) rfl ((HRO.out _ hAt).alloc (Nat.le_refl _) _) (one_cell _) (by unfold maxLen; omega) (by omega) (by first | simp | (show W2.heap.size ≤ W2.heap.size + 1; omega)) ?_)
        intro v3 W3 hown3 hgrow3 _
        have HV3 : Hid (View W3 v3 (4607182418800017408 :: List.replicate k 4607182418800017408)) := Lib.hid (view_own (R := 4607182418800017408 :: List.replicate k 4607182418800017408) (by rw [List.map_cons, List.map_replicate]; exact hown3))
        replace hAt := hAt.next (((Below.refl _ _).alloc (Nat.le_refl _) _).grown hgrow3 (by simp) (fun j hj => ((one_made W2 (.float .f64 4607182418800017408) (Nat.le_refl _)).lt j hj).1))
        clear hown3 hgrow3
        go_wp2_with fail
        refine (HOFF.out _ v3 hAt HV3.out).mono ?_
        rintro e W4 ⟨rfl, hw4⟩
        replace hw4 := hw4.symm
        subst hw4
        go_wp2_with (first
          | (go_at_call 21; refine (C4.out _ hAt).mono ?_; rintro e w' ⟨rfl, hb⟩; replace hAt := hAt.next hb; clear hb)
          | (go_at_call 20; first | ((with_reducible refine (rsame_self p ls _).mono ?_); rintro e w' ⟨rfl, rfl⟩) | ((with_reducible refine (rsame_self 0 (by decide) _).mono ?_); rintro e w' ⟨rfl, rfl⟩))
          | (go_at_call 13; refine (awake_any _).mono ?_; rintro e w' ⟨rfl, hb⟩; replace hAt := hAt.next hb; clear hb))
        go_ret
        exact ⟨rfl, HN.out.trans (Below.mono hAt HSZ.out)⟩
      · clear HFIN
        go_wp2_with fail
        refine (C1.out _ hAt).mono ?_
        rintro e W1 ⟨rfl, hb1⟩
        replace hAt := hAt.next hb1
        clear hb1
        go_wp2_with fail
        refine (C2.out _ hAt).mono ?_
        rintro e W2 ⟨rfl, hb2⟩
        replace hAt := hAt.next hb2
        clear hb2
        go_wp2_with (at_builtin; refine wpList_append_any _ rfl _ _ 22 rfl W2.heap.size 25 i0 (.float .f64 0) 1 8 Try.underlying22 hi hz0 hz1 hz2 rfl (by decide) _ 1 [.float .f64 4607182418800017408] rfl (one_made W2 _ (Nat.le_refl _)) W2.heap.size _ _ _ ((List.replicate k 4607182418800017408).map (Value.float .f64)) rfl ((HRO.out _ hAt).alloc (Nat.le_refl _) _) (one_cell _) (by unfold maxLen; omega) (by omega) (by first | simp | (show W2.heap.size ≤ W2.heap.size + 1; omega)) ?_)
        intro v3 W3 hown3 hgrow3 _
        have HV3 : Hid (View W3 v3 (4607182418800017408 :: List.replicate k 4607182418800017408)) := Lib.hid (view_own (R := 4607182418800017408 :: List.replicate k 4607182418800017408) (by rw [List.map_cons, List.map_replicate]; exact hown3))
        replace hAt := hAt.next (((Below.refl _ _).alloc (Nat.le_refl _) _).grown hgrow3 (by simp) (fun j hj => ((one_made W2 (.float .f64 4607182418800017408) (Nat.le_refl _)).lt j hj).1))
        clear hown3 hgrow3
        go_wp2_with fail
        refine (HOFF.out _ v3 hAt HV3.out).mono ?_
        rintro e W4 ⟨rfl, hw4⟩
        replace hw4 := hw4.symm
        subst hw4
        go_wp2_with (first
          | (go_at_call 21; refine (C4.out _ hAt).mono ?_; rintro e w' ⟨rfl, hb⟩; replace hAt := hAt.next hb; clear hb)
          | (go_at_call 20; first | ((with_reducible refine (rsame_self p ls _).mono ?_); rintro e w' ⟨rfl, rfl⟩) | ((with_reducible refine (rsame_self 0 (by decide) _).mono ?_); rintro e w' ⟨rfl, rfl⟩))
          | (go_at_call 13; refine (awake_any _).mono ?_; rintro e w' ⟨rfl, hb⟩; replace hAt := hAt.next hb; clear hb))
        go_ret
        exact ⟨rfl, HN.out.trans (Below.mono hAt HSZ.out)⟩

set_option maxHeartbeats 4000000 in
theorem ones_none (a : Option Addr) (cap : Nat) (w : World) (hv : View w (.slice a 0 cap) []) :
    Calls Try.prog 9 #[.slice a 0 cap] w fun e w' => e = .returned (.bool true) ∧ Below w.heap.size w w' := by
  obtain ⟨i0, hi, hz0, hz1, hz2⟩ := info_parts info_f64
  have HV := Lib.hid hv
  have o1 : FloatKind.f64.format.order 0 0 = some .eq := ord_self 0 (by decide) (by decide)
  have l1 : dv [] [] = 0 := by decide +kernel
  have l2 : dc [] [] = 0 := by decide
  have ls := sum_nil
  have HB0 : w.heap.size ≤ w.heap.size := Nat.le_refl _
  have C1 := Lib.hid (fun W u (hA : At w W) (hu : View W u []) => dot_u (hA.view hv) hu (by decide))
  have C4 := Lib.hid (fun W (hA : At w W) => sum_u (hA.view hv) (by decide) (fun _ h => by cases h))
  have HOFF := Lib.hid (fun (W : World) (v : Value) (hA : At w W) (hv' : View W v [4607182418800017408]) => dot_off v (.slice a 0 cap) _ [] W hv' (hA.view hv) (by decide))
  rw [l1, l2] at C1
  rw [ls] at C4
  clear hv l1 l2 ls
  go_enter Try.func9, Try.ntmps9
  go_wp2_with (first | (go_at_call 12; refine (small_any _ _ _ _).mono ?_; rintro e w' ⟨rfl, rfl⟩) | (refine wpList_make_full _ rfl _ _ 22 rfl w.heap.size 25 i0 (.float .f64 0) 1 Try.underlying22 hi hz0 hz1 .i64 .i64 _ _ 0 rfl rfl rfl rfl (by rw [hz2]; omega) (by unfold maxLen; omega) HB0 ?_))
  intro w1 hown hg
  have HN1 : Hid (Below w.heap.size w w1) := Lib.hid ((Below.refl _ _).grown hg HB0 (by simp))
  have HB1 : w.heap.size ≤ w1.heap.size := HN1.out.size
  clear hown hg
  go_wp2_with (refine wpList_make_full _ rfl _ _ 22 rfl w.heap.size 25 i0 (.float .f64 0) 1 Try.underlying22 hi hz0 hz1 .i64 .i64 _ _ 0 rfl rfl rfl rfl (by rw [hz2]; omega) (by unfold maxLen; omega) HB1 ?_)
  intro w2 hown2 hg2
  have hAt : At w w2 := HN1.out.grown hg2 HB1 (by simp)
  clear hown2 hg2 HN1
  have HE1 : Hid (∀ W : World, View W (.slice (some ⟨w.heap.size, 0, none⟩) 0 0) []) := Lib.hid (fun W => Or.inr (Or.inl ⟨_, _, rfl, rfl⟩))
  have HE2 : Hid (∀ W : World, View W (.slice (some ⟨w1.heap.size, 0, none⟩) 0 0) []) := Lib.hid (fun W => Or.inr (Or.inl ⟨_, _, rfl, rfl⟩))
  go_wp2_with fail
  refine wp_loop_rounds 1 ?_
  rw [rounds_succ]
  go_wp2_with fail
  refine (C1.out _ _ hAt (HE1.out _)).mono ?_
  rintro e W1 ⟨rfl, hb1⟩
  replace hAt := hAt.next hb1
  clear hb1
  go_wp2_with fail
  refine (C1.out _ _ hAt (HE2.out _)).mono ?_
  rintro e W2 ⟨rfl, hb2⟩
  replace hAt := hAt.next hb2
  clear hb2
  go_wp2_with (at_builtin; refine wpList_append_any _ rfl _ _ 22 rfl W2.heap.size 25 i0 (.float .f64 0) 1 8 Try.underlying22 hi hz0 hz1 hz2 rfl (by decide) _ 1 [.float .f64 4607182418800017408] rfl (one_made W2 _ (Nat.le_refl _)) W2.heap.size _ 0 _ [] rfl ⟨by simp, fun h => absurd h (by omega)⟩ (fun u hu => by cases hu) (by unfold maxLen; omega) (by omega) (by first | simp | (show W2.heap.size ≤ W2.heap.size + 1; omega)) ?_)
  intro v3 W3 hown3 hgrow3 _
  have HV3 : Hid (View W3 v3 [4607182418800017408]) := Lib.hid (view_own (R := [4607182418800017408]) (by simpa using hown3))
  replace hAt := hAt.next (((Below.refl _ _).alloc (Nat.le_refl _) _).grown hgrow3 (by simp) (fun j hj => ((one_made W2 (.float .f64 4607182418800017408) (Nat.le_refl _)).lt j hj).1))
  clear hown3 hgrow3
  go_wp2_with fail
  refine (HOFF.out _ v3 hAt HV3.out).mono ?_
  rintro e W4 ⟨rfl, hw4⟩
  replace hw4 := hw4.symm
  subst hw4
  go_wp2_with (first
    | (go_at_call 21; refine (C4.out _ hAt).mono ?_; rintro e w' ⟨rfl, hb⟩; replace hAt := hAt.next hb; clear hb)
    | (go_at_call 20; (refine (rsame_self 0 (by decide) _).mono ?_); rintro e w' ⟨rfl, rfl⟩)
    | (go_at_call 13; refine (awake_any _).mono ?_; rintro e w' ⟨rfl, hb⟩; replace hAt := hAt.next hb; clear hb))
  go_ret
  exact ⟨rfl, hAt⟩

end Go.Proofs.Ytphhonpibmbjmaa
