/- Proved: what the document's own Dot and Spread give: the same plain functions as the landed ones. -/
import Derived.Test.YtphhonpibmbjmaaDot
import Derived.Deep.RegionLaw
namespace Go.Proofs.Ytphhonpibmbjmaa
open Go.RowKit Fl

/-- append onto a row of the call's own, as one step of a region that draws its order. -/
theorem step_append_any {P : Program} {w : World} {ops : Array Oper} {o : Oper} {a : Act} {K : Act → World → Prop} {Q : Exit → Act → World → Prop} {E : Prop} (hgd : o.guard = none) (s x : Operand) (t : TypeId)
    (ho : o.op = .call { callee := .builtin .append, args := #[s, x], argTypes := #[t, t] })
    (base : Nat) (e : TypeId) (i : TypeInfo) (z : Value) (size bytes : Nat) (ht : P.underlying t = some (.slice e)) (hi : P.info? e = some i) (hz : i.zero = some z)
    (hsize : i.size = size) (hby : i.bytes = bytes) (hzs : z.cells.size = size) (hsz : 0 < size)
    (v : Value) (n : Nat) (xs : List Value) (hs : a.eval s = v) (hown : w.ownsRow base e size v n xs)
    (ad : Addr) (m c : Nat) (news : List Value) (hx : a.eval x = .slice (some ad) m c) (hl : news.length = m * size) (hnews : ∀ j u, news[j]? = some u → w.cell? (ad.add j) = some u) (h1 : ∀ u ∈ news, u.oneCell' = true)
    (h63 : n + m ≤ maxLen) (hbytes : (n + m) * bytes ≤ 140737488355328) (hbase : base ≤ w.heap.size)
    (h : ∀ v' w', w'.ownsRow base e size v' (n + m) (xs ++ news) → w.grownBy w' v.ownBlock → K (a.put o.dst v') w') : if Region.wanted o (yielded ops a.tmps) = true then Oper.wp P o a w K Q else E := by
  rw [if_pos (by simp [Region.wanted, hgd])]
  exact wp_append_own w s x t ho base e i z size bytes ht hi hz hsize hby hzs hsz v n xs hs hown ad m c news hx hl hnews h1 h63 hbytes hbase fun v' w' a b _ => h v' w' a b

theorem row_drawn {B T n : Nat} {w : World} {v : Value} {xs : List Value} (h : w.ownsRow B T 1 v n xs) (m : Nat) : (w.drewN m).ownsRow B T 1 v n xs := h
theorem row_drew {B T n : Nat} {w : World} {v : Value} {xs : List Value} (h : w.ownsRow B T 1 v n xs) : w.drew.ownsRow B T 1 v n xs := h
theorem fil_nil (T : List Nat) : Fil 0 0 T [] := ⟨rfl, fun _ h => (List.not_mem_nil h).elim, fun _ h => absurd h (Nat.not_lt_zero _)⟩
theorem new_cell (w : World) (c : Nat) (T : TypeId) : ∀ j u, [Value.float .f64 c][j]? = some u → (w.alloc (.cells #[.float .f64 c] T)).cell? ((⟨w.heap.size, 0, none⟩ : Addr).add j) = some u := by
  intro j u hj
  match j, hj with
  | 0, hj => simp at hj; subst hj; simp [Addr.add, go_sem]

set_option maxHeartbeats 2000000 in
set_option maxRecDepth 100000 in
theorem rspread_some (b1 o1 cap1 n : Nat) (A : List Nat) (w : World) (hA : A.length = n) (h0 : 0 < n) (hn : n ≤ 1000000) (hw1 : b1 < w.heap.size)
    (hx : ∀ j, j < n → w.cell? ⟨b1, o1 + j, none⟩ = some (.float .f64 (A.getD j 0))) (hf : ∀ x ∈ A, x < 18446744073709551616) :
    Calls Try.prog 17 #[.slice (some ⟨b1, o1, none⟩) n cap1] w fun e w' => (∃ r, e = .returned (.tuple #[.float .f64 r, .int .i64 0]) ∧ r = spreadW A) ∧ Below w.heap.size w w' := by
  obtain ⟨i0, hi, hz0, hz1, hz2⟩ := info_parts info_f64
  have hm := rmean_any (.slice (some ⟨b1, o1, none⟩) A.length cap1) A w (.inr (.inr ⟨b1, o1, cap1, rfl, by omega, hw1, by rw [hA]; exact hx⟩)) (by omega) (by omega) hf
  rw [hA] at hm
  have HT : Hid (∀ j, j < n → (sqL (meanW A) A).getD j 0 = sq (meanW A) (A.getD j 0)) := Lib.hid (fun j hj => sqL_at _ j (by omega))
  have HTL : Hid ((sqL (meanW A) A).length = n) := Lib.hid (by simp [sqL, hA])
  have HQ : Hid (fo .quo (sumW (sqL (meanW A) A)) (floatOfInt .f64 (n : Int)) = spreadW A) := Lib.hid (by rw [← hA]; rfl)
  have HPC := Lib.hid (sqL_can (meanW A) A)
  have hml : meanW A < 18446744073709551616 := fo_lt f_quo _ _
  generalize sqL (meanW A) A = T at HT HTL HQ HPC
  generalize meanW A = mu at HT hm hml
  obtain ⟨BB, hBB⟩ : ∃ BB, BB = w.heap.size := ⟨_, rfl⟩
  rw [← hBB]
  have HB := Lib.hid hBB
  have HB1 : Hid (b1 < BB) := Lib.hid (by omega)
  have HX := Lib.hid hx
  have HFA := Lib.hid hf
  have HA := Lib.hid hA
  have h0' : ¬ ((n : Int) = 0) := by omega
  clear hBB hx hw1 hA hf
  go_enter Try.func17, Try.ntmps17
  go_wp2_with (go_at_call 15; refine hm.mono ?_; rintro e w' ⟨rfl, m0, rfl⟩)
  clear hm
  go_loopw [6, 7] (fun d i wr => ∃ (k : Nat) (Q : List Nat), k ≤ n ∧ i = .int .i64 k ∧ Hid (Fil k k T Q) ∧ Hid (wr.ownsRow BB 25 1 d k (Q.map (Value.float .f64))) ∧ Hid (Below BB w wr)) (fun _ i _ => n - (intOf i).toNat)
  case atStart => exact ⟨0, [], Nat.zero_le _, rfl, Lib.hid (fil_nil T), Lib.hid (World.ownsRow_nil _ _ _ _), Lib.hid (below_drewN (Below.refl _ _) m0)⟩
  case round =>
    obtain ⟨k, Q, hk, rfl, HF, HO, HN⟩ := hrel
    by_cases hlt : k < n
    · have c1 := (HN.out.cell (p := ⟨b1, o1 + k, none⟩) HB1.out).trans (HX.out k hlt)
      have bb1 : (0 : Int) ≤ (k : Int) := by omega
      have bb2 : (k : Int) < (n : Int) := by omega
      have HTK := Lib.hid (HT.out k hlt)
      obtain ⟨x, hx⟩ : ∃ x, x = A.getD k 0 := ⟨_, rfl⟩
      rw [← hx] at c1 HTK
      clear hx
      obtain ⟨d1, n1, hd1, hl1, r1⟩ := run_foH0 (P := Try.prog) wr .sub f_sub 25 x mu
      obtain ⟨c, n3, hc, hl, r3⟩ := run_foH (P := Try.prog) wr n1 .mul f_mul 25 d1 d1
      have HCC : Hid (cb c = sq mu x) := Lib.hid (by
        rw [hc.out]
        exact fo_congr f_mul hl1 hl1 (fo_lt f_sub _ _) (fo_lt f_sub _ _) (by rw [hd1.out, fo_can f_sub]) (by rw [hd1.out, fo_can f_sub]))
      have HF2 := Lib.hid (fil_more HF.out (HCC.out.trans HTK.out.symm) hl)
      have hsz : BB ≤ wr.heap.size := by rw [HB.out]; exact HN.out.size
      go_wp2_with (at_builtin; refine wpList_append_own _ rfl _ _ 22 rfl BB 25 i0 (.float .f64 0) 1 8 Try.underlying22 hi hz0 hz1 hz2 rfl (by decide) _ _ _ rfl ((row_drawn HO.out n3).alloc _) ⟨wr.heap.size, 0, none⟩ 1 1 [.float .f64 c] rfl rfl ?c1 ?c2 ?c3 ?c4 ?c5 ?_)
      case c1 => exact new_cell (wr.drewN n3) c _
      case c2 => intro u hu; simp at hu; subst hu; rfl
      case c3 => unfold maxLen; omega
      case c4 => omega
      case c5 => simp; omega
      intro v' w1 hown' hgrow _
      have R1 : Hid (w1.ownsRow BB 25 1 v' (k + 1) ((Q ++ [c]).map (Value.float .f64))) := Lib.hid (by simpa using hown')
      have R2 : Hid (Below BB w w1) := Lib.hid (((below_drewN HN.out n3).alloc hsz _).grown hgrow (by simp; omega) (fun j hj => (HO.out.lt j hj).1))
      clear hown' hgrow
      go_wp2
      go_roundw
      case rel => exact ⟨k + 1, _, by omega, by go_num, HF2, R1, R2⟩
      case measure => simp [intOf]; omega
    · obtain rfl : k = n := by omega
      clear hlt
      have hge : ¬ ((k : Int) < (k : Int)) := by omega
      have hs := rsum_any _ Q wr (view_own HO.out) (by rw [HF.out.1]; exact hn) HF.out.2.1
      have HE : Hid (∀ r, r = fo .quo (sumW Q) (floatOfInt .f64 (k : Int)) → r = spreadW A) := Lib.hid (fun r h => by rw [h, fil_end HF.out HTL.out HPC.out, HQ.out])
      have key := fun m => run_foH (P := Try.prog) wr m .quo f_quo 25 (sumW Q) (floatOfInt .f64 (k : Int))
      have HK := Lib.hid key
      clear key
      go_wp2_with (first | (go_at_call 22; refine hs.mono ?_; rintro e w' ⟨rfl, m, rfl⟩; obtain ⟨t, n1, ht, hl1, r1⟩ := HK.out m) | (go_at_call 29; refine (clean_any _ (by assumption) _).mono ?_; rintro e w' ⟨rfl, rfl⟩))
      go_ret2
      exact ⟨⟨cb t, rfl, HE.out _ ht.out⟩, below_drewN HN.out n1⟩

set_option maxHeartbeats 2000000 in
theorem rspread_none (v : Value) (w : World) (hv : View w v []) :
    Calls Try.prog 17 #[v] w fun e w' => e = .returned (.tuple #[.float .f64 0, .int .i64 14]) ∧ w' = w := by
  have hm := rmean_none v w hv
  obtain ⟨a, cap, rfl⟩ := view_len hv
  clear hv
  go_enter Try.func17, Try.ntmps17
  go_wp2_with (go_at_call 15; refine hm.mono ?_; rintro e w' ⟨rfl, rfl⟩)
  go_ret2
  exact ⟨rfl, rfl⟩

theorem rspread_any (v : Value) (A : List Nat) (w : World) (hv : View w v A) (h0 : 0 < A.length) (hn : A.length ≤ 1000000) (hf : ∀ x ∈ A, x < 18446744073709551616) :
    Calls Try.prog 17 #[v] w fun e w' => (∃ r, e = .returned (.tuple #[.float .f64 r, .int .i64 0]) ∧ r = spreadW A) ∧ Below w.heap.size w w' := by
  obtain ⟨b1, o1, c1, rfl, hw1, hx⟩ := view_pos hv h0
  exact rspread_some b1 o1 c1 A.length A w rfl h0 hn hw1 hx hf

set_option maxHeartbeats 2000000 in
set_option maxRecDepth 100000 in
theorem rdot_some (b1 o1 cap1 b2 o2 cap2 n : Nat) (A B : List Nat) (w : World) (hA : A.length = n) (hB : B.length = n) (h0 : 0 < n) (hn : n ≤ 1000000) (hw1 : b1 < w.heap.size) (hw2 : b2 < w.heap.size)
    (hx : ∀ j, j < n → w.cell? ⟨b1, o1 + j, none⟩ = some (.float .f64 (A.getD j 0))) (hy : ∀ j, j < n → w.cell? ⟨b2, o2 + j, none⟩ = some (.float .f64 (B.getD j 0))) :
    Calls Try.prog 19 #[.slice (some ⟨b1, o1, none⟩) n cap1, .slice (some ⟨b2, o2, none⟩) n cap2] w fun e w' => (∃ r, e = .returned (.tuple #[.float .f64 r, .int .i64 0]) ∧ r = dotW A B) ∧ Below w.heap.size w w' := by
  obtain ⟨i0, hi, hz0, hz1, hz2⟩ := info_parts info_f64
  have HT : Hid (∀ j, j < n → (prodL A B).getD j 0 = fo .mul (A.getD j 0) (B.getD j 0)) := Lib.hid (fun j hj => prod_at j (by omega) (by omega))
  have HTL : Hid ((prodL A B).length = n) := Lib.hid (by rw [prod_len (by omega), hA])
  have HQ : Hid (∀ (r : Nat), r = sumW (prodL A B) → r = dotW A B) := Lib.hid (fun r h => h)
  have HPC := Lib.hid (prod_can A B)
  generalize prodL A B = T at HT HTL HQ HPC
  obtain ⟨BB, hBB⟩ : ∃ BB, BB = w.heap.size := ⟨_, rfl⟩
  rw [← hBB]
  have HB := Lib.hid hBB
  have HB1 : Hid (b1 < BB) := Lib.hid (by omega)
  have HB2 : Hid (b2 < BB) := Lib.hid (by omega)
  have HX := Lib.hid hx
  have HY := Lib.hid hy
  clear hBB hx hy hw1 hw2 hA hB
  go_enter Try.func19, Try.ntmps19
  go_wp2
  go_loopw [6, 7] (fun d i wr => ∃ (k : Nat) (Q : List Nat), k ≤ n ∧ i = .int .i64 k ∧ Hid (Fil k k T Q) ∧ Hid (wr.ownsRow BB 25 1 d k (Q.map (Value.float .f64))) ∧ Hid (Below BB w wr)) (fun _ i _ => n - (intOf i).toNat)
  case atStart => exact ⟨0, [], Nat.zero_le _, rfl, Lib.hid (fil_nil T), Lib.hid (World.ownsRow_nil _ _ _ _), Lib.hid (Below.refl _ _)⟩
  case round =>
    obtain ⟨k, Q, hk, rfl, HF, HO, HN⟩ := hrel
    by_cases hlt : k < n
    · have c1 := (HN.out.cell (p := ⟨b1, o1 + k, none⟩) HB1.out).trans (HX.out k hlt)
      have c2 := (HN.out.cell (p := ⟨b2, o2 + k, none⟩) HB2.out).trans (HY.out k hlt)
      have bb1 : (0 : Int) ≤ (k : Int) := by omega
      have bb2 : (k : Int) < (n : Int) := by omega
      have HTK := Lib.hid (HT.out k hlt)
      obtain ⟨x, hx⟩ : ∃ x, x = A.getD k 0 := ⟨_, rfl⟩
      obtain ⟨y, hy⟩ : ∃ y, y = B.getD k 0 := ⟨_, rfl⟩
      rw [← hx] at c1 HTK
      rw [← hy] at c2 HTK
      clear hx hy
      obtain ⟨c, n3, hc, hl, r3⟩ := run_foH (P := Try.prog) wr 1 .mul f_mul 25 x y
      rw [← World.drew_is_drewN] at r3
      have HF2 := Lib.hid (fil_more HF.out (hc.out.trans HTK.out.symm) hl)
      have hsz : BB ≤ wr.heap.size := by rw [HB.out]; exact HN.out.size
      go_wp2
      go_region_law (refine step_append_any rfl _ _ 22 rfl BB 25 i0 (.float .f64 0) 1 8 Try.underlying22 hi hz0 hz1 hz2 rfl (by decide) _ _ _ rfl ((row_drawn HO.out n3).alloc _) ⟨wr.heap.size, 0, none⟩ 1 1 [.float .f64 c] rfl rfl (new_cell (wr.drewN n3) c _) (fun u hu => by simp at hu; subst hu; rfl) (by unfold maxLen; omega) (by omega) (by simp; omega) ?_; intro v' w1 hown' hgrow)
      all_goals
        have R1 : Hid (w1.ownsRow BB 25 1 v' (k + 1) ((Q ++ [c]).map (Value.float .f64))) := Lib.hid (by simpa using hown')
        have R2 : Hid (Below BB w w1) := Lib.hid (((below_drewN HN.out n3).alloc hsz _).grown hgrow (by simp; omega) (fun j hj => (HO.out.lt j hj).1))
        clear hown' hgrow
        go_wp2
        go_roundw
        case rel => exact ⟨k + 1, _, by omega, by go_num, HF2, R1, R2⟩
        case measure => simp [intOf]; omega
    · obtain rfl : k = n := by omega
      clear hlt
      have hge : ¬ ((k : Int) < (k : Int)) := by omega
      have hs := rsum_any _ Q wr (view_own HO.out) (by rw [HF.out.1]; exact hn) HF.out.2.1
      have HE := Lib.hid (HQ.out _ (fil_end HF.out HTL.out HPC.out))
      go_wp2_with (go_at_call 22; refine hs.mono ?_; rintro e w' ⟨rfl, m, rfl⟩)
      go_ret2
      exact ⟨⟨sumW Q, rfl, HE.out⟩, below_drewN HN.out m⟩

set_option maxHeartbeats 2000000 in
theorem rdot_none (a b : Option Addr) (cap1 cap2 : Nat) (w : World) :
    Calls Try.prog 19 #[.slice a 0 cap1, .slice b 0 cap2] w fun e w' => (∃ r, e = .returned (.tuple #[.float .f64 r, .int .i64 0]) ∧ r = dotW [] []) ∧ Below w.heap.size w w' := by
  have hs := rsum_none none 0 w
  go_enter Try.func19, Try.ntmps19
  go_wp2
  refine wp_loop_rounds 1 ?_
  rw [rounds_succ]
  go_wp2_with (go_at_call 22; refine hs.mono ?_; rintro e w' ⟨rfl, m, rfl⟩)
  go_ret2
  exact ⟨⟨sumW [], rfl, rfl⟩, below_drewN (Below.refl _ _) m⟩

set_option maxHeartbeats 2000000 in
theorem rdot_off (v u : Value) (A B : List Nat) (w : World) (hv : View w v A) (hu : View w u B) (h : A.length ≠ B.length) :
    Calls Try.prog 19 #[v, u] w fun e w' => e = .returned (.tuple #[.float .f64 0, .int .i64 1]) ∧ w' = w := by
  obtain ⟨a, cap, rfl⟩ := view_len hv
  obtain ⟨b, cap2, rfl⟩ := view_len hu
  clear hv hu
  generalize A.length = n at h ⊢
  generalize B.length = m at h ⊢
  have h' : ¬ ((n : Int) = (m : Int)) := by omega
  go_enter Try.func19, Try.ntmps19
  go_wp2
  go_ret2
  exact ⟨rfl, rfl⟩

theorem rdot_any (v u : Value) (A B : List Nat) (w : World) (hv : View w v A) (hu : View w u B) (h : A.length = B.length) (hn : A.length ≤ 1000000) :
    Calls Try.prog 19 #[v, u] w fun e w' => (∃ r, e = .returned (.tuple #[.float .f64 r, .int .i64 0]) ∧ r = dotW A B) ∧ Below w.heap.size w w' := by
  by_cases h0 : 0 < A.length
  · obtain ⟨b1, o1, c1, rfl, hw1, hx⟩ := view_pos hv h0
    obtain ⟨b2, o2, c2, rfl, hw2, hy⟩ := view_pos hu (by omega)
    rw [← h] at hy ⊢
    exact rdot_some b1 o1 c1 b2 o2 c2 A.length A B w rfl h.symm h0 hn hw1 hw2 hx hy
  · obtain rfl : A = [] := List.eq_nil_of_length_eq_zero (by omega)
    obtain rfl : B = [] := List.eq_nil_of_length_eq_zero (by simpa using h.symm)
    obtain ⟨a, cap, rfl⟩ := view_len hv
    obtain ⟨b, cap2, rfl⟩ := view_len hu
    exact rdot_none a b cap cap2 w

end Go.Proofs.Ytphhonpibmbjmaa
