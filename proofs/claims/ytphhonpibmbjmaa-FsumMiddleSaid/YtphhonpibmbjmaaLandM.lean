/- Proved: what the landed merge of forder gives: behind what it is handed stand the two runs, merged; it writes into that row alone. -/
import Derived.Test.YtphhonpibmbjmaaLand
import Derived.Test.YtphhonpibmbjmaaMerge
import Derived.Deep.LoopGhost
import Derived.OwnWalk
namespace Go.Proofs.Ytphhonpibmbjmaa
open Go.RowKit Fl

theorem grown_trans {w w1 w2 : World} {row : Option Nat} (h : w.grownBy w1 row) (k : w1.grownBy w2 row) : w.grownBy w2 row :=
  ⟨k.os.trans h.os, k.tape.trans h.tape, k.output.trans h.output, Nat.le_trans h.size k.size,
    fun i hi hne => (k.block i (Nat.lt_of_lt_of_le hi h.size) hne).trans (h.block i hi hne)⟩
theorem grown_cell {w w1 : World} {g h o v} (hg : w.grownBy w1 (some g)) (hne : h ≠ g) (hc : w.cell? ⟨h, o, none⟩ = some v) : w1.cell? ⟨h, o, none⟩ = some v :=
  hg.cell hc (fun e => hne (Option.some.inj e))
theorem cell_one (w : World) (v : Value) (T : TypeId) : ∀ j u, [v][j]? = some u → (w.alloc (.cells #[v] T)).cell? ((⟨w.heap.size, 0, none⟩ : Addr).add j) = some u := by
  intro j u hu
  cases j with
  | zero =>
    simp at hu; subst hu
    simp [Addr.add, go_sem]
  | succ j => simp at hu

/-- What the row holds behind the merge's round. -/
def Row (B : Nat) (w : World) (g n cap : Nat) (S D : List Nat) (wr : World) : Prop :=
  wr.ownsRow B 25 1 (.slice (some ⟨g, 0, none⟩) (n + D.length) cap) (n + D.length) ((S ++ D).map (Value.float .f64)) ∧ w.grownBy wr (some g)
theorem row_more {B g n cap : Nat} {w wr w2 : World} {S D : List Nat} {o : Obj} {x : Nat} (h : Row B w g n cap S D wr) (hg : (wr.alloc o).grownBy w2 (some g))
    (ho : w2.ownsRow B 25 1 (.slice (some ⟨g, 0, none⟩) (n + D.length + 1) cap) (n + D.length + 1) ((S ++ D).map (Value.float .f64) ++ [.float .f64 x])) : Row B w g n cap S (D ++ [x]) w2 := by
  refine ⟨?_, grown_trans h.2 (grown_trans (World.grownBy_alloc wr o (some g)) hg)⟩
  have e : (S ++ (D ++ [x])).map (Value.float .f64) = (S ++ D).map (Value.float .f64) ++ [.float .f64 x] := by simp
  rw [e, List.length_append, List.length_singleton, ← Nat.add_assoc]
  exact ho

def SomeMerge (B : Nat) (g n cap : Nat) (S M : List Nat) (w : World) (e : Ending) (w' : World) : Prop :=
  e = .returned (.slice (some ⟨g, 0, none⟩) (n + M.length) cap) ∧ Row B w g n cap S M w'

theorem one_float (x : Nat) : ∀ u ∈ [Value.float .f64 x], u.oneCell' = true := fun u hu => by simp at hu; subst hu; rfl
theorem rest_len (A : List Nat) (i l1 : Nat) (h : i + l1 = A.length) : ((A.drop i).map (Value.float .f64)).length = l1 * 1 := by simp; omega
theorem rest_one (A : List Nat) (i : Nat) : ∀ u ∈ (A.drop i).map (Value.float .f64), u.oneCell' = true := fun u hu => by
  simp only [List.mem_map] at hu; obtain ⟨x, _, rfl⟩ := hu; rfl
theorem rest_cells (w : World) (h o1 i l1 : Nat) (A : List Nat) (hl : i + l1 = A.length) (hc : ∀ t, t < l1 → w.cell? ⟨h, o1 + t, none⟩ = some (.float .f64 (A.getD (i + t) 0))) :
    ∀ j u, ((A.drop i).map (Value.float .f64))[j]? = some u → w.cell? ((⟨h, o1, none⟩ : Addr).add j) = some u := by
  intro j u hu
  have hj : j < l1 := by
    have := (List.getElem?_eq_some_iff.1 hu).1
    simp at this; omega
  rw [Go.WideShapes.add_plain, hc j hj]
  rw [List.getElem?_map, List.getElem?_drop, List.getElem?_eq_getElem (show i + j < A.length by omega)] at hu
  rw [List.getD_eq_getElem?_getD, List.getElem?_eq_getElem (show i + j < A.length by omega)]
  exact hu
theorem merge_end {B g n cap i l1 : Nat} {w wr w2 : World} {S D A M : List Nat} (hM : D ++ A.drop i = M) (hl : i + l1 = A.length) (h : Row B w g n cap S D wr) (hg : wr.grownBy w2 (some g))
    (ho : w2.ownsRow B 25 1 (.slice (some ⟨g, 0, none⟩) (n + D.length + l1) cap) (n + D.length + l1) ((S ++ D).map (Value.float .f64) ++ (A.drop i).map (Value.float .f64))) :
    SomeMerge B g n cap S M w (.returned (.slice (some ⟨g, 0, none⟩) (n + D.length + l1) cap)) w2 := by
  have e1 : M.length = D.length + l1 := by rw [← hM, List.length_append, List.length_drop]; omega
  have e2 : (S ++ M).map (Value.float .f64) = (S ++ D).map (Value.float .f64) ++ (A.drop i).map (Value.float .f64) := by rw [← hM]; simp
  refine ⟨by rw [e1, ← Nat.add_assoc], ?_, grown_trans h.2 hg⟩
  rw [e1, e2, ← Nat.add_assoc]
  exact ho

set_option maxHeartbeats 2000000 in
set_option maxRecDepth 100000 in
theorem merge_some (BB g n cap h oa ca ob cb : Nat) (S A B : List Nat) (w : World) (hA0 : 0 < A.length) (hca : A.length ≤ ca) (hB0 : 0 < B.length) (hbig : n + A.length + B.length ≤ cap) (hcap : cap ≤ 1000000) (hne : h ≠ g)
    (hown : w.ownsRow BB 25 1 (.slice (some ⟨g, 0, none⟩) n cap) n (S.map (Value.float .f64)))
    (hxA : ∀ j, j < A.length → w.cell? ⟨h, oa + j, none⟩ = some (.float .f64 (A.getD j 0))) (hxB : ∀ j, j < B.length → w.cell? ⟨h, ob + j, none⟩ = some (.float .f64 (B.getD j 0)))
    (hfA : ∀ j, j < A.length → A.getD j 0 < 18446744073709551616) (hfB : ∀ j, j < B.length → B.getD j 0 < 18446744073709551616) :
    Calls Try.prog 54 #[.slice (some ⟨g, 0, none⟩) n cap, .slice (some ⟨h, oa, none⟩) A.length ca, .slice (some ⟨h, ob, none⟩) B.length cb] w (SomeMerge BB g n cap S (mg A B) w) := by
  obtain ⟨i0, hi, hz0, hz1, hz2⟩ := info_parts info_f64
  obtain ⟨na, hna⟩ : ∃ na, na = A.length := ⟨_, rfl⟩
  obtain ⟨nb, hnb⟩ : ∃ nb, nb = B.length := ⟨_, rfl⟩
  rw [← hna] at hA0 hca hbig hxA hfA ⊢
  rw [← hnb] at hB0 hbig hxB hfB ⊢
  have HNA := Lib.hid hna
  have HNB := Lib.hid hnb
  have HXA := Lib.hid hxA
  have HXB := Lib.hid hxB
  have HFA := Lib.hid hfA
  have HFB := Lib.hid hfB
  have HNE := Lib.hid hne
  have HR0 : Hid (Row BB w g n cap S [] w) := Lib.hid ⟨by simpa using hown, World.grownBy.refl _ _⟩
  clear hna hnb hxA hxB hfA hfB hne hown
  go_enter Try.func54, Try.ntmps54
  go_wp2
  go_step3
  go_wp2
  go_step3
  go_wp2
  go_loopg [0, 1, 13] nb (fun gk s0 s1 s13 wr => ∃ (j i : Nat) (D : List Nat), j + gk = nb ∧ i ≤ na ∧ s13 = .int .i64 j ∧ Hid (Owes A B D i j) ∧ Hid (Row BB w g n cap S D wr) ∧ s0 = .slice (some ⟨g, 0, none⟩) (n + D.length) cap ∧
    ((∃ l1 o1 c1 : Nat, 0 < l1 ∧ i + l1 = na ∧ o1 = oa + i ∧ l1 ≤ c1 ∧ s1 = .slice (some ⟨h, o1, none⟩) l1 c1) ∨ (i = na ∧ s1 = .slice none 0 0)))
  case atStart => exact ⟨0, 0, [], by omega, by omega, rfl, Lib.hid (owes_start A B), HR0, rfl, Or.inl ⟨na, oa, ca, hA0, by omega, rfl, hca, rfl⟩⟩
  case round =>
    clear HR0
    obtain ⟨j, i, D, hjg, hin, rfl, HO, HR, rfl, hs1⟩ := hrel
    cases gk with
    | zero =>
      have hjz : ¬ ((j : Int) < (nb : Int)) := by omega
      rcases hs1 with ⟨l1, o1, c1, hl1, hil, ho1, hlc, rfl⟩ | ⟨hin2, rfl⟩
      · have hlen : D.length + l1 = na + nb := by have := HO.out.2; omega
        have P1 := Lib.hid (rest_len A i l1 (by rw [← HNA.out]; exact hil))
        have P2 := Lib.hid (rest_cells wr h o1 i l1 A (by rw [← HNA.out]; exact hil) (fun t ht => by rw [ho1]; exact grown_cell HR.out.2 HNE.out (by rw [Nat.add_assoc]; exact HXA.out (i + t) (by omega))))
        have P3 := Lib.hid (rest_one A i)
        have hroom : n + D.length + l1 ≤ cap := by omega
        have HE := Lib.hid (owes_end A B D i j (by rw [← HNB.out]; omega) HO.out)
        clear hlen ho1
        go_wp2_with (at_builtin; refine wpList_append_fits _ rfl _ _ 22 rfl BB 25 i0 1 Try.underlying22 hi hz1 g (n + D.length) cap _ rfl HR.out.1 ⟨h, o1, none⟩ l1 c1 ((A.drop i).map (Value.float .f64)) rfl P1.out P2.out P3.out hroom ?_)
        intro w2 ho2 hg2
        go_wp2
        try rw [Exit.noGoto_ret]
        go_ret
        exact merge_end HE.out (by rw [← HNA.out]; exact hil) HR.out hg2 (by simpa using ho2)
      · have hlen : D.length = na + nb := by have := HO.out.2; omega
        have hroom : n + D.length + 0 ≤ cap := by omega
        have HE := Lib.hid (owes_end A B D i j (by rw [← HNB.out]; omega) HO.out)
        have HI2 := Lib.hid hin2
        clear hlen hin2
        go_wp2_with (at_builtin; refine wpList_append_fits_any _ rfl _ _ 22 rfl BB 25 i0 1 Try.underlying22 hi hz1 g (n + D.length) cap _ rfl HR.out.1 none 0 0 [] rfl rfl (fun _ => ⟨rfl, rfl⟩) (fun _ h => by cases h) (fun _ h => by cases h) hroom ?_)
        intro w2 ho2 hg2
        go_wp2
        try rw [Exit.noGoto_ret]
        go_ret
        exact merge_end (l1 := 0) HE.out (by rw [← HNA.out, HI2.out]; rfl) HR.out hg2 (by rw [List.drop_eq_nil_of_le (by rw [← HNA.out, HI2.out]; exact Nat.le_refl _)]; simpa using ho2)
    | succ gg =>
      have hjz : (j : Int) < (nb : Int) := by omega
      have hj0 : (0 : Int) ≤ (j : Int) := by omega
      have hjn : j < nb := by omega
      have cy := grown_cell HR.out.2 HNE.out (HXB.out j hjn)
      have dy := HFB.out j hjn
      have hjB : Hid (j < B.length) := Lib.hid (by rw [← HNB.out]; exact hjn)
      obtain ⟨y, hy⟩ : ∃ y, y = B.getD j 0 := ⟨_, rfl⟩
      rw [← hy] at cy dy
      have HY := Lib.hid hy
      clear hy
      have hlen : D.length = i + j := HO.out.2
      have hroom : n + D.length + 1 ≤ cap := by omega
      have HLD := Lib.hid hlen
      clear hlen
      rcases hs1 with ⟨l1, o1, c1, hl1, hil, ho1, hlc, rfl⟩ | ⟨hin2, rfl⟩
      · have HO1 := Lib.hid ho1
        clear ho1 hroom
        go_wp2
        go_loopg [0, 1, 19] l1 (fun g2 s0 s1 s19 wy => ∃ (t : Nat) (D2 : List Nat), t + g2 = l1 ∧ s19 = .int .i64 t ∧ s1 = .slice (some ⟨h, o1, none⟩) l1 c1 ∧ Hid (Owes A B D2 (i + t) j) ∧ Hid (Row BB w g n cap S D2 wy) ∧ s0 = .slice (some ⟨g, 0, none⟩) (n + D2.length) cap)
        case atStart => exact ⟨0, D, by omega, rfl, rfl, HO, HR, rfl⟩
        case round =>
          clear cy HO HR HLD
          obtain ⟨t, D2, htg, rfl, rfl, HO, HR, rfl⟩ := hrel
          have hlen : D2.length = i + t + j := HO.out.2
          have hroom : n + D2.length + 1 ≤ cap := by omega
          clear hlen
          cases gk with
          | zero =>
            have htz : ¬ ((t : Int) < (l1 : Int)) := by omega
            have HO2 := Lib.hid (owes_rest A B D2 (i + t) j (by rw [← HNA.out]; omega) hjB.out HO.out)
            rw [← HY.out] at HO2
            go_wp2_with (at_builtin; refine wpList_append_fits _ rfl _ _ 22 rfl BB 25 i0 1 Try.underlying22 hi hz1 g (n + D2.length) cap _ rfl (HR.out.1.alloc _) ⟨wr.heap.size, 0, none⟩ 1 1 [.float .f64 y] rfl rfl (cell_one _ _ _) (one_float y) hroom ?_)
            intro w2 ho2 hg2
            go_wp2
            go_roundg gg
            case measure => omega
            case rel => exact ⟨j + 1, i + t, D2 ++ [y], by omega, by omega, by go_num, HO2, Lib.hid (row_more HR.out hg2 (by simpa using ho2)), by rw [List.length_append]; rfl, Or.inr ⟨by omega, rfl⟩⟩
          | succ g2 =>
            have htz : (t : Int) < (l1 : Int) := by omega
            have ht0 : (0 : Int) ≤ (t : Int) := by omega
            have hit : i + t < na := by omega
            have cx := grown_cell HR.out.2 HNE.out (HXA.out (i + t) hit)
            rw [← Nat.add_assoc, ← HO1.out] at cx
            have dx := HFA.out (i + t) hit
            have cy := grown_cell HR.out.2 HNE.out (HXB.out j hjn)
            have hiA : Hid (i + t < A.length) := Lib.hid (by rw [← HNA.out]; exact hit)
            obtain ⟨x, hx⟩ : ∃ x, x = A.getD (i + t) 0 := ⟨_, rfl⟩
            rw [← hx] at cx dx
            have HX := Lib.hid hx
            clear hx cy
            have cc := cmpI_pos x y
            by_cases hc : kb y < kb x
            · replace cc := cc.trans (decide_eq_true hc)
              have HO2 := Lib.hid (owes_right A B D2 (i + t) j hiA.out hjB.out HO.out (by rw [← HX.out, ← HY.out]; exact hc))
              rw [← HY.out] at HO2
              have hct : ¬ c1 = t := by omega
              go_wp2_with (first | (go_at_call 58; refine (hC _ _ dx dy _).mono ?_; rintro e w' ⟨rfl, rfl⟩) | (at_builtin; refine wpList_append_fits _ rfl _ _ 22 rfl BB 25 i0 1 Try.underlying22 hi hz1 g (n + D2.length) cap _ rfl (HR.out.1.alloc _) ⟨_, 0, none⟩ 1 1 [.float .f64 y] rfl rfl (cell_one _ _ _) (one_float y) hroom ?_; intro w2 ho2 hg2))
              go_roundg gg
              case measure => omega
              case rel => exact ⟨j + 1, i + t, D2 ++ [y], by omega, by omega, by go_num, HO2, Lib.hid (row_more HR.out hg2 (by simpa using ho2)), by rw [List.length_append]; rfl, Or.inl ⟨l1 - t, o1 + t, c1 - t, by omega, by omega, by rw [HO1.out, Nat.add_assoc], by omega, rfl⟩⟩
            · replace cc := cc.trans (decide_eq_false hc)
              have HO2 := Lib.hid (owes_left A B D2 (i + t) j hiA.out hjB.out HO.out (by rw [← HX.out, ← HY.out]; omega))
              rw [← HX.out] at HO2
              go_wp2_with (first | (go_at_call 58; refine (hC _ _ dx dy _).mono ?_; rintro e w' ⟨rfl, rfl⟩) | (at_builtin; refine wpList_append_fits _ rfl _ _ 22 rfl BB 25 i0 1 Try.underlying22 hi hz1 g (n + D2.length) cap _ rfl (HR.out.1.alloc _) ⟨_, 0, none⟩ 1 1 [.float .f64 x] rfl rfl (cell_one _ _ _) (one_float x) hroom ?_; intro w2 ho2 hg2))
              go_roundg g2
              case measure => omega
              case rel => exact ⟨t + 1, D2 ++ [x], by omega, by go_num, rfl, HO2, Lib.hid (row_more HR.out hg2 (by simpa using ho2)), by rw [List.length_append]; rfl⟩
      · have HI2 := Lib.hid hin2
        have HO2 := Lib.hid (owes_rest A B D i j (by rw [← HNA.out]; omega) hjB.out HO.out)
        rw [← HY.out] at HO2
        clear hin2
        go_wp2
        refine wp_loop_rounds 1 ?_
        rw [rounds_succ]
        go_wp2_with (at_builtin; refine wpList_append_fits _ rfl _ _ 22 rfl BB 25 i0 1 Try.underlying22 hi hz1 g (n + D.length) cap _ rfl (HR.out.1.alloc _) ⟨_, 0, none⟩ 1 1 [.float .f64 y] rfl rfl (cell_one _ _ _) (one_float y) hroom ?_; intro w2 ho2 hg2)
        go_roundg gg
        case measure => omega
        case rel => exact ⟨j + 1, i, D ++ [y], by omega, hin, by go_num, HO2, Lib.hid (row_more HR.out hg2 (by simpa using ho2)), by rw [List.length_append]; rfl, Or.inr ⟨HI2.out, rfl⟩⟩

end Go.Proofs.Ytphhonpibmbjmaa
