/- Proved: the document's own book: Open. -/
import Derived.Test.YtjgmgkglpfcihaaDop
import Derived.Deep.RegionLaw
import Derived.Deep.DrawnRows
import Derived.Deep.Cut
import Derived.Deep.CutRange
namespace Go.Proofs.Ytjgmgkglpfcihaa
open Go.RowKit

section
variable {w : World} {d : Nat} {S : St}
set_option maxHeartbeats 400000 in
theorem ropen_arg (p : Option Addr) (x : Int) (hx : ¬ May x) (w : World) : Calls Try.prog 11 #[.pointer p, .int .i64 x] w fun e w' => e = .returned (.tuple #[.int .i64 0, .int .i64 1]) ∧ w = w' := by
  unfold May at hx
  by_cases h0 : 0 ≤ x
  · have h1 : (1099511627776 : Int) < x := by omega
    clear hx
    go_enter Try.func11, Try.ntmps11
    go_wp2
    go_ret2
    exact ⟨rfl, rfl⟩
  · have h1 : x < 0 := by omega
    clear hx h0
    go_enter Try.func11, Try.ntmps11
    go_wp2
    go_ret2
    exact ⟨rfl, rfl⟩
set_option maxHeartbeats 400000 in
theorem ropen_many {A B : Option Addr} {c e : Nat} (h : Rq w d S A c B e) (x : Int) (hx : May x) (hr : ¬ (S.H.length : Int) < S.most) : Calls Try.prog 11 #[.pointer (some ⟨d, 0, none⟩), .int .i64 x] w fun e w' => e = .returned (.tuple #[.int .i64 0, .int .i64 6]) ∧ At w w' := by
  have g0 : decide (x < 0) = false := decide_eq_false (by unfold May at hx; omega)
  have g1 : decide ((1099511627776 : Int) < x) = false := decide_eq_false (by unfold May at hx; omega)
  have g2 : S.most ≤ (S.H.length : Int) := by omega
  obtain ⟨c0, c1, -, -⟩ := h.cells
  clear hx hr h
  generalize S.most = m at g2 c0
  generalize S.H.length = n at g2 c1
  go_enter Try.func11, Try.ntmps11
  go_wp2_with fail
  go_quiet (fail)
  go_wp2
  go_ret2
  exact ⟨rfl, (At.start w).drewN _⟩
/-- A cheap guard on the world of an arm. -/
theorem at_world {P : Program} {c : Prop} {_d : Decidable c} {o : Oper} {a : Act} {K : Act → World → Prop} {Q : Exit → Act → World → Prop} {E : Prop} (W : World) (h : @ite _ c _d (Oper.wp P o a W K Q) E) : @ite _ c _d (Oper.wp P o a W K Q) E := h
theorem own_far {g k n c : Nat} (h : k ≠ g) : ∀ b o, (some (⟨k, 0, none⟩ : Addr)) = some ⟨b, o, none⟩ → ¬ (Value.slice (some ⟨g, 0, none⟩) n c).ownBlock = some b := fun b o he hg => by
  have hg2 : some g = some b := hg
  injection he with he
  injection he with he
  injection hg2 with hg2
  omega
/-- An append writes nothing that stood ahead of the row. -/
theorem Apd.stands {w0 w w' : World} {B q n : Nat} {v v' : Value} {R X : List Int} (h : Apd w B v v' q R w') (ho : OI w B v n X) (ha : At w0 w) (hB : w0.heap.size ≤ B) : At w0 w' := h.mv.at_ ha fun _ hg => Nat.le_trans hB (ho.lt hg).1
/-- Behind the first of the two rows: it is laid, and stored in the box. -/
structure Mid (W1 : World) (d : Nat) (m g : Int) (n e : Nat) (B : Option Addr) (R : List Int) (A8 : Option Addr) (q8 c8 : Nat) (wx : World) : Prop where
  box : wx.heap[d]? = some (.cells #[.int .i64 m, .slice A8 q8 c8, .slice B n e, .int .i64 g] 29 (0, 0))
  row : OI wx W1.heap.size (.slice A8 q8 c8) q8 R
  mv : Mv (fun x => x = d) W1 wx
theorem mid_done {W1 w8 : World} {d n e c q8 c8 : Nat} {m g : Int} {A A8 B : Option Addr} {R : List Int} (hb : W1.heap[d]? = some (.cells #[.int .i64 m, .slice A n c, .slice B n e, .int .i64 g] 29 (0, 0))) (ha : At W1 w8) (ho : OI w8 W1.heap.size (.slice A8 q8 c8) q8 R) :
    Mid W1 d m g n e B R A8 q8 c8 (w8.setCell ⟨d, 1, none⟩ (.slice A8 q8 c8)) :=
  ⟨heap_set (ha.keep hb) 1 _, ho.mv (set_mv w8 d 1 _) fun x hx e => by have h1 := (ho.lt hx).1; have h2 := lt_heap hb; omega, (Mv.of_below _ ha).trans (set_mv w8 d 1 _) fun _ => Or.inl⟩
set_option maxHeartbeats 4000000 in
set_option maxRecDepth 100000 in
theorem ropen_ok {A B : Option Addr} {c e : Nat} (h : Rq w d S A c B e) (x : Int) (hx : May x) (hr : (S.H.length : Int) < S.most) (hg : S.g < 1000000) : Calls Try.prog 11 #[.pointer (some ⟨d, 0, none⟩), .int .i64 x] w fun e w' => e = .returned (.tuple #[.int .i64 ((S.g : Int) + 1), .int .i64 0]) ∧ Rb w' d (op S x) ∧ Mv (fun g => g = d) w w' := by
  have g0 : decide (x < 0) = false := decide_eq_false (by unfold May at hx; omega)
  have g1 : decide ((1099511627776 : Int) < x) = false := decide_eq_false (by unfold May at hx; omega)
  have g2 : ¬ S.most ≤ (S.H.length : Int) := by omega
  have hn := ok_len h.ok
  have HOK := Lib.hid (op_ok h.ok hx.1 hx.2 hg)
  have HMP := Lib.hid (op_map h.ok x)
  obtain ⟨c0, c1, c2, c3⟩ := h.cells
  have f3 := h.free 3
  have HBX := Lib.hid h.box
  have HI : Hid (∀ W, Mv (fun g => g = d) w W → IR W A S.H.length c S.H ∧ IR W B S.H.length e (S.H.map S.t)) := Lib.hid fun W hW =>
      ⟨(h.hs.mv hW fun x cs m hx e => by subst e; rw [h.box] at hx; injection hx with hx; injection hx with _ hx; cases hx), (h.ts.mv hW fun x cs m hx e => by subst e; rw [h.box] at hx; injection hx with hx; injection hx with _ hx; cases hx)⟩
  clear hx hr h
  obtain ⟨m, hmo⟩ : ∃ m, m = S.most := ⟨_, rfl⟩
  rw [← hmo] at g2 c0 HBX
  have HMO := Lib.hid hmo
  clear hmo
  obtain ⟨n, hnn⟩ : ∃ n, n = S.H.length := ⟨_, rfl⟩
  rw [← hnn] at hn c1 c2 g2 HBX HI
  have HNN := Lib.hid hnn
  clear hnn
  go_enter Try.func11, Try.ntmps11
  go_wp2_with fail
  go_quiet (fail)
  go_wp2_with fail
  obtain ⟨W1, hW1⟩ : ∃ W1, W1 = ((w.drewN nq).setCell ⟨d, 3, none⟩ (.int .i64 ((S.g : Int) + 1))) := ⟨_, rfl⟩
  have HM1 : Hid (Mv (fun g => g = d) w W1) := Lib.hid (by rw [hW1]; exact (Mv.of_below _ ((At.start w).drewN nq)).trans (set_mv _ d 3 _) fun _ => Or.inl)
  have HB1 : Hid (W1.heap[d]? = some (.cells #[.int .i64 m, .slice A n c, .slice B n e, .int .i64 ((S.g : Int) + 1)] 29 (0, 0))) := Lib.hid (by rw [hW1]; exact heap_set (w := w.drewN nq) HBX.out 3 _)
  rw [← hW1]
  clear hW1 c0 c1 c2 c3 f3
  have HI1 : Hid (∀ W, At W1 W → IR W A n c S.H) := Lib.hid fun W hW => (HI.out W (HM1.out.next hW)).1
  have HC : Hid (∀ W, At W1 W → W.cell? ⟨d, 1, none⟩ = some (.slice A n c) ∧ W.cell? ⟨d, 3, none⟩ = some (.int .i64 ((S.g : Int) + 1)) ∧ W.frozen? ⟨d, 1, none⟩ = false ∧ d < W.heap.size) := Lib.hid fun W hW =>
    ⟨(cell_at (hW.keep HB1.out) 1).trans rfl, (cell_at (hW.keep HB1.out) 3).trans rfl, free_at (hW.keep HB1.out) 1, lt_heap (hW.keep HB1.out)⟩
  obtain ⟨c1, c3, f1, hd⟩ := HC.out W1 (At.start W1)
  have HZ : Hid (A = none → n = 0 ∧ c = 0) := Lib.hid fun h => by
    rcases (HI1.out W1 (At.start W1)).form with ⟨_, h1, h2⟩ | ⟨g, cs, mm, h1, _⟩
    · exact ⟨h1, h2⟩
    · rw [h] at h1; cases h1
  have HL : Hid (S.H.length = n) := Lib.hid HNN.out.symm
  have hn1 : n ≤ 1000000 := by omega
  have A1 : Hid (At W1 (W1.alloc (.cells #[] 3)).drew) := Lib.hid (((At.start W1).alloc _).drewN 1)
  have A2 : Hid (At W1 ((W1.alloc (.cells #[] 3)).alloc (.cells #[.int .i64 ((S.g : Int) + 1)] 3)).drew) := Lib.hid ((((At.start W1).alloc _).alloc _).drewN 1)
  have A3 : Hid (At W1 ((W1.alloc (.cells #[.int .i64 ((S.g : Int) + 1)] 3)).alloc (.cells #[] 3)).drew) := Lib.hid ((((At.start W1).alloc _).alloc _).drewN 1)
  have O1 : Hid (OI (W1.alloc (.cells #[] 3)).drew W1.heap.size (.slice (some ⟨W1.heap.size, 0, none⟩) 0 0) 0 []) := Lib.hid (OI.made (Nat.le_refl _))
  have O2 : Hid (OI ((W1.alloc (.cells #[] 3)).alloc (.cells #[.int .i64 ((S.g : Int) + 1)] 3)).drew W1.heap.size (.slice (some ⟨W1.heap.size, 0, none⟩) 0 0) 0 []) := Lib.hid ((OI.made (w := W1) (Nat.le_refl _)).on (((At.start _).alloc _).drewN 1))
  have O3 : Hid (OI ((W1.alloc (.cells #[.int .i64 ((S.g : Int) + 1)] 3)).alloc (.cells #[] 3)).drew W1.heap.size (.slice (some ⟨W1.heap.size + 1, 0, none⟩) 0 0) 0 []) := Lib.hid (by
    have := OI.made (w := W1.alloc (.cells #[.int .i64 ((S.g : Int) + 1)] 3)) (B := W1.heap.size) (by simp)
    rw [World.size_alloc] at this
    exact this)
  have S2 : Hid (IV ((W1.alloc (.cells #[] 3)).alloc (.cells #[.int .i64 ((S.g : Int) + 1)] 3)).drew (some ⟨W1.heap.size + 1, 0, none⟩) [(S.g : Int) + 1]) := Lib.hid (by
    have := one_iv (W1.alloc (.cells #[] 3)) ((S.g : Int) + 1)
    rw [World.size_alloc] at this
    exact this)
  have S3 : Hid (IV ((W1.alloc (.cells #[.int .i64 ((S.g : Int) + 1)] 3)).alloc (.cells #[] 3)).drew (some ⟨W1.heap.size, 0, none⟩) [(S.g : Int) + 1]) := Lib.hid ((one_iv W1 ((S.g : Int) + 1)).on (((At.start _).alloc _).drewN 1))
  go_cut [29] from 12 to 59 (fun s wx => ∃ (A8 : Option Addr) (q8 c8 : Nat), s = .pointer (some ⟨d, 0, none⟩) ∧ Hid (Mid W1 d m ((S.g : Int) + 1) n e B (S.H ++ [(S.g : Int) + 1]) A8 q8 c8 wx))
  case first =>
    go_region_law
      (first
        | ((with_reducible refine at_world (W1.alloc (.cells #[] 3)).drew ?_); refine step_ints (by rfl) (.tmp 30) (.tmp 34) (by rfl) W1.heap.size _ 0 [] O1.out (by rfl) A n c S.H (by rfl) HZ.out (HI1.out _ A1.out).iv HL.out (by omega) A1.out.size ?_; intro A7 c7 q7 w7 P7; have HA7 : Hid (At W1 w7) := Lib.hid (P7.out.stands O1.out A1.out (Nat.le_refl _)); obtain ⟨d1, d3, e1, hd7⟩ := HC.out w7 HA7.out; clear hd7)
        | ((with_reducible refine at_world ((W1.alloc (.cells #[] 3)).alloc (.cells #[.int .i64 ((S.g : Int) + 1)] 3)).drew ?_); refine step_ints (by rfl) (.tmp 30) (.tmp 34) (by rfl) W1.heap.size _ 0 [] O2.out (by rfl) A n c S.H (by rfl) HZ.out (HI1.out _ A2.out).iv HL.out (by omega) A2.out.size ?_; intro A7 c7 q7 w7 P7; have HA7 : Hid (At W1 w7) := Lib.hid (P7.out.stands O2.out A2.out (Nat.le_refl _)); obtain ⟨d1, d3, e1, hd7⟩ := HC.out w7 HA7.out; clear hd7; have HSRC := Lib.hid (S2.out.mv P7.out.mv (own_far (by omega))))
        | ((with_reducible refine at_world ((W1.alloc (.cells #[.int .i64 ((S.g : Int) + 1)] 3)).alloc (.cells #[] 3)).drew ?_); refine step_ints (by rfl) (.tmp 30) (.tmp 34) (by rfl) W1.heap.size _ 0 [] O3.out (by rfl) A n c S.H (by rfl) HZ.out (HI1.out _ A3.out).iv HL.out (by omega) A3.out.size ?_; intro A7 c7 q7 w7 P7; have HA7 : Hid (At W1 w7) := Lib.hid (P7.out.stands O3.out A3.out (Nat.le_refl _)); obtain ⟨d1, d3, e1, hd7⟩ := HC.out w7 HA7.out; clear hd7; have HSRC := Lib.hid (S3.out.mv P7.out.mv (own_far (by omega))))
        | ((with_reducible refine at_world w7 ?_); refine step_ints (by rfl) (.tmp 35) (.tmp 40) (by rfl) W1.heap.size _ q7 _ P7.out.own (by rfl) _ 1 1 [(S.g : Int) + 1] (by rfl) (fun h => by cases h) HSRC.out rfl (by have h := P7.out.own.len; rw [List.nil_append, HL.out] at h; omega) HA7.out.size ?_; intro A8 c8 q8 w8 P8; have HA8 : Hid (At W1 w8) := Lib.hid (P8.out.stands P7.out.own HA7.out (Nat.le_refl _)); obtain ⟨j1, j3, k1, hd8⟩ := HC.out w8 HA8.out; clear hd8; have HO8 := Lib.hid P8.out.own)
        | ((with_reducible refine at_world (w7.alloc (.cells #[.int .i64 ((S.g : Int) + 1)] 3)) ?_); refine step_ints (by rfl) (.tmp 35) (.tmp 40) (by rfl) W1.heap.size _ q7 _ (P7.out.own.on ((At.start _).alloc _)) (by rfl) _ 1 1 [(S.g : Int) + 1] (by rfl) (fun h => by cases h) (one_iv w7 _) rfl (by have h := P7.out.own.len; rw [List.nil_append, HL.out] at h; omega) (HA7.out.alloc _).size ?_; intro A8 c8 q8 w8 P8; have HA8 : Hid (At W1 w8) := Lib.hid (P8.out.stands (P7.out.own.on ((At.start _).alloc _)) (HA7.out.alloc _) (Nat.le_refl _)); obtain ⟨j1, j3, k1, hd8⟩ := HC.out w8 HA8.out; clear hd8; have HO8 := Lib.hid P8.out.own))
    all_goals
      have HMD := Lib.hid (mid_done HB1.out HA8.out HO8.out)
      clear HO8 HA8
      go_wp2_with fail
      go_meet
      case rel => exact ⟨A8, q8, c8, rfl, HMD⟩
  obtain ⟨A8, q8, c8, rfl, HMD⟩ := hcut
  clear A1 A2 A3 O1 O2 O3 S2 S3 HC HI1 c1 c3 f1 hd HZ
  have HCC : Hid (∀ W, At wc W → W.cell? ⟨d, 2, none⟩ = some (.slice B n e) ∧ W.cell? ⟨d, 3, none⟩ = some (.int .i64 ((S.g : Int) + 1)) ∧ W.frozen? ⟨d, 2, none⟩ = false ∧ W.heap[d]? = some (.cells #[.int .i64 m, .slice A8 q8 c8, .slice B n e, .int .i64 ((S.g : Int) + 1)] 29 (0, 0))) := Lib.hid fun W hW =>
    ⟨(cell_at (hW.keep HMD.out.box) 2).trans rfl, (cell_at (hW.keep HMD.out.box) 3).trans rfl, free_at (hW.keep HMD.out.box) 2, hW.keep HMD.out.box⟩
  have HMW : Hid (Mv (fun g => g = d) w wc) := Lib.hid (HM1.out.trans HMD.out.mv fun _ => Or.inl)
  have HIT : Hid (∀ W, At wc W → IR W B n e (S.H.map S.t)) := Lib.hid fun W hW => (HI.out W (HMW.out.next hW)).2
  have HZB : Hid (B = none → n = 0 ∧ e = 0) := Lib.hid fun h => by
    rcases (HIT.out wc (At.start wc)).form with ⟨_, h1, h2⟩ | ⟨g, cs, mm, h1, _⟩
    · exact ⟨h1, h2⟩
    · rw [h] at h1; cases h1
  have hdl : d < wc.heap.size := lt_heap HMD.out.box
  obtain ⟨c2, c3, f2, -⟩ := HCC.out wc (At.start wc)
  have AM : Hid (At wc (wc.alloc (.cells #[] 3))) := Lib.hid ((At.start wc).alloc _)
  have HLT : Hid ((S.H.map S.t).length = n) := Lib.hid (by rw [List.length_map]; exact HL.out)
  go_wp2_with (first
    | (at_builtin; refine ints_append rfl (.tmp 45) (.tmp 49) rfl wc.heap.size (.slice (some ⟨wc.heap.size, 0, none⟩) 0 0) 0 [] rfl (OI.made (Nat.le_refl _)) B n e (S.H.map S.t) rfl HZB.out (HIT.out _ AM.out).iv HLT.out (by omega) AM.out.size ?_; intro A9 c9 q9 w9 P9; have HA9 : Hid (At wc w9) := Lib.hid (P9.out.stands (OI.made (Nat.le_refl _)) AM.out (Nat.le_refl _)))
    | (at_builtin; refine ints_append rfl (.tmp 50) (.tmp 52) rfl wc.heap.size (.slice A9 q9 c9) q9 _ rfl (P9.out.own.on ((At.start _).alloc _)) (some ⟨w9.heap.size, 0, none⟩) 1 1 [x] rfl (fun h => by cases h) (one_iv w9 x) rfl (by have h := P9.out.own.len; rw [List.nil_append, HLT.out] at h; omega) (HA9.out.alloc _).size ?_; intro A11 c11 q11 w11 P11; have HA11 : Hid (At wc w11) := Lib.hid (P11.out.stands (P9.out.own.on ((At.start _).alloc _)) (HA9.out.alloc _) (Nat.le_refl _)); obtain ⟨c2, c3, f2, hb11⟩ := HCC.out w11 HA11.out; have HB11 := Lib.hid hb11; clear hb11)
    | (at_builtin; fail))
  go_ret2
  have o8 : OI wc W1.heap.size (.slice A8 q8 c8) q8 (op S x).H := HMD.out.row
  have o11 : OI w11 wc.heap.size (.slice A11 q11 c11) q11 ((op S x).H.map (op S x).t) := by rw [HMP.out]; exact P11.out.own
  have hq : q11 = q8 := by have h1 := o8.len; have h2 := o11.len; rw [List.length_map] at h2; omega
  subst hq
  have hb := heap_set HB11.out 2 (.slice A11 q11 c11)
  rw [show (S.g : Int) + 1 = (((op S x).g : Nat) : Int) from by show _ = ((S.g + 1 : Nat) : Int); omega, HMO.out] at hb
  refine ⟨rfl, Rb.rows (S := op S x) HOK.out hb ((o8.on HA11.out).mv (set_mv w11 d 2 _) fun y hy e => ?_).ir (o11.mv (set_mv w11 d 2 _) fun y hy e => ?_).ir, (HMW.out.next HA11.out).trans (set_mv w11 d 2 _) fun _ => Or.inl⟩
  · have h1 := (o8.lt hy).1; have h2 := lt_heap HB1.out; omega
  · have h1 := (o11.lt hy).1; omega
/-- Open, whatever the time is. -/
theorem ropen_rb (h : Rb w d S) (x : Int) (hg : S.g < 1000000) : Calls Try.prog 11 #[.pointer (some ⟨d, 0, none⟩), .int .i64 x] w fun e w' => e = .returned (.tuple #[.int .i64 (oh S x), .int .i64 (oe S x)]) ∧ Rb w' d (oS S x) ∧ Mv (fun g => g = d) w w' := by
  have h0 := h
  obtain ⟨A, c, B, e, h⟩ := h
  unfold oh oe oS
  by_cases hx : May x
  · by_cases hl : (S.H.length : Int) < S.most
    · rw [if_pos hx, if_pos hl, if_pos hx, if_pos hl, if_pos hx, if_pos hl]
      exact ropen_ok h x hx hl hg
    · rw [if_pos hx, if_neg hl, if_pos hx, if_neg hl, if_pos hx, if_neg hl]
      exact (ropen_many h x hx hl).mono fun e w' ⟨he, ha⟩ => ⟨he, h0.on ha, Mv.of_below _ ha⟩
  · rw [if_neg hx, if_neg hx, if_neg hx]
    exact (ropen_arg _ x hx w).mono fun e w' ⟨he, ha⟩ => ⟨he, by rw [← ha]; exact h0, by rw [← ha]; exact Mv.refl _ _⟩
end

end Go.Proofs.Ytjgmgkglpfcihaa
