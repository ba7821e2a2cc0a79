/- Proved: what the document's own making of a batch of its blocks answers. -/
import Derived.Test.YtgmekkenodiclaaRms
import Derived.Test.YtgmekkenodiclaaRs
import Derived.Deep.CutBlock
namespace Go.Proofs.Ytgmekkenodiclaa
open Go.RowKit
attribute [local go_sem ↓] Go.wp_at_zero Go.wp_at_succ

/-- Bytes from the m-th on. -/
theorem run_bfrom (w : World) (a : Addr) (n c m : Nat) (z : Int) (hz : z = (m : Int)) (hm : m < n) (hc : n ≤ c) : (Instr.sliceAt 39 (.slice (some a) n c) (some (.int .i64 z)) none none).run Try.prog w = .ok (.slice (some (a.add m)) (n - m) (c - m)) w := by
  subst hz
  have ht : Try.prog.underlying 39 = some (.slice (Try.prog.elem 39)) := by kernel_rfl
  have hs : (sizeOf (Try.prog.elem 39)).run Try.prog w = .ok 1 w := by kernel_rfl
  have h := run_slice_l (P := Try.prog) w 39 (some a) n c ht .i64 (m : Int) (by omega) (by omega)
  rw [run_sliceAt_slice (P := Try.prog) w _ _ _ _ _ ht, h, hs]
  have e : ¬ c = m := by omega
  simp [sliced, Result.andThen, e]
theorem bytes_from {w : World} {ops : Array Oper} {rest : List Oper} {o : Oper} {a : Act} {Q : Exit → Act → World → Prop} (hgd : o.guard = none) (x lo : Operand)
    (ho : o.op = .slice 39 x (some lo) none none) (g f n c m f' p r : Nat) (z : Int) (hx : a.eval x = .slice (some ⟨g, f, none⟩) n c) (hlo : a.eval lo = .int .i64 z) (hz : z = (m : Int)) (hm : m < n) (hc : n ≤ c) (hf : f' = f + m) (hp : p = n - m) (hr : r = c - m)
    (h : wpList Try.prog ops Q rest (a.put o.dst (.slice (some ⟨g, f', none⟩) p r)) w) : wpList Try.prog ops Q (o :: rest) a w := by
  refine wpList_plain hgd fun K hK => ?_
  have h1 := run_bfrom w ⟨g, f, none⟩ n c m z hz hm hc
  rw [Go.WideShapes.add_plain, ← hf, ← hp, ← hr] at h1
  unfold Oper.wp
  simp [execOp, ho, hx, hlo, h1, Result.andThen]
  exact hK _ _ h
theorem gt_two {L : List Nat} (h : 2 ≤ L.length) : gt (L.take 2) = L.getD 0 0 + 256 * L.getD 1 0 := by
  match L, h with
  | a :: b :: M, _ => simp [gt]
theorem getD_drop (L : List Nat) (a j : Nat) : (L.drop a).getD j 0 = L.getD (a + j) 0 := by
  simp only [List.getD_eq_getElem?_getD, List.getElem?_drop]

theorem Tq.others {w wr wy w' : World} {q4 q qb : Nat} {s kd ep s' lb : Int} {v vb : Value} {r c : Nat} {A : Option Addr} {l l' : List Tl} {Ts : List Tx} (h : Tq w wr q4 q s v l Ts) (hA : At wr wy) (hG : Gr 44 2 tcs (gx (fun j => j = q4 ∨ j = q) tgd) w wy v w' (.slice A r c) l')
    (hx : Bx wr qb 63 kd ep s' lb vb) (hb : Bb wr q4 0 (.slice none 0 0)) (hne : qb ≠ q) : Bx (w'.setCell ⟨q, 1, none⟩ (.slice A r c)) qb 63 kd ep s' lb vb ∧ Bb (w'.setCell ⟨q, 1, none⟩ (.slice A r c)) q4 0 (.slice none 0 0) := by
  have h3 := h.q3
  have k1 : Bx w' qb 63 kd ep s' lb vb := hG.mv.keep (hA.keep hx) (ob_far (h.op.on (kT.x _) hA).row (hA.keep hx) (by decide))
  have k2 : Bb w' q4 0 (.slice none 0 0) := hG.mv.keep (hA.keep hb) (ob_far (h.op.on (kT.x _) hA).row (hA.keep hb) (by decide))
  exact ⟨k1.other hne _ _, k2.other (by omega) _ _⟩

theorem pt_onem {P : List Pt} {a j : Nat} (h : a + j < P.length) : (P.drop a).take (j + 1) = (P.drop a).take j ++ [P.getD (a + j) pz] := by
  rw [List.take_succ_eq_append_getElem (by rw [List.length_drop]; omega), List.getElem_drop, List.getD_eq_getElem?_getD, List.getElem?_eq_getElem h]; rfl

set_option maxHeartbeats 8000000 in
set_option maxRecDepth 100000 in
theorem made_any (kd ep s lb : Int) (A Ab : Option Addr) (P : List Pt) (B : List Nat) (m cD nb cb : Nat) (hm : P.length = m) (hm2 : m ≤ 1000) (hB : AllB B) (hbl : B.length = nb) (hcb : nb ≤ cb) (hb40 : nb ≤ 40) (w : World) (hv : DV w A P) (hb : BV w Ab B) :
    Calls Try.prog 24 #[.slice A m cD, .agg #[.int .i64 kd, .int .i64 ep, .int .i64 s, .int .i64 lb, .slice Ab nb cb]] w (MadeP s P B w) := by
  obtain ⟨qb, hqb⟩ : ∃ q, w.heap.size = q := ⟨_, rfl⟩
  obtain ⟨q4, hq4⟩ : ∃ q, qb + 1 = q := ⟨_, rfl⟩
  obtain ⟨q6, hq6⟩ : ∃ q, q4 + 1 = q := ⟨_, rfl⟩
  obtain ⟨w1, hw1⟩ : ∃ w1, w.alloc (.cells #[.int .i64 kd, .int .i64 ep, .int .i64 s, .int .i64 lb, .slice Ab nb cb] 63) = w1 := ⟨_, rfl⟩
  obtain ⟨w2, hw2⟩ : ∃ w2, w1.alloc (.cells #[.int .i64 0, .slice none 0 0] 27) = w2 := ⟨_, rfl⟩
  obtain ⟨w3, hw3⟩ : ∃ w3, w2.alloc (.cells #[.int .i64 s, .slice none 0 0] 27) = w3 := ⟨_, rfl⟩
  have a01 : At w w1 := by rw [← hw1]; exact (At.start w).alloc _
  have a12 : At w1 w2 := by rw [← hw2]; exact (At.start w1).alloc _
  have a23 : At w2 w3 := by rw [← hw3]; exact (At.start w2).alloc _
  have s1 : w1.heap.size = q4 := by rw [← hw1, ← hq4, ← hqb]; simp
  have s2 : w2.heap.size = q6 := by rw [← hw2, ← hq6, ← s1]; simp
  have HA3 : Hid (At w w3) := Lib.hid ((a01.next a12).next a23)
  have HBX : Hid (Bx w3 qb 63 kd ep s lb (.slice Ab nb cb)) := Lib.hid ((show Bx w1 qb 63 kd ep s lb (.slice Ab nb cb) by rw [← hw1, ← hqb]; exact bx_new _ _ _ _ _ _ _).on (a12.next a23))
  have HB4 : Hid (Bb w3 q4 0 (.slice none 0 0)) := Lib.hid ((show Bb w2 q4 0 (.slice none 0 0) by rw [← hw2, ← s1]; exact bb_new _ _ _).on a23)
  have HQ0 : Hid (Tq w w3 q4 q6 s (.slice none 0 0) [] []) := Lib.hid ⟨by rw [← hw3, ← s2]; exact bb_new _ _ _, Ow.nil' HA3.out, by omega, by omega, by omega, rfl, fun x hx => by cases hx⟩
  have HM := Lib.hid hm
  have HBL := Lib.hid hbl
  have HBY := Lib.hid hB
  have HDV := Lib.hid hv
  have HBV : Hid (∀ W, At w W → BV W Ab B) := Lib.hid fun W hW => hb.below hW
  have HW : Hid (((w.alloc (.cells #[.int .i64 kd, .int .i64 ep, .int .i64 s, .int .i64 lb, .slice Ab nb cb] 63)).alloc (.cells #[.int .i64 0, .slice none 0 0] 27)).alloc (.cells #[.int .i64 s, .slice none 0 0] 27) = w3) := Lib.hid (by rw [hw1, hw2, hw3])
  have HQS : Hid (w.heap.size = qb ∧ w.heap.size + 1 = q4 ∧ w.heap.size + 1 + 1 = q6) := Lib.hid (by omega)
  clear hm hbl hB hv hb a01 a12 a23 s1 s2 hw1 hw2 hw3 hqb hq4 hq6
  go_enter Try.func24, Try.ntmps24
  go_upto_if 24 with fail
  rw [HW.out, HQS.out.2.2, HQS.out.2.1, HQS.out.1]
  obtain ⟨x0, x1, x2, x3, x4⟩ := HBX.out.cells
  obtain ⟨y0, y1⟩ := HB4.out.cells
  obtain ⟨u0, u1⟩ := HQ0.out.bx.cells
  have fr0 := HB4.out.free 0
  have fr1 := HB4.out.free 1
  by_cases h9 : nb < 9
  · have z1 : decide ((nb : Int) < 9) = true := decide_eq_true (by omega)
    obtain ⟨A', n', c', he', hn', hb', hA', htv'⟩ := HQ0.out.fin HB4.out
    injection he' with e1 e2 e3
    subst e1
    have HF := Lib.hid hb'
    have HNO : Hid (∀ s' L, Bk s' L → bd L = B → ¬ fla L = P) := Lib.hid fun s' L hk hd _ => by
      have h1 := bd_len L
      rw [hd, HBL.out] at h1
      omega
    have HFA := Lib.hid (And.intro hA' htv')
    have HN' := Lib.hid hn'
    clear hb' hA' htv' hn' e2 e3
    go_wp2_with fail
    (try rw [Exit.noGoto_ret])
    (try simp only [Exit.inBlock, Exit.then])
    refine bodyPost_ret (results_bb rfl _ _ q4 s _ rfl HF.out) rfl ?_
    exact ⟨[], _, 0, 0, false, rfl, rfl, by omega, Nat.zero_le _, rfl, HFA.out.2, HFA.out.1, fun s' L hk hd hp => absurd hp (HNO.out s' L hk hd)⟩
  have z1 : decide ((nb : Int) < 9) = false := decide_eq_false (by omega)
  obtain ⟨ga, oa, rfl, hga, hca⟩ := (HBV.out w (At.start w)).pos (by rw [HBL.out]; omega)
  obtain ⟨f, hf⟩ : ∃ f, f = gt (B.take 8) := ⟨_, rfl⟩
  have hf64 : f < 18446744073709551616 := by
    rw [hf]
    have := gt_lt (B.take 8) (allB_take HBY.out 8)
    rwa [List.length_take, HBL.out, Nat.min_eq_left (by omega)] at this
  have HG8 : Hid (∀ W, At w W → Calls Try.prog 41 #[.slice (some ⟨ga, oa, none⟩) nb cb, .int .i64 8] W fun e w' => e = .returned (.tuple #[.int .u64 (f : Int), .bool true]) ∧ W = w') := Lib.hid fun W hW => by
    rw [hf]; exact rget8 _ nb cb B (by omega) HBL.out HBY.out W (HBV.out W hW)
  have HCA : Hid (∀ W, At w W → ∀ j, j < nb → W.cell? ⟨ga, oa + j, none⟩ = some (.int .u8 (B.getD j 0 : Int))) := Lib.hid fun W hW j hj => (Below.cell hW (p := ⟨ga, oa + j, none⟩) hga).trans (hca j (by rw [HBL.out]; exact hj))
  have e8 := HCA.out w3 HA3.out 8 (by omega)
  have hk256 := allB_at HBY.out 8
  obtain ⟨k, hk⟩ : ∃ k, k = B.getD 8 0 := ⟨_, rfl⟩
  rw [← hk] at e8 hk256
  have HOF : Hid (∀ s' L, Bk s' L → bd L = B → fla L = P → nb = 9 + 3 * L.length ∧ k = L.length ∧ (f : Int) = t0 L ∧ Of (f : Int) P ((B.drop 9).take (2 * k)) (B.drop (9 + 2 * k)) L) := Lib.hid fun s' L hb hd hp => by
    obtain ⟨h1, h2, h3, h4⟩ := of_bd hb hd hp
    rw [HBL.out] at h1
    rw [← hk] at h2
    rw [← hf] at h3
    rw [← h2, ← h3] at h4
    exact ⟨h1, h2, h3, h4⟩
  have g8 : (8 : Int) < (nb : Int) := by omega
  have HF0 : Hid (∃ A' c', (Value.slice none 0 0) = .slice A' 0 c' ∧ Bb ((w3.setCell ⟨q4, 0, none⟩ (.int .i64 s)).setCell ⟨q4, 1, none⟩ (.slice none 0 0)) q4 s (.slice none 0 0) ∧ At w ((w3.setCell ⟨q4, 0, none⟩ (.int .i64 s)).setCell ⟨q4, 1, none⟩ (.slice none 0 0))) := Lib.hid (by
    obtain ⟨A', n', c', he', hn', hb', hA', htv'⟩ := HQ0.out.fin HB4.out
    exact ⟨none, 0, rfl, hb', hA'⟩)
  have HF : Hid (Bb ((w3.setCell ⟨q4, 0, none⟩ (.int .i64 s)).setCell ⟨q4, 1, none⟩ (.slice none 0 0)) q4 s (.slice none 0 0)) := Lib.hid (by obtain ⟨_, _, _, h, _⟩ := HF0.out; exact h)
  have HFA : Hid (At w ((w3.setCell ⟨q4, 0, none⟩ (.int .i64 s)).setCell ⟨q4, 1, none⟩ (.slice none 0 0)) ∧ TVn w ((w3.setCell ⟨q4, 0, none⟩ (.int .i64 s)).setCell ⟨q4, 1, none⟩ (.slice none 0 0)) none []) := Lib.hid (by obtain ⟨_, _, _, _, h⟩ := HF0.out; exact ⟨h, TVn.nil _ _ _⟩)
  clear hga hca hf hk HF0
  go_wp2_with fail
  refine (HG8.out w3 HA3.out).mono ?_
  rintro x w' ⟨rfl, rfl⟩
  by_cases e1 : k < 1
  · have HNO : Hid (∀ s' L, Bk s' L → bd L = B → ¬ fla L = P) := Lib.hid fun s' L hb hd hp => by
      have h1 := (HOF.out s' L hb hd hp).2.1
      have h2 := hb.ne
      omega
    have z2 : decide ((k : Int) < 1) = true := decide_eq_true (by omega)
    have z2b : decide (k < 1) = true := decide_eq_true e1
    clear e1
    go_wp2_with fail
    (try rw [Exit.noGoto_ret])
    (try simp only [Exit.inBlock, Exit.then])
    refine bodyPost_ret (results_bb rfl _ _ q4 s _ rfl HF.out) rfl ?_
    exact ⟨[], _, 0, 0, false, rfl, rfl, by omega, Nat.zero_le _, rfl, HFA.out.2, HFA.out.1, fun s' L hk hd hp => absurd hp (HNO.out s' L hk hd)⟩
  have z2 : decide ((k : Int) < 1) = false := decide_eq_false (by omega)
  have z2b : decide (k < 1) = false := decide_eq_false e1
  by_cases e2 : nb = 9 + 3 * k
  rotate_left
  · have HNO : Hid (∀ s' L, Bk s' L → bd L = B → ¬ fla L = P) := Lib.hid fun s' L hb hd hp => by
      have h1 := (HOF.out s' L hb hd hp).2.1
      have h2 := (HOF.out s' L hb hd hp).1
      omega
    have z3 : ((nb : Int) != 9 + 3 * (k : Int)) = true := by simp; omega
    clear e1 e2
    go_wp2_with fail
    (try rw [Exit.noGoto_ret])
    (try simp only [Exit.inBlock, Exit.then])
    refine bodyPost_ret (results_bb rfl _ _ q4 s _ rfl HF.out) rfl ?_
    exact ⟨[], _, 0, 0, false, rfl, rfl, by omega, Nat.zero_le _, rfl, HFA.out.2, HFA.out.1, fun s' L hk hd hp => absurd hp (HNO.out s' L hk hd)⟩
  have z3 : ((nb : Int) != 9 + 3 * (k : Int)) = false := by simp; omega
  by_cases e3 : 1099511627776 < f
  · have HNO : Hid (∀ s' L, Bk s' L → bd L = B → ¬ fla L = P) := Lib.hid fun s' L hb hd hp => by
      have h1 := (HOF.out s' L hb hd hp).2.2.1
      have h2 := hb.t0
      omega
    have z4 : decide ((1099511627776 : Int) < (f : Int)) = true := decide_eq_true (by omega)
    have z4b : decide (1099511627776 < f) = true := decide_eq_true e3
    clear e1 e2 e3
    go_wp2_with fail
    (try rw [Exit.noGoto_ret])
    (try simp only [Exit.inBlock, Exit.then])
    refine bodyPost_ret (results_bb rfl _ _ q4 s _ rfl HF.out) rfl ?_
    exact ⟨[], _, 0, 0, false, rfl, rfl, by omega, Nat.zero_le _, rfl, HFA.out.2, HFA.out.1, fun s' L hk hd hp => absurd hp (HNO.out s' L hk hd)⟩
  have z4 : decide ((1099511627776 : Int) < (f : Int)) = false := decide_eq_false (by omega)
  have z4b : decide (1099511627776 < f) = false := decide_eq_false e3
  have hf40 : f ≤ 1099511627776 := by omega
  have f64 : IntKind.i64.wrap (f : Int) = (f : Int) := IntWalk.i64_in _ (by omega)
  have hk1 : 1 ≤ k := by omega
  have HNB := Lib.hid e2
  have HNL : Hid ((B.drop (9 + 2 * k)).length = k) := Lib.hid (by rw [List.length_drop, HBL.out]; omega)
  clear e1 e2 e3 HF HFA
  go_wp2_with fail
  have HQ6 : Hid (qb ≠ q6) := Lib.hid (by have := HQS.out; omega)
  have HX3 := Lib.hid HBX.out
  have HB43 := Lib.hid HB4.out
  have HDW : Hid (∀ W, At w W → ∀ j, j < P.length → ∃ gd od Bd cd, A = some ⟨gd, od, none⟩ ∧ W.cell? ⟨gd, od + j * 5 + 3, none⟩ = some (.int .i64 (P.getD j pz).1) ∧ W.cell? ⟨gd, od + j * 5 + 4, none⟩ = some (.slice Bd (P.getD j pz).2.length cd) ∧ BV w Bd (P.getD j pz).2) := Lib.hid fun W hW j hj => by
    obtain ⟨gd, od, hA', hgd, hcd⟩ := HDV.out.pos (by omega)
    obtain ⟨c1, Bd, cd, c2, c3⟩ := hcd j hj
    exact ⟨gd, od, Bd, cd, hA', (Below.cell hW (p := ⟨gd, od + j * 5 + 3, none⟩) hgd).trans c1, (Below.cell hW (p := ⟨gd, od + j * 5 + 4, none⟩) hgd).trans c2, c3⟩
  clear x0 x1 x2 x3 x4 y0 y1 u0 u1 fr0 fr1 e8
  go_loopw [10, 11, 12] (fun c10 c11 c12 wr => ∃ (i a d : Nat) (t : Int) (B2 : Option Addr) (l : List Tl) (Ts : List Tx), i ≤ k ∧ c12 = .int .i64 (i : Int) ∧ c11 = .int .i64 (a : Int) ∧ c10 = .int .i64 t ∧ 0 ≤ t ∧ t ≤ 1099511627776 + 65535 * (i : Int) ∧ a ≤ m ∧ Hid (a = tot Ts ∧ Jr (f : Int) P ((B.drop 9).take (2 * k)) (B.drop (9 + 2 * k)) i Ts t) ∧ Hid (Tq w wr q4 q6 s (.slice B2 i d) l Ts) ∧ Hid (Bx wr qb 63 kd ep s lb (.slice (some ⟨ga, oa, none⟩) nb cb) ∧ Bb wr q4 0 (.slice none 0 0))) (fun _ _ c12 _ => k - (RowKit.intOf c12).toNat)
  case atStart => exact ⟨0, 0, 0, (f : Int), none, [], [], Nat.zero_le _, rfl, rfl, rfl, by omega, by omega, Nat.zero_le _, Lib.hid ⟨rfl, Jr.start _ _ _ _⟩, HQ0, Lib.hid ⟨HX3.out, HB43.out⟩⟩
  case round =>
    clear HX3 HB43
    obtain ⟨i, a, d, t, B2, l, Ts, hi, rfl, rfl, rfl, ht0, ht1, ham, HJ, HT, HBB⟩ := hrel
    have HAW : Hid (At w wr) := Lib.hid HT.out.op.at_
    by_cases hlt : i < k
    · obtain ⟨_, _, _, _, x4⟩ := HBB.out.1.cells
      obtain ⟨dd, hdd⟩ : ∃ dd, dd = gt ((B.drop (9 + 2 * i)).take 2) := ⟨_, rfl⟩
      obtain ⟨f', hf'⟩ : ∃ x, x = oa + (9 + 2 * i) := ⟨_, rfl⟩
      obtain ⟨p, hp⟩ : ∃ x, x = nb - (9 + 2 * i) := ⟨_, rfl⟩
      obtain ⟨r, hr⟩ : ∃ x, x = cb - (9 + 2 * i) := ⟨_, rfl⟩
      have h9i : 9 + 2 * i < nb := by have := HNB.out; omega
      have hl2 : 2 ≤ (B.drop (9 + 2 * i)).length := by rw [List.length_drop, HBL.out]; have := HNB.out; omega
      have HG2 : Hid (∀ W, At w W → Calls Try.prog 41 #[.slice (some ⟨ga, f', none⟩) p r, .int .i64 2] W fun e w' => e = .returned (.tuple #[.int .u64 (dd : Int), .bool true]) ∧ W = w') := Lib.hid fun W hW => by
        rw [hdd, hf']
        exact rget_yes _ p r 2 (B.drop (9 + 2 * i)) (by omega) (by omega) (by rw [List.length_drop, HBL.out] at hl2; omega) (by rw [List.length_drop, HBL.out, hp]) (allB_drop HBY.out _) W (BV.drop (HBV.out W hW) _)
      have hd1 := gt_two hl2
      rw [← hdd, getD_drop, getD_drop] at hd1
      have hb1 := allB_at HBY.out (9 + 2 * i + 0)
      have hb2 := allB_at HBY.out (9 + 2 * i + 1)
      have hd65 : dd ≤ 65535 := by omega
      have HTM : Hid (Tm (f : Int) P ((B.drop 9).take (2 * k)) (B.drop (9 + 2 * k)) i t (t + (dd : Int))) := Lib.hid fun L hL => by
        rw [take_getD (by omega), take_getD (by omega), getD_drop, getD_drop, hd1, show 9 + (2 * i + 1) = 9 + 2 * i + 1 by omega, show 9 + 2 * i = 9 + 2 * i + 0 by omega]
      have d64 : IntKind.i64.wrap (dd : Int) = (dd : Int) := IntWalk.i64_in _ (by omega)
      obtain ⟨n1, hn1⟩ : ∃ n1, n1 = (B.drop (9 + 2 * k)).getD i 0 := ⟨_, rfl⟩
      have hn1b : n1 = B.getD (9 + 2 * k + i) 0 := by rw [hn1, getD_drop]
      have hn256 : n1 < 256 := by rw [hn1b]; exact allB_at HBY.out _
      have HN1 := Lib.hid hn1
      have hxi : 9 + 2 * k + i < nb := by have := HNB.out; omega
      have HC1 : Hid (∀ W, At w W → W.cell? ⟨ga, oa + (9 + 2 * k + i), none⟩ = some (.int .u8 (n1 : Int))) := Lib.hid fun W hW => by rw [hn1b]; exact HCA.out W hW _ hxi
      obtain ⟨T, hT⟩ : ∃ T, t + (dd : Int) = T := ⟨_, rfl⟩
      have HTM2 : Hid (Tm (f : Int) P ((B.drop 9).take (2 * k)) (B.drop (9 + 2 * k)) i t T) := Lib.hid (by rw [← hT]; exact HTM.out)
      have hT0 : 0 ≤ T := by omega
      have hT1 : T ≤ 1099511627776 + 65535 * ((i : Int) + 1) := by omega
      have hAt : At wr (wr.alloc (.cells #[.int .i64 T, .slice none 0 0] 44)) := (At.start wr).alloc _
      have x4t := (HBB.out.1.on hAt).cells.2.2.2.2
      have c1t := HC1.out _ (HAW.out.next hAt)
      have gx0 : (9 + 2 * (k : Int) + (i : Int)).toNat = 9 + 2 * k + i := by omega
      have gx1 : (0 : Int) ≤ 9 + 2 * (k : Int) + (i : Int) := by omega
      have gx2 : 9 + 2 * (k : Int) + (i : Int) < (nb : Int) := by omega
      have HPW := Lib.hid (Pm.new HAW.out T)
      have HTT := Lib.hid (HT.out.on hAt)
      have HBT := Lib.hid (And.intro (HBB.out.1.on hAt) (HBB.out.2.on hAt))
      have HFP := Lib.hid (And.intro hf' (And.intro hp hr))
      clear hdd hl2 hd1 hb1 hb2 hn1 hn1b HTM hAt hf' hp hr
      go_wp2_with (refine bytes_from rfl (.tmp 62) (.tmp 65) rfl ga oa nb cb (9 + 2 * i) f' p r (9 + 2 * (i : Int)) rfl rfl (by omega) h9i hcb HFP.out.1 HFP.out.2.1 HFP.out.2.2 ?_)
      refine (HG2.out wr HAW.out).mono ?_
      rintro x w' ⟨rfl, rfl⟩
      by_cases hfar : m - a < n1
      · have z5 : decide ((m : Int) - (a : Int) < (n1 : Int)) = true := decide_eq_true (by omega)
        have HNO : Hid (∀ s' L, Bk s' L → bd L = B → ¬ fla L = P) := Lib.hid fun s' L hb hd hp => by
          obtain ⟨h1, h2, h3, h4⟩ := HOF.out s' L hb hd hp
          exact HJ.out.2.far (by rw [HNL.out]; exact hlt) (by rw [← HN1.out, HM.out, ← HJ.out.1]; exact hfar) L h4
        obtain ⟨A', n', c', he', hn', hb', hA', htv'⟩ := HTT.out.fin HBT.out.2
        injection he' with e1 e2 e3
        subst e1
        have HF := Lib.hid hb'
        have HFA := Lib.hid (And.intro hA' htv')
        clear hb' hA' htv' hn' e2 e3 hfar
        obtain ⟨u0, u1⟩ := HTT.out.bx.cells
        obtain ⟨y0, y1⟩ := HBT.out.2.cells
        have fr0 := HBT.out.2.free 0
        have fr1 := HBT.out.2.free 1
        go_wp2_with fail
        (try rw [Exit.noGoto_ret])
        (try simp only [Exit.inBlock, Exit.then])
        refine bodyPost_ret (results_bb rfl _ _ q4 s _ rfl HF.out) rfl ?_
        exact ⟨Ts, _, i, _, false, rfl, HJ.out.2.len, by omega, HJ.out.2.le, HJ.out.2.pp, HFA.out.2, HFA.out.1, fun s' L hk hd hp => absurd hp (HNO.out s' L hk hd)⟩
      have z5 : decide ((m : Int) - (a : Int) < (n1 : Int)) = false := decide_eq_false (by omega)
      have hle : a + n1 ≤ m := by omega
      go_wp2_with fail
      obtain ⟨wo, hwo⟩ : ∃ wo, wo = wr := ⟨_, rfl⟩
      obtain ⟨qt, hqt⟩ : ∃ q, wr.heap.size = q := ⟨_, rfl⟩
      obtain ⟨wt, hwt⟩ : ∃ wt, wr.alloc (.cells #[.int .i64 T, .slice none 0 0] 44) = wt := ⟨_, rfl⟩
      have HP0 : Hid (Pm w wo wt qt T (.slice none 0 0) [] []) := Lib.hid (by rw [hwo, ← hwt, ← hqt]; exact HPW.out)
      have HTO : Hid (Tq w wo q4 q6 s (.slice B2 i d) l Ts) := Lib.hid (by rw [hwo]; exact HT.out)
      have HBO : Hid (Bx wo qb 63 kd ep s lb (.slice (some ⟨ga, oa, none⟩) nb cb) ∧ Bb wo q4 0 (.slice none 0 0)) := Lib.hid (by rw [hwo]; exact HBB.out)
      rw [hwt, hqt]
      clear hwo hqt hwt HT HBB HTT HBT HPW HAW HG2 HC1 x4 x4t c1t gx0 gx1 gx2 hfar

      go_loopw [11, 17] (fun c11 c17 wr => ∃ (j a2 d2 : Nat) (B3 : Option Addr) (l2 : List Pl), j ≤ n1 ∧ c17 = .int .i64 (j : Int) ∧ c11 = .int .i64 (a2 : Int) ∧ a2 ≤ m ∧ Hid (a2 = a + j) ∧ Hid (Pm w wo wr qt T (.slice B3 j d2) l2 ((P.drop a).take j))) (fun _ c17 _ => n1 - (RowKit.intOf c17).toNat)
      case atStart => exact ⟨0, a, 0, none, [], Nat.zero_le _, rfl, rfl, ham, Lib.hid rfl, Lib.hid (by rw [List.take_zero]; exact HP0.out)⟩
      case round =>
        clear HP0
        obtain ⟨j, a2, d2, B3, l2, hj, rfl, rfl, ha2, HA2, HP⟩ := hrel
        have HAR : Hid (At w wr) := Lib.hid (HTO.out.op.at_.next HP.out.op.at_)
        by_cases hlt2 : j < n1
        · have hj2 : a2 < m := by have := HA2.out; omega
          obtain ⟨gd, od, rfl, hgd, hcd⟩ := HDV.out.pos (by rw [HM.out]; omega)
          obtain ⟨k3, Bd, cd, k4, kb⟩ := hcd a2 (by rw [HM.out]; exact hj2)
          obtain ⟨D, hD⟩ : ∃ D, D = (P.getD a2 pz).2 := ⟨_, rfl⟩
          obtain ⟨z, hz⟩ : ∃ z, z = (P.getD a2 pz).1 := ⟨_, rfl⟩
          rw [← hD] at k4 kb
          rw [← hz] at k3
          obtain ⟨nd, hnd⟩ : ∃ nd, nd = D.length := ⟨_, rfl⟩
          rw [← hnd] at k4
          have HPT : Hid ((P.drop a).take (j + 1) = (P.drop a).take j ++ [(z, D)]) := Lib.hid (by
            have h1 := HA2.out
            rw [pt_onem (by rw [HM.out, ← h1]; exact hj2), ← h1, hz, hD])
          have HDC : Hid (∀ W, At w W → W.cell? ⟨gd, od + a2 * 5 + 3, none⟩ = some (.int .i64 z) ∧ W.cell? ⟨gd, od + a2 * 5 + 4, none⟩ = some (.slice Bd nd cd)) := Lib.hid fun W hW => ⟨(Below.cell hW (p := ⟨gd, od + a2 * 5 + 3, none⟩) hgd).trans k3, (Below.cell hW (p := ⟨gd, od + a2 * 5 + 4, none⟩) hgd).trans k4⟩
          have HC : Hid (∀ W, At wr W → W.cell? ⟨qt, 1, none⟩ = some (.slice B3 j d2)) := Lib.hid fun W hW => (cell_at (hW.keep HP.out.bx) 1).trans rfl
          have HDR : Hid (At wr wr.drew) := Lib.hid ((At.start wr).drewN 1)
          have HDD : Hid (D.length = nd ∧ BV w Bd D) := Lib.hid ⟨hnd.symm, kb⟩
          have hj6 : j + 1 ≤ 1000000 := by omega
          have g1 : (0 : Int) ≤ (a2 : Int) := by omega
          have g2 : (a2 : Int) < (m : Int) := by omega
          have zj : decide ((j : Int) < (n1 : Int)) = true := decide_eq_true (by omega)
          clear hgd hcd k3 k4 kb hz hnd hD
          go_upto_block 3 with fail
          have c2 := HC.out wr (At.start wr)
          have c4 : (wr.alloc (.cells #[.int .i64 z, .slice Bd nd cd] 47)).cell? ⟨qt, 1, none⟩ = some (.slice B3 j d2) := HC.out _ ((At.start wr).alloc _)
          obtain ⟨e3, e4⟩ := HDC.out wr HAR.out
          go_cut [11, 113] from 98 to 115 (fun c11 c113 wx => ∃ (d3 : Nat) (B4 : Option Addr) (l3 : List Pl), c11 = .int .i64 ((a2 + 1 : Nat) : Int) ∧ c113 = .pointer (some ⟨qt, 1, none⟩) ∧ Hid (Pm w wo wx qt T (.slice B4 (j + 1) d3) l3 ((P.drop a).take (j + 1))))
          case first =>
            go_wp2_with fail
            go_region_law
              (first
                | (refine Pm.append_step (w1 := wr.drew) HP.out HDR.out HDD.out.1 HDD.out.2 hj6 (by rfl) (.tmp 99) (.tmp 111) (by rfl) (by rfl) (by rfl) ?_; intro A' c' w2 HG; have c3 := HG.out.c1; have f3 := HG.out.f1))
            all_goals
              go_wp2_with fail
              go_meet
              case rel => obtain ⟨l9, h9⟩ := HG.out.pu; exact ⟨c', A', l9, by go_num, rfl, Lib.hid (by rw [HPT.out]; exact h9)⟩
          obtain ⟨d3, B4, l3, rfl, rfl, HP3⟩ := hcut
          clear c2 c4 e3 e4
          go_wp2_with fail
          go_roundw
          case rel => exact ⟨j + 1, a2 + 1, d3, B4, l3, by omega, by go_num, by go_num, by omega, Lib.hid (by have := HA2.out; omega), HP3⟩
          case measure => simp [RowKit.intOf]; omega
        · have hjn : j = n1 := by omega
          have zj : decide ((j : Int) < (n1 : Int)) = false := decide_eq_false (by omega)
          have HJN := Lib.hid hjn
          have hAo : At wo wr := HP.out.op.at_
          obtain ⟨hpe1, hpe2, hpe3⟩ := HP.out.elem (F := fun g => ob (.slice B2 i d) g ∨ g = q4 ∨ g = q6) HTO.out.far
          have c0 := (cell_at HP.out.bx 0).trans rfl
          have c1 := (cell_at HP.out.bx 1).trans rfl
          have HTR := Lib.hid (HTO.out.on hAo)
          have HBR := Lib.hid (And.intro (HBO.out.1.on hAo) (HBO.out.2.on hAo))
          obtain ⟨u0, u1⟩ := HTR.out.bx.cells
          obtain ⟨wy, hwy⟩ : ∃ wy, wr.alloc (.cells #[.int .i64 T, .slice B3 j d2] 44) = wy := ⟨_, rfl⟩
          obtain ⟨qy, hqy⟩ : ∃ q, wr.heap.size = q := ⟨_, rfl⟩
          have hAy : At wr wy := by rw [← hwy]; exact (At.start wr).alloc _
          have HAY := Lib.hid hAy
          have HQY : Hid (wy.heap[qy]? = some (.cells #[.int .i64 T, .slice B3 j d2] 44 (0, 0))) := Lib.hid (by rw [← hwy, ← hqy]; exact heap_alloc_new wr _)
          have HOY := Lib.hid (HTR.out.op.on (kT.x _) hAy)
          have HLJ : Hid (((P.drop a).take j).length = j) := Lib.hid hpe2.symm
          have HLL : Hid (l.length = i) := Lib.hid (by
            obtain ⟨A2, c2, he2, _, _, _⟩ := HTO.out.op.form
            injection he2 with _ e2 _
            exact e2.symm)
          have HEL : Hid (gx (fun j => j = q4 ∨ j = q6) tgd (ob (.slice B2 i d)) wy ((T, (P.drop a).take j), B3, d2)) := Lib.hid (PVf.mv hpe1 (Mv.of_below _ hAy))
          have hi6 : i + 1 ≤ 1000000 := by omega
          clear hAo hpe1 hpe2 hpe3 hAy hjn
          go_wp2_with (at_builtin; refine Ow.append (kT.x _) rfl HOY.out (.tmp 117) (.tmp 119) rfl i 1 (i + 1) HLL.out rfl (some ⟨qy, 0, none⟩) 1 [((T, (P.drop a).take j), B3, d2)] rfl (fun x hx => by rw [List.mem_singleton.1 hx]; exact HEL.out) rfl (fun h => by cases h) (one_kept (vs := #[.int .i64 T, .slice B3 j d2]) (by show [_, Value.slice _ ((P.drop a).take j).length _] = _; rw [HLJ.out]) HQY.out) rfl hi6 ?_; intro A' c' w' HG; have HBK := Lib.hid (HTR.out.kept HAY.out HG.out); obtain ⟨t0, t1⟩ := HBK.out.cells; have f1 := HBK.out.free 1)
          go_roundw
          case rel =>
            have h1 := HTR.out.step HAY.out HG.out HP.out.newp
            have h2 := HTR.out.others HAY.out HG.out HBR.out.1 HBR.out.2 HQ6.out
            have h3 := HJ.out.2.step (t' := T) (n := j) (by rw [HNL.out]; exact hlt) (by rw [← HN1.out]; exact HJN.out.symm) (by rw [HM.out, ← HJ.out.1]; omega) HTM2.out
            refine ⟨i + 1, a2, c', T, A', _, _, by omega, by go_num, rfl, rfl, hT0, by omega, ha2, Lib.hid ⟨?_, ?_⟩, Lib.hid h1, Lib.hid h2⟩
            · rw [tot_app, ← HJ.out.1, HA2.out]
              show a + j = a + (((P.drop a).take j).length + 0)
              rw [HLJ.out]; rfl
            · have h4 := HJ.out.1
              rw [← h4] at h3
              exact h3
          case measure => simp [RowKit.intOf]; omega
    · have hik : i = k := by omega
      have HIK := Lib.hid hik
      have zk : decide ((i : Int) < (k : Int)) = false := decide_eq_false (by omega)
      have zk2 : decide (i < k) = false := decide_eq_false hlt
      obtain ⟨A', n', c', he', hn', hb', hA', htv'⟩ := HT.out.fin HBB.out.2
      injection he' with e1 e2 e3
      subst e1
      have HF := Lib.hid hb'
      have HFA := Lib.hid (And.intro hA' htv')
      have HJK : Hid (Jr (f : Int) P ((B.drop 9).take (2 * k)) (B.drop (9 + 2 * k)) (B.drop (9 + 2 * k)).length Ts t) := Lib.hid (by rw [HNL.out, ← hik]; exact hik ▸ HJ.out.2)
      clear hb' hA' htv' hn' e2 e3 hik
      obtain ⟨u0, u1⟩ := HT.out.bx.cells
      obtain ⟨y0, y1⟩ := HBB.out.2.cells
      have fr0 := HBB.out.2.free 0
      have fr1 := HBB.out.2.free 1
      by_cases hma : a = m
      · have z6 : ((a : Int) == (m : Int)) = true := by simp; omega
        clear hma
        go_wp2_with fail
        (try rw [Exit.noGoto_ret])
        (try simp only [Exit.inBlock, Exit.then])
        refine bodyPost_ret (results_bb rfl _ _ q4 s _ rfl HF.out) rfl ?_
        exact ⟨Ts, _, i, _, true, rfl, HJ.out.2.len, by omega, HJ.out.2.le, HJ.out.2.pp, HFA.out.2, HFA.out.1, fun s' L hk hd hp => ⟨rfl, HJK.out.all L (HOF.out s' L hk hd hp).2.2.2⟩⟩
      · have z6 : ((a : Int) == (m : Int)) = false := by simp; omega
        have HNO : Hid (∀ s' L, Bk s' L → bd L = B → ¬ fla L = P) := Lib.hid fun s' L hb hd hp => by
          obtain ⟨h1, h2, h3, h4⟩ := HOF.out s' L hb hd hp
          exact HJK.out.rest (by rw [HM.out, ← HJ.out.1]; exact hma) L h4
        clear hma
        go_wp2_with fail
        (try rw [Exit.noGoto_ret])
        (try simp only [Exit.inBlock, Exit.then])
        refine bodyPost_ret (results_bb rfl _ _ q4 s _ rfl HF.out) rfl ?_
        exact ⟨Ts, _, i, _, false, rfl, HJ.out.2.len, by omega, HJ.out.2.le, HJ.out.2.pp, HFA.out.2, HFA.out.1, fun s' L hk hd hp => absurd hp (HNO.out s' L hk hd)⟩

end Go.Proofs.Ytgmekkenodiclaa
