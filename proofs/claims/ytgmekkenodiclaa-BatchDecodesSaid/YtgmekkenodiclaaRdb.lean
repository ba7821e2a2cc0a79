/- Proved: what the document's own reading of a batch answers. -/
import Derived.Test.YtgmekkenodiclaaRdp
import Derived.Test.YtgmekkenodiclaaRmk
import Derived.Test.YtgmekkenodiclaaSb
namespace Go.Proofs.Ytgmekkenodiclaa
open Go.RowKit
attribute [local go_sem ↓] Go.wp_at_zero Go.wp_at_succ

/-- What is known of a block that goes on. -/
structure Gd (R : List (List Nat)) (P : List Nat) (wr wx : World) (kd : Int) (en_ sn ln : Nat) (AD : Option Addr) (nD cD : Nat) : Prop where
  n : P.length = 64
  g : Good P
  k : kd = (fk P : Int)
  e : fe P = en_
  s : fs P = sn
  l : fl P = ln
  bl : (fb P).length = nD
  cap : nD ≤ cD
  new : ∀ a, AD = some a → wr.heap.size ≤ a.block
  bv : BV wx AD (fb P)
  e0 : fe (R.getD 0 rz) = en_
  s0 : fs (R.getD 0 rz) = sn
theorem Gd.dt {R : List (List Nat)} {P : List Nat} {wr wx : World} {kd : Int} {en_ sn ln : Nat} {AD : Option Addr} {nD cD : Nat} (h : Gd R P wr wx kd en_ sn ln AD nD cD) {j : Nat} (hj : kd = (j : Int)) : Dt j (fe (R.getD 0 rz)) (fs (R.getD 0 rz)) P :=
  ⟨h.n, h.g, by have := h.k; omega, h.e.trans h.e0.symm, h.s.trans h.s0.symm⟩

set_option maxHeartbeats 8000000 in
set_option maxRecDepth 100000 in
theorem rdecodeb_any (A : Option Addr) (R : List (List Nat)) (n c : Nat) (hn : R.length = n) (hn2 : n ≤ 60) (hB : ∀ r ∈ R, AllB r) (w : World) (hv : RV w A R) :
    Calls Try.prog 11 #[.slice A n c] w (RecP R w) := by
  have HN := Lib.hid hn
  have HV := Lib.hid hv
  have HB := Lib.hid hB
  obtain ⟨r, hr⟩ : ∃ r, w.heap.size = r := ⟨_, rfl⟩
  obtain ⟨w1, hw1⟩ : ∃ w1, w.alloc (.cells #[.int .i64 0, .slice none 0 0] 27) = w1 := ⟨_, rfl⟩
  have HA1 : Hid (At w w1) := Lib.hid (by rw [← hw1]; exact (At.start w).alloc _)
  have HBB : Hid (Bb w1 r 0 (.slice none 0 0)) := Lib.hid (by rw [← hw1, ← hr]; exact bb_new _ _ _)
  have HWS : Hid (w.heap.size ≤ r) := Lib.hid (Nat.le_of_eq hr)
  have HX13 : Hid (∀ w', At w w' → ((∀ e s L, ¬ Rok R e s L) ∧ ¬ Dk R n) → RecP R w (.returned (.tuple #[.agg #[.int .i64 0, .slice none 0 0], .int .i64 0, .int .i64 0, .int .i64 13])) w') := Lib.hid fun w' hA h => ⟨hA, Or.inr (Or.inr ⟨h.1, by rw [HN.out]; exact h.2, rfl⟩)⟩
  clear hn hv hB
  go_enter Try.func11, Try.ntmps11
  go_wp2_with fail
  go_loopw [6, 7] (fun c6 c7 wr => ∃ (i d : Nat) (B : Option Addr) (l : List Bl), i ≤ n ∧ c7 = .int .i64 (i : Int) ∧ c6 = .slice B i d ∧ Hid (Dr w wr r R i B d l)) (fun _ c7 _ => n - (RowKit.intOf c7).toNat)
  case atStart => exact ⟨0, 0, none, [], Nat.zero_le _, rfl, rfl, Lib.hid (Dr.new R HBB.out HA1.out)⟩
  case round =>
    clear hw1 hr
    obtain ⟨i, d, B, l, hi, rfl, rfl, HD⟩ := hrel
    have HAW : Hid (At w wr) := Lib.hid HD.out.op.at_
    by_cases hlt : i < n
    · have hkR : i < R.length := by rw [HN.out]; exact hlt
      obtain ⟨ga, o, rfl, hg, hc⟩ := (HV.out.on HAW.out).pos (by omega)
      obtain ⟨Br, cr, k1, hcr, hbv⟩ := hc i hkR
      obtain ⟨P, hP⟩ : ∃ P, P = R.getD i rz := ⟨_, rfl⟩
      have hP' : R.getD i [] = P := hP.symm
      rw [hP'] at k1 hcr hbv
      obtain ⟨m, hm⟩ : ∃ m, P.length = m := ⟨_, rfl⟩
      rw [hm] at k1 hcr
      have HPB : Hid (AllB P) := Lib.hid (by rw [hP]; exact HB.out _ (row_mem hkR))
      have HROW := Lib.hid (rrow_any Br P m cr hm HPB.out hcr wr hbv)
      have HPP := Lib.hid hP
      have HIR := Lib.hid hkR
      have HBAD : Hid (¬ Dt 1 (fe (R.getD 0 rz)) (fs (R.getD 0 rz)) P → ¬ Dt 2 (fe (R.getD 0 rz)) (fs (R.getD 0 rz)) P → (∀ e s L, ¬ Rok R e s L) ∧ ¬ Dk R n) := Lib.hid fun h1 h2 => by
        rw [hP] at h1 h2
        have := bad_of HD.out.dk hkR h1 h2
        rwa [HN.out] at this
      have g1 : (0 : Int) ≤ (i : Int) := by omega
      have g2 : (i : Int) < (n : Int) := by omega
      clear hc hg hcr hbv hP hP' hm hkR
      go_wp2_with fail
      refine HROW.out.mono ?_
      rintro x w4 ⟨kd, e, s, lb, AD, nD, cD, wv, rfl, hA4, hcs⟩
      obtain ⟨wx, hwx⟩ : ∃ wx, w4.alloc (.cells #[.int .i64 kd, .int .i64 e, .int .i64 s, .int .i64 lb, .slice AD nD cD] 63) = wx := ⟨_, rfl⟩
      obtain ⟨qx, hqx⟩ : ∃ q, w4.heap.size = q := ⟨_, rfl⟩
      have hA4x : At w4 wx := by rw [← hwx]; exact (At.start w4).alloc _
      have HAX : Hid (At wr wx) := Lib.hid (At.next hA4 hA4x)
      have HXB : Hid (Bx wx qx 63 kd e s lb (.slice AD nD cD)) := Lib.hid (by rw [← hwx, ← hqx]; exact bx_new _ _ _ _ _ _ _)
      have HQX : Hid (wr.heap.size ≤ qx) := Lib.hid (by rw [← hqx]; exact hA4.size)
      have HCS : Hid ((wv = 0 ∧ P.length = 64 ∧ Good P ∧ kd = (fk P : Int) ∧ e = (fe P : Int) ∧ s = (fs P : Int) ∧ lb = (fl P : Int) ∧ (fb P).length = nD ∧ nD ≤ cD ∧ (∀ a, AD = some a → wr.heap.size ≤ a.block) ∧ BV wx AD (fb P)) ∨ (wv ≠ 0 ∧ ¬ (P.length = 64 ∧ Good P))) := Lib.hid (by
        rcases hcs with ⟨a1, a2, a3, a4, a5, a6, a7, a8, a9, a11, a10⟩ | h
        · exact Or.inl ⟨a1, a2, a3, a4, a5, a6, a7, a8, a9, a11, a10.below hA4x⟩
        · exact Or.inr h)
      have HDX := Lib.hid (HD.out.on HAX.out)
      have HRQ : Hid (r < qx) := Lib.hid (by have h1 := lt_heap HD.out.bb; have h2 := HQX.out; omega)
      obtain ⟨x0, x1, x2, x3, x4⟩ := HXB.out.cells
      clear hA4 hA4x hcs
      go_wp2_with fail
      clear hwx hqx
      go_cut [62] from 29 to 62 (fun c62 wz => ∃ b, c62 = .bool b ∧ Hid (At wx wz) ∧ ((b = true ∧ Hid (¬ Dt 1 (fe (R.getD 0 rz)) (fs (R.getD 0 rz)) P ∧ ¬ Dt 2 (fe (R.getD 0 rz)) (fs (R.getD 0 rz)) P)) ∨ (b = false ∧ ∃ en_ sn ln : Nat, e = (en_ : Int) ∧ s = (sn : Int) ∧ lb = (ln : Int) ∧ (kd = 1 ∨ kd = 2) ∧ Hid (Gd R P wr wx kd en_ sn ln AD nD cD))))
      case first =>
        have HZ : Hid (∀ z, At wx (wx.drewN z)) := Lib.hid fun z => (At.start wx).drewN z
        by_cases hwv : wv = 0
        rotate_left
        · have z1 : (wv != 0) = true := by simp [hwv]
          have HNO : Hid (¬ (P.length = 64 ∧ Good P)) := Lib.hid (by
            rcases HCS.out with h | h
            · exact absurd h.1 hwv
            · exact h.2)
          clear hwv
          go_quiet (fail)
          go_wp2_with fail
          go_meet
          case rel => exact ⟨true, rfl, Lib.hid (HZ.out _), Or.inl ⟨rfl, Lib.hid ⟨fun h => HNO.out ⟨h.n, h.g⟩, fun h => HNO.out ⟨h.n, h.g⟩⟩⟩⟩
        have z1 : (wv != 0) = false := by simp [hwv]
        have HG : Hid (P.length = 64 ∧ Good P ∧ kd = (fk P : Int) ∧ e = (fe P : Int) ∧ s = (fs P : Int) ∧ lb = (fl P : Int) ∧ (fb P).length = nD ∧ nD ≤ cD ∧ (∀ a, AD = some a → wr.heap.size ≤ a.block) ∧ BV wx AD (fb P)) := Lib.hid (by
          rcases HCS.out with ⟨_, a2, a3, a4, a5, a6, a7, a8, a9, a11, a10⟩ | h
          · exact ⟨a2, a3, a4, a5, a6, a7, a8, a9, a11, a10⟩
          · exact absurd hwv h.1)
        clear hwv
        have HNK : Hid (∀ j : Nat, kd ≠ (j : Int) → ¬ Dt j (fe (R.getD 0 rz)) (fs (R.getD 0 rz)) P) := Lib.hid fun j hj hd => hj (by rw [HG.out.2.2.1, hd.k])
        by_cases hk12 : kd = 1 ∨ kd = 2
        rotate_left
        · have z2 : (kd != 1) = true := by simp; intro h; exact hk12 (Or.inl h)
          have z3 : (kd != 2) = true := by simp; intro h; exact hk12 (Or.inr h)
          have HBB : Hid (¬ Dt 1 (fe (R.getD 0 rz)) (fs (R.getD 0 rz)) P ∧ ¬ Dt 2 (fe (R.getD 0 rz)) (fs (R.getD 0 rz)) P) := Lib.hid ⟨HNK.out 1 fun h => hk12 (Or.inl h), HNK.out 2 fun h => hk12 (Or.inr h)⟩
          clear hk12
          go_quiet (fail)
          go_wp2_with fail
          go_meet
          case rel => exact ⟨true, rfl, Lib.hid (HZ.out _), Or.inl ⟨rfl, HBB⟩⟩
        have HOK : Hid (e = (fe (R.getD 0 rz) : Int) → s = (fs (R.getD 0 rz) : Int) → ∃ en_ sn ln : Nat, e = (en_ : Int) ∧ s = (sn : Int) ∧ lb = (ln : Int) ∧ (kd = 1 ∨ kd = 2) ∧ Hid (Gd R P wr wx kd en_ sn ln AD nD cD)) := Lib.hid fun h1 h2 => by
          obtain ⟨a2, a3, a4, a5, a6, a7, a8, a9, a11, a10⟩ := HG.out
          exact ⟨fe P, fs P, fl P, a5, a6, a7, hk12, Lib.hid ⟨a2, a3, a4, rfl, rfl, rfl, a8, a9, a11, a10, by omega, by omega⟩⟩
        have HNE : Hid (¬ (e = (fe (R.getD 0 rz) : Int) ∧ s = (fs (R.getD 0 rz) : Int)) → ¬ Dt 1 (fe (R.getD 0 rz)) (fs (R.getD 0 rz)) P ∧ ¬ Dt 2 (fe (R.getD 0 rz)) (fs (R.getD 0 rz)) P) := Lib.hid fun h => by
          obtain ⟨a2, a3, a4, a5, a6, _⟩ := HG.out
          exact ⟨fun hd => h ⟨by rw [a5, hd.e], by rw [a6, hd.s]⟩, fun hd => h ⟨by rw [a5, hd.e], by rw [a6, hd.s]⟩⟩
        by_cases hi0 : i = 0
        · have HP0 : Hid (e = (fe (R.getD 0 rz) : Int) ∧ s = (fs (R.getD 0 rz) : Int)) := Lib.hid (by
            have h1 := HPP.out
            rw [hi0] at h1
            rw [← h1]
            exact ⟨HG.out.2.2.2.1, HG.out.2.2.2.2.1⟩)
          have z4 : decide ((0 : Int) < (i : Int)) = false := decide_eq_false (by omega)
          have z4b : decide (0 < i) = false := decide_eq_false (by omega)
          clear hi0
          rcases hk12 with rfl | rfl
          all_goals
            go_quiet (fail)
            go_wp2_with fail
            go_meet
            case rel => exact ⟨false, rfl, Lib.hid (HZ.out _), Or.inr ⟨rfl, HOK.out HP0.out.1 HP0.out.2⟩⟩
        have z4 : decide ((0 : Int) < (i : Int)) = true := decide_eq_true (by omega)
        have z4b : decide (0 < i) = true := decide_eq_true (by omega)
        obtain ⟨gB, rfl, hfc⟩ := HDX.out.first (by omega)
        obtain ⟨m1, m2⟩ := hfc wx (At.start wx)
        obtain ⟨e0, he0⟩ : ∃ x, x = fe (R.getD 0 rz) := ⟨_, rfl⟩
        obtain ⟨s0, hs0⟩ : ∃ x, x = fs (R.getD 0 rz) := ⟨_, rfl⟩
        rw [← he0] at m1
        rw [← hs0] at m2
        have HES := Lib.hid (And.intro he0 hs0)
        have g3 : (0 : Int) < (i : Int) := by omega
        clear hfc he0 hs0 hi0
        by_cases h1 : e = (e0 : Int)
        rotate_left
        · have z5 : (e != (e0 : Int)) = true := by simp [h1]
          have HBB : Hid (¬ Dt 1 (fe (R.getD 0 rz)) (fs (R.getD 0 rz)) P ∧ ¬ Dt 2 (fe (R.getD 0 rz)) (fs (R.getD 0 rz)) P) := Lib.hid (HNE.out fun h => h1 (by rw [h.1, HES.out.1]))
          clear h1
          rcases hk12 with rfl | rfl
          all_goals
            go_quiet (fail)
            go_wp2_with fail
            go_meet
            case rel => exact ⟨true, rfl, Lib.hid (HZ.out _), Or.inl ⟨rfl, HBB⟩⟩
        have z5 : (e != (e0 : Int)) = false := by simp [h1]
        have H1 := Lib.hid h1
        clear h1
        by_cases h2 : s = (s0 : Int)
        rotate_left
        · have z6 : (s != (s0 : Int)) = true := by simp [h2]
          have HBB : Hid (¬ Dt 1 (fe (R.getD 0 rz)) (fs (R.getD 0 rz)) P ∧ ¬ Dt 2 (fe (R.getD 0 rz)) (fs (R.getD 0 rz)) P) := Lib.hid (HNE.out fun h => h2 (by rw [h.2, HES.out.2]))
          clear h2
          rcases hk12 with rfl | rfl
          all_goals
            go_quiet (fail)
            go_wp2_with fail
            go_meet
            case rel => exact ⟨true, rfl, Lib.hid (HZ.out _), Or.inl ⟨rfl, HBB⟩⟩
        have z6 : (s != (s0 : Int)) = false := by simp [h2]
        have HOK2 := Lib.hid (HOK.out (by rw [H1.out, HES.out.1]) (by rw [h2, HES.out.2]))
        clear h2
        rcases hk12 with rfl | rfl
        all_goals
          go_quiet (fail)
          go_wp2_with fail
          go_meet
          case rel => exact ⟨false, rfl, Lib.hid (HZ.out _), Or.inr ⟨rfl, HOK2.out⟩⟩
      clear x0 x1 x2 x3 x4
      obtain ⟨b, rfl, HAZ, ⟨rfl, HNB⟩ | ⟨rfl, en_, sn, ln, rfl, rfl, rfl, hk12, HG⟩⟩ := hcut
      · obtain ⟨y0, y1⟩ := (HDX.out.bb.on HAZ.out).cells
        have fr0 := (HDX.out.bb.on HAZ.out).free 0
        have fr1 := (HDX.out.bb.on HAZ.out).free 1
        have HF := Lib.hid ((HDX.out.bb.on HAZ.out).fin (HAW.out.next (HAX.out.next HAZ.out)) HWS.out 0 (.slice none 0 0))
        go_wp2_with fail
        (try rw [Exit.noGoto_ret])
        (try simp only [Exit.inBlock, Exit.then])
        refine bodyPost_ret (results_batch rfl _ _ r 0 (.slice none 0 0) rfl HF.out.1) rfl ?_
        exact HX13.out _ HF.out.2.1 (HBAD.out HNB.out.1 HNB.out.2)
      · have HDZ := Lib.hid (HDX.out.on HAZ.out)
        have HXZ := Lib.hid (HXB.out.on HAZ.out)
        obtain ⟨x0, x1, x2, x3, x4⟩ := HXZ.out.cells
        rcases hk12 with rfl | rfl
        · obtain ⟨wy, hwy⟩ : ∃ wy, wc.alloc (.cells #[.int .i64 1, .int .i64 (en_ : Int), .int .i64 (sn : Int), .int .i64 (ln : Int), .slice AD nD cD] 63) = wy := ⟨_, rfl⟩
          obtain ⟨qy, hqy⟩ : ∃ q, wc.heap.size = q := ⟨_, rfl⟩
          have hAy : At wc wy := by rw [← hwy]; exact (At.start wc).alloc _
          have HQY : Hid (wy.heap[qy]? = some (.cells #[.int .i64 1, .int .i64 (en_ : Int), .int .i64 (sn : Int), .int .i64 (ln : Int), .slice AD nD cD] 63 (0, 0))) := Lib.hid (by rw [← hwy, ← hqy]; exact heap_alloc_new wc _)
          have HOY := Lib.hid (HDZ.out.op.on kS hAy)
          have HBY : Hid (bgd (ob (.slice B i d)) wy ((1, (en_ : Int), (sn : Int), (ln : Int)), fb P, AD, cD)) := Lib.hid (new_bvo HD.out.op HG.out.new (HG.out.bv.below (HAZ.out.next hAy)))
          have HYY := Lib.hid hAy
          have hi6 : i + 1 ≤ 1000000 := by omega
          have HLN : Hid (l.length = i) := Lib.hid HD.out.len.1
          clear hAy
          go_wp2_with (at_builtin; refine Ow.append kS rfl HOY.out (.tmp 67) (.tmp 69) rfl i 1 (i + 1) HLN.out rfl (some ⟨qy, 0, none⟩) 1 [((1, (en_ : Int), (sn : Int), (ln : Int)), fb P, AD, cD)] rfl (fun x hx => by rw [List.mem_singleton.1 hx]; exact HBY.out) rfl (fun h => by cases h) (one_kept (vs := #[.int .i64 1, .int .i64 (en_ : Int), .int .i64 (sn : Int), .int .i64 (ln : Int), .slice AD nD cD]) (by show [_, _, _, _, Value.slice AD (fb P).length cD] = _; rw [HG.out.bl]) HQY.out) rfl hi6 ?_; intro A' c' w' HG2)
          go_roundw
          case rel => exact ⟨i + 1, c', A', _, by omega, by go_num, rfl, Lib.hid (HDZ.out.step HYY.out HG2.out HIR.out HPP.out (HG.out.dt (j := 1) rfl) (by rw [HG.out.e]) (by rw [HG.out.s]) (by rw [HG.out.l]))⟩
          case measure => simp [RowKit.intOf]; omega
        · have hnD : nD ≤ 40 := by rw [← HG.out.bl, fb_len _ HG.out.n HG.out.g.n]; exact HG.out.g.n
          have hPT : (pts (R.take i)).length = i := by rw [← HDZ.out.ps, List.length_map]; exact HDZ.out.len.1
          have HMD := Lib.hid (made_any 2 (en_ : Int) (sn : Int) (ln : Int) B AD (pts (R.take i)) (fb P) i d nD cD hPT (by omega) (part_byte HPB.out _ _) HG.out.bl HG.out.cap hnD wc HDZ.out.len.2.2 (HG.out.bv.below HAZ.out))
          have HPT := Lib.hid hPT
          clear hPT
          go_wp2_with fail
          refine HMD.out.mono ?_
          rintro x w5 ⟨T, A5, n5, c5, ok, rfl, hTn, hn255, htl, hfl, htv, hA5, hall⟩
          have htl60 : tot T ≤ 60 := by rw [HPT.out] at htl; omega
          have HROKH : Hid (∀ e' s' L', Rok R e' s' L' → tot L' = i ∧ e' = en_ ∧ s' = sn ∧ ok = true ∧ T = L') := Lib.hid fun e' s' L' h => by
            have hk2 : fk (R.getD i rz) = 2 := by rw [← HPP.out]; have := HG.out.k; omega
            obtain ⟨h1, h2, h3, h4, h5⟩ := rok_here h HD.out.dk HIR.out hk2
            rw [← HPP.out] at h4
            obtain ⟨h6, h7⟩ := hall s' L' h.bk h4 h5
            exact ⟨h1, h2.trans HG.out.e0, h3.trans HG.out.s0, h6, h7⟩
          have HND : Hid (¬ Dk R n) := Lib.hid fun h => by
            have h1 := (h i hlt).k
            rw [← HPP.out] at h1
            have := HG.out.k
            omega
          have HPBT : Hid (Pb (fla T)) := Lib.hid (pb_take HB.out hfl)
          have HTN := Lib.hid hTn
          obtain ⟨w6, hw6⟩ : ∃ W, w5.alloc (.cells #[.int .i64 (sn : Int), .slice A5 n5 c5] 27) = W := ⟨_, rfl⟩
          obtain ⟨q6, hq6⟩ : ∃ q, w5.heap.size = q := ⟨_, rfl⟩
          have hA6 : At w5 w6 := by rw [← hw6]; exact (At.start w5).alloc _
          have HB6 : Hid (Bb w6 q6 (sn : Int) (.slice A5 n5 c5)) := Lib.hid (by rw [← hw6, ← hq6]; exact bb_new _ _ _)
          have HBR6 := Lib.hid (HDZ.out.bb.on (hA5.next hA6))
          have HX6 := Lib.hid (HXZ.out.on (hA5.next hA6))
          have HTV6 : Hid (TV w6 A5 T ∧ TVf (fun j => j = r) w6 A5 T) := Lib.hid ⟨htv.1.on hA6, (htv.2 r 0 none 0 0 (lt_heap HDZ.out.bb) (HDZ.out.bb.on hA5)).on hA6⟩
          have HAW6 : Hid (At w w6) := Lib.hid (HAW.out.next (HAX.out.next (HAZ.out.next (hA5.next hA6))))
          have HF6 := Lib.hid (HBR6.out.fin HAW6.out HWS.out 0 (.slice none 0 0))
          clear x0 x1 x2 x3 x4 hTn htl hfl htv hA5 hall hA6
          obtain ⟨y0, y1⟩ := HBR6.out.cells
          have fr0 := HBR6.out.free 0
          have fr1 := HBR6.out.free 1
          obtain ⟨b0, b1⟩ := HB6.out.cells
          obtain ⟨x0, x1, x2, x3, x4⟩ := HX6.out.cells
          cases ok
          · go_wp2_with fail
            (try rw [Exit.noGoto_ret])
            (try simp only [Exit.inBlock, Exit.then])
            refine bodyPost_ret (results_batch rfl _ _ r 0 (.slice none 0 0) rfl HF6.out.1) rfl ?_
            exact HX13.out _ HF6.out.2.1 ⟨(fun e' s' L' h => by have := (HROKH.out e' s' L' h).2.2.2.1; cases this), HND.out⟩
          clear HF6
          by_cases hbk : Bk (sn : Int) T
          rotate_left
          · have HEN := Lib.hid (reb_no (sn : Int) (en_ : Int) A5 T n5 c5 HTN.out (by omega) (by omega) (fun h => hbk h.1) w6 HTV6.out.1)
            have HNO : Hid ((∀ e s L, ¬ Rok R e s L) ∧ ¬ Dk R n) := Lib.hid ⟨fun e' s' L' h => hbk (by obtain ⟨_, _, h3, _, h5⟩ := HROKH.out e' s' L' h; rw [h5, ← h3]; exact h.bk), HND.out⟩
            clear hbk
            go_wp2_with fail
            refine HEN.out.mono ?_
            rintro x w7 ⟨rfl, hA7⟩
            have HF7 := Lib.hid ((HBR6.out.on hA7).fin (HAW6.out.next hA7) HWS.out 0 (.slice none 0 0))
            clear y0 y1 fr0 fr1 b0 b1 x0 x1 x2 x3 x4
            obtain ⟨y0, y1⟩ := (HBR6.out.on hA7).cells
            have fr0 := (HBR6.out.on hA7).free 0
            have fr1 := (HBR6.out.on hA7).free 1
            clear hA7
            go_wp2_with fail
            (try rw [Exit.noGoto_ret])
            (try simp only [Exit.inBlock, Exit.then])
            refine bodyPost_ret (results_batch rfl _ _ r 0 (.slice none 0 0) rfl HF7.out.1) rfl ?_
            exact HX13.out _ HF7.out.2.1 HNO.out
          have HE32 : Hid (en_ < 4294967296) := Lib.hid (by rw [← HG.out.e]; exact (good_may HG.out.n HPB.out HG.out.g).e32)
          obtain ⟨t, htt⟩ : ∃ t, tot T + 1 = t := ⟨_, rfl⟩
          have HEN := Lib.hid (reb_yes sn en_ A5 T n5 c5 HTN.out hbk HPBT.out HE32.out t htt w6 HTV6.out.1)
          have HBK := Lib.hid hbk
          have HTT := Lib.hid htt
          have ht61 : t ≤ 61 := by omega
          clear hbk htt
          go_wp2_with fail
          refine HEN.out.mono ?_
          rintro x w8 ⟨B8, d8, l8, rfl, hl8, hm8, ho8⟩
          have HA68 : Hid (At w6 w8) := Lib.hid ho8.at_
          have HRV : Hid (RV w8 B8 (eb en_ sn T)) := Lib.hid (by
            obtain ⟨A9, c9, he9, _, _, hrv⟩ := OR.rv ho8
            injection he9 with e1 e2 e3
            rw [hm8] at hrv
            rw [e1]; exact hrv)
          have HB8 := Lib.hid (HB6.out.on HA68.out)
          have HBR8 := Lib.hid (HBR6.out.on HA68.out)
          have HX8 := Lib.hid (HX6.out.on HA68.out)
          have HAW8 := Lib.hid (HAW6.out.next HA68.out)
          clear y0 y1 fr0 fr1 b0 b1 x0 x1 x2 x3 x4 hl8 hm8 ho8
          by_cases hti : t = i + 1
          rotate_left
          · have z7 : ((t : Int) != (i : Int) + 1) = true := by simp; omega
            have HNO : Hid ((∀ e s L, ¬ Rok R e s L) ∧ ¬ Dk R n) := Lib.hid ⟨fun e' s' L' h => hti (by obtain ⟨h1, _, _, _, h5⟩ := HROKH.out e' s' L' h; rw [← HTT.out, h5, h1]), HND.out⟩
            have HF8 := Lib.hid (HBR8.out.fin HAW8.out HWS.out 0 (.slice none 0 0))
            obtain ⟨y0, y1⟩ := HBR8.out.cells
            have fr0 := HBR8.out.free 0
            have fr1 := HBR8.out.free 1
            clear hti
            go_wp2_with fail
            (try rw [Exit.noGoto_ret])
            (try simp only [Exit.inBlock, Exit.then])
            refine bodyPost_ret (results_batch rfl _ _ r 0 (.slice none 0 0) rfl HF8.out.1) rfl ?_
            exact HX13.out _ HF8.out.2.1 HNO.out
          have z7 : ((t : Int) != (i : Int) + 1) = false := by simp; omega
          have HTI := Lib.hid hti
          have HIN : Hid (i < n) := Lib.hid hlt
          clear hti
          go_wp2_with fail
          go_loopw [14] (fun c14 wr => ∃ k : Nat, k ≤ i + 1 ∧ c14 = .int .i64 (k : Int) ∧ Hid (At w8 wr) ∧ Hid (∀ j, j < k → R.getD j rz = (eb en_ sn T).getD j rz)) (fun c14 _ => i + 1 - (RowKit.intOf c14).toNat)
          case atStart => exact ⟨0, Nat.zero_le _, rfl, Lib.hid (At.start _), Lib.hid fun j hj => absurd hj (Nat.not_lt_zero j)⟩
          case round =>
            clear z7
            obtain ⟨k, hk, rfl, HAK, HEQ⟩ := hrel
            have HBRK := Lib.hid (HBR8.out.on HAK.out)
            have HAWK := Lib.hid (HAW8.out.next HAK.out)
            obtain ⟨y0, y1⟩ := HBRK.out.cells
            have fr0 := HBRK.out.free 0
            have fr1 := HBRK.out.free 1
            by_cases hki : k < i + 1
            · have zk : decide ((k : Int) ≤ (i : Int)) = true := decide_eq_true (by omega)
              have zk2 : decide (k ≤ i) = true := decide_eq_true (by omega)
              have hkR : k < R.length := by have := HIR.out; omega
              have hkE : k < (eb en_ sn T).length := by rw [eb_len, HTT.out, HTI.out]; exact hki
              obtain ⟨ga', o', he, _, hc⟩ := (HV.out.on HAWK.out).pos (by omega)
              injection he with he
              injection he with e1 e2
              subst e1 e2
              obtain ⟨B2, c2, k2, hc2, hv2⟩ := hc k hkR
              obtain ⟨g8, o8, rfl, _, hc8⟩ := (HRV.out.on HAK.out).pos (by omega)
              obtain ⟨B1, c1, k1, hc1, hv1⟩ := hc8 k hkE
              obtain ⟨X, hX⟩ : ∃ X, X = (eb en_ sn T).getD k rz := ⟨_, rfl⟩
              obtain ⟨Y, hY⟩ : ∃ Y, Y = R.getD k rz := ⟨_, rfl⟩
              have hX' : (eb en_ sn T).getD k [] = X := hX.symm
              have hY' : R.getD k [] = Y := hY.symm
              rw [hX'] at k1 hc1 hv1
              rw [hY'] at k2 hc2 hv2
              have hXr := eb_row HBK.out HPBT.out HE32.out X (by rw [hX]; exact row_mem hkE)
              have hYB : AllB Y := by rw [hY]; exact HB.out _ (row_mem hkR)
              have hY64 : Y.length = 64 := by
                by_cases hkk : k = i
                · rw [hY, hkk, ← HPP.out]; exact HG.out.n
                · rw [hY]; exact (HD.out.dk k (by omega)).n
              rw [hXr.1] at k1 hc1
              rw [hY64] at k2 hc2
              have cv1 : ∀ j, (convert 39 9 (.slice B1 64 c1)).run Try.prog (wr.drewN j) = .ok (.string (str X)) (wr.drewN j) := fun j => conv_bv (n := 64) (c := c1) (hv1.drewN j) hXr.1 (by omega)
              have cv2 : ∀ j, (convert 39 9 (.slice B2 64 c2)).run Try.prog (wr.drewN j) = .ok (.string (str Y)) (wr.drewN j) := fun j => conv_bv (n := 64) (c := c2) (hv2.drewN j) hY64 (by omega)
              have hs := str_beq hXr.2 hYB
              obtain ⟨S1, hS1⟩ : ∃ S, S = str X := ⟨_, rfl⟩
              obtain ⟨S2, hS2⟩ : ∃ S, S = str Y := ⟨_, rfl⟩
              simp only [← hS1] at cv1
              simp only [← hS2] at cv2
              rw [← hS1, ← hS2] at hs
              have HXX := Lib.hid hX
              have HYY := Lib.hid hY
              have g3 : (0 : Int) ≤ (k : Int) := by omega
              have g4 : (k : Int) < (n : Int) := by have := HIN.out; omega
              have g5 : (k : Int) < (t : Int) := by have := HTI.out; omega
              have HCV := Lib.hid (And.intro cv1 cv2)
              clear hc hc8 hc1 hc2 hv1 hv2 hX hY hX' hY' hXr hYB hY64 hS1 hS2 hkR hkE cv1 cv2
              by_cases hXY : X = Y
              rotate_left
              · rw [decide_eq_false hXY] at hs
                have hs2 : (S1.toList != S2.toList) = true := by rw [bne, hs]; rfl
                have HNO : Hid ((∀ e s L, ¬ Rok R e s L) ∧ ¬ Dk R n) := Lib.hid ⟨fun e' s' L' h => hXY (by
                  obtain ⟨h1, h2, h3, _, h5⟩ := HROKH.out e' s' L' h
                  have h6 := rok_each h (j := k) (by rw [h1]; exact hki)
                  rw [← HYY.out, h2, h3, ← h5, ← HXX.out] at h6
                  exact h6.symm), HND.out⟩
                have HFZ : Hid (∀ z, Bb (((wr.drewN z).setCell ⟨r, 0, none⟩ (.int .i64 0)).setCell ⟨r, 1, none⟩ (.slice none 0 0)) r 0 (.slice none 0 0) ∧ At w (((wr.drewN z).setCell ⟨r, 0, none⟩ (.int .i64 0)).setCell ⟨r, 1, none⟩ (.slice none 0 0))) := Lib.hid fun z => by
                  have h1 := (HBRK.out.on ((At.start wr).drewN z)).fin (HAWK.out.drewN z) HWS.out 0 (.slice none 0 0)
                  exact ⟨h1.1, h1.2.1⟩
                clear hXY
                go_wp2_with fail
                refine wp_region_quiet_lit (by kernel_rfl) (by kernel_rfl) ?_
                repeat (go_big_quiet_step (fail))
                go_big_quiet_want
                refine quiet_conv rfl (.tmp 105) rfl (.slice B1 64 c1) S1 (by kernel_rfl) (fun w' hw' => by obtain ⟨j, rfl⟩ := hw'; exact HCV.out.1 j) ?_
                simp only [Act.put, List.setIfInBounds_toArray, List.set_cons_zero, List.set_cons_succ]
                go_big_quiet_on
                repeat (go_big_quiet_step (fail))
                go_big_quiet_want
                refine quiet_conv rfl (.tmp 110) rfl (.slice B2 64 c2) S2 (by kernel_rfl) (fun w' hw' => by obtain ⟨j, rfl⟩ := hw'; exact HCV.out.2 j) ?_
                simp only [Act.put, List.setIfInBounds_toArray, List.set_cons_zero, List.set_cons_succ]
                go_big_quiet_on
                repeat (go_big_quiet_step (fail))
                refine wpQuiet_nil ?_
                rintro w' ⟨nq, rfl⟩
                go_wp2_with fail
                (try rw [Exit.noGoto_ret])
                (try simp only [Exit.inBlock, Exit.then])
                refine bodyPost_ret (results_batch rfl _ _ r 0 (.slice none 0 0) rfl (HFZ.out _).1) rfl ?_
                exact HX13.out _ (HFZ.out _).2 HNO.out
              · rw [decide_eq_true hXY] at hs
                have hs2 : (S1.toList != S2.toList) = false := by rw [bne, hs]; rfl
                have HXY := Lib.hid hXY
                clear hXY
                have HAKZ : Hid (∀ z, At w8 (wr.drewN z)) := Lib.hid fun z => HAK.out.drewN z
                go_wp2_with fail
                refine wp_region_quiet_lit (by kernel_rfl) (by kernel_rfl) ?_
                repeat (go_big_quiet_step (fail))
                go_big_quiet_want
                refine quiet_conv rfl (.tmp 105) rfl (.slice B1 64 c1) S1 (by kernel_rfl) (fun w' hw' => by obtain ⟨j, rfl⟩ := hw'; exact HCV.out.1 j) ?_
                simp only [Act.put, List.setIfInBounds_toArray, List.set_cons_zero, List.set_cons_succ]
                go_big_quiet_on
                repeat (go_big_quiet_step (fail))
                go_big_quiet_want
                refine quiet_conv rfl (.tmp 110) rfl (.slice B2 64 c2) S2 (by kernel_rfl) (fun w' hw' => by obtain ⟨j, rfl⟩ := hw'; exact HCV.out.2 j) ?_
                simp only [Act.put, List.setIfInBounds_toArray, List.set_cons_zero, List.set_cons_succ]
                go_big_quiet_on
                repeat (go_big_quiet_step (fail))
                refine wpQuiet_nil ?_
                rintro w' ⟨nq, rfl⟩
                go_wp2_with fail
                go_roundw
                case rel => exact ⟨k + 1, by omega, by go_num, Lib.hid (HAKZ.out _), Lib.hid fun j hj => by
                  by_cases hjk : j < k
                  · exact HEQ.out j hjk
                  · obtain rfl : j = k := by omega
                    rw [← HYY.out, ← HXX.out, HXY.out]⟩
                case measure => simp [RowKit.intOf]; omega
            · have hki2 : k = i + 1 := by omega
              have zk : decide ((k : Int) ≤ (i : Int)) = false := decide_eq_false (by omega)
              have zk2 : decide (k ≤ i) = false := decide_eq_false (by omega)
              have HROK : Hid (Rok R en_ sn T) := Lib.hid (rok_eb HBK.out HPBT.out HE32.out (by have := HIR.out; rw [HTT.out, HTI.out]; omega) fun j hj => HEQ.out j (by rw [HTT.out, HTI.out] at hj; omega))
              obtain ⟨b0, b1⟩ := (HB8.out.on HAK.out).cells
              obtain ⟨x0, x1, x2, x3, x4⟩ := (HX8.out.on HAK.out).cells
              have nrq : ¬ r = qx := by have := HRQ.out; omega
              have nqr : ¬ qx = r := by have := HRQ.out; omega
              have HEND : Hid (∀ z, Bb (((wr.drewN z).setCell ⟨r, 0, none⟩ (.int .i64 (sn : Int))).setCell ⟨r, 1, none⟩ (.slice A5 n5 c5)) r (sn : Int) (.slice A5 n5 c5) ∧ RecP R w (.returned (.tuple #[.agg #[.int .i64 (sn : Int), .slice A5 n5 c5], .int .i64 (en_ : Int), .int .i64 ((i : Int) + 1), .int .i64 0])) (((wr.drewN z).setCell ⟨r, 0, none⟩ (.int .i64 (sn : Int))).setCell ⟨r, 1, none⟩ (.slice A5 n5 c5))) := Lib.hid fun z => by
                have h1 := (HBRK.out.on ((At.start wr).drewN z)).fin (HAWK.out.drewN z) HWS.out (sn : Int) (.slice A5 n5 c5)
                have h2 := (HTV6.out.2.on (HA68.out.next (HAK.out.drewN z))).mv h1.2.2
                refine ⟨h1.1, h1.2.1, Or.inl ⟨en_, sn, T, A5, c5, HROK.out, h2.tv, ?_⟩⟩
                rw [HTN.out, HTT.out, HTI.out]
                simp
              clear hki hki2 hk
              go_wp2_with fail
              go_region
              all_goals
                go_wp2_with fail
                (try rw [Exit.noGoto_ret])
                (try simp only [Exit.inBlock, Exit.then])
                refine bodyPost_ret (results_batch rfl _ _ r (sn : Int) (.slice A5 n5 c5) rfl (HEND.out 1).1) rfl ?_
                exact (HEND.out 1).2
    · have hin : i = n := by omega
      have HX14 : Hid (∀ w', At w w' → RecP R w (.returned (.tuple #[.agg #[.int .i64 0, .slice none 0 0], .int .i64 0, .int .i64 0, .int .i64 14])) w') := Lib.hid fun w' hA => ⟨hA, Or.inr (Or.inl ⟨by rw [HN.out, ← hin]; exact HD.out.dk, rfl⟩)⟩
      obtain ⟨y0, y1⟩ := HD.out.bb.cells
      have fr0 := HD.out.bb.free 0
      have fr1 := HD.out.bb.free 1
      have HF := Lib.hid (HD.out.bb.fin HAW.out HWS.out 0 (.slice none 0 0))
      have zi : decide ((i : Int) < (n : Int)) = false := decide_eq_false (by omega)
      have zi2 : decide (i < n) = false := decide_eq_false hlt
      clear hin
      go_wp2_with fail
      (try rw [Exit.noGoto_ret])
      (try simp only [Exit.inBlock, Exit.then])
      refine bodyPost_ret (results_batch rfl _ _ r 0 (.slice none 0 0) rfl HF.out.1) rfl ?_
      exact HX14.out _ HF.out.2.1

end Go.Proofs.Ytgmekkenodiclaa
