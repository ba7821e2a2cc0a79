/- Proved: the law BatchForms answers true at any sizes and leaves what there was as it was: a queue is cut into batches one behind the other, each within its limits, none left over, and none could take one more. -/
import Derived.Test.YtgmekkenodiclaaTs
import Derived.Test.YtgmekkenodiclaaLmt
import Derived.Test.YtgmekkenodiclaaInb
namespace Go.Proofs.Ytgmekkenodiclaa
open Go.RowKit
attribute [local go_sem ↓] Go.wp_at_zero Go.wp_at_succ

/-- The i-th transaction of the queue. -/
def qF (S : List Int) (i : Nat) : Tx := ((i : Int) + 1, mkP (rd (S.getD i 0) 16 + 1))
def qL (S : List Int) (n : Nat) : List Tx := (List.range n).map (qF S)
theorem qL_len (S : List Int) (n : Nat) : (qL S n).length = n := by simp [qL]
theorem qL_at {S : List Int} {n j : Nat} (h : j < n) : (qL S n).getD j txz = qF S j := by
  rw [List.getD_eq_getElem?_getD, qL, List.getElem?_map, List.getElem?_range h]; rfl
theorem qL_more (S : List Int) (n : Nat) : qL S (n + 1) = qL S n ++ [qF S n] := by simp [qL, List.range_succ]
theorem qF_len (S : List Int) (i : Nat) : (qF S i).2.length ≤ 16 := by
  have := rd_lt (S.getD i 0) 16 (by omega)
  simp only [qF, mkP_len]; omega
theorem qL_tot (S : List Int) : ∀ n, tot (qL S n) ≤ 16 * n
  | 0 => by simp [qL, tot]
  | n + 1 => by
    have h1 := qL_tot S n
    have h2 := qF_len S n
    rw [qL_more, tot_app]
    simp only [tot]; omega
theorem tot_drop (L : List Tx) (k : Nat) : tot (L.drop k) ≤ tot L := by
  have := tot_app (L.take k) (L.drop k)
  rw [List.take_append_drop] at this; omega
theorem sub_at {S : List Int} {N u n j : Nat} (hu : u + n ≤ N) (hj : j < n) : (((qL S N).drop u).take n).getD j txz = qF S (u + j) := by
  rw [← qL_at (S := S) (show u + j < N by omega)]
  simp only [List.getD_eq_getElem?_getD, List.getElem?_take, if_pos hj, List.getElem?_drop]
theorem sub_len {S : List Int} {N u n : Nat} (hu : u + n ≤ N) : (((qL S N).drop u).take n).length = n := by
  rw [List.length_take, List.length_drop, qL_len]; omega
theorem sub_mem {S : List Int} {N u n : Nat} (hu : u + n ≤ N) {x : Tx} (h : x ∈ ((qL S N).drop u).take n) : ∃ i, x = qF S i := by
  obtain ⟨j, hj, rfl⟩ := tx_at h
  rw [sub_len hu] at hj
  exact ⟨_, sub_at hu hj⟩
theorem sub_bk {S : List Int} {N u n : Nat} {s : Int} (hN : N ≤ 100) (hu : u + n ≤ N) (h1 : 1 ≤ n) (h8 : n ≤ 8) (ht : tot (((qL S N).drop u).take n) ≤ 32) (s1 : 1 ≤ s) (s2 : s ≤ 1099511627776) : Bk s (((qL S N).drop u).take n) := by
  refine ⟨s1, s2, by rw [sub_len hu]; exact h1, by rw [sub_len hu]; exact h8, ?_, ?_, ht, ?_, ?_, ?_⟩
  · intro j hj
    rw [sub_len hu] at hj
    rw [sub_at hu hj]
    have hla : la (((qL S N).drop u).take n) j ≤ ((u + j : Nat) : Int) := by
      cases j with
      | zero => simp only [la]; omega
      | succ j =>
        show ((((qL S N).drop u).take n).getD j txz).1 ≤ _
        rw [sub_at hu (by omega)]
        simp only [qF]; omega
    refine ⟨by simp only [qF]; omega, by simp only [qF]; omega, ?_, mkP_rs _⟩
    intro e
    have := congrArg List.length e
    simp only [qF, mkP_len] at this
    simp at this
  · intro j hj
    rw [sub_len hu] at hj
    rw [sub_at hu hj, sub_at hu (by omega)]
    simp only [qF]; omega
  · intro x hx; obtain ⟨i, rfl⟩ := sub_mem hu hx; exact qF_len S i
  · intro x hx p hp
    obtain ⟨i, rfl⟩ := sub_mem hu hx
    obtain ⟨j, hj, rfl⟩ := mkP_mem hp
    have := rd_lt (S.getD i 0) 16 (by omega)
    simp only; omega
  · intro x hx p hp
    obtain ⟨i, rfl⟩ := sub_mem hu hx
    obtain ⟨j, hj, rfl⟩ := mkP_mem hp
    exact bk_len _

set_option maxHeartbeats 8000000 in
set_option maxRecDepth 100000 in
theorem forms_any (A0 : Option Addr) (S : List Int) (n c0 : Nat) (hn : S.length = n) (w : World) (hv : ILV w A0 S) : Calls Try.prog 5 #[.slice A0 n c0] w (Gives (.bool true) w) := by
  have HN := Lib.hid hn
  have HV := Lib.hid hv
  have HAW := Lib.hid awake_any
  clear hn hv
  by_cases h100 : 100 < n
  · have z0 : decide (100 < (n : Int)) = true := decide_eq_true (by omega)
    go_enter Try.func5, Try.ntmps5
    go_wp2_with fail
    refine (HAW.out w).mono ?_
    rintro x w1 ⟨rfl, hA⟩
    go_wp2_with fail
    try rw [Exit.noGoto_ret]
    go_ret
    exact ⟨rfl, hA⟩
  have z0 : decide (100 < (n : Int)) = false := decide_eq_false (by omega)
  have n100 : n ≤ 100 := by omega
  go_enter Try.func5, Try.ntmps5
  go_wp2_with fail
  go_loopw [3, 4] (fun c3 c4 wr => ∃ (i d : Nat) (B : Option Addr) (l : List Tl), i ≤ n ∧ c4 = .int .i64 (i : Int) ∧ c3 = .slice B i d ∧ Hid (OT w wr (.slice B i d) l ∧ l.length = i ∧ l.map (·.1) = qL S i)) (fun _ c4 _ => n - (RowKit.intOf c4).toNat)
  case atStart => exact ⟨0, 0, none, [], Nat.zero_le _, rfl, rfl, Lib.hid ⟨Ow.nil w, rfl, rfl⟩⟩
  case round =>
    obtain ⟨i, d, B, l, hi, rfl, rfl, HT⟩ := hrel
    by_cases hlt : i < n
    · obtain ⟨wo, hwo⟩ : ∃ wo, wo = wr := ⟨_, rfl⟩
      obtain ⟨T, hT⟩ : ∃ T : Int, (i : Int) + 1 = T := ⟨_, rfl⟩
      obtain ⟨s, hs⟩ : ∃ s, s = S.getD i 0 := ⟨_, rfl⟩
      obtain ⟨r, hr⟩ : ∃ r, r = rd s 16 := ⟨_, rfl⟩
      have hr16 : r < 16 := by rw [hr]; exact rd_lt _ _ (by omega)
      have HFT : Hid (qF S i = (T, mkP (r + 1))) := Lib.hid (by rw [qF, hT, ← hs, ← hr])
      have HRD : Hid (∀ W, Calls Try.prog 15 #[.int .i64 s, .int .i64 16] W fun e w' => e = .returned (.int .i64 (r : Int)) ∧ W = w') := Lib.hid fun W => by
        rw [hr]; exact round_any s 16 (by omega) (by omega) W
      obtain ⟨ga, o, rfl, hga, hcs⟩ := HV.out.pos (by rw [HN.out]; omega)
      have HSC : Hid (∀ W, At w W → W.cell? ⟨ga, o + i, none⟩ = some (.int .i64 s)) := Lib.hid fun W hW => by
        rw [hs]; exact (Below.cell hW (p := ⟨ga, o + i, none⟩) hga).trans (hcs i (by rw [HN.out]; exact hlt))
      have g1 : (0 : Int) ≤ (i : Int) := by omega
      have g2 : (i : Int) < (n : Int) := by omega
      clear hs hr hga hcs
      go_wp2_with fail
      obtain ⟨qt, hqt⟩ : ∃ q, wr.heap.size = q := ⟨_, rfl⟩
      obtain ⟨wt, hwt⟩ : ∃ wt, wr.alloc (.cells #[.int .i64 T, .slice none 0 0] 44) = wt := ⟨_, rfl⟩
      have HP0 : Hid (Pu wo wt qt T (.slice none 0 0) 0 []) := Lib.hid (by rw [hwo, ← hwt, ← hqt]; exact Pu.new wr T)
      have HTO : Hid (OT w wo (.slice B i d) l ∧ l.length = i ∧ l.map (·.1) = qL S i) := Lib.hid (by rw [hwo]; exact HT.out)
      rw [hwt, hqt]
      clear hwo HT hwt hqt hT
      go_loopw [6] (fun c6 wr => ∃ (k d2 : Nat) (B2 : Option Addr) (l2 : List Pl), k ≤ r + 1 ∧ c6 = .int .i64 (k : Int) ∧ Hid (Pu wo wr qt T (.slice B2 k d2) k l2)) (fun c6 _ => r + 1 - (RowKit.intOf c6).toNat)
      case atStart => exact ⟨0, 0, none, [], Nat.zero_le _, rfl, HP0⟩
      case round =>
        obtain ⟨k, d2, B2, l2, hk, rfl, HP⟩ := hrel
        have HAO : Hid (At w wr) := Lib.hid (HTO.out.1.at_.next HP.out.op.at_)
        have e0 := HSC.out wr HAO.out
        by_cases hlt2 : k < r + 1
        · have HDT := Lib.hid (fun W => data_any (k : Int) W)
          have zk : decide ((k : Int) ≤ (r : Int)) = true := decide_eq_true (by omega)
          have zk2 : decide (k ≤ r) = true := decide_eq_true (by omega)
          have c1 : wr.cell? ⟨qt, 1, none⟩ = some (.slice B2 k d2) := (cell_at HP.out.bx 1).trans rfl
          have HC : Hid (∀ W, At wr W → W.cell? ⟨qt, 1, none⟩ = some (.slice B2 k d2)) := Lib.hid fun W hW => (cell_at (hW.keep HP.out.bx) 1).trans rfl
          have hk6 : k + 1 ≤ 1000000 := by omega
          go_wp2_with fail
          refine (HRD.out wr).mono ?_
          rintro x w' ⟨rfl, rfl⟩
          clear e0
          go_upto_block 3 with fail
          go_cut [40] from 32 to 40 (fun c40 wx => ∃ (d3 : Nat) (B3 : Option Addr) (l3 : List Pl), c40 = .pointer (some ⟨qt, 1, none⟩) ∧ Hid (Pu wo wx qt T (.slice B3 (k + 1) d3) (k + 1) l3))
          case first =>
            go_wp2_with fail
            go_region_law
              (first
                | (go_simp; go_at_call 16; (with_reducible refine (HDT.out _).mono ?_); rintro x w1 ⟨gd, rfl, hgd, hvd, hAd⟩; have HA1 : Hid (At wr w1) := Lib.hid (((At.start wr).drewN 1).next hAd); have HGV := Lib.hid (And.intro hgd hvd); have c2 := HC.out w1 HA1.out; have c4 : (w1.alloc (.cells #[.int .i64 (k : Int), .slice (some ⟨gd, 0, none⟩) 40 40] 47)).cell? ⟨qt, 1, none⟩ = some (.slice B2 k d2) := HC.out _ (HA1.out.alloc _); clear hgd hvd hAd)
                | (refine Pu.append_step HP.out HA1.out HGV.out.1 HGV.out.2 hk6 (by rfl) (.tmp 33) (.tmp 38) (by rfl) (by rfl) (by rfl) ?_; intro A' c' w2 HG; have c3 := HG.out.c1; have f3 := HG.out.f1))
            all_goals
              go_wp2_with fail
              go_meet
              case rel => obtain ⟨l9, h9⟩ := HG.out.pu; exact ⟨c', A', l9, rfl, Lib.hid h9⟩
          obtain ⟨d3, B3, l3, rfl, HP3⟩ := hcut
          go_wp2_with fail
          go_roundw
          case rel => exact ⟨k + 1, d3, B3, l3, by omega, by go_num, HP3⟩
          case measure => simp [RowKit.intOf]; omega
        · have hkr : k = r + 1 := by omega
          have zk : decide ((k : Int) ≤ (r : Int)) = false := decide_eq_false (by omega)
          have HFK : Hid (qF S i = (T, mkP k)) := Lib.hid (by rw [hkr]; exact HFT.out)
          have hAo : At wo wr := HP.out.op.at_
          obtain ⟨hpe1, hpe2, hpe3⟩ := HP.out.elem (F := ob (.slice B i d)) (fun g hg => (HTO.out.1.row.lt g hg).2)
          have c0 := (cell_at HP.out.bx 0).trans rfl
          have c1 := (cell_at HP.out.bx 1).trans rfl
          obtain ⟨wy, hwy⟩ : ∃ wy, wr.alloc (.cells #[.int .i64 T, .slice B2 k d2] 44) = wy := ⟨_, rfl⟩
          obtain ⟨qy, hqy⟩ : ∃ q, wr.heap.size = q := ⟨_, rfl⟩
          have hAy : At wr wy := by rw [← hwy]; exact (At.start wr).alloc _
          have HQY : Hid (wy.heap[qy]? = some (.cells #[.int .i64 T, .slice B2 k d2] 44 (0, 0))) := Lib.hid (by rw [← hwy, ← hqy]; exact heap_alloc_new wr _)
          have HOY := Lib.hid ((HTO.out.1.on kT hAo).on kT hAy)
          have HEL : Hid (tgd (ob (.slice B i d)) wy ((T, mkP k), B2, d2)) := Lib.hid (PVf.mv hpe1 (Mv.of_below _ hAy))
          have hi6 : i + 1 ≤ 1000000 := by omega
          clear hAo hpe1 hpe2 hpe3 hAy hkr
          go_wp2_with fail
          refine (HRD.out wr).mono ?_
          rintro x w' ⟨rfl, rfl⟩
          go_wp2_with (at_builtin; refine Ow.append kT rfl HOY.out (.tmp 41) (.tmp 43) rfl i 1 (i + 1) HTO.out.2.1 rfl (some ⟨qy, 0, none⟩) 1 [((T, mkP k), B2, d2)] rfl (fun x hx => by rw [List.mem_singleton.1 hx]; exact HEL.out) rfl (fun h => by cases h) (one_kept (vs := #[.int .i64 T, .slice B2 k d2]) (by show [_, Value.slice _ (mkP k).length _] = _; rw [mkP_len]) HQY.out) rfl hi6 ?_; intro A' c' w' HG)
          go_roundw
          case rel => exact ⟨i + 1, c', A', _, by omega, by go_num, rfl, Lib.hid ⟨HG.out.ow, by rw [List.length_append, HTO.out.2.1]; rfl, by rw [List.map_append, HTO.out.2.2, qL_more, HFK.out]; rfl⟩⟩
          case measure => simp [RowKit.intOf]; omega
    · have hin : i = n := by omega
      subst hin
      obtain ⟨A9, c9, he9, hcc, hzz, htv⟩ := OT.tv HT.out.1
      injection he9 with e1 e2 e3
      subst e1 e3
      rw [HT.out.2.2] at htv
      rw [HT.out.2.1] at hcc hzz
      clear e2
      have HTV : Hid (TV wr B (qL S i)) := Lib.hid htv
      have HA0 : Hid (At w wr) := Lib.hid HT.out.1.at_
      have HB0 : Hid (i ≤ d ∧ (B = none → i = 0 ∧ d = 0)) := Lib.hid ⟨hcc, hzz⟩
      clear htv hcc hzz HT hlt hi
      go_wp2_with fail
      go_loopw [3, 7] (fun c3 c7 wr => ∃ (u m c : Nat) (s : Int) (X : Option Addr), c3 = .slice X m c ∧ c7 = .int .i64 s ∧ u ≤ i ∧ 1 ≤ s ∧ s ≤ (u : Int) + 1 ∧ Hid (m = i - u ∧ m ≤ c ∧ (X = none → m = 0 ∧ c = 0)) ∧ Hid (TV wr X ((qL S i).drop u)) ∧ Hid (At w wr)) (fun c3 _ _ => match c3 with | .slice _ m _ => m | _ => 0)
      case atStart => exact ⟨0, i, d, 1, B, rfl, rfl, Nat.zero_le _, by omega, by omega, Lib.hid ⟨rfl, HB0.out.1, HB0.out.2⟩, Lib.hid (by rw [List.drop_zero]; exact HTV.out), HA0⟩
      case round =>
        clear HTV HA0 HB0
        obtain ⟨u, m, c, s, X, rfl, rfl, hu, hs1, hs2, HM, HTV, HA⟩ := hrel
        by_cases hm0 : 0 < m
        · have zm : decide ((0 : Int) < (m : Int)) = true := decide_eq_true (by omega)
          have hm100 : m ≤ 100 := by have := HM.out.1; omega
          have hLl : ((qL S i).drop u).length = m := by rw [List.length_drop, qL_len, HM.out.1]
          have hLt : tot ((qL S i).drop u) ≤ 1600 := Nat.le_trans (tot_drop _ _) (Nat.le_trans (qL_tot S i) (by omega))
          have HFO := Lib.hid (form_any X ((qL S i).drop u) m c hLl (by omega) (by omega) wr HTV.out)
          obtain ⟨g, o, rfl, hg, hcl⟩ := HTV.out.pos (by rw [hLl]; exact hm0)
          have HLL := Lib.hid hLl
          have HCL : Hid (∀ W, At wr W → ∀ j, j < m → ∃ Bp cp, W.cell? ⟨g, o + j * 2 + 1, none⟩ = some (.slice Bp (((qL S i).drop u).getD j txz).2.length cp)) := Lib.hid fun W hW j hj => by
            obtain ⟨_, Bp, cp, h2, _⟩ := hcl j (by rw [hLl]; exact hj)
            exact ⟨Bp, cp, (Below.cell hW (p := ⟨g, o + j * 2 + 1, none⟩) hg).trans h2⟩
          clear hg hcl
          go_wp2_with fail
          refine HFO.out.mono ?_
          rintro x w1 ⟨k, rfl, hF, rfl⟩
          have HFM := Lib.hid hF
          have hk1 : 1 ≤ k := hF.one (fun e => by rw [e] at hLl; simp at hLl; omega)
          have hk8 : k ≤ 8 := hF.n8
          have hkm : k ≤ m := by have := hF.le; rw [hLl] at this; exact this
          have huk : u + k ≤ i := by have := HM.out.1; omega
          have ht32 : tot (((qL S i).drop u).take k) ≤ 32 := by
            by_cases h2 : 2 ≤ k
            · exact hF.p32 h2
            · have h1 : k = 1 := by omega
              have h3 := tot_take (L := (qL S i).drop u) (k := 0) (by rw [hLl]; exact hm0)
              have h4 : (((qL S i).drop u).getD 0 txz) = qF S (u + 0) := by
                have := sub_at (S := S) (N := i) (u := u) (n := 1) (j := 0) (by omega) (by omega)
                rw [← this]
                simp only [List.getD_eq_getElem?_getD, List.getElem?_take, if_pos (show 0 < 1 by omega)]
              have h5 := qF_len S (u + 0)
              rw [h4] at h3
              rw [h1, h3]
              simp only [List.take_zero, tot]; omega
          have hbk := sub_bk (s := s) n100 huk hk1 hk8 ht32 hs1 (by omega)
          have hbl := sub_len (S := S) huk
          obtain ⟨wy, hwy⟩ : ∃ wy, wr.alloc (.cells #[.int .i64 s, .slice (some ⟨g, o, none⟩) k c] 27) = wy := ⟨_, rfl⟩
          obtain ⟨qy, hqy⟩ : ∃ q, wr.heap.size = q := ⟨_, rfl⟩
          have hAy : At wr wy := by rw [← hwy]; exact (At.start wr).alloc _
          have HBY : Hid (Bb wy qy s (.slice (some ⟨g, o, none⟩) k c)) := Lib.hid (by rw [← hwy, ← hqy]; exact bb_new _ _ _)
          have HAY := Lib.hid hAy
          have HTK := Lib.hid ((HTV.out.take k).on hAy)
          have h3 := bcheck_any s (some ⟨g, o, none⟩) (((qL S i).drop u).take k) k c hbl (by omega) (by omega) wy HTK.out
          rw [kd_yes hbk] at h3
          have HCK := Lib.hid h3
          obtain ⟨t1, ht1⟩ : ∃ t1, t1 = tot (((qL S i).drop u).take k) := ⟨_, rfl⟩
          rw [← ht1] at ht32
          obtain ⟨t, htt⟩ : ∃ t, t = t1 + 1 := ⟨_, rfl⟩
          have HBL := Lib.hid (fun W (hW : At wy W) => blocks_any s (some ⟨g, o, none⟩) (((qL S i).drop u).take k) k c hbl (by omega) (by omega) t (by omega) W (HTK.out.on hW))
          have ht33 : t ≤ 33 := by omega
          have ht11 : (t : Int) - 1 = (t1 : Int) := by omega
          have HT1 := Lib.hid ht1
          obtain ⟨b0, b1⟩ := HBY.out.cells
          have hc8 : m ≤ c := HM.out.2.1
          clear hF h3 hbk hbl htt ht1 hAy hLt
          go_wp2_with fail
          refine HCK.out.mono ?_
          rintro x w2 ⟨rfl, hA2⟩
          have HA2 : Hid (At wy w2) := Lib.hid hA2
          obtain ⟨b0, b1⟩ := (HBY.out.on hA2).cells
          clear hA2
          go_wp2_with fail
          refine (HBL.out w2 HA2.out).mono ?_
          rintro x w3 ⟨rfl, hA3⟩
          have HA3 : Hid (At wy w3) := Lib.hid (HA2.out.next hA3)
          obtain ⟨b0, b1⟩ := (HBY.out.on HA3.out).cells
          clear hA3
          have HBB : Hid (∀ W, At wy W → W.cell? ⟨qy, 0, none⟩ = some (.int .i64 s) ∧ W.cell? ⟨qy, 1, none⟩ = some (.slice (some ⟨g, o, none⟩) k c)) := Lib.hid fun W hW => (HBY.out.on hW).cells
          have HZ : Hid ((some (⟨g, o, none⟩ : Addr)) = none → m = 0 ∧ c = 0) := Lib.hid (fun h => by cases h)
          go_wp2_with fail
          go_cut [95] from 75 to 95 (fun c95 wx => c95 = .bool false ∧ Hid (At wy wx))
          case first =>
            by_cases a1 : k < m
            rotate_left
            · have x1 : decide ((k : Int) < (m : Int)) = false := decide_eq_false (by omega)
              have HQ3 : Hid (∀ z, At wy (w3.drewN z)) := Lib.hid fun z => HA3.out.drewN z
              go_quiet (fail)
              go_wp2_with fail
              go_meet
              case rel => exact ⟨rfl, Lib.hid (HQ3.out _)⟩
            have x1 : decide ((k : Int) < (m : Int)) = true := decide_eq_true (by omega)
            by_cases a2 : k < 8
            rotate_left
            · have x2 : decide ((k : Int) < 8) = false := decide_eq_false (by omega)
              have HQ3 : Hid (∀ z, At wy (w3.drewN z)) := Lib.hid fun z => HA3.out.drewN z
              go_quiet (fail)
              go_wp2_with fail
              go_meet
              case rel => exact ⟨rfl, Lib.hid (HQ3.out _)⟩
            have x2 : decide ((k : Int) < 8) = true := decide_eq_true (by omega)
            have hno := HFM.out.no (by rw [HLL.out]; exact a1) a2
            rw [tot_take (by rw [HLL.out]; exact a1), ← HT1.out] at hno
            obtain ⟨Bp, cp, e1⟩ := HCL.out w3 (HAY.out.next HA3.out) k a1
            have HE1 : Hid (∀ W, At w3 W → W.cell? ⟨g, o + k * 2 + 1, none⟩ = some (.slice Bp (((qL S i).drop u).getD k txz).2.length cp)) := Lib.hid fun W hW => by
              obtain ⟨Bp', cp', e2⟩ := HCL.out W ((HAY.out.next HA3.out).next hW) k a1
              have e3 := (Below.cell hW (p := ⟨g, o + k * 2 + 1, none⟩) (World.block_lt_of_cell? _ _ e1)).trans e1
              exact e3
            have hpl : (((qL S i).drop u).getD k txz).2.length ≤ 16 := by
              have h4 : (((qL S i).drop u).getD k txz) = qF S (u + k) := by
                have := sub_at (S := S) (N := i) (u := u) (n := k + 1) (j := k) (by have := HM.out.1; omega) (by omega)
                rw [← this]
                simp only [List.getD_eq_getElem?_getD, List.getElem?_take, if_pos (show k < k + 1 by omega)]
              rw [h4]; exact qF_len S _
            obtain ⟨p, hp⟩ : ∃ p, p = (((qL S i).drop u).getD k txz).2.length := ⟨_, rfl⟩
            rw [← hp] at hno e1 HE1 hpl
            obtain ⟨z, hz⟩ : ∃ z : Nat, z = t1 + p := ⟨_, rfl⟩
            have hzi : (t1 : Int) + (p : Int) = (z : Int) := by omega
            have x3 : decide ((z : Int) ≤ 32) = false := decide_eq_false (by omega)
            have hz50 : z ≤ 100 := by omega
            have HX4 : Hid (decide (IntKind.i64.wrap (IntKind.i64.wrap (t1 : Int) + (p : Int)) ≤ 32) = false) := Lib.hid (by
              have h1 : IntKind.i64.wrap (t1 : Int) = (t1 : Int) := by rw [IntKind.wrap_i64]; omega
              rw [h1, hzi, show IntKind.i64.wrap (z : Int) = (z : Int) by rw [IntKind.wrap_i64]; omega]; exact x3)
            have HB3 := Lib.hid (HBL.out w3.drew (HA3.out.drewN 1))
            have k1 : (0 : Int) ≤ (k : Int) := by omega
            have k2 : (k : Int) < (m : Int) := by omega
            clear hno hp hz a1 a2
            go_region_held3 (fun w' => w'.cell? ⟨qy, 0, none⟩ = some (.int .i64 s) ∧ w'.cell? ⟨qy, 1, none⟩ = some (.slice (some ⟨g, o, none⟩) k c) ∧ w'.cell? ⟨g, o + k * 2 + 1, none⟩ = some (.slice Bp p cp)) (first | go_keep | exact HS4.out)
              (first
                | (go_at_call 19; (with_reducible refine HB3.out.mono ?_); rintro x w4 ⟨rfl, hA4⟩; have HA4 : Hid (At w3 w4) := Lib.hid (((At.start w3).drewN 1).next hA4); have HS4 := Lib.hid (And.intro (HBB.out w4 (HA3.out.next HA4.out)).1 (And.intro (HBB.out w4 (HA3.out.next HA4.out)).2 (HE1.out w4 HA4.out))); clear hA4))
            all_goals
              go_wp2_with fail
              go_meet
              case rel => exact ⟨by first | rfl | rw [HX4.out], Lib.hid (HA3.out.next HA4.out)⟩
          obtain ⟨rfl, HAC⟩ := hcut
          have hs3 : IntKind.i64.wrap (s + 1) = s + 1 := by rw [IntKind.wrap_i64]; omega
          go_wp2_with (first
            | (refine txs_from rfl (.tmp 96) (.tmp 97) rfl (some ⟨g, o, none⟩) m c k rfl rfl hkm hc8 HZ.out ?_; intro X8 p8 r8 HX8))
          go_roundw
          case rel => exact ⟨u + k, p8, r8, s + 1, X8, rfl, rfl, huk, by omega, by omega, Lib.hid ⟨by rw [HX8.out.len, HM.out.1]; omega, HX8.out.cap, HX8.out.none⟩, Lib.hid (by rw [← List.drop_drop]; exact HX8.out.tv _ _ (HTV.out.on (HAY.out.next HAC.out)) HLL.out), Lib.hid (HA.out.next (HAY.out.next HAC.out))⟩
          case measure => have := HX8.out.len; simp; omega
        · have zm : decide ((0 : Int) < (m : Int)) = false := decide_eq_false (by omega)
          have HFN := Lib.hid (form_any none [] 0 0 rfl (by omega) (by simp [tot]) wr (TV.nil _ _))
          go_wp2_with fail
          refine HFN.out.mono ?_
          rintro x w1 ⟨k, rfl, hF, rfl⟩
          obtain rfl : k = 0 := by have := hF.le; simp at this; exact this
          clear hF
          go_wp2_with fail
          refine (HAW.out wr).mono ?_
          rintro x w2 ⟨rfl, hA2⟩
          have HA2 := Lib.hid (HA.out.next hA2)
          clear hA2
          go_wp2_with fail
          try rw [Exit.noGoto_ret]
          go_ret
          exact ⟨rfl, HA2.out⟩

end Go.Proofs.Ytgmekkenodiclaa
