/- Proved: the law BatchLimits answers true at any numbers and leaves what there was as it was: a batch may have so many transactions and blocks, and times so far from each other, and not more. -/
import Derived.Test.YtgmekkenodiclaaMk
import Derived.Deep.Cut
import Derived.Deep.RegionLaw
import Derived.Deep.CutBlock
namespace Go.Proofs.Ytgmekkenodiclaa
open Go.RowKit
attribute [local go_sem ↓] Go.wp_at_zero Go.wp_at_succ

/-- The i-th transaction. -/
def lF (gap puts : Nat) (i : Nat) : Tx := (1 + (i : Int) * (gap : Int), mkP puts)
def lL (n gap puts : Nat) : List Tx := (List.range n).map (lF gap puts)
theorem lL_len (n gap puts : Nat) : (lL n gap puts).length = n := by simp [lL]
theorem lL_at {n gap puts j : Nat} (h : j < n) : (lL n gap puts).getD j txz = lF gap puts j := by
  rw [List.getD_eq_getElem?_getD, lL, List.getElem?_map, List.getElem?_range h]; rfl
theorem lL_tot (gap puts : Nat) : ∀ n, tot (lL n gap puts) = n * puts
  | 0 => by simp [lL, tot]
  | n + 1 => by
    have : lL (n + 1) gap puts = lL n gap puts ++ [lF gap puts n] := by simp [lL, List.range_succ]
    rw [this, tot_app, lL_tot gap puts n, Nat.succ_mul]
    simp only [tot, lF, mkP_len]; omega
theorem mkP_at {k j : Nat} (h : j < k) : (mkP k).getD j pz = ((j : Int), bk j) := by
  rw [List.getD_eq_getElem?_getD, mkP, List.getElem?_map, List.getElem?_range h]; rfl
theorem mkP_rs (k : Nat) : Rs (mkP k) := fun j h1 h2 => by
  rw [mkP_len] at h2
  rw [mkP_at (by omega), mkP_at h2]
  simp only; omega
theorem mkP_mem {k : Nat} {p : Pt} (h : p ∈ mkP k) : ∃ j : Nat, j < k ∧ p = ((j : Int), bk j) := by
  obtain ⟨j, hj, rfl⟩ := List.mem_map.1 h
  exact ⟨j, List.mem_range.1 hj, rfl⟩
theorem lL_mem {n gap puts : Nat} {x : Tx} (h : x ∈ lL n gap puts) : ∃ j, j < n ∧ x = lF gap puts j := by
  obtain ⟨j, hj, rfl⟩ := List.mem_map.1 h
  exact ⟨j, List.mem_range.1 hj, rfl⟩
theorem lL_pb (n gap puts : Nat) : Pb (fla (lL n gap puts)) := fun p hp => by
  obtain ⟨x, hx, hpx⟩ := fla_mem.1 hp
  obtain ⟨j, _, rfl⟩ := lL_mem hx
  obtain ⟨i, _, rfl⟩ := mkP_mem hpx
  exact bk_byte _
/-- What the law says of its numbers. -/
def okL (n puts gap : Nat) : Prop := 1 ≤ n ∧ n ≤ 8 ∧ 1 ≤ puts ∧ puts ≤ 16 ∧ n * puts ≤ 32 ∧ (n = 1 ∨ (1 ≤ gap ∧ gap ≤ 65535))
theorem lL_la {n gap puts j : Nat} (h : j < n) : la (lL n gap puts) j = if j = 0 then 0 else 1 + ((j - 1 : Nat) : Int) * (gap : Int) := by
  cases j with
  | zero => rfl
  | succ j =>
    rw [if_neg (by omega), Nat.add_sub_cancel]
    show ((lL n gap puts).getD j txz).1 = _
    rw [lL_at (by omega)]; rfl
theorem lL_bk {n puts gap : Nat} (hg : gap ≤ 70000) : Bk 1 (lL n gap puts) ↔ okL n puts gap := by
  constructor
  · intro h
    have h1 := h.ne
    have h2 := h.n8
    have h3 := h.n32
    rw [lL_len] at h1 h2
    rw [lL_tot] at h3
    have h4 := h.n16 _ (tx_mem (L := lL n gap puts) (j := 0) (by rw [lL_len]; omega))
    have h5 := (h.od 0 (by rw [lL_len]; omega)).ne
    rw [lL_at (by omega)] at h4 h5
    simp only [lF, mkP_len] at h4
    have h5 : 1 ≤ puts := by
      rcases Nat.eq_zero_or_pos puts with e | e
      · exact absurd (by rw [e]; rfl) h5
      · exact e
    refine ⟨h1, h2, h5, h4, h3, ?_⟩
    by_cases hn : n = 1
    · exact Or.inl hn
    · right
      have h6 := (h.od 1 (by rw [lL_len]; omega)).lo
      have h7 := h.gap 0 (by rw [lL_len]; omega)
      rw [lL_la (by omega), lL_at (by omega)] at h6
      rw [lL_at (by omega), lL_at (by omega)] at h7
      simp only [lF] at h6 h7
      simp at h6 h7
      omega
  · rintro ⟨h1, h2, h3, h4, h5, h6⟩
    have hnl : ∀ j, j < n → ((lL n gap puts).getD j txz).2 = mkP puts := fun j hj => by rw [lL_at hj]; rfl
    refine ⟨by omega, by omega, by rw [lL_len]; exact h1, by rw [lL_len]; exact h2, ?_, ?_, by rw [lL_tot]; exact h5, ?_, ?_, ?_⟩
    · intro j hj
      rw [lL_len] at hj
      rw [lL_la hj, lL_at hj]
      have hb : (j : Int) * (gap : Int) ≤ 8 * 70000 := by
        have := Nat.mul_le_mul (show j ≤ 8 by omega) hg
        have e : ((j * gap : Nat) : Int) = (j : Int) * (gap : Int) := by simp
        omega
      refine ⟨?_, by simp only [lF]; omega, ?_, mkP_rs _⟩
      · simp only [lF]
        cases j with
        | zero => simp
        | succ j =>
          rw [if_neg (by omega), Nat.add_sub_cancel]
          have h7 : 1 ≤ gap := by omega
          have e : ((j + 1 : Nat) : Int) * (gap : Int) = (j : Int) * (gap : Int) + (gap : Int) := by push_cast; rw [Int.add_mul, Int.one_mul]
          omega
      · simp only [lF]
        intro e
        have := congrArg List.length e
        rw [mkP_len] at this
        simp at this; omega
    · intro j hj
      rw [lL_len] at hj
      rw [lL_at hj, lL_at (by omega)]
      simp only [lF]
      have e : ((j + 1 : Nat) : Int) * (gap : Int) = (j : Int) * (gap : Int) + (gap : Int) := by push_cast; rw [Int.add_mul, Int.one_mul]
      omega
    · intro x hx; obtain ⟨j, _, rfl⟩ := lL_mem hx; simp only [lF, mkP_len]; exact h4
    · intro x hx p hp
      obtain ⟨j, _, rfl⟩ := lL_mem hx
      obtain ⟨i, hi, rfl⟩ := mkP_mem hp
      simp only; omega
    · intro x hx p hp
      obtain ⟨j, _, rfl⟩ := lL_mem hx
      obtain ⟨i, hi, rfl⟩ := mkP_mem hp
      exact bk_len _

set_option maxHeartbeats 8000000 in
set_option maxRecDepth 100000 in
theorem limits_any (n p g : Int) (w : World) : Calls Try.prog 7 #[.int .i64 n, .int .i64 p, .int .i64 g] w (Gives (.bool true) w) := by
  have HAW := Lib.hid (awake_any w)
  by_cases h0 : n < 0
  · have z0 : decide (n < 0) = true := decide_eq_true h0
    go_enter Try.func7, Try.ntmps7
    go_wp2_with fail
    refine HAW.out.mono ?_
    rintro x w1 ⟨rfl, hA⟩
    go_wp2_with fail
    try rw [Exit.noGoto_ret]
    go_ret
    exact ⟨rfl, hA⟩
  have z0 : decide (n < 0) = false := decide_eq_false h0
  by_cases h1 : 12 < n
  · have z1 : decide (12 < n) = true := decide_eq_true h1
    go_enter Try.func7, Try.ntmps7
    go_wp2_with fail
    refine HAW.out.mono ?_
    rintro x w1 ⟨rfl, hA⟩
    go_wp2_with fail
    try rw [Exit.noGoto_ret]
    go_ret
    exact ⟨rfl, hA⟩
  have z1 : decide (12 < n) = false := decide_eq_false h1
  by_cases h2 : p < 0
  · have z2 : decide (p < 0) = true := decide_eq_true h2
    go_enter Try.func7, Try.ntmps7
    go_wp2_with fail
    refine HAW.out.mono ?_
    rintro x w1 ⟨rfl, hA⟩
    go_wp2_with fail
    try rw [Exit.noGoto_ret]
    go_ret
    exact ⟨rfl, hA⟩
  have z2 : decide (p < 0) = false := decide_eq_false h2
  by_cases h3 : 20 < p
  · have z3 : decide (20 < p) = true := decide_eq_true h3
    go_enter Try.func7, Try.ntmps7
    go_wp2_with fail
    refine HAW.out.mono ?_
    rintro x w1 ⟨rfl, hA⟩
    go_wp2_with fail
    try rw [Exit.noGoto_ret]
    go_ret
    exact ⟨rfl, hA⟩
  have z3 : decide (20 < p) = false := decide_eq_false h3
  by_cases h4 : g < 0
  · have z4 : decide (g < 0) = true := decide_eq_true h4
    go_enter Try.func7, Try.ntmps7
    go_wp2_with fail
    refine HAW.out.mono ?_
    rintro x w1 ⟨rfl, hA⟩
    go_wp2_with fail
    try rw [Exit.noGoto_ret]
    go_ret
    exact ⟨rfl, hA⟩
  have z4 : decide (g < 0) = false := decide_eq_false h4
  by_cases h5 : 70000 < g
  · have z5 : decide (70000 < g) = true := decide_eq_true h5
    go_enter Try.func7, Try.ntmps7
    go_wp2_with fail
    refine HAW.out.mono ?_
    rintro x w1 ⟨rfl, hA⟩
    go_wp2_with fail
    try rw [Exit.noGoto_ret]
    go_ret
    exact ⟨rfl, hA⟩
  have z5 : decide (70000 < g) = false := decide_eq_false h5
  obtain ⟨n, rfl⟩ : ∃ m : Nat, n = (m : Int) := ⟨n.toNat, by omega⟩
  obtain ⟨p, rfl⟩ : ∃ m : Nat, p = (m : Int) := ⟨p.toNat, by omega⟩
  obtain ⟨g, rfl⟩ : ∃ m : Nat, g = (m : Int) := ⟨g.toNat, by omega⟩
  have n12 : n ≤ 12 := by omega
  have p20 : p ≤ 20 := by omega
  have g7 : g ≤ 70000 := by omega
  clear h0 h1 h2 h3 h4 h5 HAW
  go_enter Try.func7, Try.ntmps7
  go_wp2_with fail
  obtain ⟨q, hq⟩ : ∃ q, w.heap.size = q := ⟨_, rfl⟩
  obtain ⟨wb, hwb⟩ : ∃ wb, w.alloc (.cells #[.int .i64 1, .slice none 0 0] 27) = wb := ⟨_, rfl⟩
  have HT0 : Hid (Tu w wb q 1 (.slice none 0 0) 0 [] (lF g p)) := Lib.hid ⟨by rw [← hwb, ← hq]; exact bb_new _ _ _, Ow.nil' (by rw [← hwb]; exact (At.start w).alloc _), by rw [← hq]; exact Nat.le_refl _, rfl, rfl⟩
  rw [hwb, hq]
  clear hwb hq
  go_loopw [8] (fun c8 wr => ∃ (i d : Nat) (B : Option Addr) (l : List Tl), i ≤ n ∧ c8 = .int .i64 (i : Int) ∧ Hid (Tu w wr q 1 (.slice B i d) i l (lF g p))) (fun c8 _ => n - (RowKit.intOf c8).toNat)
  case atStart => exact ⟨0, 0, none, [], Nat.zero_le _, rfl, HT0⟩
  case round =>
    obtain ⟨i, d, B, l, hi, rfl, HT⟩ := hrel
    by_cases hlt : i < n
    · obtain ⟨wo, hwo⟩ : ∃ wo, wo = wr := ⟨_, rfl⟩
      obtain ⟨m, hm⟩ : ∃ m : Nat, m = i * g := ⟨_, rfl⟩
      have hmi : (i : Int) * (g : Int) = (m : Int) := by rw [hm]; simp
      have hmb : m ≤ 840000 := by rw [hm]; exact Nat.le_trans (Nat.mul_le_mul (by omega : i ≤ 12) g7) (by omega)
      have hwm : IntKind.i64.wrap ((i : Int) * (g : Int)) = (m : Int) := by rw [hmi]; exact IntWalk.i64_in _ (by omega)
      have HMI := Lib.hid hmi
      clear hmi
      obtain ⟨T, hT⟩ : ∃ T : Int, 1 + (i : Int) * (g : Int) = T := ⟨_, rfl⟩
      have HFT : Hid (lF g p i = (T, mkP p)) := Lib.hid (by rw [lF, hT])
      go_wp2_with fail
      obtain ⟨qt, hqt⟩ : ∃ q, wr.heap.size = q := ⟨_, rfl⟩
      obtain ⟨wt, hwt⟩ : ∃ wt, wr.alloc (.cells #[.int .i64 T, .slice none 0 0] 44) = wt := ⟨_, rfl⟩
      have HP0 : Hid (Pu wo wt qt T (.slice none 0 0) 0 []) := Lib.hid (by rw [hwo, ← hwt, ← hqt]; exact Pu.new wr T)
      have HTO : Hid (Tu w wo q 1 (.slice B i d) i l (lF g p)) := Lib.hid (by rw [hwo]; exact HT.out)
      rw [hwt, hqt]
      clear hm hwo HT hwt hqt hT hwm
      go_loopw [10] (fun c10 wr => ∃ (k d2 : Nat) (B2 : Option Addr) (l2 : List Pl), k ≤ p ∧ c10 = .int .i64 (k : Int) ∧ Hid (Pu wo wr qt T (.slice B2 k d2) k l2)) (fun c10 _ => p - (RowKit.intOf c10).toNat)
      case atStart => exact ⟨0, 0, none, [], Nat.zero_le _, rfl, HP0⟩
      case round =>
        obtain ⟨k, d2, B2, l2, hk, rfl, HP⟩ := hrel
        by_cases hlt2 : k < p
        · have HDT := Lib.hid (fun W => data_any (k : Int) W)
          have c0 := (cell_at HP.out.bx 0).trans rfl
          have c1 : wr.cell? ⟨qt, 1, none⟩ = some (.slice B2 k d2) := (cell_at HP.out.bx 1).trans rfl
          have HC : Hid (∀ W, At wr W → W.cell? ⟨qt, 1, none⟩ = some (.slice B2 k d2)) := Lib.hid fun W hW => (cell_at (hW.keep HP.out.bx) 1).trans rfl
          have hk6 : k + 1 ≤ 1000000 := by omega
          clear c0
          go_upto_block 3 with fail
          go_cut [61] from 53 to 61 (fun c61 wx => ∃ (d3 : Nat) (B3 : Option Addr) (l3 : List Pl), c61 = .pointer (some ⟨qt, 1, none⟩) ∧ Hid (Pu wo wx qt T (.slice B3 (k + 1) d3) (k + 1) l3))
          case first =>
            go_wp2_with fail
            go_region_law
              (first
                | (go_simp; go_at_call 16; (with_reducible refine (HDT.out _).mono ?_); rintro x w1 ⟨gd, rfl, hgd, hvd, hAd⟩; have HA1 : Hid (At wr w1) := Lib.hid (((At.start wr).drewN 1).next hAd); have HGV := Lib.hid (And.intro hgd hvd); have c2 := HC.out w1 HA1.out; have c4 : (w1.alloc (.cells #[.int .i64 (k : Int), .slice (some ⟨gd, 0, none⟩) 40 40] 47)).cell? ⟨qt, 1, none⟩ = some (.slice B2 k d2) := HC.out _ (HA1.out.alloc _); clear hgd hvd hAd)
                | (refine Pu.append_step HP.out HA1.out HGV.out.1 HGV.out.2 hk6 (by rfl) (.tmp 54) (.tmp 59) (by rfl) (by rfl) (by rfl) ?_; intro A' c' w2 HG; have c3 := HG.out.c1; have f3 := HG.out.f1))
            all_goals
              go_wp2_with fail
              go_meet
              case rel => obtain ⟨l9, h9⟩ := HG.out.pu; exact ⟨c', A', l9, rfl, Lib.hid h9⟩
          obtain ⟨d3, B3, l3, rfl, HP3⟩ := hcut
          go_wp2_with fail
          go_roundw
          case rel => exact ⟨k + 1, d3, B3, l3, by omega, by go_num, HP3⟩
          case measure => simp [RowKit.intOf]; omega
        · have hkp : k = p := by omega
          subst hkp
          have hAo : At wo wr := HP.out.op.at_
          have HTR := Lib.hid (HTO.out.on hAo)
          obtain ⟨hpe1, hpe2, hpe3⟩ := HP.out.elem (F := fun j => ob (.slice B i d) j ∨ j = q) HTO.out.far
          obtain ⟨b0, b1⟩ := HTR.out.bx.cells
          have c0 := (cell_at HP.out.bx 0).trans rfl
          have c1 := (cell_at HP.out.bx 1).trans rfl
          obtain ⟨wy, hwy⟩ : ∃ wy, wr.alloc (.cells #[.int .i64 T, .slice B2 k d2] 44) = wy := ⟨_, rfl⟩
          obtain ⟨qy, hqy⟩ : ∃ q, wr.heap.size = q := ⟨_, rfl⟩
          have hAy : At wr wy := by rw [← hwy]; exact (At.start wr).alloc _
          have HAY := Lib.hid hAy
          have HQY : Hid (wy.heap[qy]? = some (.cells #[.int .i64 T, .slice B2 k d2] 44 (0, 0))) := Lib.hid (by rw [← hwy, ← hqy]; exact heap_alloc_new wr _)
          have HOY := Lib.hid (HTR.out.op.on (kT.x _) hAy)
          have HEL : Hid (gx (fun j => j = q) tgd (ob (.slice B i d)) wy ((T, mkP k), B2, d2)) := Lib.hid (PVf.mv hpe1 (Mv.of_below _ hAy))
          have hi6 : i + 1 ≤ 1000000 := by omega
          clear hAo hpe1 hpe2 hpe3 hAy
          go_wp2_with (at_builtin; refine Ow.append (kT.x _) rfl HOY.out (.tmp 63) (.tmp 65) rfl i 1 (i + 1) HTR.out.len rfl (some ⟨qy, 0, none⟩) 1 [((T, mkP k), B2, d2)] rfl (fun x hx => by rw [List.mem_singleton.1 hx]; exact HEL.out) rfl (fun h => by cases h) (one_kept (vs := #[.int .i64 T, .slice B2 k d2]) (by show [_, Value.slice _ (mkP k).length _] = _; rw [mkP_len]) HQY.out) rfl hi6 ?_; intro A' c' w' HG; have HBK := Lib.hid (HTR.out.kept HAY.out HG.out); obtain ⟨t0, t1⟩ := HBK.out.cells; have f1 := HBK.out.free 1)
          go_roundw
          case rel => exact ⟨i + 1, c', A', _, by omega, by go_num, Lib.hid (HTR.out.step HAY.out HFT.out.symm HG.out)⟩
          case measure => simp [RowKit.intOf]; omega
    · have hin : i = n := by omega
      subst hin
      obtain ⟨A9, c9, he9, htv⟩ := HT.out.tv
      injection he9 with e1 e2 e3
      subst e1
      clear e2 e3
      have HTV : Hid (TV wr B (lL i g p)) := Lib.hid htv
      obtain ⟨b0, b1⟩ := HT.out.bx.cells
      have HAW : Hid (At w wr) := Lib.hid HT.out.op.at_
      obtain ⟨t, htt⟩ : ∃ t, t = i * p + 1 := ⟨_, rfl⟩
      have hpp : i * p ≤ 240 := Nat.le_trans (Nat.mul_le_mul n12 p20) (by omega)
      have HE := Lib.hid (fun W (hW : At wr W) => bencode_any 1 0 B (lL i g p) i d (lL_len _ _ _) (by omega) (by rw [lL_tot]; omega) (lL_pb _ _ _) t (by rw [lL_tot, htt]) W (HTV.out.on hW))
      have HCK := Lib.hid (fun W (hW : At wr W) => bcheck_any 1 B (lL i g p) i d (lL_len _ _ _) (by omega) (by rw [lL_tot]; omega) W (HTV.out.on hW))
      have HBB := Lib.hid (fun W (hW : At wr W) => (HT.out.bx.on hW).cells)
      have HWS := Lib.hid (awake_any)
      have HKB := Lib.hid (lL_bk (n := i) (puts := p) g7)
      have hipi : ((i * p : Nat) : Int) = (i : Int) * (p : Int) := by simp
      have hwm : IntKind.i64.wrap ((i : Int) * (p : Int)) = (i : Int) * (p : Int) := by rw [← hipi]; exact IntWalk.i64_in _ (by omega)
      have hti : (t : Int) = (i : Int) * (p : Int) + 1 := by omega
      obtain ⟨okb, hokb⟩ : ∃ b : Bool, b = @decide (okL i p g) (Classical.propDecidable _) := ⟨_, rfl⟩
      have HY : Hid (okL i p g → okb = true) := Lib.hid fun h => by rw [hokb]; exact @decide_eq_true _ (Classical.propDecidable _) h
      have HNO : Hid (¬ okL i p g → okb = false) := Lib.hid fun h => by rw [hokb]; exact @decide_eq_false _ (Classical.propDecidable _) h
      have HHT := Lib.hid hti
      have HHI := Lib.hid hipi
      clear htt hti hipi hokb htv hlt hi
      go_upto_region 13 with fail
      go_cut [11] from 68 to 99 (fun c11 wx => c11 = .bool okb ∧ Hid (At wr wx))
      case first =>
        by_cases a0 : 1 ≤ i
        rotate_left
        · have x0 : decide (1 ≤ (i : Int)) = false := decide_eq_false (by omega)
          have HF := Lib.hid (HNO.out fun h => by unfold okL at h; omega)
          clear a0
          go_wp2_with fail
          go_meet
          case rel => exact ⟨by rw [HF.out], Lib.hid (At.start wr)⟩
        have x0 : decide (1 ≤ (i : Int)) = true := decide_eq_true (by omega)
        by_cases a1 : i ≤ 8
        rotate_left
        · have x1 : decide ((i : Int) ≤ 8) = false := decide_eq_false (by omega)
          have HF := Lib.hid (HNO.out fun h => by unfold okL at h; omega)
          clear a0 a1
          go_wp2_with fail
          go_meet
          case rel => exact ⟨by rw [HF.out], Lib.hid (At.start wr)⟩
        have x1 : decide ((i : Int) ≤ 8) = true := decide_eq_true (by omega)
        by_cases a2 : 1 ≤ p
        rotate_left
        · have x2 : decide (1 ≤ (p : Int)) = false := decide_eq_false (by omega)
          have HF := Lib.hid (HNO.out fun h => by unfold okL at h; omega)
          clear a0 a1 a2
          go_wp2_with fail
          go_meet
          case rel => exact ⟨by rw [HF.out], Lib.hid (At.start wr)⟩
        have x2 : decide (1 ≤ (p : Int)) = true := decide_eq_true (by omega)
        by_cases a3 : p ≤ 16
        rotate_left
        · have x3 : decide ((p : Int) ≤ 16) = false := decide_eq_false (by omega)
          have HF := Lib.hid (HNO.out fun h => by unfold okL at h; omega)
          clear a0 a1 a2 a3
          go_wp2_with fail
          go_meet
          case rel => exact ⟨by rw [HF.out], Lib.hid (At.start wr)⟩
        have x3 : decide ((p : Int) ≤ 16) = true := decide_eq_true (by omega)
        by_cases a4 : i * p ≤ 32
        rotate_left
        · have x4 : decide ((i : Int) * (p : Int) ≤ 32) = false := decide_eq_false (by have := HHI.out; omega)
          have HF := Lib.hid (HNO.out fun h => a4 h.2.2.2.2.1)
          clear a0 a1 a2 a3 a4
          go_wp2_with fail
          go_meet
          case rel => exact ⟨by rw [HF.out], Lib.hid (At.start wr)⟩
        have x4 : decide ((i : Int) * (p : Int) ≤ 32) = true := decide_eq_true (by have := HHI.out; omega)
        have HA5 : Hid (1 ≤ i ∧ i ≤ 8 ∧ 1 ≤ p ∧ p ≤ 16 ∧ i * p ≤ 32) := Lib.hid ⟨a0, a1, a2, a3, a4⟩
        clear a0 a1 a2 a3 a4
        by_cases a5 : i = 1
        · have x5 : ((i : Int) == 1) = true := by simp; omega
          have HF := Lib.hid (HY.out ⟨HA5.out.1, HA5.out.2.1, HA5.out.2.2.1, HA5.out.2.2.2.1, HA5.out.2.2.2.2, Or.inl a5⟩)
          clear a5
          go_wp2_with fail
          go_meet
          case rel => exact ⟨by rw [HF.out], Lib.hid (At.start wr)⟩
        have x5 : ((i : Int) == 1) = false := by simp; omega
        by_cases a6 : 1 ≤ g
        rotate_left
        · have x6 : decide (1 ≤ (g : Int)) = false := decide_eq_false (by omega)
          have HF := Lib.hid (HNO.out fun h => by rcases h.2.2.2.2.2 with h1 | h1 <;> omega)
          clear a5 a6
          go_wp2_with fail
          go_meet
          case rel => exact ⟨by rw [HF.out], Lib.hid (At.start wr)⟩
        have x6 : decide (1 ≤ (g : Int)) = true := decide_eq_true (by omega)
        by_cases a7 : g ≤ 65535
        rotate_left
        · have x7 : decide ((g : Int) ≤ 65535) = false := decide_eq_false (by omega)
          have HF := Lib.hid (HNO.out fun h => by rcases h.2.2.2.2.2 with h1 | h1 <;> omega)
          clear a5 a6 a7
          go_wp2_with fail
          go_meet
          case rel => exact ⟨by rw [HF.out], Lib.hid (At.start wr)⟩
        have x7 : decide ((g : Int) ≤ 65535) = true := decide_eq_true (by omega)
        have HF := Lib.hid (HY.out ⟨HA5.out.1, HA5.out.2.1, HA5.out.2.2.1, HA5.out.2.2.2.1, HA5.out.2.2.2.2, Or.inr ⟨a6, a7⟩⟩)
        clear a5 a6 a7
        go_wp2_with fail
        go_meet
        case rel => exact ⟨by rw [HF.out], Lib.hid (At.start wr)⟩
      obtain ⟨rfl, HAC⟩ := hcut
      obtain ⟨b0, b1⟩ := HBB.out wc HAC.out
      have HE1 := Lib.hid (HE.out wc HAC.out)
      go_wp2_with fail
      refine HE1.out.mono ?_
      rintro x w2 (⟨⟨hbk, _, _⟩, B2, d2, l2, rfl, hl2, _, _, ho2⟩ | ⟨hbk, rfl, hA2⟩)
      · have hok : okb = true := HY.out (HKB.out.1 hbk)
        subst hok
        have hA2 : At wc w2 := ho2.at_
        have HA2 := Lib.hid (HAC.out.next hA2)
        obtain ⟨b0, b1⟩ := HBB.out w2 HA2.out
        have h3 := HCK.out w2 HA2.out
        rw [kd_yes hbk] at h3
        have HC3 := Lib.hid h3
        have z9 : ((t : Int) == (i : Int) * (p : Int) + 1) = true := by rw [HHT.out]; simp
        clear h3 hA2 ho2 hl2 hbk
        go_wp2_with fail
        refine HC3.out.mono ?_
        rintro x w3 ⟨rfl, hA3⟩
        have HA3 := Lib.hid (HA2.out.next hA3)
        clear hA3
        go_wp2_with fail
        refine (HWS.out w3).mono ?_
        rintro x w4 ⟨rfl, hA4⟩
        have HA4 := Lib.hid (HAW.out.next (HA3.out.next hA4))
        clear hA4
        go_wp2_with fail
        try rw [Exit.noGoto_ret]
        go_ret
        exact ⟨rfl, HA4.out⟩
      · have hnk : ¬ Bk 1 (lL i g p) := fun h => hbk ⟨h, by decide, by decide⟩
        have hok : okb = false := HNO.out fun h => hnk (HKB.out.2 h)
        subst hok
        have HA2 := Lib.hid (HAC.out.next hA2)
        obtain ⟨b0, b1⟩ := HBB.out w2 HA2.out
        have h3 := HCK.out w2 HA2.out
        rw [kd_no hnk] at h3
        have HC3 := Lib.hid h3
        have z9 : ((0 : Int) == (i : Int) * (p : Int) + 1) = false := by have := HHI.out; simp; omega
        clear h3 hA2 hbk hnk
        go_wp2_with fail
        refine HC3.out.mono ?_
        rintro x w3 ⟨rfl, hA3⟩
        have HA3 := Lib.hid (HA2.out.next hA3)
        clear hA3
        go_wp2_with fail
        refine (HWS.out w3).mono ?_
        rintro x w4 ⟨rfl, hA4⟩
        have HA4 := Lib.hid (HAW.out.next (HA3.out.next hA4))
        clear hA4
        go_wp2_with fail
        try rw [Exit.noGoto_ret]
        go_ret
        exact ⟨rfl, HA4.out⟩


end Go.Proofs.Ytgmekkenodiclaa
