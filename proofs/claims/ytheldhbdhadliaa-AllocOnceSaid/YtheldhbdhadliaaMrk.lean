/- Proved: the law AllocMarks answers true for any number and any list: what is marked is not taken till it is freed; all others are taken, each once. -/
import Derived.Test.YtheldhbdhadliaaIlist
namespace Go.Proofs.Ytheldhbdhadliaa
open Go.RowKit

theorem found_all (L : List St) (k : Nat) : ∃ x, Found L k x := by
  induction k with
  | zero => exact ⟨_, Found.start L⟩
  | succ k ih =>
    obtain ⟨x, hx⟩ := ih
    by_cases ht : (sa L k).t = true
    · exact ⟨x, hx.taken ht⟩
    · have ht : (sa L k).t = false := by simpa using ht
      rcases id hx with ⟨rfl, _⟩ | ⟨m, rfl, hm⟩
      · exact ⟨_, Found.first hx ht⟩
      · by_cases hw : (sa L m).w ≤ (sa L k).w
        · exact ⟨_, Found.stays hm hw⟩
        · exact ⟨_, Found.less hm ht (by omega)⟩
theorem least_some {L : List St} (h : 0 < nf L) : ∃ k, Least L L.length k := by
  obtain ⟨x, hx⟩ := found_all L L.length
  obtain ⟨m, _, hm⟩ := hx.end_ h
  exact ⟨m, hm⟩

/-- An allocator and a row of marks which says what is taken of it, in memory of the call's own. -/
structure Mk (w : World) (b z h n sp : Nat) (L : List St) (wr : World) : Prop where
  al : Al wr b z n sp L
  hl : Hl wr h L
  stands : At w wr
  nz : w.heap.size ≤ z
  nh : w.heap.size ≤ h
section
variable {w wr : World} {b z h n sp : Nat} {L : List St}
theorem Mk.next {wx : World} (m : Mk w b z h n sp L wr) (ha : At wr wx) : Mk w b z h n sp L wx := ⟨m.al.on ha, m.hl.on ha, m.stands.next ha, m.nz, m.nh⟩
theorem Mk.ne (m : Mk w b z h n sp L wr) : h ≠ z ∧ b ≠ h := ⟨cells_ne m.hl m.al.zon (by decide), cells_ne m.al.box m.hl (by decide)⟩
theorem Mk.len (m : Mk w b z h n sp L wr) {k : Nat} (hk : k < n) : k < L.length := by rw [m.al.len]; exact hk
/-- A call turned the allocator, and then the mark is set. -/
theorem Mk.set (m : Mk w b z h n sp L wr) {wx : World} {k : Nat} {s : St} (ha : Al wx b z n sp (L.set k s)) (hm : Mv (fun g => g = z) wr wx) : Mk w b z h n sp (L.set k s) (wx.setCell ⟨h, k, none⟩ (.bool s.t)) where
  al := ha.keep (Mv.set (F := fun g => g = h) (Mv.refl _ _) (p := ⟨h, k, none⟩) rfl _) m.ne.2 m.ne.1.symm
  hl := (m.hl.keep hm m.ne.1).set k s
  stands := Mv.at_ (F := fun g => g = h) (Mv.set (F := fun g => g = h) (Mv.refl _ _) (p := ⟨h, k, none⟩) rfl _) (hm.at_ m.stands (by rintro g rfl; exact m.nz)) (by rintro g rfl; exact m.nh)
  nz := m.nz
  nh := m.nh
/-- The cells of the row of marks while the allocator is turned. -/
theorem Mk.kept (m : Mk w b z h n sp L wr) {wx : World} (hm : Mv (fun g => g = z) wr wx) : Hl wx h L := m.hl.keep hm m.ne.1
end
theorem Mk.start {w : World} {b z n sp : Nat} {w1 : World} (hn : Nw w b z n sp w1) : Mk w b z w1.heap.size n sp (nw n) (w1.alloc (.cells ((nw n).map fun s => Value.bool s.t).toArray 4)) where
  al := hn.al.on ((At.start _).alloc _)
  hl := heap_alloc_new _ _
  stands := hn.stands.alloc _
  nz := hn.nz
  nh := hn.stands.size

set_option maxHeartbeats 1000000 in
set_option maxRecDepth 100000 in
theorem marks_out (n : Int) (A : Option Addr) (m c : Nat) (h : ¬ (1 ≤ n ∧ n ≤ 64 ∧ m ≤ 100)) (w : World) : Calls Try.prog 6 #[.int .i64 n, .slice A m c] w (Gives (.bool true) w) := by
  by_cases h1 : 1 ≤ n
  · by_cases h2 : n ≤ 64
    · have h4 : decide ((100 : Int) < (m : Int)) = true := decide_eq_true (by omega)
      clear h
      go_enter Try.func6, Try.ntmps6
      go_wp2_with (go_at_call 8; refine (awake_any _).mono ?_; rintro e w' ⟨rfl, hb⟩)
      go_ret
      exact ⟨rfl, hb⟩
    · clear h
      go_enter Try.func6, Try.ntmps6
      go_wp2_with (go_at_call 8; refine (awake_any _).mono ?_; rintro e w' ⟨rfl, hb⟩)
      go_ret
      exact ⟨rfl, hb⟩
  · clear h
    go_enter Try.func6, Try.ntmps6
    go_wp2_with (go_at_call 8; refine (awake_any _).mono ?_; rintro e w' ⟨rfl, hb⟩)
    go_ret
    exact ⟨rfl, hb⟩

set_option maxHeartbeats 4000000 in
set_option maxRecDepth 100000 in
theorem marks_in (n : Nat) (A : Option Addr) (u c : Nat) (Z : List Int) (h1 : 1 ≤ n) (h2 : n ≤ 64) (h3 : u ≤ 100) (hl : Z.length = u) (w : World) (hv : IView w (.slice A u c) Z) : Calls Try.prog 6 #[.int .i64 (n : Int), .slice A u c] w (Gives (.bool true) w) := by
  have e1 : (1 : Int) ≤ (n : Int) := by omega
  have e2 : (n : Int) ≤ 64 := by omega
  have e3 : decide ((100 : Int) < (u : Int)) = false := decide_eq_false (by omega)
  have hmk := make_bools n h2
  have HMK := Lib.hid hmk
  have HL := Lib.hid hl
  have HV := Lib.hid hv
  clear hl hv hmk
  go_enter Try.func6, Try.ntmps6
  go_wp2_with fail
  refine (new_ok n 0 h1 h2 (by omega) _).mono ?_
  rintro e w1 ⟨b, z, rfl, hn⟩
  have HM0 := Lib.hid (Mk.start hn)
  have HC0 : Hid (Lo (nw n) 0 ∧ nf (nw n) = n) := Lib.hid ⟨nw_lo n, nf_nw n⟩
  have hmk := HMK.out w1
  obtain ⟨h, hh⟩ : ∃ h, h = w1.heap.size := ⟨_, rfl⟩
  obtain ⟨w2, hw2⟩ : ∃ w2, w2 = w1.alloc (.cells ((nw n).map fun s => Value.bool s.t).toArray 4) := ⟨_, rfl⟩
  rw [← hh, ← hw2] at hmk HM0
  clear hn hh hw2 HMK
  go_wp2
  clear hmk
  go_loopw [8, 9] (fun c8 c9 wr => ∃ (i m : Nat) (L : List St), i ≤ u ∧ c9 = .int .i64 (i : Int) ∧ c8 = .int .i64 (m : Int) ∧ Hid (Mk w b z h n 0 L wr ∧ Lo L 0 ∧ nf L = m)) (fun _ c9 _ => u - (intOf c9).toNat)
  case atStart => exact ⟨0, n, nw n, by omega, rfl, rfl, Lib.hid ⟨HM0.out, HC0.out⟩⟩
  case round =>
    clear HM0 HC0
    obtain ⟨i, m, L, hi, rfl, rfl, HM⟩ := hrel
    by_cases hlt : i < u
    · obtain ⟨lb, off, cap, hsl, hlb, hcs⟩ := iv_pos (HV.out.on HM.out.1.stands) (by rw [HL.out]; omega)
      injection hsl with e1 e2 e3
      subst e1 e3
      have hc := hcs i (by rw [HL.out]; exact hlt)
      obtain ⟨x, hx⟩ : ∃ x, x = Z.getD i 0 := ⟨_, rfl⟩
      rw [← hx] at hc
      have g1 : (0 : Int) ≤ (i : Int) := by omega
      have g2 : (i : Int) < (u : Int) := by omega
      clear hcs hx e2
      by_cases hin : 0 ≤ x ∧ x < (n : Int)
      · obtain ⟨k, rfl⟩ := Int.eq_ofNat_of_zero_le hin.1
        have hk : k < n := by omega
        have g3 : (0 : Int) ≤ (k : Int) := by omega
        have g4 : (k : Int) < (n : Int) := by omega
        have hcell := HM.out.1.hl.cell (HM.out.1.len hk)
        have hfr := HM.out.1.hl.free k
        clear hin
        by_cases ht : (sa L k).t = true
        · have HC := Lib.hid (mark_none HM.out.1.al k hk ht)
          rw [ht] at hcell
          clear ht
          go_wp2_with fail
          refine HC.out.mono ?_
          rintro e w3 ⟨rfl, rfl⟩
          go_wp2
          go_roundw
          case rel => exact ⟨i + 1, m, L, by omega, by go_num, rfl, HM⟩
          case measure => simp [intOf]; omega
        · have ht : (sa L k).t = false := by simpa using ht
          have HC := Lib.hid (mark_ok HM.out.1.al k hk ht)
          have hnf := nf_tk (HM.out.1.len hk) ht
          rw [HM.out.2.2] at hnf
          have hm1 : 1 ≤ m := by omega
          have hm64 : m ≤ 64 := by
            have := nf_le L
            rw [HM.out.2.2, HM.out.1.al.len] at this
            omega
          have HNF : Hid (nf (tk L k) = m - 1) := Lib.hid (by omega)
          have HLO : Hid (Lo (tk L k) 0) := Lib.hid (HM.out.2.1.tk (HM.out.1.len hk))
          have HT := Lib.hid ht
          clear hcell ht hnf hfr
          go_wp2_with fail
          refine HC.out.mono ?_
          rintro e w3 ⟨rfl, hv3, hm3⟩
          have hcell := (HM.out.1.kept hm3).cell (HM.out.1.len hk)
          have hfr := (HM.out.1.kept hm3).free k
          rw [HT.out] at hcell
          have HM3 : Hid (Mk w b z h n 0 (tk L k) (w3.setCell ⟨h, k, none⟩ (.bool true))) := Lib.hid (HM.out.1.set hv3 hm3)
          clear hv3 hm3
          go_wp2
          go_roundw
          case rel => exact ⟨i + 1, m - 1, tk L k, by omega, by go_num, by rw [show ((m - 1 : Nat) : Int) = (m : Int) - 1 by omega], Lib.hid ⟨HM3.out, HLO.out, HNF.out⟩⟩
          case measure => simp [intOf]; omega
      · have HC := Lib.hid (mark_arg HM.out.1.al x hin)
        by_cases g3 : x < 0
        · clear hin
          go_wp2_with fail
          refine HC.out.mono ?_
          rintro e w3 ⟨rfl, rfl⟩
          go_wp2
          go_roundw
          case rel => exact ⟨i + 1, m, L, by omega, by go_num, rfl, HM⟩
          case measure => simp [intOf]; omega
        · have g4 : (n : Int) ≤ x := by omega
          clear hin
          go_wp2_with fail
          refine HC.out.mono ?_
          rintro e w3 ⟨rfl, rfl⟩
          go_wp2
          go_roundw
          case rel => exact ⟨i + 1, m, L, by omega, by go_num, rfl, HM⟩
          case measure => simp [intOf]; omega
    · obtain ⟨wo, hwo⟩ : ∃ wo : World, wo = wr := ⟨_, rfl⟩
      have hm64 : m ≤ 64 := by
        have := nf_le L
        rw [HM.out.2.2, HM.out.1.al.len] at this
        omega
      clear hwo
      go_wp2
      go_loopw [12] (fun c12 wr => ∃ (j q : Nat) (M : List St), j ≤ m ∧ c12 = .int .i64 (j : Int) ∧ Hid (j + q = m) ∧ Hid (Mk w b z h n 0 M wr ∧ Lo M 0 ∧ nf M = q)) (fun c12 _ => m - (intOf c12).toNat)
      case atStart => exact ⟨0, m, L, by omega, rfl, Lib.hid (Nat.zero_add m), HM⟩
      case round =>
        clear HM
        obtain ⟨j, q, M, hj, rfl, HQ, HM⟩ := hrel
        by_cases hjm : j < m
        · have hq : 0 < q := by have := HQ.out; omega
          obtain ⟨k, hk0⟩ := least_some (L := M) (by rw [HM.out.2.2]; exact hq)
          rw [HM.out.1.al.len] at hk0
          have hk := hk0.1
          have HC := Lib.hid (take_some HM.out.1.al false k (by rw [HM.out.2.2]; exact hq) (fun _ => by rw [HM.out.2.2]; exact hq) hk0)
          have HT := Lib.hid hk0.2.1
          have g3 : (0 : Int) ≤ (k : Int) := by omega
          have g4 : (k : Int) < (n : Int) := by omega
          have hnf := nf_tk (HM.out.1.len hk) hk0.2.1
          rw [HM.out.2.2] at hnf
          have HNF : Hid (j + 1 + nf (tk M k) = m) := Lib.hid (by have := HQ.out; omega)
          have HLO : Hid (Lo (tk M k) 0) := Lib.hid (HM.out.2.1.tk (HM.out.1.len hk))
          clear hk0 hnf hq
          go_wp2_with fail
          refine HC.out.mono ?_
          rintro e w3 ⟨rfl, hv3, hm3⟩
          have hcell := (HM.out.1.kept hm3).cell (HM.out.1.len hk)
          have hfr := (HM.out.1.kept hm3).free k
          rw [HT.out] at hcell
          have HM3 : Hid (Mk w b z h n 0 (tk M k) (w3.setCell ⟨h, k, none⟩ (.bool true))) := Lib.hid (HM.out.1.set hv3 hm3)
          clear hv3 hm3
          go_wp2
          go_roundw
          case rel => exact ⟨j + 1, _, tk M k, by omega, by go_num, HNF, Lib.hid ⟨HM3.out, HLO.out, rfl⟩⟩
          case measure => simp [intOf]; omega
        · have hq : q = 0 := by have := HQ.out; omega
          subst hq
          have hM : M = ro n 0 := by
            have := ro_start HM.out.2.2 HM.out.2.1
            rw [HM.out.1.al.len] at this
            exact this
          have HN0 : Hid (nf M = 0) := Lib.hid HM.out.2.2
          have HZ := Lib.hid HM.out.1.nz
          have HC := Lib.hid (take_none HM.out.1.al true (Or.inl HN0.out))
          have HST := Lib.hid HM.out.1.stands
          have HRO := Lib.hid hM
          clear hM HM
          go_wp2_with fail
          refine HC.out.mono ?_
          rintro e w4 ⟨rfl, hv4, hm4⟩
          have HV4 : Hid (Al w4 b z n 0 M ∧ At w w4) := Lib.hid ⟨hv4, hm4.at_ HST.out (by rintro g rfl; exact HZ.out)⟩
          clear hv4 hm4
          go_wp2_with fail
          refine (count_al HV4.out.1).mono ?_
          rintro e w5 ⟨rfl, ha⟩
          rw [HN0.out]
          have HV5 : Hid (Al w5 b z n 0 M ∧ At w w5) := Lib.hid ⟨HV4.out.1.on ha, HV4.out.2.next ha⟩
          clear ha
          go_wp2_with fail
          refine (list_al HV5.out.1).mono ?_
          rintro e w6 ⟨v, rfl, hli⟩
          obtain ⟨A6, c6, rfl, _, _⟩ := own_nv hli.own
          have hlen : (fr M n).length = 0 := by have := HN0.out; unfold nf at this; rw [HV5.out.1.len] at this; exact this
          rw [hlen]
          have HV6 : Hid (Al w6 b z n 0 (ro n 0) ∧ At w w6) := Lib.hid ⟨by rw [← HRO.out]; exact HV5.out.1.on hli.stands, HV5.out.2.next hli.stands⟩
          clear hli hlen
          go_wp2
          go_loopw [17] (fun c17 wr => ∃ j : Nat, j ≤ n ∧ c17 = .int .i64 (j : Int) ∧ Hid (Al wr b z n 0 (ro n j) ∧ At w wr)) (fun c17 _ => n - (intOf c17).toNat)
          case atStart => exact ⟨0, by omega, rfl, HV6⟩
          case round =>
            clear HV6
            obtain ⟨j, hj, rfl, HV⟩ := hrel
            by_cases hjn : j < n
            · have hs : sa (ro n j) j = ⟨true, 0⟩ := by rw [ro_at _ _ _ hjn, if_neg (Nat.lt_irrefl _)]
              have HS : Hid ((sa (ro n j) j).t = true ∧ (sa (ro n j) j).w ≤ 1000000) := Lib.hid (by rw [hs]; exact ⟨rfl, Nat.zero_le _⟩)
              have HR := Lib.hid (ro_next hjn)
              have HW : Hid ((sa (ro n (j + 1)) j).w = 1) := Lib.hid (by rw [ro_at _ _ _ hjn, if_pos (Nat.lt_succ_self j)])
              clear hs
              go_wp2_with fail
              refine (free_ok HV.out.1 j hjn HS.out.1 HS.out.2).mono ?_
              rintro e w7 ⟨rfl, hv7, hm7⟩
              rw [HR.out] at hv7
              have HV7 : Hid (Al w7 b z n 0 (ro n (j + 1)) ∧ At w w7) := Lib.hid ⟨hv7, hm7.at_ HV.out.2 (by rintro g rfl; exact HZ.out)⟩
              clear hv7 hm7
              go_wp2_with fail
              refine (wear_yes HV7.out.1 j hjn).mono ?_
              rintro e w8 ⟨rfl, rfl⟩
              rw [HW.out]
              go_wp2
              go_roundw
              case rel => exact ⟨j + 1, by omega, by go_num, HV7⟩
              case measure => simp [intOf]; omega
            · have hjn : j = n := by omega
              subst hjn
              have HN : Hid (nf (ro j j) = j) := Lib.hid (ro_all j)
              go_wp2_with fail
              refine (count_al HV.out.1).mono ?_
              rintro e w9 ⟨rfl, ha⟩
              rw [HN.out]
              have HA9 : Hid (At w w9) := Lib.hid (HV.out.2.next ha)
              have nb : ((j : Int) == (j : Int)) = true := by simp
              clear ha
              go_wp2_with fail
              refine (awake_any _).mono ?_
              rintro e w10 ⟨rfl, ha⟩
              have HA10 : Hid (At w w10) := Lib.hid (HA9.out.next ha)
              clear ha
              go_wp2
              go_ret
              exact ⟨rfl, HA10.out⟩

theorem marks_any (n : Int) (A : Option Addr) (u c : Nat) (Z : List Int) (hl : Z.length = u) (w : World) (hv : IView w (.slice A u c) Z) : Calls Try.prog 6 #[.int .i64 n, .slice A u c] w (Gives (.bool true) w) := by
  by_cases h : 1 ≤ n ∧ n ≤ 64 ∧ u ≤ 100
  · obtain ⟨h1, h2, h3⟩ := h
    obtain ⟨a, rfl⟩ := Int.eq_ofNat_of_zero_le (show 0 ≤ n by omega)
    exact marks_in a A u c Z (by omega) (by omega) h3 hl w hv
  · exact marks_out n A u c h w

end Go.Proofs.Ytheldhbdhadliaa
