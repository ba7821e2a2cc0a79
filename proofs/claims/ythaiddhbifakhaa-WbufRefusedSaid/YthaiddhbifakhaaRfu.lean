/- Proved: the law WbufRefused's walk: each thing that may not be has its own error, and the first of these is told. -/
import Derived.Test.YthaiddhbifakhaaRp
namespace Go.Proofs.Ythaiddhbifakhaa
open Go.RowKit

set_option maxHeartbeats 4000000 in
set_option maxRecDepth 100000 in
theorem refused_any (x : Int) (n : Nat) (tw : Bool) (m : Nat) (h1 : 1 ≤ m) (h2 : m ≤ 20) (h3 : n ≤ 80) (w : World) :
    Calls Try.prog 5 #[.int .i64 x, .int .i64 (n : Int), .bool tw, .int .i64 (m : Int)] w (Gives (.bool true) w) := by
  obtain ⟨i0, z0, hi0, hz0, hz1, hz2, hz3⟩ := put_parts
  have HN := Lib.hid (new_ok 100 16 (by omega) (by omega) (by omega) w)
  rw [show ((100 : Nat) : Int) = 100 from rfl] at HN
  have HAW := Lib.hid awake_any
  have q1 : decide ((m : Int) < 1) = false := decide_eq_false (by omega)
  have q2 : decide ((20 : Int) < (m : Int)) = false := decide_eq_false (by omega)
  have q3 : decide ((n : Int) < 0) = false := decide_eq_false (by omega)
  have q4 : decide ((80 : Int) < (n : Int)) = false := decide_eq_false (by omega)
  go_enter Try.func5, Try.ntmps5
  go_wp2_with fail
  refine HN.out.mono ?_
  rintro e w1 hnew
  obtain ⟨b, mb, rfl, hbo⟩ := bo_new hnew
  have HBO : Hid (Bo w w1 b mb s0) := Lib.hid hbo
  clear hnew hbo HN
  go_wp2
  go_loopw [11, 12] (fun c11 c12 wr => ∃ (k : Nat) (l : List (Pt × Nat × Nat)), k ≤ m ∧ c12 = .int .i64 (k : Int) ∧ Hid (l.map (·.1) = lp k) ∧ Hid (l.length = k) ∧ Hid (Dm w1 wr c11 l)) (fun _ c12 _ => m - (RowKit.intOf c12).toNat)
  case atStart => exact ⟨0, [], Nat.zero_le _, rfl, Lib.hid rfl, Lib.hid rfl, Lib.hid ⟨World.ownsRow_nil _ _ _ _, fun x hx => (by cases hx), At.start _⟩⟩
  case round =>
    obtain ⟨k, l, hk, rfl, HLP, HLK, HD⟩ := hrel
    by_cases hlt : k < m
    · have g1 : IntKind.i64.wrap (40 + (k : Int)) = 40 + (k : Int) := IntWalk.i64_in _ (by omega)
      go_wp2_with fail
      refine (data_any (k : Int) wr).mono ?_
      rintro e w3 ⟨gc, rfl, hgc, hbc, hA3⟩
      have HGC : Hid (wr.heap.size ≤ gc) := Lib.hid hgc
      have HGL : Hid (gc < w3.heap.size) := Lib.hid (by
        obtain ⟨b', o', he, hlt', _⟩ := hbc.pos (by rw [bk_len]; omega)
        injection he with he
        injection he with he1 he2
        rw [he1]; exact hlt')
      have HAW3 : Hid (At wr (w3.alloc (.cells #[.int .i64 (40 + (k : Int)), .slice (some ⟨gc, 0, none⟩) 40 40] 56))) := Lib.hid (At.alloc hA3 _)
      have HBC : Hid (BV (w3.alloc (.cells #[.int .i64 (40 + (k : Int)), .slice (some ⟨gc, 0, none⟩) 40 40] 56)) (some ⟨gc, 0, none⟩) (bk (k : Int))) := Lib.hid (hbc.below ((At.start w3).alloc _))
      have HD3 := Lib.hid (HD.out.on HAW3.out)
      have HNS : Hid (∀ j v, [Value.int .i64 (40 + (k : Int)), .slice (some ⟨gc, 0, none⟩) 40 40][j]? = some v → (w3.alloc (.cells #[.int .i64 (40 + (k : Int)), .slice (some ⟨gc, 0, none⟩) 40 40] 56)).cell? ((⟨w3.heap.size, 0, none⟩ : Addr).add j) = some v) := Lib.hid (World.news_of_block (cs := #[Value.int .i64 (40 + (k : Int)), .slice (some ⟨gc, 0, none⟩) 40 40]) (t := 56) (fr := (0, 0)) (heap_alloc_new w3 _))
      have HS3 : Hid ((w3.alloc (.cells #[.int .i64 (40 + (k : Int)), .slice (some ⟨gc, 0, none⟩) 40 40] 56)).heap.size = w3.heap.size + 1) := Lib.hid (by simp)
      have HLL : Hid (l.length ≤ 20) := Lib.hid (by have := HLK.out; omega)
      clear hgc hbc hA3
      go_wp2_with (first | (refine wpList_append_lies _ rfl (.tmp 46) (.tmp 52) 33 rfl w1.heap.size 56 i0 z0 2 32 Try.underlying33 hi0 hz0 hz1 hz2 hz3 (by omega) _ l.length (pcs l) rfl HD3.out.row ⟨w3.heap.size, 0, none⟩ 1 1 [.int .i64 (40 + (k : Int)), .slice (some ⟨gc, 0, none⟩) 40 40] rfl rfl HNS.out (fun v hv => by simp at hv; rcases hv with rfl | rfl <;> rfl) (by omega) (by have := HLL.out; unfold maxLen; omega) (by have := HLL.out; omega) (Nat.le_trans HD.out.at_.size HAW3.out.size) _ rfl ?_; intro gg cap2 w4 hown hgrow hat hlt4) | fail)
      have HY := Lib.hid (HD.out.more (a := 40 + (k : Int)) (d := bk (k : Int)) HAW3.out HBC.out (by rw [HS3.out]; exact Nat.lt_succ_of_lt HGL.out) HGC.out (by rw [bk_len]; exact hown) hgrow hat)
      clear hown hgrow hat hlt4 HNS HLL HAW3 HBC HD3 HD
      go_roundw
      case rel => exact ⟨k + 1, _, by omega, by go_num, Lib.hid (by rw [List.map_append, HLP.out, lp_succ]; rfl), Lib.hid (by rw [List.length_append, HLK.out]; rfl), HY⟩
      case measure => simp [RowKit.intOf]; omega
    · have hkm : k = m := by omega
      subst hkm
      have hrow := HD.out.row
      rw [HLK.out] at hrow
      have HRW := Lib.hid hrow
      clear hrow
      have g40 : IntKind.i64.wrap (40 + (k : Int)) = 40 + (k : Int) := IntWalk.i64_in _ (by omega)
      have gk1 : IntKind.i64.wrap ((k : Int) + 1) = (k : Int) + 1 := IntWalk.i64_in _ (by omega)
      go_wp2_with fail
      refine (block_n n h3 1 wr).mono ?_
      rintro e w3 ⟨gc, L, rfl, hgc, hgl, hL, hLB, hbv, hA3⟩
      have HLL5 := Lib.hid hL
      have HLB := Lib.hid hLB
      have HGC : Hid (wr.heap.size ≤ gc) := Lib.hid hgc
      have HGL : Hid (gc < w3.heap.size) := Lib.hid hgl
      have HAW3 : Hid (At wr (w3.alloc (.cells #[.int .i64 x, .slice (some ⟨gc, 0, none⟩) n n] 56))) := Lib.hid (At.alloc hA3 _)
      have HBC : Hid (BV (w3.alloc (.cells #[.int .i64 x, .slice (some ⟨gc, 0, none⟩) n n] 56)) (some ⟨gc, 0, none⟩) L) := Lib.hid (hbv.below ((At.start w3).alloc _))
      have HR3 := Lib.hid (row_on HRW.out HAW3.out)
      have HNS : Hid (∀ j v, [Value.int .i64 x, .slice (some ⟨gc, 0, none⟩) n n][j]? = some v → (w3.alloc (.cells #[.int .i64 x, .slice (some ⟨gc, 0, none⟩) n n] 56)).cell? ((⟨w3.heap.size, 0, none⟩ : Addr).add j) = some v) := Lib.hid (World.news_of_block (cs := #[Value.int .i64 x, .slice (some ⟨gc, 0, none⟩) n n]) (t := 56) (fr := (0, 0)) (heap_alloc_new w3 _))
      have HS3 : Hid ((w3.alloc (.cells #[.int .i64 x, .slice (some ⟨gc, 0, none⟩) n n] 56)).heap.size = w3.heap.size + 1) := Lib.hid (by simp)
      clear hgc hgl hL hLB hbv hA3
      have HSZ : Hid (w1.heap.size ≤ (w3.alloc (.cells #[.int .i64 x, .slice (some ⟨gc, 0, none⟩) n n] 56)).heap.size) := Lib.hid (Nat.le_trans HD.out.at_.size HAW3.out.size)
      have HMO : Hid (∀ (gg cap2 : Nat) (w4 : World), w4.ownsRow w1.heap.size 56 2 (.slice (some ⟨gg, 0, none⟩) (k + 1) cap2) (k + 1) (pcs l ++ [.int .i64 x, .slice (some ⟨gc, 0, none⟩) n n]) → (w3.alloc (.cells #[.int .i64 x, .slice (some ⟨gc, 0, none⟩) n n] 56)).grownBy w4 u11.ownBlock → (u11.ownBlock = some gg ∨ gg = (w3.alloc (.cells #[.int .i64 x, .slice (some ⟨gc, 0, none⟩) n n] 56)).heap.size) →
          Dm w1 w4 (.slice (some ⟨gg, 0, none⟩) (k + 1) cap2) (l ++ [(((x, L) : Pt), gc, n)])) := Lib.hid (fun gg cap2 w4 hown hgrow hat => by
        have hh := HD.out.more (a := x) (d := L) (w4 := w4) (gg := gg) (cap := cap2) (cc := n) HAW3.out HBC.out (by rw [HS3.out]; exact Nat.lt_succ_of_lt HGL.out) HGC.out (by rw [HLK.out, HLL5.out]; exact hown) hgrow hat
        rwa [HLK.out] at hh)
      cases tw with
      | false =>
        by_cases b0 : x < 0
        · have e0 : decide (x < 0) = true := decide_eq_true b0
          have e3 : decide ((40 : Int) ≤ x) = false := decide_eq_false (by omega)
          have HZ : Hid (rf s0 (vp k x L false) = 2) := Lib.hid (vp_2 (by omega))
          go_wp2_with (first | (refine wpList_append_lies _ rfl (.tmp 54) (.tmp 59) 33 rfl w1.heap.size 56 i0 z0 2 32 Try.underlying33 hi0 hz0 hz1 hz2 hz3 (by omega) _ k (pcs l) rfl HR3.out ⟨w3.heap.size, 0, none⟩ 1 1 [.int .i64 x, .slice (some ⟨gc, 0, none⟩) n n] rfl rfl HNS.out (fun v hv => by simp at hv; rcases hv with rfl | rfl <;> rfl) (by omega) (by unfold maxLen; omega) (by omega) HSZ.out _ rfl ?_; intro gg cap2 w4 hown hgrow hat hlt4; have HY := Lib.hid (HMO.out gg cap2 w4 hown hgrow hat); clear hown hgrow hat hlt4) | fail)
          have HMP : Hid ((l ++ [(((x, L) : Pt), gc, n)]).map (·.1) = vp k x L false) := Lib.hid (by rw [List.map_append, HLP.out]; rfl)
          obtain ⟨n5, hn5⟩ : ∃ n5, n5 = k + 1 := ⟨_, rfl⟩
          have HN5 : Hid (n5 ≤ 22) := Lib.hid (by omega)
          have HPL : Hid ((vp k x L false).length = n5) := Lib.hid (by rw [vp_len, hn5])
          obtain ⟨A5, hA5⟩ : ∃ A5 : Option Addr, A5 = some ⟨gg, 0, none⟩ := ⟨_, rfl⟩
          obtain ⟨c5, hc5⟩ : ∃ c5, c5 = cap2 := ⟨_, rfl⟩
          have HPV : Hid (PV w4 A5 (vp k x L false)) := Lib.hid (by
            obtain ⟨A, c, he, hp⟩ := HY.out.pv
            injection he with e1 _ _
            rw [HMP.out] at hp
            rw [hA5, e1]; exact hp)
          have HBO5 := Lib.hid (HBO.out.on HY.out.at_)
          rw [← hn5, ← hA5, ← hc5]
          clear hn5 hA5 hc5
          have HW := Lib.hid (write_any HBO5.out.bf A5 (vp k x L false) n5 c5 HPL.out (by have := HN5.out; omega) HPV.out (vp_by HLB.out))
          rw [HZ.out] at HW
          have HU := Lib.hid (vp_wr (m := k) (x := x) (L := L) (tw := false))
          rw [HZ.out] at HU
          refine HW.out.mono ?_
          rintro e w6 ⟨rfl, hbf, hmv⟩
          have HBO6 := Lib.hid (HBO5.out.wrote hbf hmv)
          clear hbf hmv HW
          have HW2 := Lib.hid (write_any HBO6.out.bf none [] 0 0 rfl (by omega) (PV.nil _ _) (fun p hp => by cases hp))
          rw [rf_none, wr_no (by rw [rf_none]; decide)] at HW2
          go_wp2_with fail
          refine HW2.out.mono ?_
          rintro e w7 ⟨rfl, hbf, hmv⟩
          have HBO7 := Lib.hid (HBO6.out.wrote hbf hmv)
          clear hbf hmv HW2
          have HL := Lib.hid (len_bf HBO7.out.bf)
          obtain ⟨u, hu⟩ : ∃ u, u = (us (Proofs.Ythaiddhbifakhaa.wr s0 (vp k x L false))).length := ⟨_, rfl⟩
          rw [← hu] at HL HU
          clear hu
          obtain rfl : u = 0 := HU.out.2 (by decide)
          go_wp2_with fail
          refine HL.out.mono ?_
          rintro e w' ⟨rfl, rfl⟩
          go_wp2_with fail
          refine (HAW.out _).mono ?_
          rintro e w8 ⟨rfl, hA⟩
          have HE : Hid (At w w8) := Lib.hid (HBO7.out.at_.next hA)
          clear hA
          go_wp2
          go_ret
          exact ⟨rfl, HE.out⟩
        · have e0 : decide (x < 0) = false := decide_eq_false b0
          by_cases b1 : 100 ≤ x
          · have e1 : decide ((100 : Int) ≤ x) = true := decide_eq_true b1
            have e3 : decide ((40 : Int) ≤ x) = true := decide_eq_true (by omega)
            have e4 : decide (x < 40 + (k : Int)) = false := decide_eq_false (by omega)
            have HZ : Hid (rf s0 (vp k x L false) = 2) := Lib.hid (vp_2 (by omega))
            go_wp2_with (first | (refine wpList_append_lies _ rfl (.tmp 54) (.tmp 59) 33 rfl w1.heap.size 56 i0 z0 2 32 Try.underlying33 hi0 hz0 hz1 hz2 hz3 (by omega) _ k (pcs l) rfl HR3.out ⟨w3.heap.size, 0, none⟩ 1 1 [.int .i64 x, .slice (some ⟨gc, 0, none⟩) n n] rfl rfl HNS.out (fun v hv => by simp at hv; rcases hv with rfl | rfl <;> rfl) (by omega) (by unfold maxLen; omega) (by omega) HSZ.out _ rfl ?_; intro gg cap2 w4 hown hgrow hat hlt4; have HY := Lib.hid (HMO.out gg cap2 w4 hown hgrow hat); clear hown hgrow hat hlt4) | fail)
            have HMP : Hid ((l ++ [(((x, L) : Pt), gc, n)]).map (·.1) = vp k x L false) := Lib.hid (by rw [List.map_append, HLP.out]; rfl)
            obtain ⟨n5, hn5⟩ : ∃ n5, n5 = k + 1 := ⟨_, rfl⟩
            have HN5 : Hid (n5 ≤ 22) := Lib.hid (by omega)
            have HPL : Hid ((vp k x L false).length = n5) := Lib.hid (by rw [vp_len, hn5])
            obtain ⟨A5, hA5⟩ : ∃ A5 : Option Addr, A5 = some ⟨gg, 0, none⟩ := ⟨_, rfl⟩
            obtain ⟨c5, hc5⟩ : ∃ c5, c5 = cap2 := ⟨_, rfl⟩
            have HPV : Hid (PV w4 A5 (vp k x L false)) := Lib.hid (by
              obtain ⟨A, c, he, hp⟩ := HY.out.pv
              injection he with e1 _ _
              rw [HMP.out] at hp
              rw [hA5, e1]; exact hp)
            have HBO5 := Lib.hid (HBO.out.on HY.out.at_)
            rw [← hn5, ← hA5, ← hc5]
            clear hn5 hA5 hc5
            have HW := Lib.hid (write_any HBO5.out.bf A5 (vp k x L false) n5 c5 HPL.out (by have := HN5.out; omega) HPV.out (vp_by HLB.out))
            rw [HZ.out] at HW
            have HU := Lib.hid (vp_wr (m := k) (x := x) (L := L) (tw := false))
            rw [HZ.out] at HU
            refine HW.out.mono ?_
            rintro e w6 ⟨rfl, hbf, hmv⟩
            have HBO6 := Lib.hid (HBO5.out.wrote hbf hmv)
            clear hbf hmv HW
            have HW2 := Lib.hid (write_any HBO6.out.bf none [] 0 0 rfl (by omega) (PV.nil _ _) (fun p hp => by cases hp))
            rw [rf_none, wr_no (by rw [rf_none]; decide)] at HW2
            go_wp2_with fail
            refine HW2.out.mono ?_
            rintro e w7 ⟨rfl, hbf, hmv⟩
            have HBO7 := Lib.hid (HBO6.out.wrote hbf hmv)
            clear hbf hmv HW2
            have HL := Lib.hid (len_bf HBO7.out.bf)
            obtain ⟨u, hu⟩ : ∃ u, u = (us (Proofs.Ythaiddhbifakhaa.wr s0 (vp k x L false))).length := ⟨_, rfl⟩
            rw [← hu] at HL HU
            clear hu
            obtain rfl : u = 0 := HU.out.2 (by decide)
            go_wp2_with fail
            refine HL.out.mono ?_
            rintro e w' ⟨rfl, rfl⟩
            go_wp2_with fail
            refine (HAW.out _).mono ?_
            rintro e w8 ⟨rfl, hA⟩
            have HE : Hid (At w w8) := Lib.hid (HBO7.out.at_.next hA)
            clear hA
            go_wp2
            go_ret
            exact ⟨rfl, HE.out⟩
          · have e1 : decide ((100 : Int) ≤ x) = false := decide_eq_false b1
            by_cases b3 : x < 40
            · by_cases b2 : n = 40
              · by_cases b5 : 16 < (k : Int) + 1
                · have e3 : decide ((40 : Int) ≤ x) = false := decide_eq_false (by omega)
                  have e2 : ((n : Int) != 40) = false := by simp; omega
                  have e5 : decide (16 < (k : Int) + 1) = true := decide_eq_true b5
                  have HZ : Hid (rf s0 (vp k x L false) = 7) := Lib.hid (vp_7 (by omega) (by omega) (by rw [HLL5.out]; exact b2) (by omega) b5)
                  clear b2
                  go_wp2_with (first | (refine wpList_append_lies _ rfl (.tmp 54) (.tmp 59) 33 rfl w1.heap.size 56 i0 z0 2 32 Try.underlying33 hi0 hz0 hz1 hz2 hz3 (by omega) _ k (pcs l) rfl HR3.out ⟨w3.heap.size, 0, none⟩ 1 1 [.int .i64 x, .slice (some ⟨gc, 0, none⟩) n n] rfl rfl HNS.out (fun v hv => by simp at hv; rcases hv with rfl | rfl <;> rfl) (by omega) (by unfold maxLen; omega) (by omega) HSZ.out _ rfl ?_; intro gg cap2 w4 hown hgrow hat hlt4; have HY := Lib.hid (HMO.out gg cap2 w4 hown hgrow hat); clear hown hgrow hat hlt4) | fail)
                  have HMP : Hid ((l ++ [(((x, L) : Pt), gc, n)]).map (·.1) = vp k x L false) := Lib.hid (by rw [List.map_append, HLP.out]; rfl)
                  obtain ⟨n5, hn5⟩ : ∃ n5, n5 = k + 1 := ⟨_, rfl⟩
                  have HN5 : Hid (n5 ≤ 22) := Lib.hid (by omega)
                  have HPL : Hid ((vp k x L false).length = n5) := Lib.hid (by rw [vp_len, hn5])
                  obtain ⟨A5, hA5⟩ : ∃ A5 : Option Addr, A5 = some ⟨gg, 0, none⟩ := ⟨_, rfl⟩
                  obtain ⟨c5, hc5⟩ : ∃ c5, c5 = cap2 := ⟨_, rfl⟩
                  have HPV : Hid (PV w4 A5 (vp k x L false)) := Lib.hid (by
                    obtain ⟨A, c, he, hp⟩ := HY.out.pv
                    injection he with e1 _ _
                    rw [HMP.out] at hp
                    rw [hA5, e1]; exact hp)
                  have HBO5 := Lib.hid (HBO.out.on HY.out.at_)
                  rw [← hn5, ← hA5, ← hc5]
                  clear hn5 hA5 hc5
                  have HW := Lib.hid (write_any HBO5.out.bf A5 (vp k x L false) n5 c5 HPL.out (by have := HN5.out; omega) HPV.out (vp_by HLB.out))
                  rw [HZ.out] at HW
                  have HU := Lib.hid (vp_wr (m := k) (x := x) (L := L) (tw := false))
                  rw [HZ.out] at HU
                  refine HW.out.mono ?_
                  rintro e w6 ⟨rfl, hbf, hmv⟩
                  have HBO6 := Lib.hid (HBO5.out.wrote hbf hmv)
                  clear hbf hmv HW
                  have HW2 := Lib.hid (write_any HBO6.out.bf none [] 0 0 rfl (by omega) (PV.nil _ _) (fun p hp => by cases hp))
                  rw [rf_none, wr_no (by rw [rf_none]; decide)] at HW2
                  go_wp2_with fail
                  refine HW2.out.mono ?_
                  rintro e w7 ⟨rfl, hbf, hmv⟩
                  have HBO7 := Lib.hid (HBO6.out.wrote hbf hmv)
                  clear hbf hmv HW2
                  have HL := Lib.hid (len_bf HBO7.out.bf)
                  obtain ⟨u, hu⟩ : ∃ u, u = (us (Proofs.Ythaiddhbifakhaa.wr s0 (vp k x L false))).length := ⟨_, rfl⟩
                  rw [← hu] at HL HU
                  clear hu
                  obtain rfl : u = 0 := HU.out.2 (by decide)
                  go_wp2_with fail
                  refine HL.out.mono ?_
                  rintro e w' ⟨rfl, rfl⟩
                  go_wp2_with fail
                  refine (HAW.out _).mono ?_
                  rintro e w8 ⟨rfl, hA⟩
                  have HE : Hid (At w w8) := Lib.hid (HBO7.out.at_.next hA)
                  clear hA
                  go_wp2
                  go_ret
                  exact ⟨rfl, HE.out⟩
                · have e3 : decide ((40 : Int) ≤ x) = false := decide_eq_false (by omega)
                  have e2 : ((n : Int) != 40) = false := by simp; omega
                  have e5 : decide (16 < (k : Int) + 1) = false := decide_eq_false b5
                  have HZ : Hid (rf s0 (vp k x L false) = 0) := Lib.hid (vp_0 (by omega) (by omega) (by rw [HLL5.out]; exact b2) (by omega) b5)
                  clear b2
                  go_wp2_with (first | (refine wpList_append_lies _ rfl (.tmp 54) (.tmp 59) 33 rfl w1.heap.size 56 i0 z0 2 32 Try.underlying33 hi0 hz0 hz1 hz2 hz3 (by omega) _ k (pcs l) rfl HR3.out ⟨w3.heap.size, 0, none⟩ 1 1 [.int .i64 x, .slice (some ⟨gc, 0, none⟩) n n] rfl rfl HNS.out (fun v hv => by simp at hv; rcases hv with rfl | rfl <;> rfl) (by omega) (by unfold maxLen; omega) (by omega) HSZ.out _ rfl ?_; intro gg cap2 w4 hown hgrow hat hlt4; have HY := Lib.hid (HMO.out gg cap2 w4 hown hgrow hat); clear hown hgrow hat hlt4) | fail)
                  have HMP : Hid ((l ++ [(((x, L) : Pt), gc, n)]).map (·.1) = vp k x L false) := Lib.hid (by rw [List.map_append, HLP.out]; rfl)
                  obtain ⟨n5, hn5⟩ : ∃ n5, n5 = k + 1 := ⟨_, rfl⟩
                  have HN5 : Hid (n5 ≤ 22) := Lib.hid (by omega)
                  have HPL : Hid ((vp k x L false).length = n5) := Lib.hid (by rw [vp_len, hn5])
                  obtain ⟨A5, hA5⟩ : ∃ A5 : Option Addr, A5 = some ⟨gg, 0, none⟩ := ⟨_, rfl⟩
                  obtain ⟨c5, hc5⟩ : ∃ c5, c5 = cap2 := ⟨_, rfl⟩
                  have HPV : Hid (PV w4 A5 (vp k x L false)) := Lib.hid (by
                    obtain ⟨A, c, he, hp⟩ := HY.out.pv
                    injection he with e1 _ _
                    rw [HMP.out] at hp
                    rw [hA5, e1]; exact hp)
                  have HBO5 := Lib.hid (HBO.out.on HY.out.at_)
                  rw [← hn5, ← hA5, ← hc5]
                  clear hn5 hA5 hc5
                  have HW := Lib.hid (write_any HBO5.out.bf A5 (vp k x L false) n5 c5 HPL.out (by have := HN5.out; omega) HPV.out (vp_by HLB.out))
                  rw [HZ.out] at HW
                  have HU := Lib.hid (vp_wr (m := k) (x := x) (L := L) (tw := false))
                  rw [HZ.out] at HU
                  refine HW.out.mono ?_
                  rintro e w6 ⟨rfl, hbf, hmv⟩
                  have HBO6 := Lib.hid (HBO5.out.wrote hbf hmv)
                  clear hbf hmv HW
                  have HW2 := Lib.hid (write_any HBO6.out.bf none [] 0 0 rfl (by omega) (PV.nil _ _) (fun p hp => by cases hp))
                  rw [rf_none, wr_no (by rw [rf_none]; decide)] at HW2
                  go_wp2_with fail
                  refine HW2.out.mono ?_
                  rintro e w7 ⟨rfl, hbf, hmv⟩
                  have HBO7 := Lib.hid (HBO6.out.wrote hbf hmv)
                  clear hbf hmv HW2
                  have HL := Lib.hid (len_bf HBO7.out.bf)
                  obtain ⟨u, hu⟩ : ∃ u, u = (us (Proofs.Ythaiddhbifakhaa.wr s0 (vp k x L false))).length := ⟨_, rfl⟩
                  rw [← hu] at HL HU
                  clear hu
                  have hu0 : (0 : Int) < (u : Int) := by have := HU.out.1 (by first | rfl | trivial); omega
                  go_wp2_with fail
                  refine HL.out.mono ?_
                  rintro e w' ⟨rfl, rfl⟩
                  go_wp2_with fail
                  refine (HAW.out _).mono ?_
                  rintro e w8 ⟨rfl, hA⟩
                  have HE : Hid (At w w8) := Lib.hid (HBO7.out.at_.next hA)
                  clear hA
                  go_wp2
                  go_ret
                  exact ⟨rfl, HE.out⟩
              · have e3 : decide ((40 : Int) ≤ x) = false := decide_eq_false (by omega)
                have e2 : ((n : Int) != 40) = true := by simp; omega
                have HZ : Hid (rf s0 (vp k x L false) = 3) := Lib.hid (vp_3 (by omega) (by omega) (by rw [HLL5.out]; exact b2))
                clear b2
                go_wp2_with (first | (refine wpList_append_lies _ rfl (.tmp 54) (.tmp 59) 33 rfl w1.heap.size 56 i0 z0 2 32 Try.underlying33 hi0 hz0 hz1 hz2 hz3 (by omega) _ k (pcs l) rfl HR3.out ⟨w3.heap.size, 0, none⟩ 1 1 [.int .i64 x, .slice (some ⟨gc, 0, none⟩) n n] rfl rfl HNS.out (fun v hv => by simp at hv; rcases hv with rfl | rfl <;> rfl) (by omega) (by unfold maxLen; omega) (by omega) HSZ.out _ rfl ?_; intro gg cap2 w4 hown hgrow hat hlt4; have HY := Lib.hid (HMO.out gg cap2 w4 hown hgrow hat); clear hown hgrow hat hlt4) | fail)
                have HMP : Hid ((l ++ [(((x, L) : Pt), gc, n)]).map (·.1) = vp k x L false) := Lib.hid (by rw [List.map_append, HLP.out]; rfl)
                obtain ⟨n5, hn5⟩ : ∃ n5, n5 = k + 1 := ⟨_, rfl⟩
                have HN5 : Hid (n5 ≤ 22) := Lib.hid (by omega)
                have HPL : Hid ((vp k x L false).length = n5) := Lib.hid (by rw [vp_len, hn5])
                obtain ⟨A5, hA5⟩ : ∃ A5 : Option Addr, A5 = some ⟨gg, 0, none⟩ := ⟨_, rfl⟩
                obtain ⟨c5, hc5⟩ : ∃ c5, c5 = cap2 := ⟨_, rfl⟩
                have HPV : Hid (PV w4 A5 (vp k x L false)) := Lib.hid (by
                  obtain ⟨A, c, he, hp⟩ := HY.out.pv
                  injection he with e1 _ _
                  rw [HMP.out] at hp
                  rw [hA5, e1]; exact hp)
                have HBO5 := Lib.hid (HBO.out.on HY.out.at_)
                rw [← hn5, ← hA5, ← hc5]
                clear hn5 hA5 hc5
                have HW := Lib.hid (write_any HBO5.out.bf A5 (vp k x L false) n5 c5 HPL.out (by have := HN5.out; omega) HPV.out (vp_by HLB.out))
                rw [HZ.out] at HW
                have HU := Lib.hid (vp_wr (m := k) (x := x) (L := L) (tw := false))
                rw [HZ.out] at HU
                refine HW.out.mono ?_
                rintro e w6 ⟨rfl, hbf, hmv⟩
                have HBO6 := Lib.hid (HBO5.out.wrote hbf hmv)
                clear hbf hmv HW
                have HW2 := Lib.hid (write_any HBO6.out.bf none [] 0 0 rfl (by omega) (PV.nil _ _) (fun p hp => by cases hp))
                rw [rf_none, wr_no (by rw [rf_none]; decide)] at HW2
                go_wp2_with fail
                refine HW2.out.mono ?_
                rintro e w7 ⟨rfl, hbf, hmv⟩
                have HBO7 := Lib.hid (HBO6.out.wrote hbf hmv)
                clear hbf hmv HW2
                have HL := Lib.hid (len_bf HBO7.out.bf)
                obtain ⟨u, hu⟩ : ∃ u, u = (us (Proofs.Ythaiddhbifakhaa.wr s0 (vp k x L false))).length := ⟨_, rfl⟩
                rw [← hu] at HL HU
                clear hu
                obtain rfl : u = 0 := HU.out.2 (by decide)
                go_wp2_with fail
                refine HL.out.mono ?_
                rintro e w' ⟨rfl, rfl⟩
                go_wp2_with fail
                refine (HAW.out _).mono ?_
                rintro e w8 ⟨rfl, hA⟩
                have HE : Hid (At w w8) := Lib.hid (HBO7.out.at_.next hA)
                clear hA
                go_wp2
                go_ret
                exact ⟨rfl, HE.out⟩
            · by_cases b4 : x < 40 + (k : Int)
              · by_cases b2 : n = 40
                · have e3 : decide ((40 : Int) ≤ x) = true := decide_eq_true (by omega)
                  have e4 : decide (x < 40 + (k : Int)) = true := decide_eq_true b4
                  have e2 : ((n : Int) != 40) = false := by simp; omega
                  have HZ : Hid (rf s0 (vp k x L false) = 4) := Lib.hid (vp_4 (by omega) (by omega) (by omega) (by rw [HLL5.out]; exact b2) (Or.inr (by omega)))
                  clear b2
                  go_wp2_with (first | (refine wpList_append_lies _ rfl (.tmp 54) (.tmp 59) 33 rfl w1.heap.size 56 i0 z0 2 32 Try.underlying33 hi0 hz0 hz1 hz2 hz3 (by omega) _ k (pcs l) rfl HR3.out ⟨w3.heap.size, 0, none⟩ 1 1 [.int .i64 x, .slice (some ⟨gc, 0, none⟩) n n] rfl rfl HNS.out (fun v hv => by simp at hv; rcases hv with rfl | rfl <;> rfl) (by omega) (by unfold maxLen; omega) (by omega) HSZ.out _ rfl ?_; intro gg cap2 w4 hown hgrow hat hlt4; have HY := Lib.hid (HMO.out gg cap2 w4 hown hgrow hat); clear hown hgrow hat hlt4) | fail)
                  have HMP : Hid ((l ++ [(((x, L) : Pt), gc, n)]).map (·.1) = vp k x L false) := Lib.hid (by rw [List.map_append, HLP.out]; rfl)
                  obtain ⟨n5, hn5⟩ : ∃ n5, n5 = k + 1 := ⟨_, rfl⟩
                  have HN5 : Hid (n5 ≤ 22) := Lib.hid (by omega)
                  have HPL : Hid ((vp k x L false).length = n5) := Lib.hid (by rw [vp_len, hn5])
                  obtain ⟨A5, hA5⟩ : ∃ A5 : Option Addr, A5 = some ⟨gg, 0, none⟩ := ⟨_, rfl⟩
                  obtain ⟨c5, hc5⟩ : ∃ c5, c5 = cap2 := ⟨_, rfl⟩
                  have HPV : Hid (PV w4 A5 (vp k x L false)) := Lib.hid (by
                    obtain ⟨A, c, he, hp⟩ := HY.out.pv
                    injection he with e1 _ _
                    rw [HMP.out] at hp
                    rw [hA5, e1]; exact hp)
                  have HBO5 := Lib.hid (HBO.out.on HY.out.at_)
                  rw [← hn5, ← hA5, ← hc5]
                  clear hn5 hA5 hc5
                  have HW := Lib.hid (write_any HBO5.out.bf A5 (vp k x L false) n5 c5 HPL.out (by have := HN5.out; omega) HPV.out (vp_by HLB.out))
                  rw [HZ.out] at HW
                  have HU := Lib.hid (vp_wr (m := k) (x := x) (L := L) (tw := false))
                  rw [HZ.out] at HU
                  refine HW.out.mono ?_
                  rintro e w6 ⟨rfl, hbf, hmv⟩
                  have HBO6 := Lib.hid (HBO5.out.wrote hbf hmv)
                  clear hbf hmv HW
                  have HW2 := Lib.hid (write_any HBO6.out.bf none [] 0 0 rfl (by omega) (PV.nil _ _) (fun p hp => by cases hp))
                  rw [rf_none, wr_no (by rw [rf_none]; decide)] at HW2
                  go_wp2_with fail
                  refine HW2.out.mono ?_
                  rintro e w7 ⟨rfl, hbf, hmv⟩
                  have HBO7 := Lib.hid (HBO6.out.wrote hbf hmv)
                  clear hbf hmv HW2
                  have HL := Lib.hid (len_bf HBO7.out.bf)
                  obtain ⟨u, hu⟩ : ∃ u, u = (us (Proofs.Ythaiddhbifakhaa.wr s0 (vp k x L false))).length := ⟨_, rfl⟩
                  rw [← hu] at HL HU
                  clear hu
                  obtain rfl : u = 0 := HU.out.2 (by decide)
                  go_wp2_with fail
                  refine HL.out.mono ?_
                  rintro e w' ⟨rfl, rfl⟩
                  go_wp2_with fail
                  refine (HAW.out _).mono ?_
                  rintro e w8 ⟨rfl, hA⟩
                  have HE : Hid (At w w8) := Lib.hid (HBO7.out.at_.next hA)
                  clear hA
                  go_wp2
                  go_ret
                  exact ⟨rfl, HE.out⟩
                · have e3 : decide ((40 : Int) ≤ x) = true := decide_eq_true (by omega)
                  have e4 : decide (x < 40 + (k : Int)) = true := decide_eq_true b4
                  have e2 : ((n : Int) != 40) = true := by simp; omega
                  have HZ : Hid (rf s0 (vp k x L false) = 3) := Lib.hid (vp_3 (by omega) (by omega) (by rw [HLL5.out]; exact b2))
                  clear b2
                  go_wp2_with (first | (refine wpList_append_lies _ rfl (.tmp 54) (.tmp 59) 33 rfl w1.heap.size 56 i0 z0 2 32 Try.underlying33 hi0 hz0 hz1 hz2 hz3 (by omega) _ k (pcs l) rfl HR3.out ⟨w3.heap.size, 0, none⟩ 1 1 [.int .i64 x, .slice (some ⟨gc, 0, none⟩) n n] rfl rfl HNS.out (fun v hv => by simp at hv; rcases hv with rfl | rfl <;> rfl) (by omega) (by unfold maxLen; omega) (by omega) HSZ.out _ rfl ?_; intro gg cap2 w4 hown hgrow hat hlt4; have HY := Lib.hid (HMO.out gg cap2 w4 hown hgrow hat); clear hown hgrow hat hlt4) | fail)
                  have HMP : Hid ((l ++ [(((x, L) : Pt), gc, n)]).map (·.1) = vp k x L false) := Lib.hid (by rw [List.map_append, HLP.out]; rfl)
                  obtain ⟨n5, hn5⟩ : ∃ n5, n5 = k + 1 := ⟨_, rfl⟩
                  have HN5 : Hid (n5 ≤ 22) := Lib.hid (by omega)
                  have HPL : Hid ((vp k x L false).length = n5) := Lib.hid (by rw [vp_len, hn5])
                  obtain ⟨A5, hA5⟩ : ∃ A5 : Option Addr, A5 = some ⟨gg, 0, none⟩ := ⟨_, rfl⟩
                  obtain ⟨c5, hc5⟩ : ∃ c5, c5 = cap2 := ⟨_, rfl⟩
                  have HPV : Hid (PV w4 A5 (vp k x L false)) := Lib.hid (by
                    obtain ⟨A, c, he, hp⟩ := HY.out.pv
                    injection he with e1 _ _
                    rw [HMP.out] at hp
                    rw [hA5, e1]; exact hp)
                  have HBO5 := Lib.hid (HBO.out.on HY.out.at_)
                  rw [← hn5, ← hA5, ← hc5]
                  clear hn5 hA5 hc5
                  have HW := Lib.hid (write_any HBO5.out.bf A5 (vp k x L false) n5 c5 HPL.out (by have := HN5.out; omega) HPV.out (vp_by HLB.out))
                  rw [HZ.out] at HW
                  have HU := Lib.hid (vp_wr (m := k) (x := x) (L := L) (tw := false))
                  rw [HZ.out] at HU
                  refine HW.out.mono ?_
                  rintro e w6 ⟨rfl, hbf, hmv⟩
                  have HBO6 := Lib.hid (HBO5.out.wrote hbf hmv)
                  clear hbf hmv HW
                  have HW2 := Lib.hid (write_any HBO6.out.bf none [] 0 0 rfl (by omega) (PV.nil _ _) (fun p hp => by cases hp))
                  rw [rf_none, wr_no (by rw [rf_none]; decide)] at HW2
                  go_wp2_with fail
                  refine HW2.out.mono ?_
                  rintro e w7 ⟨rfl, hbf, hmv⟩
                  have HBO7 := Lib.hid (HBO6.out.wrote hbf hmv)
                  clear hbf hmv HW2
                  have HL := Lib.hid (len_bf HBO7.out.bf)
                  obtain ⟨u, hu⟩ : ∃ u, u = (us (Proofs.Ythaiddhbifakhaa.wr s0 (vp k x L false))).length := ⟨_, rfl⟩
                  rw [← hu] at HL HU
                  clear hu
                  obtain rfl : u = 0 := HU.out.2 (by decide)
                  go_wp2_with fail
                  refine HL.out.mono ?_
                  rintro e w' ⟨rfl, rfl⟩
                  go_wp2_with fail
                  refine (HAW.out _).mono ?_
                  rintro e w8 ⟨rfl, hA⟩
                  have HE : Hid (At w w8) := Lib.hid (HBO7.out.at_.next hA)
                  clear hA
                  go_wp2
                  go_ret
                  exact ⟨rfl, HE.out⟩
              · by_cases b2 : n = 40
                · by_cases b5 : 16 < (k : Int) + 1
                  · have e3 : decide ((40 : Int) ≤ x) = true := decide_eq_true (by omega)
                    have e4 : decide (x < 40 + (k : Int)) = false := decide_eq_false b4
                    have e2 : ((n : Int) != 40) = false := by simp; omega
                    have e5 : decide (16 < (k : Int) + 1) = true := decide_eq_true b5
                    have HZ : Hid (rf s0 (vp k x L false) = 7) := Lib.hid (vp_7 (by omega) (by omega) (by rw [HLL5.out]; exact b2) (by omega) b5)
                    clear b2
                    go_wp2_with (first | (refine wpList_append_lies _ rfl (.tmp 54) (.tmp 59) 33 rfl w1.heap.size 56 i0 z0 2 32 Try.underlying33 hi0 hz0 hz1 hz2 hz3 (by omega) _ k (pcs l) rfl HR3.out ⟨w3.heap.size, 0, none⟩ 1 1 [.int .i64 x, .slice (some ⟨gc, 0, none⟩) n n] rfl rfl HNS.out (fun v hv => by simp at hv; rcases hv with rfl | rfl <;> rfl) (by omega) (by unfold maxLen; omega) (by omega) HSZ.out _ rfl ?_; intro gg cap2 w4 hown hgrow hat hlt4; have HY := Lib.hid (HMO.out gg cap2 w4 hown hgrow hat); clear hown hgrow hat hlt4) | fail)
                    have HMP : Hid ((l ++ [(((x, L) : Pt), gc, n)]).map (·.1) = vp k x L false) := Lib.hid (by rw [List.map_append, HLP.out]; rfl)
                    obtain ⟨n5, hn5⟩ : ∃ n5, n5 = k + 1 := ⟨_, rfl⟩
                    have HN5 : Hid (n5 ≤ 22) := Lib.hid (by omega)
                    have HPL : Hid ((vp k x L false).length = n5) := Lib.hid (by rw [vp_len, hn5])
                    obtain ⟨A5, hA5⟩ : ∃ A5 : Option Addr, A5 = some ⟨gg, 0, none⟩ := ⟨_, rfl⟩
                    obtain ⟨c5, hc5⟩ : ∃ c5, c5 = cap2 := ⟨_, rfl⟩
                    have HPV : Hid (PV w4 A5 (vp k x L false)) := Lib.hid (by
                      obtain ⟨A, c, he, hp⟩ := HY.out.pv
                      injection he with e1 _ _
                      rw [HMP.out] at hp
                      rw [hA5, e1]; exact hp)
                    have HBO5 := Lib.hid (HBO.out.on HY.out.at_)
                    rw [← hn5, ← hA5, ← hc5]
                    clear hn5 hA5 hc5
                    have HW := Lib.hid (write_any HBO5.out.bf A5 (vp k x L false) n5 c5 HPL.out (by have := HN5.out; omega) HPV.out (vp_by HLB.out))
                    rw [HZ.out] at HW
                    have HU := Lib.hid (vp_wr (m := k) (x := x) (L := L) (tw := false))
                    rw [HZ.out] at HU
                    refine HW.out.mono ?_
                    rintro e w6 ⟨rfl, hbf, hmv⟩
                    have HBO6 := Lib.hid (HBO5.out.wrote hbf hmv)
                    clear hbf hmv HW
                    have HW2 := Lib.hid (write_any HBO6.out.bf none [] 0 0 rfl (by omega) (PV.nil _ _) (fun p hp => by cases hp))
                    rw [rf_none, wr_no (by rw [rf_none]; decide)] at HW2
                    go_wp2_with fail
                    refine HW2.out.mono ?_
                    rintro e w7 ⟨rfl, hbf, hmv⟩
                    have HBO7 := Lib.hid (HBO6.out.wrote hbf hmv)
                    clear hbf hmv HW2
                    have HL := Lib.hid (len_bf HBO7.out.bf)
                    obtain ⟨u, hu⟩ : ∃ u, u = (us (Proofs.Ythaiddhbifakhaa.wr s0 (vp k x L false))).length := ⟨_, rfl⟩
                    rw [← hu] at HL HU
                    clear hu
                    obtain rfl : u = 0 := HU.out.2 (by decide)
                    go_wp2_with fail
                    refine HL.out.mono ?_
                    rintro e w' ⟨rfl, rfl⟩
                    go_wp2_with fail
                    refine (HAW.out _).mono ?_
                    rintro e w8 ⟨rfl, hA⟩
                    have HE : Hid (At w w8) := Lib.hid (HBO7.out.at_.next hA)
                    clear hA
                    go_wp2
                    go_ret
                    exact ⟨rfl, HE.out⟩
                  · have e3 : decide ((40 : Int) ≤ x) = true := decide_eq_true (by omega)
                    have e4 : decide (x < 40 + (k : Int)) = false := decide_eq_false b4
                    have e2 : ((n : Int) != 40) = false := by simp; omega
                    have e5 : decide (16 < (k : Int) + 1) = false := decide_eq_false b5
                    have HZ : Hid (rf s0 (vp k x L false) = 0) := Lib.hid (vp_0 (by omega) (by omega) (by rw [HLL5.out]; exact b2) (by omega) b5)
                    clear b2
                    go_wp2_with (first | (refine wpList_append_lies _ rfl (.tmp 54) (.tmp 59) 33 rfl w1.heap.size 56 i0 z0 2 32 Try.underlying33 hi0 hz0 hz1 hz2 hz3 (by omega) _ k (pcs l) rfl HR3.out ⟨w3.heap.size, 0, none⟩ 1 1 [.int .i64 x, .slice (some ⟨gc, 0, none⟩) n n] rfl rfl HNS.out (fun v hv => by simp at hv; rcases hv with rfl | rfl <;> rfl) (by omega) (by unfold maxLen; omega) (by omega) HSZ.out _ rfl ?_; intro gg cap2 w4 hown hgrow hat hlt4; have HY := Lib.hid (HMO.out gg cap2 w4 hown hgrow hat); clear hown hgrow hat hlt4) | fail)
                    have HMP : Hid ((l ++ [(((x, L) : Pt), gc, n)]).map (·.1) = vp k x L false) := Lib.hid (by rw [List.map_append, HLP.out]; rfl)
                    obtain ⟨n5, hn5⟩ : ∃ n5, n5 = k + 1 := ⟨_, rfl⟩
                    have HN5 : Hid (n5 ≤ 22) := Lib.hid (by omega)
                    have HPL : Hid ((vp k x L false).length = n5) := Lib.hid (by rw [vp_len, hn5])
                    obtain ⟨A5, hA5⟩ : ∃ A5 : Option Addr, A5 = some ⟨gg, 0, none⟩ := ⟨_, rfl⟩
                    obtain ⟨c5, hc5⟩ : ∃ c5, c5 = cap2 := ⟨_, rfl⟩
                    have HPV : Hid (PV w4 A5 (vp k x L false)) := Lib.hid (by
                      obtain ⟨A, c, he, hp⟩ := HY.out.pv
                      injection he with e1 _ _
                      rw [HMP.out] at hp
                      rw [hA5, e1]; exact hp)
                    have HBO5 := Lib.hid (HBO.out.on HY.out.at_)
                    rw [← hn5, ← hA5, ← hc5]
                    clear hn5 hA5 hc5
                    have HW := Lib.hid (write_any HBO5.out.bf A5 (vp k x L false) n5 c5 HPL.out (by have := HN5.out; omega) HPV.out (vp_by HLB.out))
                    rw [HZ.out] at HW
                    have HU := Lib.hid (vp_wr (m := k) (x := x) (L := L) (tw := false))
                    rw [HZ.out] at HU
                    refine HW.out.mono ?_
                    rintro e w6 ⟨rfl, hbf, hmv⟩
                    have HBO6 := Lib.hid (HBO5.out.wrote hbf hmv)
                    clear hbf hmv HW
                    have HW2 := Lib.hid (write_any HBO6.out.bf none [] 0 0 rfl (by omega) (PV.nil _ _) (fun p hp => by cases hp))
                    rw [rf_none, wr_no (by rw [rf_none]; decide)] at HW2
                    go_wp2_with fail
                    refine HW2.out.mono ?_
                    rintro e w7 ⟨rfl, hbf, hmv⟩
                    have HBO7 := Lib.hid (HBO6.out.wrote hbf hmv)
                    clear hbf hmv HW2
                    have HL := Lib.hid (len_bf HBO7.out.bf)
                    obtain ⟨u, hu⟩ : ∃ u, u = (us (Proofs.Ythaiddhbifakhaa.wr s0 (vp k x L false))).length := ⟨_, rfl⟩
                    rw [← hu] at HL HU
                    clear hu
                    have hu0 : (0 : Int) < (u : Int) := by have := HU.out.1 (by first | rfl | trivial); omega
                    go_wp2_with fail
                    refine HL.out.mono ?_
                    rintro e w' ⟨rfl, rfl⟩
                    go_wp2_with fail
                    refine (HAW.out _).mono ?_
                    rintro e w8 ⟨rfl, hA⟩
                    have HE : Hid (At w w8) := Lib.hid (HBO7.out.at_.next hA)
                    clear hA
                    go_wp2
                    go_ret
                    exact ⟨rfl, HE.out⟩
                · have e3 : decide ((40 : Int) ≤ x) = true := decide_eq_true (by omega)
                  have e4 : decide (x < 40 + (k : Int)) = false := decide_eq_false b4
                  have e2 : ((n : Int) != 40) = true := by simp; omega
                  have HZ : Hid (rf s0 (vp k x L false) = 3) := Lib.hid (vp_3 (by omega) (by omega) (by rw [HLL5.out]; exact b2))
                  clear b2
                  go_wp2_with (first | (refine wpList_append_lies _ rfl (.tmp 54) (.tmp 59) 33 rfl w1.heap.size 56 i0 z0 2 32 Try.underlying33 hi0 hz0 hz1 hz2 hz3 (by omega) _ k (pcs l) rfl HR3.out ⟨w3.heap.size, 0, none⟩ 1 1 [.int .i64 x, .slice (some ⟨gc, 0, none⟩) n n] rfl rfl HNS.out (fun v hv => by simp at hv; rcases hv with rfl | rfl <;> rfl) (by omega) (by unfold maxLen; omega) (by omega) HSZ.out _ rfl ?_; intro gg cap2 w4 hown hgrow hat hlt4; have HY := Lib.hid (HMO.out gg cap2 w4 hown hgrow hat); clear hown hgrow hat hlt4) | fail)
                  have HMP : Hid ((l ++ [(((x, L) : Pt), gc, n)]).map (·.1) = vp k x L false) := Lib.hid (by rw [List.map_append, HLP.out]; rfl)
                  obtain ⟨n5, hn5⟩ : ∃ n5, n5 = k + 1 := ⟨_, rfl⟩
                  have HN5 : Hid (n5 ≤ 22) := Lib.hid (by omega)
                  have HPL : Hid ((vp k x L false).length = n5) := Lib.hid (by rw [vp_len, hn5])
                  obtain ⟨A5, hA5⟩ : ∃ A5 : Option Addr, A5 = some ⟨gg, 0, none⟩ := ⟨_, rfl⟩
                  obtain ⟨c5, hc5⟩ : ∃ c5, c5 = cap2 := ⟨_, rfl⟩
                  have HPV : Hid (PV w4 A5 (vp k x L false)) := Lib.hid (by
                    obtain ⟨A, c, he, hp⟩ := HY.out.pv
                    injection he with e1 _ _
                    rw [HMP.out] at hp
                    rw [hA5, e1]; exact hp)
                  have HBO5 := Lib.hid (HBO.out.on HY.out.at_)
                  rw [← hn5, ← hA5, ← hc5]
                  clear hn5 hA5 hc5
                  have HW := Lib.hid (write_any HBO5.out.bf A5 (vp k x L false) n5 c5 HPL.out (by have := HN5.out; omega) HPV.out (vp_by HLB.out))
                  rw [HZ.out] at HW
                  have HU := Lib.hid (vp_wr (m := k) (x := x) (L := L) (tw := false))
                  rw [HZ.out] at HU
                  refine HW.out.mono ?_
                  rintro e w6 ⟨rfl, hbf, hmv⟩
                  have HBO6 := Lib.hid (HBO5.out.wrote hbf hmv)
                  clear hbf hmv HW
                  have HW2 := Lib.hid (write_any HBO6.out.bf none [] 0 0 rfl (by omega) (PV.nil _ _) (fun p hp => by cases hp))
                  rw [rf_none, wr_no (by rw [rf_none]; decide)] at HW2
                  go_wp2_with fail
                  refine HW2.out.mono ?_
                  rintro e w7 ⟨rfl, hbf, hmv⟩
                  have HBO7 := Lib.hid (HBO6.out.wrote hbf hmv)
                  clear hbf hmv HW2
                  have HL := Lib.hid (len_bf HBO7.out.bf)
                  obtain ⟨u, hu⟩ : ∃ u, u = (us (Proofs.Ythaiddhbifakhaa.wr s0 (vp k x L false))).length := ⟨_, rfl⟩
                  rw [← hu] at HL HU
                  clear hu
                  obtain rfl : u = 0 := HU.out.2 (by decide)
                  go_wp2_with fail
                  refine HL.out.mono ?_
                  rintro e w' ⟨rfl, rfl⟩
                  go_wp2_with fail
                  refine (HAW.out _).mono ?_
                  rintro e w8 ⟨rfl, hA⟩
                  have HE : Hid (At w w8) := Lib.hid (HBO7.out.at_.next hA)
                  clear hA
                  go_wp2
                  go_ret
                  exact ⟨rfl, HE.out⟩
      | true =>
        obtain ⟨y, l', hl⟩ : ∃ y l', l = y :: l' := by
          cases l with
          | nil => have := HLK.out; simp at this; omega
          | cons y l' => exact ⟨y, l', rfl⟩
        have hy : y.1 = ((40 : Int), bk 0) := by
          have h0 := HLP.out
          rw [hl, show k = (k - 1) + 1 by omega, List.map_cons] at h0
          unfold lp at h0
          rw [List.range_succ_eq_map, List.map_cons] at h0
          injection h0
        obtain ⟨⟨ya, yd⟩, yg, yc⟩ := y
        injection hy with hy1 hy2
        subst hy1 hy2
        obtain ⟨l1, hl1⟩ : ∃ l1, l1 = l ++ [(((x, L) : Pt), gc, n)] := ⟨_, rfl⟩
        have hl2 : l1 = ((((((40 : Int), bk 0) : Pt), yg, yc) :: l') ++ [(((x, L) : Pt), gc, n)]) := by rw [hl1, hl]
        have HL1 : Hid (l1.length = k + 1) := Lib.hid (by rw [hl1, List.length_append, HLK.out]; rfl)
        have HMP : Hid ((l1 ++ [((((40 : Int), bk 0) : Pt), yg, yc)]).map (·.1) = vp k x L true) := Lib.hid (by rw [hl1, List.map_append, List.map_append, HLP.out]; unfold vp tl; simp)
        have HCC : Hid (∀ (gg cap2 : Nat) (w4 : World), Dm w1 w4 (.slice (some ⟨gg, 0, none⟩) (k + 1) cap2) l1 → w4.cell? ⟨gg, 0, none⟩ = some (.int .i64 40) ∧ w4.cell? ⟨gg, 1, none⟩ = some (.slice (some ⟨yg, 0, none⟩) 40 yc) ∧
            (w4.alloc (.cells #[.int .i64 40, .slice (some ⟨yg, 0, none⟩) 40 yc] 56)).ownsRow w1.heap.size 56 2 (.slice (some ⟨gg, 0, none⟩) (k + 1) cap2) (k + 1) (pcs l1) ∧ w1.heap.size ≤ (w4.alloc (.cells #[.int .i64 40, .slice (some ⟨yg, 0, none⟩) 40 yc] 56)).heap.size) := Lib.hid (fun gg cap2 w4 hd => by
          have hrow := hd.row
          rw [HL1.out] at hrow
          have hcell := hd.row.cells (g := gg) rfl
          rw [hl2] at hcell
          refine ⟨?_, ?_, row_on hrow ((At.start w4).alloc _), Nat.le_trans hd.at_.size ((At.start w4).alloc _).size⟩
          · have := hcell 0 (.int .i64 40) rfl
            rwa [Go.WideShapes.add_plain] at this
          · have := hcell 1 (.slice (some ⟨yg, 0, none⟩) (bk 0).length yc) rfl
            rw [bk_len] at this
            rwa [Go.WideShapes.add_plain] at this)
        have HPT : Hid (∀ (gg cap2 g6 cap6 : Nat) (w4 w5 : World), Dm w1 w4 (.slice (some ⟨gg, 0, none⟩) (k + 1) cap2) l1 → w5.ownsRow w1.heap.size 56 2 (.slice (some ⟨g6, 0, none⟩) (k + 1 + 1) cap6) (k + 1 + 1) (pcs l1 ++ [.int .i64 40, .slice (some ⟨yg, 0, none⟩) 40 yc]) → (w4.alloc (.cells #[.int .i64 40, .slice (some ⟨yg, 0, none⟩) 40 yc] 56)).grownBy w5 (Value.slice (some ⟨gg, 0, none⟩) (k + 1) cap2).ownBlock → ((Value.slice (some ⟨gg, 0, none⟩) (k + 1) cap2).ownBlock = some g6 ∨ g6 = (w4.alloc (.cells #[.int .i64 40, .slice (some ⟨yg, 0, none⟩) 40 yc] 56)).heap.size) →
            Dm w1 w5 (.slice (some ⟨g6, 0, none⟩) (k + 1 + 1) cap6) (l1 ++ [((((40 : Int), bk 0) : Pt), yg, yc)])) := Lib.hid (fun gg cap2 g6 cap6 w4 w5 hd hown hgrow hat => by
          have hbv := hd.bv (((40, bk 0) : Pt), yg, yc) (by rw [hl2]; simp)
          have hA : At w4 (w4.alloc (.cells #[.int .i64 40, .slice (some ⟨yg, 0, none⟩) 40 yc] 56)) := (At.start w4).alloc _
          have hh := hd.put (a := 40) (d := bk 0) (w4 := w5) (gg := g6) (cap := cap6) (cc := yc) (gc := yg) hA (hbv.1.below hA) (Nat.lt_of_lt_of_le hbv.2.2 hA.size) hbv.2.1 (by rw [HL1.out, bk_len]; exact hown) hgrow hat
          rwa [HL1.out] at hh)
        rw [← hl1] at HMO
        have gi : (0 : Int) < (k : Int) + 1 := by omega
        have HNT : Hid (∀ w4 : World, ∀ j v, [Value.int .i64 40, .slice (some ⟨yg, 0, none⟩) 40 yc][j]? = some v → (w4.alloc (.cells #[.int .i64 40, .slice (some ⟨yg, 0, none⟩) 40 yc] 56)).cell? ((⟨w4.heap.size, 0, none⟩ : Addr).add j) = some v) := Lib.hid (fun w4 => World.news_of_block (cs := #[Value.int .i64 40, .slice (some ⟨yg, 0, none⟩) 40 yc]) (t := 56) (fr := (0, 0)) (heap_alloc_new w4 _))
        clear hl1 hl2 hl
        by_cases b0 : x < 0
        · have e0 : decide (x < 0) = true := decide_eq_true b0
          have e3 : decide ((40 : Int) ≤ x) = false := decide_eq_false (by omega)
          have HZ : Hid (rf s0 (vp k x L true) = 2) := Lib.hid (vp_2 (by omega))
          go_wp2_with (first | (refine wpList_append_lies _ rfl (.tmp 54) (.tmp 59) 33 rfl w1.heap.size 56 i0 z0 2 32 Try.underlying33 hi0 hz0 hz1 hz2 hz3 (by omega) _ k (pcs l) rfl HR3.out ⟨w3.heap.size, 0, none⟩ 1 1 [.int .i64 x, .slice (some ⟨gc, 0, none⟩) n n] rfl rfl HNS.out (fun v hv => by simp at hv; rcases hv with rfl | rfl <;> rfl) (by omega) (by unfold maxLen; omega) (by omega) HSZ.out _ rfl ?_; intro gg cap2 w4 hown hgrow hat hlt4; have HY := Lib.hid (HMO.out gg cap2 w4 hown hgrow hat); clear hown hgrow hat hlt4; obtain ⟨c0, c1, hrr, hss⟩ := HCC.out gg cap2 w4 HY.out; have HRR := Lib.hid hrr; have HSS := Lib.hid hss; clear hrr hss) | (refine wpList_append_lies _ rfl (.tmp 62) (.tmp 66) 33 rfl w1.heap.size 56 i0 z0 2 32 Try.underlying33 hi0 hz0 hz1 hz2 hz3 (by omega) _ (k + 1) (pcs l1) rfl HRR.out ⟨w4.heap.size, 0, none⟩ 1 1 [.int .i64 40, .slice (some ⟨yg, 0, none⟩) 40 yc] rfl rfl (HNT.out w4) (fun v hv => by simp at hv; rcases hv with rfl | rfl <;> rfl) (by omega) (by unfold maxLen; omega) (by omega) HSS.out _ rfl ?_; intro g6 cap6 w5 hown hgrow hat hlt4; have HY2 := Lib.hid (HPT.out gg cap2 g6 cap6 w4 w5 HY.out hown hgrow hat); clear hown hgrow hat hlt4 c0 c1) | fail)
          obtain ⟨n5, hn5⟩ : ∃ n5, n5 = k + 1 + 1 := ⟨_, rfl⟩
          have HN5 : Hid (n5 ≤ 22) := Lib.hid (by omega)
          have HPL : Hid ((vp k x L true).length = n5) := Lib.hid (by rw [← HMP.out, List.length_map, List.length_append, HL1.out, hn5]; rfl)
          obtain ⟨A5, hA5⟩ : ∃ A5 : Option Addr, A5 = some ⟨g6, 0, none⟩ := ⟨_, rfl⟩
          obtain ⟨c5, hc5⟩ : ∃ c5, c5 = cap6 := ⟨_, rfl⟩
          have HPV : Hid (PV w5 A5 (vp k x L true)) := Lib.hid (by
            obtain ⟨A, c, he, hp⟩ := HY2.out.pv
            injection he with e1 _ _
            rw [HMP.out] at hp
            rw [hA5, e1]; exact hp)
          have HBO5 := Lib.hid (HBO.out.on HY2.out.at_)
          rw [← hn5, ← hA5, ← hc5]
          clear hn5 hA5 hc5
          have HW := Lib.hid (write_any HBO5.out.bf A5 (vp k x L true) n5 c5 HPL.out (by have := HN5.out; omega) HPV.out (vp_by HLB.out))
          rw [HZ.out] at HW
          have HU := Lib.hid (vp_wr (m := k) (x := x) (L := L) (tw := true))
          rw [HZ.out] at HU
          refine HW.out.mono ?_
          rintro e w6 ⟨rfl, hbf, hmv⟩
          have HBO6 := Lib.hid (HBO5.out.wrote hbf hmv)
          clear hbf hmv HW
          have HW2 := Lib.hid (write_any HBO6.out.bf none [] 0 0 rfl (by omega) (PV.nil _ _) (fun p hp => by cases hp))
          rw [rf_none, wr_no (by rw [rf_none]; decide)] at HW2
          go_wp2_with fail
          refine HW2.out.mono ?_
          rintro e w7 ⟨rfl, hbf, hmv⟩
          have HBO7 := Lib.hid (HBO6.out.wrote hbf hmv)
          clear hbf hmv HW2
          have HL := Lib.hid (len_bf HBO7.out.bf)
          obtain ⟨u, hu⟩ : ∃ u, u = (us (Proofs.Ythaiddhbifakhaa.wr s0 (vp k x L true))).length := ⟨_, rfl⟩
          rw [← hu] at HL HU
          clear hu
          obtain rfl : u = 0 := HU.out.2 (by decide)
          go_wp2_with fail
          refine HL.out.mono ?_
          rintro e w' ⟨rfl, rfl⟩
          go_wp2_with fail
          refine (HAW.out _).mono ?_
          rintro e w8 ⟨rfl, hA⟩
          have HE : Hid (At w w8) := Lib.hid (HBO7.out.at_.next hA)
          clear hA
          go_wp2
          go_ret
          exact ⟨rfl, HE.out⟩
        · have e0 : decide (x < 0) = false := decide_eq_false b0
          by_cases b1 : 100 ≤ x
          · have e1 : decide ((100 : Int) ≤ x) = true := decide_eq_true b1
            have e3 : decide ((40 : Int) ≤ x) = true := decide_eq_true (by omega)
            have e4 : decide (x < 40 + (k : Int)) = false := decide_eq_false (by omega)
            have HZ : Hid (rf s0 (vp k x L true) = 2) := Lib.hid (vp_2 (by omega))
            go_wp2_with (first | (refine wpList_append_lies _ rfl (.tmp 54) (.tmp 59) 33 rfl w1.heap.size 56 i0 z0 2 32 Try.underlying33 hi0 hz0 hz1 hz2 hz3 (by omega) _ k (pcs l) rfl HR3.out ⟨w3.heap.size, 0, none⟩ 1 1 [.int .i64 x, .slice (some ⟨gc, 0, none⟩) n n] rfl rfl HNS.out (fun v hv => by simp at hv; rcases hv with rfl | rfl <;> rfl) (by omega) (by unfold maxLen; omega) (by omega) HSZ.out _ rfl ?_; intro gg cap2 w4 hown hgrow hat hlt4; have HY := Lib.hid (HMO.out gg cap2 w4 hown hgrow hat); clear hown hgrow hat hlt4; obtain ⟨c0, c1, hrr, hss⟩ := HCC.out gg cap2 w4 HY.out; have HRR := Lib.hid hrr; have HSS := Lib.hid hss; clear hrr hss) | (refine wpList_append_lies _ rfl (.tmp 62) (.tmp 66) 33 rfl w1.heap.size 56 i0 z0 2 32 Try.underlying33 hi0 hz0 hz1 hz2 hz3 (by omega) _ (k + 1) (pcs l1) rfl HRR.out ⟨w4.heap.size, 0, none⟩ 1 1 [.int .i64 40, .slice (some ⟨yg, 0, none⟩) 40 yc] rfl rfl (HNT.out w4) (fun v hv => by simp at hv; rcases hv with rfl | rfl <;> rfl) (by omega) (by unfold maxLen; omega) (by omega) HSS.out _ rfl ?_; intro g6 cap6 w5 hown hgrow hat hlt4; have HY2 := Lib.hid (HPT.out gg cap2 g6 cap6 w4 w5 HY.out hown hgrow hat); clear hown hgrow hat hlt4 c0 c1) | fail)
            obtain ⟨n5, hn5⟩ : ∃ n5, n5 = k + 1 + 1 := ⟨_, rfl⟩
            have HN5 : Hid (n5 ≤ 22) := Lib.hid (by omega)
            have HPL : Hid ((vp k x L true).length = n5) := Lib.hid (by rw [← HMP.out, List.length_map, List.length_append, HL1.out, hn5]; rfl)
            obtain ⟨A5, hA5⟩ : ∃ A5 : Option Addr, A5 = some ⟨g6, 0, none⟩ := ⟨_, rfl⟩
            obtain ⟨c5, hc5⟩ : ∃ c5, c5 = cap6 := ⟨_, rfl⟩
            have HPV : Hid (PV w5 A5 (vp k x L true)) := Lib.hid (by
              obtain ⟨A, c, he, hp⟩ := HY2.out.pv
              injection he with e1 _ _
              rw [HMP.out] at hp
              rw [hA5, e1]; exact hp)
            have HBO5 := Lib.hid (HBO.out.on HY2.out.at_)
            rw [← hn5, ← hA5, ← hc5]
            clear hn5 hA5 hc5
            have HW := Lib.hid (write_any HBO5.out.bf A5 (vp k x L true) n5 c5 HPL.out (by have := HN5.out; omega) HPV.out (vp_by HLB.out))
            rw [HZ.out] at HW
            have HU := Lib.hid (vp_wr (m := k) (x := x) (L := L) (tw := true))
            rw [HZ.out] at HU
            refine HW.out.mono ?_
            rintro e w6 ⟨rfl, hbf, hmv⟩
            have HBO6 := Lib.hid (HBO5.out.wrote hbf hmv)
            clear hbf hmv HW
            have HW2 := Lib.hid (write_any HBO6.out.bf none [] 0 0 rfl (by omega) (PV.nil _ _) (fun p hp => by cases hp))
            rw [rf_none, wr_no (by rw [rf_none]; decide)] at HW2
            go_wp2_with fail
            refine HW2.out.mono ?_
            rintro e w7 ⟨rfl, hbf, hmv⟩
            have HBO7 := Lib.hid (HBO6.out.wrote hbf hmv)
            clear hbf hmv HW2
            have HL := Lib.hid (len_bf HBO7.out.bf)
            obtain ⟨u, hu⟩ : ∃ u, u = (us (Proofs.Ythaiddhbifakhaa.wr s0 (vp k x L true))).length := ⟨_, rfl⟩
            rw [← hu] at HL HU
            clear hu
            obtain rfl : u = 0 := HU.out.2 (by decide)
            go_wp2_with fail
            refine HL.out.mono ?_
            rintro e w' ⟨rfl, rfl⟩
            go_wp2_with fail
            refine (HAW.out _).mono ?_
            rintro e w8 ⟨rfl, hA⟩
            have HE : Hid (At w w8) := Lib.hid (HBO7.out.at_.next hA)
            clear hA
            go_wp2
            go_ret
            exact ⟨rfl, HE.out⟩
          · have e1 : decide ((100 : Int) ≤ x) = false := decide_eq_false b1
            by_cases b2 : n = 40
            · have e2 : ((n : Int) != 40) = false := by simp; omega
              have HZ : Hid (rf s0 (vp k x L true) = 4) := Lib.hid (vp_4 (by omega) (by omega) (by omega) (by rw [HLL5.out]; exact b2) (Or.inl rfl))
              clear b2
              go_wp2_with (first | (refine wpList_append_lies _ rfl (.tmp 54) (.tmp 59) 33 rfl w1.heap.size 56 i0 z0 2 32 Try.underlying33 hi0 hz0 hz1 hz2 hz3 (by omega) _ k (pcs l) rfl HR3.out ⟨w3.heap.size, 0, none⟩ 1 1 [.int .i64 x, .slice (some ⟨gc, 0, none⟩) n n] rfl rfl HNS.out (fun v hv => by simp at hv; rcases hv with rfl | rfl <;> rfl) (by omega) (by unfold maxLen; omega) (by omega) HSZ.out _ rfl ?_; intro gg cap2 w4 hown hgrow hat hlt4; have HY := Lib.hid (HMO.out gg cap2 w4 hown hgrow hat); clear hown hgrow hat hlt4; obtain ⟨c0, c1, hrr, hss⟩ := HCC.out gg cap2 w4 HY.out; have HRR := Lib.hid hrr; have HSS := Lib.hid hss; clear hrr hss) | (refine wpList_append_lies _ rfl (.tmp 62) (.tmp 66) 33 rfl w1.heap.size 56 i0 z0 2 32 Try.underlying33 hi0 hz0 hz1 hz2 hz3 (by omega) _ (k + 1) (pcs l1) rfl HRR.out ⟨w4.heap.size, 0, none⟩ 1 1 [.int .i64 40, .slice (some ⟨yg, 0, none⟩) 40 yc] rfl rfl (HNT.out w4) (fun v hv => by simp at hv; rcases hv with rfl | rfl <;> rfl) (by omega) (by unfold maxLen; omega) (by omega) HSS.out _ rfl ?_; intro g6 cap6 w5 hown hgrow hat hlt4; have HY2 := Lib.hid (HPT.out gg cap2 g6 cap6 w4 w5 HY.out hown hgrow hat); clear hown hgrow hat hlt4 c0 c1) | fail)
              obtain ⟨n5, hn5⟩ : ∃ n5, n5 = k + 1 + 1 := ⟨_, rfl⟩
              have HN5 : Hid (n5 ≤ 22) := Lib.hid (by omega)
              have HPL : Hid ((vp k x L true).length = n5) := Lib.hid (by rw [← HMP.out, List.length_map, List.length_append, HL1.out, hn5]; rfl)
              obtain ⟨A5, hA5⟩ : ∃ A5 : Option Addr, A5 = some ⟨g6, 0, none⟩ := ⟨_, rfl⟩
              obtain ⟨c5, hc5⟩ : ∃ c5, c5 = cap6 := ⟨_, rfl⟩
              have HPV : Hid (PV w5 A5 (vp k x L true)) := Lib.hid (by
                obtain ⟨A, c, he, hp⟩ := HY2.out.pv
                injection he with e1 _ _
                rw [HMP.out] at hp
                rw [hA5, e1]; exact hp)
              have HBO5 := Lib.hid (HBO.out.on HY2.out.at_)
              rw [← hn5, ← hA5, ← hc5]
              clear hn5 hA5 hc5
              have HW := Lib.hid (write_any HBO5.out.bf A5 (vp k x L true) n5 c5 HPL.out (by have := HN5.out; omega) HPV.out (vp_by HLB.out))
              rw [HZ.out] at HW
              have HU := Lib.hid (vp_wr (m := k) (x := x) (L := L) (tw := true))
              rw [HZ.out] at HU
              refine HW.out.mono ?_
              rintro e w6 ⟨rfl, hbf, hmv⟩
              have HBO6 := Lib.hid (HBO5.out.wrote hbf hmv)
              clear hbf hmv HW
              have HW2 := Lib.hid (write_any HBO6.out.bf none [] 0 0 rfl (by omega) (PV.nil _ _) (fun p hp => by cases hp))
              rw [rf_none, wr_no (by rw [rf_none]; decide)] at HW2
              go_wp2_with fail
              refine HW2.out.mono ?_
              rintro e w7 ⟨rfl, hbf, hmv⟩
              have HBO7 := Lib.hid (HBO6.out.wrote hbf hmv)
              clear hbf hmv HW2
              have HL := Lib.hid (len_bf HBO7.out.bf)
              obtain ⟨u, hu⟩ : ∃ u, u = (us (Proofs.Ythaiddhbifakhaa.wr s0 (vp k x L true))).length := ⟨_, rfl⟩
              rw [← hu] at HL HU
              clear hu
              obtain rfl : u = 0 := HU.out.2 (by decide)
              go_wp2_with fail
              refine HL.out.mono ?_
              rintro e w' ⟨rfl, rfl⟩
              go_wp2_with fail
              refine (HAW.out _).mono ?_
              rintro e w8 ⟨rfl, hA⟩
              have HE : Hid (At w w8) := Lib.hid (HBO7.out.at_.next hA)
              clear hA
              go_wp2
              go_ret
              exact ⟨rfl, HE.out⟩
            · have e2 : ((n : Int) != 40) = true := by simp; omega
              have HZ : Hid (rf s0 (vp k x L true) = 3) := Lib.hid (vp_3 (by omega) (by omega) (by rw [HLL5.out]; exact b2))
              clear b2
              go_wp2_with (first | (refine wpList_append_lies _ rfl (.tmp 54) (.tmp 59) 33 rfl w1.heap.size 56 i0 z0 2 32 Try.underlying33 hi0 hz0 hz1 hz2 hz3 (by omega) _ k (pcs l) rfl HR3.out ⟨w3.heap.size, 0, none⟩ 1 1 [.int .i64 x, .slice (some ⟨gc, 0, none⟩) n n] rfl rfl HNS.out (fun v hv => by simp at hv; rcases hv with rfl | rfl <;> rfl) (by omega) (by unfold maxLen; omega) (by omega) HSZ.out _ rfl ?_; intro gg cap2 w4 hown hgrow hat hlt4; have HY := Lib.hid (HMO.out gg cap2 w4 hown hgrow hat); clear hown hgrow hat hlt4; obtain ⟨c0, c1, hrr, hss⟩ := HCC.out gg cap2 w4 HY.out; have HRR := Lib.hid hrr; have HSS := Lib.hid hss; clear hrr hss) | (refine wpList_append_lies _ rfl (.tmp 62) (.tmp 66) 33 rfl w1.heap.size 56 i0 z0 2 32 Try.underlying33 hi0 hz0 hz1 hz2 hz3 (by omega) _ (k + 1) (pcs l1) rfl HRR.out ⟨w4.heap.size, 0, none⟩ 1 1 [.int .i64 40, .slice (some ⟨yg, 0, none⟩) 40 yc] rfl rfl (HNT.out w4) (fun v hv => by simp at hv; rcases hv with rfl | rfl <;> rfl) (by omega) (by unfold maxLen; omega) (by omega) HSS.out _ rfl ?_; intro g6 cap6 w5 hown hgrow hat hlt4; have HY2 := Lib.hid (HPT.out gg cap2 g6 cap6 w4 w5 HY.out hown hgrow hat); clear hown hgrow hat hlt4 c0 c1) | fail)
              obtain ⟨n5, hn5⟩ : ∃ n5, n5 = k + 1 + 1 := ⟨_, rfl⟩
              have HN5 : Hid (n5 ≤ 22) := Lib.hid (by omega)
              have HPL : Hid ((vp k x L true).length = n5) := Lib.hid (by rw [← HMP.out, List.length_map, List.length_append, HL1.out, hn5]; rfl)
              obtain ⟨A5, hA5⟩ : ∃ A5 : Option Addr, A5 = some ⟨g6, 0, none⟩ := ⟨_, rfl⟩
              obtain ⟨c5, hc5⟩ : ∃ c5, c5 = cap6 := ⟨_, rfl⟩
              have HPV : Hid (PV w5 A5 (vp k x L true)) := Lib.hid (by
                obtain ⟨A, c, he, hp⟩ := HY2.out.pv
                injection he with e1 _ _
                rw [HMP.out] at hp
                rw [hA5, e1]; exact hp)
              have HBO5 := Lib.hid (HBO.out.on HY2.out.at_)
              rw [← hn5, ← hA5, ← hc5]
              clear hn5 hA5 hc5
              have HW := Lib.hid (write_any HBO5.out.bf A5 (vp k x L true) n5 c5 HPL.out (by have := HN5.out; omega) HPV.out (vp_by HLB.out))
              rw [HZ.out] at HW
              have HU := Lib.hid (vp_wr (m := k) (x := x) (L := L) (tw := true))
              rw [HZ.out] at HU
              refine HW.out.mono ?_
              rintro e w6 ⟨rfl, hbf, hmv⟩
              have HBO6 := Lib.hid (HBO5.out.wrote hbf hmv)
              clear hbf hmv HW
              have HW2 := Lib.hid (write_any HBO6.out.bf none [] 0 0 rfl (by omega) (PV.nil _ _) (fun p hp => by cases hp))
              rw [rf_none, wr_no (by rw [rf_none]; decide)] at HW2
              go_wp2_with fail
              refine HW2.out.mono ?_
              rintro e w7 ⟨rfl, hbf, hmv⟩
              have HBO7 := Lib.hid (HBO6.out.wrote hbf hmv)
              clear hbf hmv HW2
              have HL := Lib.hid (len_bf HBO7.out.bf)
              obtain ⟨u, hu⟩ : ∃ u, u = (us (Proofs.Ythaiddhbifakhaa.wr s0 (vp k x L true))).length := ⟨_, rfl⟩
              rw [← hu] at HL HU
              clear hu
              obtain rfl : u = 0 := HU.out.2 (by decide)
              go_wp2_with fail
              refine HL.out.mono ?_
              rintro e w' ⟨rfl, rfl⟩
              go_wp2_with fail
              refine (HAW.out _).mono ?_
              rintro e w8 ⟨rfl, hA⟩
              have HE : Hid (At w w8) := Lib.hid (HBO7.out.at_.next hA)
              clear hA
              go_wp2
              go_ret
              exact ⟨rfl, HE.out⟩

end Go.Proofs.Ythaiddhbifakhaa
