/- Proved: the law ValidRows' walk: transactions in order are so without their last one, and without their first one; turned round, two and more are not. -/
import Derived.Test.YtcffoebpgjonmaaTo
import Derived.Deep.RegionHeld3
import Derived.Deep.CutBlock
namespace Go.Proofs.Ytcffoebpgjonmaa
open Go.RowKit

theorem rev_take {l : List Tl} {k j : Nat} {x : Tl} (hk : k + j + 1 = l.length) (hx : l[j]? = some x) : l.reverse.take (k + 1) = l.reverse.take k ++ [x] := by
  have hk2 : k < l.reverse.length := by rw [List.length_reverse]; omega
  rw [List.take_succ_eq_append_getElem hk2]
  have : l.reverse[k]? = some x := by
    rw [List.getElem?_reverse (by omega), show l.length - 1 - k = j by omega]; exact hx
  rw [List.getElem?_eq_getElem hk2] at this
  injection this with this
  rw [this]

set_option maxHeartbeats 8000000 in
set_option maxRecDepth 100000 in
theorem rows_any (A0 : Option Addr) (L : List Tx) (n c0 : Nat) (hL : L.length = n) (hn0 : n ≤ maxLen) (hLk : ∀ x ∈ L, TOk x) (hc0 : n ≤ c0) (w : World) (hvL : TV w A0 L) :
    Calls Try.prog 7 #[.slice A0 n c0] w (Gives (.bool true) w) := by
  have HSM := Lib.hid (small_any A0 none L [] n c0 0 0 hL rfl hn0 (Nat.zero_le _) hLk (fun _ h => by cases h) none none 0 0 0 0 w hvL (TV.nil _ _))
  have HVL := Lib.hid hvL
  have HL := Lib.hid hL
  clear hvL hL hLk hn0
  go_enter Try.func7, Try.ntmps7
  go_wp2_with fail
  refine HSM.out.mono ?_
  rintro e w1 ⟨bs, rfl, hsm, hA⟩
  have HA1 : Hid (At w w1) := Lib.hid hA
  have HSZ := Lib.hid hsm
  clear hA hsm HSM
  cases bs
  · go_wp2_with fail
    refine (awake_any _).mono ?_
    rintro e w2 ⟨rfl, hA⟩
    have HA2 := Lib.hid (HA1.out.next hA)
    clear hA
    go_wp2
    go_ret
    exact ⟨rfl, HA2.out⟩
  · have HS1 := Lib.hid (HSZ.out rfl)
    have hl0 : n ≤ 10000 := by
      have h1 := HS1.out.1
      rw [HL.out] at h1
      omega
    have HLP : Hid (∀ x ∈ L, x.2.length ≤ 1000000) := Lib.hid fun x hx => by have := tot_mem hx; have := HS1.out.1; omega
    clear HSZ HS1
    by_cases hn2 : n < 2
    · have z0 : decide ((n : Int) < 2) = true := decide_eq_true (by omega)
      clear hn2
      go_wp2_with fail
      refine (awake_any _).mono ?_
      rintro e w2 ⟨rfl, hA⟩
      have HA2 := Lib.hid (HA1.out.next hA)
      clear hA
      go_wp2
      go_ret
      exact ⟨rfl, HA2.out⟩
    · have z0 : decide ((n : Int) < 2) = false := decide_eq_false (by omega)
      have h2n : 2 ≤ n := by omega
      obtain ⟨g, o, rfl, hg, -⟩ := HVL.out.pos (by rw [HL.out]; omega)
      have HG : Hid (g < w.heap.size) := Lib.hid hg
      have HO1 := Lib.hid (order_any (some ⟨g, o, none⟩) L n c0 HL.out (by omega) HLP.out w1 (HVL.out.on HA1.out))
      obtain ⟨p, hp⟩ : ∃ p, n - 1 = p := ⟨_, rfl⟩
      have HP := Lib.hid hp
      have hpn : (n : Int) - 1 = (p : Int) := by omega
      have hpw : IntKind.i64.wrap (p : Int) = (p : Int) := IntWalk.i64_in _ (by omega)
      have p1 : (0 : Int) ≤ (p : Int) := by omega
      have p2 : (p : Int) ≤ (n : Int) := by omega
      have p3 : (p : Int) ≤ (c0 : Int) := by omega
      have HPN : Hid (p ≤ n ∧ p + 1 = n ∧ 1 ≤ p) := Lib.hid (by omega)
      have q0 : ¬ c0 = 0 := by omega
      have q1 : ¬ c0 = 1 := by omega
      have q2 : (1 : Int) ≤ (n : Int) := by omega
      have q4 : (0 : Int) < (n : Int) := by omega
      have q5 : 0 < n := by omega
      have q3 : (n : Int) ≤ (c0 : Int) := by omega
      clear hn2 hg hp
      by_cases hod : Od L
      · rw [odB_yes hod] at HO1
        have HOD := Lib.hid hod
        clear hod
        go_wp2_with fail
        refine HO1.out.mono ?_
        rintro e w2 ⟨rfl, hA⟩
        have HA2 : Hid (At w w2) := Lib.hid (HA1.out.next hA)
        clear hA HO1
        obtain ⟨l0, hl0m, hl0p, hl0c, hl0x⟩ := tv_tl (HVL.out.on HA2.out)
        have HT0 := Lib.hid (And.intro hl0m (And.intro hl0p (And.intro hl0c hl0x)))
        have HLL : Hid (l0.length = n) := Lib.hid (by rw [← HL.out, ← hl0m, List.length_map])
        have HTS : Hid (Tr w2 w2 (.slice none 0 0) (l0.reverse.take 0)) := Lib.hid (by rw [List.take_zero]; exact Tr.nil w2)
        clear hl0m hl0p hl0c hl0x
        go_wp2_with fail
        go_loopw [3, 4] (fun c3 c4 wr => ∃ (k : Nat) (z : Int) (X : Option Addr) (cx : Nat), k ≤ n ∧ z = (n : Int) - 1 - (k : Int) ∧ c4 = .int .i64 z ∧ c3 = .slice X k cx ∧ Hid (Tr w2 wr (.slice X k cx) (l0.reverse.take k))) (fun _ c4 _ => (RowKit.intOf c4 + 1).toNat)
        case atStart => exact ⟨0, p, none, 0, Nat.zero_le _, by omega, rfl, rfl, HTS⟩
        case round =>
          clear HTS
          obtain ⟨k, z, X, cx, hk, hz, rfl, rfl, HT⟩ := hrel
          have HZ := Lib.hid hz
          by_cases hlt : k < n
          · obtain ⟨j, hj⟩ : ∃ j : Nat, z = (j : Int) := ⟨z.toNat, by omega⟩
            have HJ : Hid (k + j + 1 = n) := Lib.hid (by omega)
            have hzd : decide ((0 : Int) ≤ z) = true := decide_eq_true (by omega)
            rw [hj] at hzd HZ ⊢
            have hjL : j < L.length := by rw [HL.out]; omega
            obtain ⟨B, cb, hx1, hx2⟩ := HT0.out.2.2.2 j hjL
            have hc1 := ((HVL.out.on HA2.out).on HT.out.at_).pos (by omega)
            obtain ⟨g', o', he, -, hcc⟩ := hc1
            injection he with he
            injection he with he1 he2
            subst he1 he2
            have k1 := (hcc j hjL).1
            have k2 := (Below.cell HT.out.at_ (p := ⟨g, o + j * 2 + 1, none⟩) (Nat.lt_of_lt_of_le HG.out HA2.out.size)).trans hx2
            have hpv := HT0.out.2.1 _ (List.mem_of_getElem? hx1)
            obtain ⟨x0, hx0⟩ : ∃ x, L.getD j txz = x := ⟨_, rfl⟩
            rw [hx0] at k1 k2 hx1 hpv
            obtain ⟨T, P⟩ := x0
            simp only at k1 k2 hpv
            obtain ⟨m, hm⟩ : ∃ m, P.length = m := ⟨_, rfl⟩
            rw [hm] at k2
            have HRT := Lib.hid (rev_take (k := k) (j := j) (by rw [HLL.out]; exact HJ.out) hx1)
            have HRL : Hid ((l0.reverse.take k).length = k) := Lib.hid (by rw [List.length_take, List.length_reverse, HLL.out]; omega)
            have HTA : Hid (Tr w2 (wr.alloc (.cells #[.int .i64 T, .slice B m cb] 36)) (.slice X k cx) (l0.reverse.take k)) := Lib.hid (HT.out.on ((At.start wr).alloc _))
            have HPV := Lib.hid hpv
            have HM := Lib.hid hm
            have g1 : (0 : Int) ≤ (j : Int) := by omega
            have g2 : (j : Int) < (n : Int) := by have := HJ.out; omega
            clear hcc hx0 hx1 hx2 hpv hm hjL hz hj
            go_wp2_with (at_builtin; refine txs_append rfl HTA.out (.tmp 41) (.tmp 46) rfl k 1 (k + 1) HRL.out rfl ⟨wr.heap.size, 0, none⟩ 1 [((T, P), B, cb)] rfl rfl (by omega) (tx_cell wr T B P m cb HM.out) (fun x hx => by rw [List.mem_singleton.1 hx]; exact HPV.out) rfl (by omega) ?_; intro g7 c7 w7 H7)
            go_roundw
            case rel => exact ⟨k + 1, (j : Int) - 1, _, c7, by omega, by have := HJ.out; omega, by go_num, rfl, Lib.hid (by rw [HRT.out]; exact H7.out.1)⟩
            case measure => simp [RowKit.intOf]
          · have hkn : k = n := by omega
            have HKN := Lib.hid hkn
            have hzd : decide ((0 : Int) ≤ z) = false := decide_eq_false (by omega)
            have HTR : Hid (Tr w2 wr (.slice X k cx) l0.reverse) := Lib.hid (by have := HT.out; rwa [List.take_of_length_le (by rw [List.length_reverse, HLL.out]; omega)] at this)
            clear hz HZ HT hkn hlt
            go_wp2_with fail
            go_loopw [5] (fun c5 wx => ∃ i : Nat, i ≤ n ∧ c5 = .int .i64 (i : Int) ∧ Hid (Tr w2 wx (.slice X k cx) l0.reverse)) (fun c5 _ => n - (RowKit.intOf c5).toNat)
            case atStart => exact ⟨0, Nat.zero_le _, rfl, HTR⟩
            case round =>
              clear HTR hzd
              obtain ⟨i, hi, rfl, HT⟩ := hrel
              by_cases hlt2 : i < n
              · have hiL : i < L.length := by rw [HL.out]; exact hlt2
                obtain ⟨g', o', he, -, hcc⟩ := (HVL.out.on (HA2.out.next HT.out.at_)).pos (by omega)
                injection he with he
                injection he with he1 he2
                subst he1 he2
                have k1 := (hcc i hiL).1
                have hge := od_ge HOD.out i hiL
                have hle := (HOD.out i hiL).hi
                obtain ⟨T, hT⟩ : ∃ T, T = (L.getD i txz).1 := ⟨_, rfl⟩
                rw [← hT] at k1 hge hle
                have g1 : (0 : Int) ≤ (i : Int) := by omega
                have g2 : (i : Int) < (n : Int) := by omega
                have hwi : IntKind.i64.wrap ((i : Int) + 1) = (i : Int) + 1 := IntWalk.i64_in _ (by omega)
                have zt : decide (T < (i : Int) + 1) = false := decide_eq_false (by omega)
                clear hcc hT hiL
                go_wp2
                go_roundw
                case rel => exact ⟨i + 1, by omega, by go_num, HT⟩
                case measure => simp [RowKit.intOf]; omega
              · have zi : decide ((i : Int) < (n : Int)) = false := decide_eq_false (by omega)
                clear hi
                go_wp2_with fail
                clear z0
                obtain ⟨B0, cb0, hx1, hx2⟩ := HT0.out.2.2.2 0 (by rw [HL.out]; omega)
                obtain ⟨g', o', he, -, hcc⟩ := (HVL.out.on HA2.out).pos (by rw [HL.out]; omega)
                injection he with he
                injection he with he1 he2
                subst he1 he2
                have hx3 := (hcc 0 (by rw [HL.out]; omega)).1
                have hpv0 := HT0.out.2.1 _ (List.mem_of_getElem? hx1)
                have HAG := Lib.hid (od_again HOD.out (by rw [HL.out]; exact h2n))
                have HTU := Lib.hid (od_turn HOD.out (by rw [HL.out]; exact h2n))
                obtain ⟨x0, hx0⟩ : ∃ x, L.getD 0 txz = x := ⟨_, rfl⟩
                rw [hx0] at hx2 hx3 hpv0 HAG
                obtain ⟨T0, P0⟩ := x0
                simp only at hx2 hx3 hpv0
                obtain ⟨m0, hm0⟩ : ∃ m0, P0.length = m0 := ⟨_, rfl⟩
                rw [hm0] at hx2
                rw [Nat.zero_mul, Nat.add_zero] at hx2 hx3
                have HM0 := Lib.hid hm0
                have HAW : Hid (At w2 wr) := Lib.hid HT.out.at_
                have HAZ : Hid (At w wr) := Lib.hid (HA2.out.next HT.out.at_)
                have HK : Hid (∀ V, At wr V → V.cell? ⟨g, o, none⟩ = some (.int .i64 T0) ∧ V.cell? ⟨g, o + 1, none⟩ = some (.slice B0 m0 cb0)) := Lib.hid fun V hV =>
                  ⟨(Below.cell (HAW.out.next hV) (p := ⟨g, o, none⟩) (Nat.lt_of_lt_of_le HG.out HA2.out.size)).trans hx3, (Below.cell (HAW.out.next hV) (p := ⟨g, o + 1, none⟩) (Nat.lt_of_lt_of_le HG.out HA2.out.size)).trans hx2⟩
                have HP0 : Hid (∀ x ∈ [((T0, P0), B0, cb0)], PV wr x.2.1 x.1.2) := Lib.hid fun x hx => by rw [List.mem_singleton.1 hx]; exact hpv0.on HAW.out
                have HPA : Hid (∀ x ∈ l0, PV wr x.2.1 x.1.2) := Lib.hid fun x hx => (HT0.out.2.1 x hx).on HAW.out
                have HCA : Hid (∀ V, At wr V → ∀ j u, (tcs l0)[j]? = some u → V.cell? ((⟨g, o, none⟩ : Addr).add j) = some u) := Lib.hid fun V hV j u hj =>
                  (Below.cell (HAW.out.next hV) (p := (⟨g, o, none⟩ : Addr).add j) (by rw [Iv.add_block]; exact Nat.lt_of_lt_of_le HG.out HA2.out.size)).trans (HT0.out.2.2.1 j u hj)
                have HC1 : Hid (∀ V, At wr V → Calls Try.prog 19 #[.slice (some ⟨g, o, none⟩) p c0] V (Gives (.bool true) V)) := Lib.hid fun V hV => by
                  have := order_any _ (L.take p) p c0 (by rw [List.length_take, HL.out]; have := HPN.out; omega) (by have := HPN.out; omega) (fun x hx => HLP.out x (List.mem_of_mem_take hx)) V ((HVL.out.on (HAZ.out.next hV)).take p)
                  rwa [odB_yes (od_take HOD.out p)] at this
                have HC2 : Hid (∀ V, At wr V → Calls Try.prog 19 #[.slice (some ⟨g, o + 2, none⟩) p (c0 - 1)] V (Gives (.bool true) V)) := Lib.hid fun V hV => by
                  have := order_any _ (L.drop 1) p (c0 - 1) (by rw [List.length_drop, HL.out]; have := HPN.out; omega) (by have := HPN.out; omega) (fun x hx => HLP.out x (List.mem_of_mem_drop hx)) V ((HVL.out.on (HAZ.out.next hV)).drop 1)
                  rwa [odB_yes (od_drop HOD.out)] at this
                have hmr : (l0.reverse).map (fun x : Tl => x.1) = L.reverse := by rw [List.map_reverse, HT0.out.1]
                have HC3 : Hid (∀ V, At wr V → Calls Try.prog 19 #[.slice X k cx] V (Gives (.bool false) V)) := Lib.hid fun V hV => by
                  obtain ⟨A', c', e', hv'⟩ := (HT.out.on hV).tv
                  injection e' with e1 e2 e3
                  rw [hmr] at hv'
                  have := order_any A' L.reverse k c' (by rw [List.length_reverse, HL.out]; exact HKN.out.symm) (by have := HKN.out; omega) (fun x hx => HLP.out x (List.mem_reverse.1 hx)) V hv'
                  rwa [HTU.out, ← e1, ← e3] at this
                obtain ⟨r, hr⟩ : ∃ r, n + 1 = r := ⟨_, rfl⟩
                have hml : (([] ++ l0 ++ [((T0, P0), B0, cb0)] : List Tl)).map (fun x : Tl => x.1) = L ++ [(T0, P0)] := by rw [List.nil_append, List.map_append, HT0.out.1]; rfl
                have HC4 : Hid (∀ V g' c', Tr wr V (.slice (some ⟨g', 0, none⟩) r c') ([] ++ l0 ++ [((T0, P0), B0, cb0)]) → Calls Try.prog 19 #[.slice (some ⟨g', 0, none⟩) r c'] V (Gives (.bool false) V)) := Lib.hid fun V g' c' hV => by
                  obtain ⟨A', c2, e', hv'⟩ := hV.tv
                  injection e' with e1 e2 e3
                  rw [hml] at hv'
                  have hmem0 : (T0, P0) ∈ L := by rw [← hx0]; exact tx_mem (by rw [HL.out]; omega)
                  have := order_any A' (L ++ [(T0, P0)]) r c2 (by rw [List.length_append, HL.out]; exact hr) (by omega) (fun x hx => (List.mem_append.1 hx).elim (HLP.out x) fun hx => by rw [List.mem_singleton.1 hx]; exact HLP.out _ hmem0) V hv'
                  rwa [HAG.out, ← e1, ← e3] at this
                have HR := Lib.hid hr
                have hrk : r ≤ 100000 := by omega
                have hp' := HP.out
                have K1 := Lib.hid (HC1.out wr.drew ((At.start wr).drewN 1))
                obtain ⟨d0, d1⟩ := HK.out wr (At.start wr)
                clear hcc hx0 hx1 hx2 hx3 hpv0 hm0 hmr hml hr HAW HT zi
                go_region_held3 (fun w' => w'.cell? ⟨g, o, none⟩ = some (.int .i64 T0) ∧ w'.cell? ⟨g, o + 1, none⟩ = some (.slice B0 m0 cb0)) (go_keep)
                  (first
                    | (go_at_call 19; (with_reducible refine K1.out.mono ?_); rintro e w8 ⟨rfl, hA8⟩; have HA8 : Hid (At wr w8) := Lib.hid (((At.start wr).drewN 1).next hA8); obtain ⟨e0, e1⟩ := HK.out w8 HA8.out; clear hA8)
                    | (go_at_call 19; (with_reducible refine (HC2.out _ HA8.out).mono ?_); rintro e w9 ⟨rfl, hA9⟩; have HA9 : Hid (At wr w9) := Lib.hid (HA8.out.next hA9); obtain ⟨f0, f1⟩ := HK.out w9 HA9.out; clear hA9)
                    | (go_at_call 19; (with_reducible refine (HC3.out _ HA9.out).mono ?_); rintro e w10 ⟨rfl, hA10⟩; have HA10 : Hid (At wr w10) := Lib.hid (HA9.out.next hA10); obtain ⟨y0, y1⟩ := HK.out w10 HA10.out; have HE := Lib.hid (em3 HA10.out #[.int .i64 T0, .slice B0 m0 cb0]); clear hA10)
                    | ((with_reducible refine at_world (w10.alloc (.cells #[] 36)) ?_); rw [if_pos (by kernel_rfl)]; refine wp_txs HE.out.a (.tmp 79) (.tmp 80) (by rfl) 0 n n rfl (by rfl) ⟨g, o, none⟩ c0 l0 (by rfl) HLL.out (by omega) (HCA.out _ HE.out.a.at_) HPA.out (Nat.zero_add _) (by omega) ?_; intro g11 c11 w11 H11; have H11B := Lib.hid (H11.out.1.on ((At.start w11).alloc (.cells #[.int .i64 T0, .slice B0 m0 cb0] 36))); obtain ⟨u0, u1⟩ := HK.out w11 H11.out.1.at_)
                    | ((with_reducible refine at_world ((w10.alloc (.cells #[] 36)).alloc (.cells #[.int .i64 T0, .slice B0 m0 cb0] 36)) ?_); rw [if_pos (by kernel_rfl)]; refine wp_txs HE.out.b (.tmp 79) (.tmp 80) (by rfl) 0 n n rfl (by rfl) ⟨g, o, none⟩ c0 l0 (by rfl) HLL.out (by omega) (HCA.out _ HE.out.b.at_) HPA.out (Nat.zero_add _) (by omega) ?_; intro g11 c11 w11 H11; have HSB := Lib.hid (H11.out.2.1.keep HE.out.sb (fun e => by have := own_is e; omega)); obtain ⟨u0, u1⟩ := HK.out w11 H11.out.1.at_)
                    | ((with_reducible refine at_world ((w10.alloc (.cells #[.int .i64 T0, .slice B0 m0 cb0] 36)).alloc (.cells #[] 36)) ?_); rw [if_pos (by kernel_rfl)]; refine wp_txs HE.out.c (.tmp 79) (.tmp 80) (by rfl) 0 n n rfl (by rfl) ⟨g, o, none⟩ c0 l0 (by rfl) HLL.out (by omega) (HCA.out _ HE.out.c.at_) HPA.out (Nat.zero_add _) (by omega) ?_; intro g11 c11 w11 H11; have HSB := Lib.hid (H11.out.2.1.keep HE.out.sc (fun e => by have := own_is e; omega)); obtain ⟨u0, u1⟩ := HK.out w11 H11.out.1.at_)
                    | ((with_reducible refine at_world (w11.alloc (.cells #[.int .i64 T0, .slice B0 m0 cb0] 36)) ?_); rw [if_pos (by kernel_rfl)]; refine wp_txs H11B.out (.tmp 81) (.tmp 85) (by rfl) n 1 r (by rw [List.nil_append]; exact HLL.out) (by rfl) ⟨w11.heap.size, 0, none⟩ 1 [((T0, P0), B0, cb0)] (by rfl) rfl (by omega) (tx_cell w11 T0 B0 P0 m0 cb0 HM0.out) HP0.out HR.out hrk ?_; intro g12 c12 w12 H12; obtain ⟨v0, v1⟩ := HK.out w12 H12.out.1.at_)
                    | ((with_reducible refine at_world w11 ?_); rw [if_pos (by kernel_rfl)]; refine wp_txs H11.out.1 (.tmp 81) (.tmp 85) (by rfl) n 1 r (by rw [List.nil_append]; exact HLL.out) (by rfl) _ 1 [((T0, P0), B0, cb0)] (by rfl) rfl (by omega) (tx_kept HM0.out HSB.out) HP0.out HR.out hrk ?_; intro g12 c12 w12 H12; obtain ⟨v0, v1⟩ := HK.out w12 H12.out.1.at_)
                    | (go_at_call 19; (with_reducible refine (HC4.out w12 g12 c12 H12.out.1).mono ?_); rintro e w13 ⟨rfl, hA13⟩; have HA13 : Hid (At wr w13) := Lib.hid (H12.out.1.at_.next hA13); obtain ⟨t0, t1⟩ := HK.out w13 HA13.out; clear hA13)
                    | (go_at_call 9; (with_reducible refine (awake_any _).mono ?_); rintro e w14 ⟨rfl, hA14⟩; have HA14 : Hid (At wr w14) := Lib.hid (HA13.out.next hA14); obtain ⟨s0, s1⟩ := HK.out w14 HA14.out; clear hA14))
                all_goals
                  have HEE : Hid (At w w14) := Lib.hid (HAZ.out.next HA14.out)
                  go_wp2
                  go_ret
                  exact ⟨rfl, HEE.out⟩
      · rw [odB_no hod] at HO1
        clear hod
        go_wp2_with fail
        refine HO1.out.mono ?_
        rintro e w2 ⟨rfl, hA⟩
        have HA2 : Hid (At w w2) := Lib.hid (HA1.out.next hA)
        clear hA HO1
        go_wp2_with fail
        obtain ⟨z, hz⟩ : ∃ z, z = odB (L.take p) := ⟨_, rfl⟩
        have hlt : (L.take p).length = p := by rw [List.length_take, HL.out]; have := HPN.out; omega
        have HTP : Hid (∀ x ∈ L.take p, x.2.length ≤ 1000000) := Lib.hid fun x hx => HLP.out x (List.mem_of_mem_take hx)
        have HC1 : Hid (∀ V, At w2 V → Calls Try.prog 19 #[.slice (some ⟨g, o, none⟩) p c0] V (Gives (.bool z) V)) := Lib.hid fun V hV => by
          rw [hz]; exact order_any _ (L.take p) p c0 hlt (by have := HPN.out; omega) HTP.out V ((HVL.out.on (HA2.out.next hV)).take p)
        have HC2 : Hid (∀ V, At w2 V → Calls Try.prog 20 #[.slice (some ⟨g, o, none⟩) p c0] V (Gives (.bool z) V)) := Lib.hid fun V hV => by
          rw [hz]; exact rorder_any _ (L.take p) p c0 hlt (by have := HPN.out; omega) HTP.out V ((HVL.out.on (HA2.out.next hV)).take p)
        have hzz : (z == z) = true := by simp
        have K1 := Lib.hid (HC1.out w2.drew ((At.start w2).drewN 1))
        clear hz hlt
        go_region_held3 (fun w' => True) (trivial)
          (first
            | (go_at_call 19; (with_reducible refine K1.out.mono ?_); rintro e w3 ⟨rfl, hA3⟩; have HA3 : Hid (At w2 w3) := Lib.hid (((At.start w2).drewN 1).next hA3); clear hA3)
            | (go_at_call 20; (with_reducible refine (HC2.out _ HA3.out).mono ?_); rintro e w4 ⟨rfl, hA4⟩; have HA4 : Hid (At w2 w4) := Lib.hid (HA3.out.next hA4); clear hA4)
            | (go_at_call 9; (with_reducible refine (awake_any _).mono ?_); rintro e w5 ⟨rfl, hA5⟩; have HA5 : Hid (At w w5) := Lib.hid (HA2.out.next (HA4.out.next hA5)); clear hA5))
        go_wp2
        go_ret
        exact ⟨rfl, HA5.out⟩

end Go.Proofs.Ytcffoebpgjonmaa
