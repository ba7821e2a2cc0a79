/- Proved: the law RsetOwn's walk: what one wrote oneself is read at once, and later what one wrote last; blocks beside it are the map's. -/
import Derived.Test.YtgjlklladbcmcaaOwn
namespace Go.Proofs.Ytgjlklladbcmcaa
open Go.RowKit

/-- The law's transaction is taken in. -/
theorem own_apply {w0 w : World} {F : Nat → Nat → Prop} {A : Ad} (h : Ww w0 w F A (Em.st0 20) (st0 20 16) 5 [] []) {x q g1 g2 c1 c2 K : Nat} (hx : x < 19) (hq : w.heap[q]? = some (.cells #[.int .i64 (x : Int), .slice (some ⟨g1, 0, none⟩) 40 c1, .int .i64 ((x : Int) + 1), .slice (some ⟨g2, 0, none⟩) 40 c2] 76 (0, 0)))
    (b1 : BV w (some ⟨g1, 0, none⟩) (bk 50)) (b2 : BV w (some ⟨g2, 0, none⟩) (bk 51)) (hF : ∀ g, F 0 g → g < K) (hK : K ≤ q ∧ K ≤ g1 ∧ K ≤ g2) :
    Calls Try.prog 16 #[.pointer (some ⟨A.bm, 0, none⟩), .agg #[.int .i64 3, .slice (some ⟨q, 0, none⟩) 2 2]] w fun e w' => e = .returned (.int .i64 0) ∧ ∃ F', Ww w0 w' F' A (mo x) (st0 20 16) 5 [] [] := by
  refine (h.apply_far 3 (some ⟨q, 0, none⟩) [((x : Int), bk 50), ((x : Int) + 1, bk 51)] 2 2 rfl (by omega) (fun W hW => ?_) (fun p hp => ?_) (by show 0 < 1000; omega)).mono ?_
  · have hq' := hW.keep hq fun hf => by have := hF _ hf; omega
    exact pv_row (l := [(((x : Int), bk 50), g1, c1), (((x : Int) + 1, bk 51), g2, c2)]) hq' (by simp only [pcs, bk_len]) (fun y hy => by
      rcases List.mem_cons.1 hy with rfl | hy
      · exact bv_mv b1 hW fun hf => by have hf : F 0 g1 := hf; have := hF _ hf; omega
      · rw [List.mem_singleton] at hy; subst hy
        exact bv_mv b2 hW fun hf => by have hf : F 0 g2 := hf; have := hF _ hf; omega)
  · rcases List.mem_cons.1 hp with rfl | hp
    · exact bk_byte 50
    · rw [List.mem_singleton] at hp; subst hp; exact bk_byte 51
  · rintro e w' ⟨F', he, hW, -⟩
    rw [(mo_fine x hx).rf] at he
    rw [mo_took x hx] at hW
    exact ⟨he, F', hW⟩

set_option maxHeartbeats 4000000 in
set_option maxRecDepth 100000 in
theorem own_in (a : Int) (n : Nat) (bf : Bool) (hn : n ≤ 10) (w : World) : Calls Try.prog 7 #[.int .i64 a, .int .i64 (n : Int), .bool bf] w (Gives (.bool true) w) := by
  have HN := Lib.hid (fresh_any 20 (by omega) (by omega) 5)
  rw [show ((20 : Nat) : Int) = 20 from rfl] at HN
  have HAW := Lib.hid awake_any
  have HRN := Lib.hid (fun W => round_any a 19 (by omega) (by omega) W)
  rw [show ((19 : Nat) : Int) = 19 from rfl] at HRN
  have hx := rd_lt a 19 (by omega)
  obtain ⟨x, hxe⟩ : ∃ x, x = rd a 19 := ⟨_, rfl⟩
  rw [← hxe] at HRN hx
  clear hxe
  have g1 : decide ((n : Int) < 0) = false := decide_eq_false (by omega)
  have g2 : decide ((10 : Int) < (n : Int)) = false := decide_eq_false (by omega)
  go_enter Try.func7, Try.ntmps7
  go_wp2_with fail
  refine (HRN.out _).mono ?_
  rintro e w' ⟨rfl, rfl⟩
  go_wp2_with fail
  refine (HN.out _).mono ?_
  rintro e w1 ⟨A, F, rfl, hW, -, -⟩
  have HW := Lib.hid hW
  have HC : Hid (∀ W, At w1 W → W.cell? ⟨A.bw, 0, none⟩ = some (.pointer (some ⟨A.bm, 0, none⟩))) := Lib.hid fun W hA => (HW.out.on hA).cells.1
  have d0 := HC.out w1 (At.start _)
  have q1 : IntKind.i64.wrap ((x : Int) + 1) = (x : Int) + 1 := IntWalk.i64_in _ (by omega)
  clear hW HN g1 g2
  go_wp2_with fail
  go_region_held3 (fun w' => w'.cell? ⟨A.bw, 0, none⟩ = some (.pointer (some ⟨A.bm, 0, none⟩))) (go_keep)
    (first
      | (go_at_call 26; ((with_reducible refine (data_any 50 _).mono ?_); rintro e w3 ⟨ga, rfl, hg, hb, hA⟩); have HA3 : Hid (At w1 w3) := Lib.hid (((At.start w1).drewN 1).next hA); have HB3 := Lib.hid (And.intro hg hb); have e1 := HC.out w3 HA3.out; clear hg hb hA)
      | (go_at_call 26; ((with_reducible refine (data_any 51 _).mono ?_); rintro e w4 ⟨gb, rfl, hg, hb, hA⟩); have HA4 : Hid (At w1 w4) := Lib.hid (HA3.out.next hA); have HB4 := Lib.hid (And.intro hg (And.intro hb (HB3.out.2.below hA))); have e2 := HC.out w4 HA4.out; clear hg hb hA)
      | (go_at_call 16; refine (own_apply ((HW.out.on HA4.out).on ((At.start w4).alloc _)) hx (heap_alloc_new w4 _) (HB4.out.2.2.below ((At.start w4).alloc _)) (HB4.out.2.1.below ((At.start w4).alloc _)) (fun g hg => HW.out.al.lt 0 g hg) ⟨HA4.out.size, HB3.out.1, Nat.le_trans HA3.out.size HB4.out.1⟩).mono ?_; rintro e w5 ⟨rfl, F5, hW5⟩; have HW5 := Lib.hid hW5; have e5 := hW5.cells.1; clear hW5))
  clear d0 e1 e2 e5 q1 HC HB3 HB4 HA3 HA4 HW
  cases bf
  · go_wp2_with fail
    have HI : Hid (∃ F B L R, Ww w w5 F A (mo x) B 5 L R ∧ Bx x B ∧ Lx x L ∧ cn R = 0 ∧ R.length ≤ 2) := Lib.hid ⟨F5, _, [], [], HW5.out, bx_start x, Or.inl rfl, rfl, by simp⟩
    clear HW5
    go_loopw [11] (fun c11 wr => ∃ i : Nat, i ≤ n ∧ c11 = .int .i64 (i : Int) ∧ Hid (∃ F B L R, Ww w wr F A (mo x) B 5 L R ∧ Bx x B ∧ Lx x L ∧ cn R = i ∧ R.length ≤ 2 + 2 * i)) (fun c11 _ => n - (RowKit.intOf c11).toNat)
    case atStart => exact ⟨0, Nat.zero_le _, rfl, Lib.hid (by obtain ⟨F, B, L, R, h1, h2, h3, h4, h5⟩ := HI.out; exact ⟨F, B, L, R, h1, h2, h3, h4, by omega⟩)⟩
    case round =>
      obtain ⟨i, hi, rfl, HX⟩ := hrel
      obtain ⟨F, B, L, R, hW, hB, hL, hR, hRl⟩ := HX.out
      have HS := Lib.hid (And.intro hB (And.intro hL (And.intro hR hRl)))
      have HW := Lib.hid hW
      by_cases hlt : i < n
      · have c1 := hW.cells.2.1
        have HC : Hid (∀ W, At wr W → W.cell? ⟨A.bw, 1, none⟩ = some (.pointer (some ⟨A.bb, 0, none⟩))) := Lib.hid fun W hA => (HW.out.on hA).cells.2.1
        have HRF : Hid (rf B [((x : Int), bk (i : Int))] = 0) := Lib.hid (bx_fine hB hx (bk_len _)).rf
        clear hW hB hL hR hRl HX
        go_wp2_with fail
        go_region_held3 (fun w' => w'.cell? ⟨A.bw, 1, none⟩ = some (.pointer (some ⟨A.bb, 0, none⟩))) (go_keep)
          (first
            | (go_at_call 26; refine (data_any (i : Int) _).mono ?_; rintro e w7 ⟨g7, rfl, hg, hb, hA⟩; have HA7 : Hid (At wr w7) := Lib.hid (((At.start wr).drewN 1).next hA); have HB7 := Lib.hid hb; have e1 := HC.out w7 HA7.out; clear hg hb hA)
            | (go_at_call 14; refine (((HW.out.on HA7.out).on ((At.start w7).alloc _)).write1 (heap_alloc_new w7 _) (HB7.out.below ((At.start w7).alloc _)) ⟨bk_len _, bk_byte _⟩ HRF.out).mono ?_; rintro e w8 ⟨rfl, hW8, -⟩; have HW8 := Lib.hid hW8; have e5 := hW8.cells.2.1; clear hW8))
        have hB8 := bx_more HS.out.1 hx ⟨bk_len (i : Int), bk_byte (i : Int)⟩
        have hg8 : (upS B [((x : Int), bk (i : Int))]).g x = bk (i : Int) := by rw [bx_g, if_pos rfl]
        have hne : ¬ bk (i : Int) = [] := fun e => by have := bk_len (i : Int); rw [e] at this; cases this
        have HRD := Lib.hid (HW8.out.read_ok (by have := HS.out.2.2.2; omega) (x : Int) 2 (lx_code HS.out.2.1 hx) (D := bk (i : Int) ++ bk 51) (by rw [own_bytes hB8 HS.out.2.1 hx, hg8, if_neg hne]) (N := 80) (by rw [List.length_append, bk_len, bk_len]))
        have c2 := HW8.out.cells.2.2.1
        have HST : Hid (∀ F W, Ww w W F A (mo x) (upS B [((x : Int), bk (i : Int))]) 5 (rdL (mo x).n L (x : Int) 2) (rdR (mo x) (upS B [((x : Int), bk (i : Int))]) 5 L R (x : Int) 2) → ∃ F B L R, Ww w W F A (mo x) B 5 L R ∧ Bx x B ∧ Lx x L ∧ cn R = i + 1 ∧ R.length ≤ 2 + 2 * (i + 1)) := Lib.hid fun F W h => ⟨F, _, _, _, h, hB8, lx_more HS.out.2.1 hx, by rw [own_cn hB8 HS.out.2.1 hx, hg8, if_neg hne, HS.out.2.2.1], by rw [own_reads hB8 HS.out.2.1 hx, List.length_append]; have := HS.out.2.2.2; simp; omega⟩
        clear c1 e1 e5 hB8 hg8 hne HC HRF HA7 HB7 HW
        go_wp2_with fail
        refine HRD.out.mono ?_
        rintro e w9 ⟨g9, c9, F9, rfl, hb9, hc9, hW9, -, -, -⟩
        have HI9 := Lib.hid (HST.out F9 w9 hW9)
        have HM9 : Hid (∀ W, At w9 W → Ww w W F9 A (mo x) (upS B [((x : Int), bk (i : Int))]) 5 (rdL (mo x).n L (x : Int) 2) (rdR (mo x) (upS B [((x : Int), bk (i : Int))]) 5 L R (x : Int) 2)) := Lib.hid fun W hA => hW9.on hA
        have HB9 : Hid (∀ W, At w9 W → BV W (some ⟨g9, 0, none⟩) (bk (i : Int)) ∧ BV W (some ⟨g9, 40, none⟩) (bk 51)) := Lib.hid fun W hA => by
          have h1 := (hb9.below hA).take 40
          have h2 := (hb9.below hA).drop 40
          rw [List.take_left' (bk_len _)] at h1
          rw [List.drop_left' (bk_len _), Nat.zero_add] at h2
          exact ⟨h1, h2⟩
        have k1 : (40 : Int) ≤ (c9 : Int) := by omega
        have k2 : ¬ c9 = 40 := by omega
        have HC2 : Hid (∀ W, At w9 W → W.cell? ⟨A.bw, 2, none⟩ = some (.pointer (some ⟨A.bv, 0, none⟩))) := Lib.hid fun W hA => (hW9.on hA).cells.2.2.1
        have e0 := HC2.out w9 (At.start _)
        clear hb9 hW9 c2 HRD HW8 HI9
        go_wp2_with fail
        go_region_held3 (fun w' => w'.cell? ⟨A.bw, 2, none⟩ = some (.pointer (some ⟨A.bv, 0, none⟩))) (go_keep)
          (first
            | (go_at_call 26; ((with_reducible refine (data_any 51 _).mono ?_); rintro e w12 ⟨g12, rfl, hg, hb, hA⟩); have HA12 : Hid (At w9 w12) := Lib.hid (HA11.out.next hA); have HB12 := Lib.hid hb; have e3 := HC2.out w12 HA12.out; clear hg hb hA)
            | (go_at_call 26; ((with_reducible refine (data_any (i : Int) _).mono ?_); rintro e w10 ⟨g10, rfl, hg, hb, hA⟩); have HA10 : Hid (At w9 w10) := Lib.hid (((At.start w9).drewN 1).next hA); have HB10 := Lib.hid hb; have e1 := HC2.out w10 HA10.out; clear hg hb hA)
            | (go_at_call 13; ((with_reducible refine (bytes_any (some ⟨g9, 0, none⟩) (some ⟨g10, 0, none⟩) 40 _ _ (bk (i : Int)) (bk (i : Int)) w10 (by omega) (bk_len _) (bk_len _) (bk_byte _) (bk_byte _) (HB9.out w10 HA10.out).1 HB10.out).mono ?_); rintro e w11 ⟨rfl, kk, rfl⟩); have HA11 : Hid (At w9 (w10.drewN kk)) := Lib.hid (HA10.out.next ((At.start w10).drewN kk)); have e2 := HC2.out _ HA11.out)
            | (go_at_call 13; ((with_reducible refine (bytes_any (some ⟨g9, 40, none⟩) (some ⟨g12, 0, none⟩) 40 _ _ (bk 51) (bk 51) w12 (by omega) (bk_len _) (bk_len _) (bk_byte _) (bk_byte _) (HB9.out w12 HA12.out).2 HB12.out).mono ?_); rintro e w13 ⟨rfl, kk2, rfl⟩); have HA13 : Hid (At w9 (w12.drewN kk2)) := Lib.hid (HA12.out.next ((At.start w12).drewN kk2)); have e4 := HC2.out _ HA13.out))
        clear e0 e1 e2 e3 e4 HC2 HB9 HB10 HB12 HA10 HA11 HA12
        go_wp2
        go_roundw
        case rel => exact ⟨i + 1, by omega, by go_num, Lib.hid (HST.out F9 _ (HM9.out _ HA13.out))⟩
        case measure => simp [RowKit.intOf]; omega
      · have hin : i = n := by omega
        have c2 := hW.cells.2.2.1
        have hcr := hR
        have HRS := Lib.hid (reads_any hW.v (by omega))
        have HCN : Hid (cn R = n) := Lib.hid (by omega)
        have HAT := Lib.hid hW.at_
        have hrl : R.length ≤ 100 := by omega
        clear hW hB hL hR hRl HX HW HS hcr
        go_wp2_with fail
        refine HRS.out.mono ?_
        rintro e w14 ⟨v, l, rfl, hrw, hlR, hA⟩
        have hll : l.length = R.length := by rw [← hlR, List.length_map]
        obtain ⟨A5, c5, rfl, -, -⟩ := hrw.form
        obtain ⟨N, hN⟩ : ∃ N, N = l.length := ⟨_, rfl⟩
        rw [← hN] at hrw hll
        rw [← hN]
        have HL := Lib.hid (And.intro hrw (And.intro hlR (And.intro hN hll)))
        have HA14 : Hid (At w w14) := Lib.hid (HAT.out.next hA)
        have hN100 : N ≤ 100 := by omega
        clear hrw hlR hN hll hA c2 HRS HAT hin
        go_wp2
        go_loopw [15, 16] (fun c15 c16 wx => ∃ j : Nat, j ≤ N ∧ c16 = .int .i64 (j : Int) ∧ c15 = .int .i64 ((cn (R.take j) : Nat) : Int) ∧ wx = w14) (fun _ c16 _ => N - (RowKit.intOf c16).toNat)
        case atStart => exact ⟨0, Nat.zero_le _, rfl, rfl, rfl⟩
        case round =>
          obtain ⟨j, hj, rfl, rfl, hwx⟩ := hrel
          have hwx' := hwx.symm
          subst hwx'
          have hcl := cn_le (R.take j)
          rw [List.length_take] at hcl
          by_cases hjl : j < N
          · obtain ⟨A', c', he, -, hf⟩ := HL.out.1.form
            injection he with he1 he2 he3
            subst he1
            clear he2 he3
            obtain ⟨g, rfl, -, hc⟩ := hf (by rw [← HL.out.2.2.1]; omega)
            obtain ⟨-, -, k3⟩ := hc j (by rw [← HL.out.2.2.1]; exact hjl)
            have hst := cn_take R j (by rw [← HL.out.2.2.2]; exact hjl)
            have ho : (R.getD j rz).o = (l.getD j lrz).1.o := by
              have hjl' : j < l.length := by rw [← HL.out.2.2.1]; exact hjl
              rw [← HL.out.2.1, List.getD_eq_getElem?_getD, List.getElem?_map, List.getD_eq_getElem?_getD, List.getElem?_eq_getElem hjl']; rfl
            rw [ho] at hst
            obtain ⟨o, hoe⟩ : ∃ o, o = (l.getD j lrz).1.o := ⟨_, rfl⟩
            rw [← hoe] at k3 hst
            have HST := Lib.hid hst
            have g1 : (0 : Int) ≤ (j : Int) := by omega
            have g2 : (j : Int) < (N : Int) := by omega
            obtain ⟨u, hu⟩ : ∃ u, u = cn (R.take j) := ⟨_, rfl⟩
            rw [← hu] at HST hcl
            rw [← hu]
            clear hc hf hst ho hoe hu
            cases o
            · go_wp2
              go_roundw
              case rel => exact ⟨j + 1, by omega, by go_num, by rw [HST.out]; simp, by first | rfl | trivial⟩
              case measure => simp [RowKit.intOf]; omega
            · go_wp2
              go_roundw
              case rel => exact ⟨j + 1, by omega, by go_num, by rw [HST.out]; simp, by first | rfl | trivial⟩
              case measure => simp [RowKit.intOf]; omega
          · have hjn : R.take j = R := List.take_of_length_le (by rw [← HL.out.2.2.2]; omega)
            rw [hjn, HCN.out]
            clear hjn hcl
            have q9 : ((n : Int) == (n : Int)) = true := by simp
            go_wp2_with fail
            refine (HAW.out _).mono ?_
            rintro e w15 ⟨rfl, hA⟩
            have HE : Hid (At w w15) := Lib.hid (HA14.out.next hA)
            clear hA
            go_wp2
            go_ret
            exact ⟨rfl, HE.out⟩
  · have c2 := HW5.out.cells.2.2.1
    have HRD := Lib.hid (HW5.out.read_ok (by simp) (x : Int) 2 (lx_code (Or.inl rfl) hx) (own_bytes (bx_start x) (Or.inl rfl) hx) (N := 80) (by rw [if_pos (show (st0 20 16).g x = [] from rfl), List.length_append, bk_len, bk_len]))
    go_wp2_with fail
    refine HRD.out.mono ?_
    rintro e w6 ⟨g6, c6, F6, rfl, hb6, hc6, hW6, -, -, -⟩
    have HI : Hid (∃ F B L R, Ww w w6 F A (mo x) B 5 L R ∧ Bx x B ∧ Lx x L ∧ cn R = 0 ∧ R.length ≤ 2) := Lib.hid ⟨F6, _, _, _, hW6, bx_start x, lx_more (Or.inl rfl) hx, by rw [own_cn (bx_start x) (Or.inl rfl) hx]; rfl, by rw [own_reads (bx_start x) (Or.inl rfl) hx]; simp⟩
    have HB6 : Hid (∀ W, At w6 W → BV W (some ⟨g6, 0, none⟩) (bk 50)) := Lib.hid fun W hW => by
      have := (hb6.below hW).take 40
      rwa [if_pos (show (st0 20 16).g x = [] from rfl), List.take_left' (bk_len 50)] at this
    have k1 : (40 : Int) ≤ (c6 : Int) := by omega
    have HC2 : Hid (∀ W, At w6 W → W.cell? ⟨A.bw, 2, none⟩ = some (.pointer (some ⟨A.bv, 0, none⟩))) := Lib.hid fun W hA => (hW6.on hA).cells.2.2.1
    have e0 := HC2.out w6 (At.start _)
    clear hb6 hW6 c2 HRD HW5
    go_wp2_with fail
    go_region_held3 (fun w' => w'.cell? ⟨A.bw, 2, none⟩ = some (.pointer (some ⟨A.bv, 0, none⟩))) (go_keep)
      (first
        | (go_at_call 26; refine (data_any 50 _).mono ?_; rintro e w7 ⟨g7, rfl, hg, hb, hA⟩; have HA7 : Hid (At w6 w7) := Lib.hid (((At.start w6).drewN 1).next hA); have HB7 := Lib.hid hb; have e1 := HC2.out w7 HA7.out; clear hg hb hA)
        | (go_at_call 13; ((with_reducible refine (bytes_any (some ⟨g6, 0, none⟩) (some ⟨g7, 0, none⟩) 40 _ _ (bk 50) (bk 50) w7 (by omega) (bk_len 50) (bk_len 50) (bk_byte 50) (bk_byte 50) (HB6.out w7 HA7.out) HB7.out).mono ?_); rintro e w8 ⟨rfl, kk, rfl⟩); have HA8 : Hid (At w6 (w7.drewN kk)) := Lib.hid (HA7.out.next ((At.start w7).drewN kk)); have e2 := HC2.out _ HA8.out))
    have HI8 : Hid (∃ F B L R, Ww w (w7.drewN kk) F A (mo x) B 5 L R ∧ Bx x B ∧ Lx x L ∧ cn R = 0 ∧ R.length ≤ 2) := Lib.hid (by
      obtain ⟨F, B, L, R, h1, h2⟩ := HI.out
      exact ⟨F, B, L, R, h1.on HA8.out, h2⟩)
    clear e0 e1 e2 HC2 HB6 HB7 HA7 HA8 HI
    generalize w7.drewN kk = w8 at HI8 ⊢
    go_wp2
    go_loopw [11] (fun c11 wr => ∃ i : Nat, i ≤ n ∧ c11 = .int .i64 (i : Int) ∧ Hid (∃ F B L R, Ww w wr F A (mo x) B 5 L R ∧ Bx x B ∧ Lx x L ∧ cn R = i ∧ R.length ≤ 2 + 2 * i)) (fun c11 _ => n - (RowKit.intOf c11).toNat)
    case atStart => exact ⟨0, Nat.zero_le _, rfl, Lib.hid (by obtain ⟨F, B, L, R, h1, h2, h3, h4, h5⟩ := HI8.out; exact ⟨F, B, L, R, h1, h2, h3, h4, by omega⟩)⟩
    case round =>
      obtain ⟨i, hi, rfl, HX⟩ := hrel
      obtain ⟨F, B, L, R, hW, hB, hL, hR, hRl⟩ := HX.out
      have HS := Lib.hid (And.intro hB (And.intro hL (And.intro hR hRl)))
      have HW := Lib.hid hW
      by_cases hlt : i < n
      · have c1 := hW.cells.2.1
        have HC : Hid (∀ W, At wr W → W.cell? ⟨A.bw, 1, none⟩ = some (.pointer (some ⟨A.bb, 0, none⟩))) := Lib.hid fun W hA => (HW.out.on hA).cells.2.1
        have HRF : Hid (rf B [((x : Int), bk (i : Int))] = 0) := Lib.hid (bx_fine hB hx (bk_len _)).rf
        clear hW hB hL hR hRl HX
        go_wp2_with fail
        go_region_held3 (fun w' => w'.cell? ⟨A.bw, 1, none⟩ = some (.pointer (some ⟨A.bb, 0, none⟩))) (go_keep)
          (first
            | (go_at_call 26; refine (data_any (i : Int) _).mono ?_; rintro e w7 ⟨g7, rfl, hg, hb, hA⟩; have HA7 : Hid (At wr w7) := Lib.hid (((At.start wr).drewN 1).next hA); have HB7 := Lib.hid hb; have e1 := HC.out w7 HA7.out; clear hg hb hA)
            | (go_at_call 14; refine (((HW.out.on HA7.out).on ((At.start w7).alloc _)).write1 (heap_alloc_new w7 _) (HB7.out.below ((At.start w7).alloc _)) ⟨bk_len _, bk_byte _⟩ HRF.out).mono ?_; rintro e w8 ⟨rfl, hW8, -⟩; have HW8 := Lib.hid hW8; have e5 := hW8.cells.2.1; clear hW8))
        have hB8 := bx_more HS.out.1 hx ⟨bk_len (i : Int), bk_byte (i : Int)⟩
        have hg8 : (upS B [((x : Int), bk (i : Int))]).g x = bk (i : Int) := by rw [bx_g, if_pos rfl]
        have hne : ¬ bk (i : Int) = [] := fun e => by have := bk_len (i : Int); rw [e] at this; cases this
        have HRD := Lib.hid (HW8.out.read_ok (by have := HS.out.2.2.2; omega) (x : Int) 2 (lx_code HS.out.2.1 hx) (D := bk (i : Int) ++ bk 51) (by rw [own_bytes hB8 HS.out.2.1 hx, hg8, if_neg hne]) (N := 80) (by rw [List.length_append, bk_len, bk_len]))
        have c2 := HW8.out.cells.2.2.1
        have HST : Hid (∀ F W, Ww w W F A (mo x) (upS B [((x : Int), bk (i : Int))]) 5 (rdL (mo x).n L (x : Int) 2) (rdR (mo x) (upS B [((x : Int), bk (i : Int))]) 5 L R (x : Int) 2) → ∃ F B L R, Ww w W F A (mo x) B 5 L R ∧ Bx x B ∧ Lx x L ∧ cn R = i + 1 ∧ R.length ≤ 2 + 2 * (i + 1)) := Lib.hid fun F W h => ⟨F, _, _, _, h, hB8, lx_more HS.out.2.1 hx, by rw [own_cn hB8 HS.out.2.1 hx, hg8, if_neg hne, HS.out.2.2.1], by rw [own_reads hB8 HS.out.2.1 hx, List.length_append]; have := HS.out.2.2.2; simp; omega⟩
        clear c1 e1 e5 hB8 hg8 hne HC HRF HA7 HB7 HW
        go_wp2_with fail
        refine HRD.out.mono ?_
        rintro e w9 ⟨g9, c9, F9, rfl, hb9, hc9, hW9, -, -, -⟩
        have HI9 := Lib.hid (HST.out F9 w9 hW9)
        have HM9 : Hid (∀ W, At w9 W → Ww w W F9 A (mo x) (upS B [((x : Int), bk (i : Int))]) 5 (rdL (mo x).n L (x : Int) 2) (rdR (mo x) (upS B [((x : Int), bk (i : Int))]) 5 L R (x : Int) 2)) := Lib.hid fun W hA => hW9.on hA
        have HB9 : Hid (∀ W, At w9 W → BV W (some ⟨g9, 0, none⟩) (bk (i : Int)) ∧ BV W (some ⟨g9, 40, none⟩) (bk 51)) := Lib.hid fun W hA => by
          have h1 := (hb9.below hA).take 40
          have h2 := (hb9.below hA).drop 40
          rw [List.take_left' (bk_len _)] at h1
          rw [List.drop_left' (bk_len _), Nat.zero_add] at h2
          exact ⟨h1, h2⟩
        have k1 : (40 : Int) ≤ (c9 : Int) := by omega
        have k2 : ¬ c9 = 40 := by omega
        have HC2 : Hid (∀ W, At w9 W → W.cell? ⟨A.bw, 2, none⟩ = some (.pointer (some ⟨A.bv, 0, none⟩))) := Lib.hid fun W hA => (hW9.on hA).cells.2.2.1
        have e0 := HC2.out w9 (At.start _)
        clear hb9 hW9 c2 HRD HW8 HI9
        go_wp2_with fail
        go_region_held3 (fun w' => w'.cell? ⟨A.bw, 2, none⟩ = some (.pointer (some ⟨A.bv, 0, none⟩))) (go_keep)
          (first
            | (go_at_call 26; ((with_reducible refine (data_any 51 _).mono ?_); rintro e w12 ⟨g12, rfl, hg, hb, hA⟩); have HA12 : Hid (At w9 w12) := Lib.hid (HA11.out.next hA); have HB12 := Lib.hid hb; have e3 := HC2.out w12 HA12.out; clear hg hb hA)
            | (go_at_call 26; ((with_reducible refine (data_any (i : Int) _).mono ?_); rintro e w10 ⟨g10, rfl, hg, hb, hA⟩); have HA10 : Hid (At w9 w10) := Lib.hid (((At.start w9).drewN 1).next hA); have HB10 := Lib.hid hb; have e1 := HC2.out w10 HA10.out; clear hg hb hA)
            | (go_at_call 13; ((with_reducible refine (bytes_any (some ⟨g9, 0, none⟩) (some ⟨g10, 0, none⟩) 40 _ _ (bk (i : Int)) (bk (i : Int)) w10 (by omega) (bk_len _) (bk_len _) (bk_byte _) (bk_byte _) (HB9.out w10 HA10.out).1 HB10.out).mono ?_); rintro e w11 ⟨rfl, kk, rfl⟩); have HA11 : Hid (At w9 (w10.drewN kk)) := Lib.hid (HA10.out.next ((At.start w10).drewN kk)); have e2 := HC2.out _ HA11.out)
            | (go_at_call 13; ((with_reducible refine (bytes_any (some ⟨g9, 40, none⟩) (some ⟨g12, 0, none⟩) 40 _ _ (bk 51) (bk 51) w12 (by omega) (bk_len _) (bk_len _) (bk_byte _) (bk_byte _) (HB9.out w12 HA12.out).2 HB12.out).mono ?_); rintro e w13 ⟨rfl, kk2, rfl⟩); have HA13 : Hid (At w9 (w12.drewN kk2)) := Lib.hid (HA12.out.next ((At.start w12).drewN kk2)); have e4 := HC2.out _ HA13.out))
        clear e0 e1 e2 e3 e4 HC2 HB9 HB10 HB12 HA10 HA11 HA12
        go_wp2
        go_roundw
        case rel => exact ⟨i + 1, by omega, by go_num, Lib.hid (HST.out F9 _ (HM9.out _ HA13.out))⟩
        case measure => simp [RowKit.intOf]; omega
      · have hin : i = n := by omega
        have c2 := hW.cells.2.2.1
        have hcr := hR
        have HRS := Lib.hid (reads_any hW.v (by omega))
        have HCN : Hid (cn R = n) := Lib.hid (by omega)
        have HAT := Lib.hid hW.at_
        have hrl : R.length ≤ 100 := by omega
        clear hW hB hL hR hRl HX HW HS hcr
        go_wp2_with fail
        refine HRS.out.mono ?_
        rintro e w14 ⟨v, l, rfl, hrw, hlR, hA⟩
        have hll : l.length = R.length := by rw [← hlR, List.length_map]
        obtain ⟨A5, c5, rfl, -, -⟩ := hrw.form
        obtain ⟨N, hN⟩ : ∃ N, N = l.length := ⟨_, rfl⟩
        rw [← hN] at hrw hll
        rw [← hN]
        have HL := Lib.hid (And.intro hrw (And.intro hlR (And.intro hN hll)))
        have HA14 : Hid (At w w14) := Lib.hid (HAT.out.next hA)
        have hN100 : N ≤ 100 := by omega
        clear hrw hlR hN hll hA c2 HRS HAT hin
        go_wp2
        go_loopw [15, 16] (fun c15 c16 wx => ∃ j : Nat, j ≤ N ∧ c16 = .int .i64 (j : Int) ∧ c15 = .int .i64 ((cn (R.take j) : Nat) : Int) ∧ wx = w14) (fun _ c16 _ => N - (RowKit.intOf c16).toNat)
        case atStart => exact ⟨0, Nat.zero_le _, rfl, rfl, rfl⟩
        case round =>
          obtain ⟨j, hj, rfl, rfl, hwx⟩ := hrel
          have hwx' := hwx.symm
          subst hwx'
          have hcl := cn_le (R.take j)
          rw [List.length_take] at hcl
          by_cases hjl : j < N
          · obtain ⟨A', c', he, -, hf⟩ := HL.out.1.form
            injection he with he1 he2 he3
            subst he1
            clear he2 he3
            obtain ⟨g, rfl, -, hc⟩ := hf (by rw [← HL.out.2.2.1]; omega)
            obtain ⟨-, -, k3⟩ := hc j (by rw [← HL.out.2.2.1]; exact hjl)
            have hst := cn_take R j (by rw [← HL.out.2.2.2]; exact hjl)
            have ho : (R.getD j rz).o = (l.getD j lrz).1.o := by
              have hjl' : j < l.length := by rw [← HL.out.2.2.1]; exact hjl
              rw [← HL.out.2.1, List.getD_eq_getElem?_getD, List.getElem?_map, List.getD_eq_getElem?_getD, List.getElem?_eq_getElem hjl']; rfl
            rw [ho] at hst
            obtain ⟨o, hoe⟩ : ∃ o, o = (l.getD j lrz).1.o := ⟨_, rfl⟩
            rw [← hoe] at k3 hst
            have HST := Lib.hid hst
            have g1 : (0 : Int) ≤ (j : Int) := by omega
            have g2 : (j : Int) < (N : Int) := by omega
            obtain ⟨u, hu⟩ : ∃ u, u = cn (R.take j) := ⟨_, rfl⟩
            rw [← hu] at HST hcl
            rw [← hu]
            clear hc hf hst ho hoe hu
            cases o
            · go_wp2
              go_roundw
              case rel => exact ⟨j + 1, by omega, by go_num, by rw [HST.out]; simp, by first | rfl | trivial⟩
              case measure => simp [RowKit.intOf]; omega
            · go_wp2
              go_roundw
              case rel => exact ⟨j + 1, by omega, by go_num, by rw [HST.out]; simp, by first | rfl | trivial⟩
              case measure => simp [RowKit.intOf]; omega
          · have hjn : R.take j = R := List.take_of_length_le (by rw [← HL.out.2.2.2]; omega)
            rw [hjn, HCN.out]
            clear hjn hcl
            have q9 : ((n : Int) == (n : Int)) = true := by simp
            go_wp2_with fail
            refine (HAW.out _).mono ?_
            rintro e w15 ⟨rfl, hA⟩
            have HE : Hid (At w w15) := Lib.hid (HA14.out.next hA)
            clear hA
            go_wp2
            go_ret
            exact ⟨rfl, HE.out⟩

/-- For whatever numbers. -/
theorem own_any (a n : Int) (bf : Bool) (w : World) : Calls Try.prog 7 #[.int .i64 a, .int .i64 n, .bool bf] w (Gives (.bool true) w) := by
  by_cases hin : 0 ≤ n ∧ n ≤ 10
  · obtain ⟨k, rfl⟩ : ∃ k : Nat, n = (k : Int) := ⟨n.toNat, by omega⟩
    exact own_in a k bf (by omega) w
  · have HAW := Lib.hid (awake_any w)
    by_cases h1 : n < 0
    · have g1 : decide (n < 0) = true := decide_eq_true h1
      clear hin h1
      go_enter Try.func7, Try.ntmps7
      go_wp2_with fail
      refine HAW.out.mono ?_
      rintro e w1 ⟨rfl, hA⟩
      have HA := Lib.hid hA
      clear hA
      go_wp2
      go_ret
      exact ⟨rfl, HA.out⟩
    · have g1 : decide (n < 0) = false := decide_eq_false h1
      have g2 : decide ((10 : Int) < n) = true := decide_eq_true (by omega)
      clear hin h1
      go_enter Try.func7, Try.ntmps7
      go_wp2_with fail
      refine HAW.out.mono ?_
      rintro e w1 ⟨rfl, hA⟩
      have HA := Lib.hid hA
      clear hA
      go_wp2
      go_ret
      exact ⟨rfl, HA.out⟩

end Go.Proofs.Ytgjlklladbcmcaa
