/- Proved: the law ExtmapRanges answers true: blocks that are read together are what each one is; one is written later just if one of them is. -/
import Derived.Test.YtjpoiijifnfjhaaSna
import Derived.Test.YtjpoiijifnfjhaaRng
namespace Go.Proofs.Ytjpoiijifnfjhaa
open Go.RowKit

/-- Between two steps: the map at b. -/
structure Pl (w : World) (b : Nat) (i : Nat) (S : St) (F : Nat → Prop) (wr : World) : Prop where
  mp : Mp wr b S F
  far : ∀ x, F x → w.heap.size ≤ x
  n : S.n = 20
  c : S.c ≤ i
  at_ : At w wr
theorem Pl.on {w : World} {b : Nat} {i : Nat} {S : St} {F : Nat → Prop} {wr wr' : World} (h : Pl w b i S F wr) (hA : At wr wr') : Pl w b i S F wr' := by
  obtain ⟨mb, D, hd, hm⟩ := h.mp
  exact ⟨⟨mb, D, hd, hm.on hA⟩, h.far, h.n, h.c, h.at_.next hA⟩
theorem Pl.more {w : World} {b : Nat} {i : Nat} {S : St} {F : Nat → Prop} {wr : World} (h : Pl w b i S F wr) : Pl w b (i + 1) S F wr :=
  ⟨h.mp, h.far, h.n, Nat.le_succ_of_le h.c, h.at_⟩
theorem Pl.next {w : World} {b : Nat} {i : Nat} {S S' : St} {F F' : Nat → Prop} {wr wr' : World} (h : Pl w b i S F wr) (hm : Mp wr' b S' F') (hd : Did F wr F' wr') (hn : S'.n = S.n) (hc : S'.c ≤ S.c + 1) : Pl w b (i + 1) S' F' wr' := by
  have h1 := h.c
  exact ⟨hm, hd.far h.at_.size h.far, hn.trans h.n, by omega, hd.at_ h.at_ h.far⟩

/-- r tells whether one of the first k blocks from a on was written later than t. -/
def Later (S : St) (a : Nat) (t : Int) (k : Nat) (r : Bool) : Prop := r = true ↔ ∃ i, i < k ∧ S.V (a + i) ≠ [] ∧ t < (nw (S.V (a + i))).1
theorem later_z {S : St} (h : Ok S) (k : Nat) (t : Int) : (0 < (rdv (S.V k) 1099511627776).1 ∧ t < (rdv (S.V k) 1099511627776).1) ↔ (S.V k ≠ [] ∧ t < (nw (S.V k)).1) := by
  rw [rdv_all _ _ (h.time k h.l1)]
  by_cases e : S.V k = []
  · rw [if_pos e]
    exact ⟨fun h => absurd h.1 (Int.lt_irrefl 0), fun h => absurd e h.1⟩
  · rw [if_neg e]
    have := (h.v k _ (nw_mem _ e)).1
    exact ⟨fun h => ⟨e, h.2⟩, fun h => ⟨by omega, h.2⟩⟩
theorem later_yes {S : St} {a : Nat} {t : Int} {k : Nat} (h : Later S a t k true) : Later S a t (k + 1) true :=
  ⟨fun _ => let ⟨i, hi, hx⟩ := h.1 rfl; ⟨i, Nat.lt_succ_of_lt hi, hx⟩, fun _ => rfl⟩
theorem later_no {S : St} {a : Nat} {t : Int} {k : Nat} (h : Later S a t k false) (hn : ¬ (S.V (a + k) ≠ [] ∧ t < (nw (S.V (a + k))).1)) : Later S a t (k + 1) false :=
  ⟨fun h => (by cases h), fun ⟨i, hi, hx⟩ => by
    by_cases e : i = k
    · subst e; exact absurd hx hn
    · exact h.2 ⟨i, by omega, hx⟩⟩
theorem later_all {S : St} {a n : Nat} {t : Int} {r : Bool} (h : Later S a t n r) (hn : 1 ≤ n) (ha : a + n ≤ 1048576) : wrB S (a : Int) (n : Int) t = r := by
  have hva : Va ((a : Int), (n : Int)) := ⟨by simp only; omega, by simp only; omega, by simp only; omega, by simp only; omega, by simp only; omega⟩
  unfold wrB
  rw [vaB_yes hva, Bool.true_and]
  have e : (∃ x : Bk S (a : Int) (n : Int), t < (nw (S.V x.1)).1) ↔ r = true := by
    rw [show (r = true) ↔ _ from h]
    constructor
    · rintro ⟨⟨k, h1, h2, h3⟩, h4⟩
      refine ⟨k - a, by omega, ?_⟩
      rw [show a + (k - a) = k by omega]
      exact ⟨h1, h4⟩
    · rintro ⟨i, hi, h1, h2⟩
      exact ⟨⟨a + i, h1, by omega, by omega⟩, h2⟩
  cases r
  · exact @decide_eq_false _ (Classical.propDecidable _) (fun x => by have := e.1 x; cases this)
  · exact @decide_eq_true _ (Classical.propDecidable _) (e.2 rfl)

set_option maxHeartbeats 4000000 in
set_option maxRecDepth 100000 in
theorem ranges_any (A : Option Addr) (L : List Stp) (n c : Nat) (hL : L.length = n) (hn : n ≤ maxLen) (hS : ∀ s ∈ L, SOk s) (w : World) (hv : SV w A L) (x y t : Int) :
    Calls Try.prog 6 #[.slice A n c, .agg #[.int .i64 x, .int .i64 y], .int .i64 t] w (Gives (.bool true) w) := by
  have hA0 : At w (w.alloc (.cells #[.int .i64 x, .int .i64 y] 48)) := (At.start w).alloc _
  have HC : Hid (∀ W, At (w.alloc (.cells #[.int .i64 x, .int .i64 y] 48)) W → W.cell? ⟨w.heap.size, 0, none⟩ = some (.int .i64 x) ∧ W.cell? ⟨w.heap.size, 1, none⟩ = some (.int .i64 y) ∧ At w W) := Lib.hid fun W hW =>
    ⟨(cell_at (hW.keep (heap_alloc_new w _)) 0).trans rfl, (cell_at (hW.keep (heap_alloc_new w _)) 1).trans rfl, ((At.start w).alloc _).next hW⟩
  have HSM := Lib.hid (small_any A L n c hL hn hS _ (hv.on hA0))
  have HN := Lib.hid hL
  have HSV := Lib.hid (hv.on hA0)
  have HSO := Lib.hid hS
  have HAW := Lib.hid awake_any
  have HNW : Hid (∀ W, Calls Try.prog 10 #[.int .i64 20] W (News 20 W)) := Lib.hid fun W => new_any 20 (by omega) (by omega) W
  clear hL hn hS hv hA0
  go_enter Try.func6, Try.ntmps6
  go_wp2_with fail
  obtain ⟨X, hX⟩ : ∃ X, X = w.heap.size := ⟨_, rfl⟩
  rw [← hX] at HC ⊢
  clear hX
  generalize w.alloc (.cells #[.int .i64 x, .int .i64 y] 48) = wb at HC HSM HSV ⊢
  refine HSM.out.mono ?_
  rintro e w1 ⟨r, rfl, hf, hA⟩
  have HA1 := Lib.hid hA
  have HFW := Lib.hid hf
  clear hA hf HSM
  obtain ⟨c1, c2, _⟩ := HC.out w1 HA1.out
  cases r
  ·
    go_wp2_with fail
    refine (HAW.out _).mono ?_
    rintro e w9 ⟨rfl, hA9⟩
    have HE9 := Lib.hid (HC.out _ (HA1.out.next hA9)).2.2
    clear hA9
    go_wp2
    go_ret
    exact ⟨rfl, HE9.out⟩
  · have HFE := Lib.hid (HFW.out rfl)
    have hn100 : n ≤ 100 := by rw [← HN.out]; exact HFE.out.1
    clear HFW
    by_cases b1 : x < 0
    ·
      go_wp2_with fail
      refine (HAW.out _).mono ?_
      rintro e w9 ⟨rfl, hA9⟩
      have HE9 := Lib.hid (HC.out _ (HA1.out.next hA9)).2.2
      clear hA9
      go_wp2
      go_ret
      exact ⟨rfl, HE9.out⟩
    have b1' : decide (x < 0) = false := decide_eq_false b1
    by_cases b2 : 100 < x
    ·
      go_wp2_with fail
      refine (HAW.out _).mono ?_
      rintro e w9 ⟨rfl, hA9⟩
      have HE9 := Lib.hid (HC.out _ (HA1.out.next hA9)).2.2
      clear hA9
      go_wp2
      go_ret
      exact ⟨rfl, HE9.out⟩
    have b2' : decide (100 < x) = false := decide_eq_false b2
    by_cases b3 : y < 1
    ·
      go_wp2_with fail
      refine (HAW.out _).mono ?_
      rintro e w9 ⟨rfl, hA9⟩
      have HE9 := Lib.hid (HC.out _ (HA1.out.next hA9)).2.2
      clear hA9
      go_wp2
      go_ret
      exact ⟨rfl, HE9.out⟩
    have b3' : decide (y < 1) = false := decide_eq_false b3
    by_cases b4 : 100 < y
    ·
      go_wp2_with fail
      refine (HAW.out _).mono ?_
      rintro e w9 ⟨rfl, hA9⟩
      have HE9 := Lib.hid (HC.out _ (HA1.out.next hA9)).2.2
      clear hA9
      go_wp2
      go_ret
      exact ⟨rfl, HE9.out⟩
    have b4' : decide (100 < y) = false := decide_eq_false b4
    obtain ⟨xa, rfl⟩ : ∃ xa : Nat, x = (xa : Int) := ⟨x.toNat, by omega⟩
    obtain ⟨yn, rfl⟩ : ∃ yn : Nat, y = (yn : Int) := ⟨y.toNat, by omega⟩
    go_wp2_with fail
    refine (HNW.out _).mono ?_
    rintro e w2 ⟨b, F0, rfl, hm, hF, hA⟩
    have HX : Hid (Pl wb b 0 (st0 20) F0 w2) := Lib.hid ⟨hm, fun g hg => Nat.le_trans HA1.out.size (hF g hg), rfl, Nat.le_refl _, HA1.out.next hA⟩
    clear hA hm hF c1 c2 b1' b2' b3' b4'
    go_wp2
    go_loopw [9] (fun c9 wr => ∃ (i : Nat) (S : St) (F : Nat → Prop), i ≤ n ∧ c9 = .int .i64 (i : Int) ∧ Hid (Pl wb b i S F wr)) (fun c9 _ => n - (RowKit.intOf c9).toNat)
    case atStart => exact ⟨0, st0 20, F0, Nat.zero_le _, rfl, HX⟩
    case round =>
      clear HX
      obtain ⟨i, S, F, hi, rfl, HX⟩ := hrel
      by_cases hlt : i < n
      · obtain ⟨ab, ao, rfl, hbl, hx⟩ := HSV.out.pos (by rw [HN.out]; omega)
        obtain ⟨s, hs⟩ : ∃ s, L.getD i sz = s := ⟨_, rfl⟩
        obtain ⟨B, cb, hpv, hin⟩ := step_in wb ab ao L i s hs hx hbl (by rw [HN.out]; exact hlt)
        obtain ⟨d0, d1, d2⟩ := hin wr HX.out.at_
        have hso := HSO.out s (by rw [← hs]; exact step_mem (by rw [HN.out]; exact hlt))
        have hpl := HFE.out.2 i (by rw [HN.out]; exact hlt)
        rw [hs] at hpl
        obtain ⟨kd, T, P, num⟩ := s
        simp only at d0 d1 d2 hpv hpl
        have HMA := Lib.hid (apply_any HX.out.mp HX.out.at_ HX.out.far T B P P.length cb rfl (by omega) hpv hso.1 (by have := HX.out.c; omega))
        obtain ⟨m, hm⟩ : ∃ m, m = P.length := ⟨_, rfl⟩
        obtain ⟨z, hz⟩ : ∃ z, z = rf S T P := ⟨_, rfl⟩
        rw [← hm] at d2
        rw [← hm, ← hz] at HMA
        have g1 : (0 : Int) ≤ (i : Int) := by omega
        have g2 : (i : Int) < (n : Int) := by omega
        clear hin hx hs hso hpv hm hz hpl
        by_cases hk : kd = 1
        · subst hk
          go_wp2_with fail
          refine HMA.out.mono ?_
          rintro e w4 ⟨F2, rfl, hm2, hd2⟩
          have HX2 := Lib.hid (HX.out.next hm2 hd2 (took_n _ _ _) (took_c _ _ _))
          clear hm2 hd2 HMA d0 d1 d2
          go_wp2
          go_roundw
          case rel => exact ⟨i + 1, _, F2, by omega, by go_num, HX2⟩
          case measure => simp [RowKit.intOf]; omega
        · have q : (kd == 1) = false := by simp [hk]
          have HX2 := Lib.hid HX.out.more
          clear HMA hk
          go_wp2
          go_roundw
          case rel => exact ⟨i + 1, S, F, by omega, by go_num, HX2⟩
          case measure => simp [RowKit.intOf]; omega
      · have hin0 : i = n := by omega
        subst hin0
        clear hi hlt
        obtain ⟨mb, D, hd, hmq⟩ := HX.out.mp
        obtain ⟨c1, c2, _⟩ := HC.out wr HX.out.at_
        by_cases hin : xa + yn ≤ 20
        · have HRA := Lib.hid (range_any hmq xa yn t (by omega) (by omega) (by rw [HX.out.n]; omega))
          have q20 : ¬ (20 : Int) < (xa : Int) + (yn : Int) := by omega
          have q20' : decide ((20 : Int) < (xa : Int) + (yn : Int)) = false := decide_eq_false q20
          clear hmq
          go_wp2_with fail
          refine HRA.out.mono ?_
          rintro e w5 ⟨gr, LR, rfl, hrg, hbv, hA5⟩
          have HRG := Lib.hid hrg
          have HBV := Lib.hid hbv
          have HX5 := Lib.hid (HX.out.on hA5)
          obtain ⟨m40, hm40⟩ : ∃ m40, m40 = yn * 40 := ⟨_, rfl⟩
          rw [← hm40]
          have HM40 := Lib.hid hm40
          clear hm40
          clear hrg hbv hA5 c1 c2 HRA
          obtain ⟨c1, c2, _⟩ := HC.out w5 HX5.out.at_
          go_wp2
          go_loopw [12, 13] (fun c12 c13 wi => ∃ (k : Nat) (r : Bool), k ≤ yn ∧ c13 = .int .i64 (k : Int) ∧ c12 = .bool r ∧ Hid (Later S xa t k r) ∧ Hid (At w5 wi)) (fun _ c13 _ => yn - (RowKit.intOf c13).toNat)
          case atStart => exact ⟨0, false, Nat.zero_le _, rfl, rfl, Lib.hid ⟨fun h => (by cases h), fun ⟨i, h, _⟩ => absurd h (Nat.not_lt_zero i)⟩, Lib.hid (At.start _)⟩
          case round =>
            clear c1 c2
            obtain ⟨k, r, hk, rfl, rfl, HLT, HI⟩ := hrel
            have HY := Lib.hid (HX5.out.on HI.out)
            obtain ⟨mb, D, hd, hmq⟩ := HY.out.mp
            obtain ⟨c1, c2, _⟩ := HC.out wr HY.out.at_
            by_cases hkn : k < yn
            · have hSn : S.n = 20 := HY.out.n
              have HG1 := Lib.hid (get_any hmq (xa + k) (by omega) t)
              have HG2 := Lib.hid (fun W (hW : At wr W) => get_any (hmq.on hW) (xa + k) (by omega) 1099511627776)
              have hrl := hmq.ok.rd_len (xa + k) t
              have hrb := hmq.ok.rd_byte (xa + k) t
              have hbk := HRG.out.block hmq.ok hkn
              have HZ := Lib.hid (later_z hmq.ok (xa + k) t)
              simp only [Int.natCast_add] at HG1 HG2
              have w1 : IntKind.i64.wrap ((xa : Int) + (k : Int)) = (xa : Int) + (k : Int) := IntWalk.i64_in _ (by omega)
              have HRL := Lib.hid hrl
              have HRB := Lib.hid hrb
              have HBK := Lib.hid hbk
              have g1 : (0 : Int) ≤ (k : Int) := by omega
              have g2 : (k : Int) < (yn : Int) := by omega
              clear hmq hSn hrl hrb hbk
              go_wp2_with fail
              refine HG1.out.mono ?_
              rintro e w6 ⟨ga, ca, rfl, -, hba, hA6⟩
              have HBA := Lib.hid hba
              have HA6 := Lib.hid hA6
              clear hba hA6 c1 c2
              obtain ⟨c1, c2, _⟩ := HC.out w6 (HY.out.at_.next HA6.out)
              go_wp2_with fail
              refine (HG2.out _ HA6.out).mono ?_
              rintro e w7 ⟨gb, cb, rfl, -, -, hA7⟩
              have HI7 := Lib.hid (HI.out.next (HA6.out.next hA7))
              obtain ⟨q, hq⟩ : ∃ q, q = k * 40 := ⟨_, rfl⟩
              have hq2 : (40 : Int) * (k : Int) = (q : Int) := by omega
              have HBY : Hid (∀ cc, Calls Try.prog 14 #[.slice (some ⟨gr, q, none⟩) 40 cc, .slice (some ⟨ga, 0, none⟩) 40 ca] w7 fun e w' => e = .returned (.bool true) ∧ ∃ k, w' = w7.drewN k) := Lib.hid (fun cc => by
                have hb := ((HBV.out.below HI7.out).drop q).take 40
                rw [Nat.zero_add, hq, HBK.out] at hb
                rw [hq]
                have := bytes_any (some ⟨gr, k * 40, none⟩) (some ⟨ga, 0, none⟩) 40 cc ca _ _ w7 (by omega) HRL.out HRL.out HRB.out HRB.out hb (HBA.out.below hA7)
                rwa [decide_eq_true rfl] at this)
              clear hA7 c1 c2 HBA HA6
              obtain ⟨c1, c2, _⟩ := HC.out w7 (HX5.out.at_.next HI7.out)
              obtain ⟨z, hz⟩ : ∃ z, z = (rdv (S.V (xa + k)) 1099511627776).1 := ⟨_, rfl⟩
              rw [← hz] at HZ ⊢
              have hm40 := HM40.out
              have hqm : q + 40 ≤ m40 := by omega
              have hm2 : (40 : Int) * (yn : Int) = (m40 : Int) := by omega
              have g3 : (0 : Int) ≤ (q : Int) := by omega
              have g4 : (q : Int) + 40 ≤ (m40 : Int) := by omega
              have w2 : IntKind.i64.wrap (q : Int) = (q : Int) := IntWalk.i64_in _ (by omega)
              have w3 : IntKind.i64.wrap ((q : Int) + 40) = (q : Int) + 40 := IntWalk.i64_in _ (by omega)
              have w4 : IntKind.i64.wrap (m40 : Int) = (m40 : Int) := IntWalk.i64_in _ (by omega)
              clear hz hq hm40 HG1 HG2
              cases r
              ·
                by_cases hz1 : t < z
                · by_cases hz2 : 0 < z
                  · have HLT2 := Lib.hid (HZ.out.1 ⟨hz2, hz1⟩)
                    go_wp2_with fail
                    refine (HBY.out _).mono ?_
                    rintro e w' ⟨rfl, kk, rfl⟩
                    have HI8 := Lib.hid (HI7.out.drewN kk)
                    go_wp2
                    go_roundw
                    case rel => exact ⟨k + 1, true, by omega, by go_num, rfl, Lib.hid (⟨fun _ => ⟨k, Nat.lt_succ_self k, HLT2.out⟩, fun _ => rfl⟩), HI8⟩
                    case measure => simp [RowKit.intOf]; omega

                  · have qz : decide (0 < z) = false := decide_eq_false hz2
                    have HLT2 := Lib.hid (fun x => hz2 (HZ.out.2 x).1)
                    clear hz2
                    go_wp2_with fail
                    refine (HBY.out _).mono ?_
                    rintro e w' ⟨rfl, kk, rfl⟩
                    have HI8 := Lib.hid (HI7.out.drewN kk)
                    go_wp2
                    go_roundw
                    case rel => exact ⟨k + 1, false, by omega, by go_num, rfl, Lib.hid (later_no HLT.out HLT2.out), HI8⟩
                    case measure => simp [RowKit.intOf]; omega

                · have qz : decide (t < z) = false := decide_eq_false hz1
                  have HLT2 := Lib.hid (fun x => hz1 (HZ.out.2 x).2)
                  clear hz1
                  go_wp2_with fail
                  refine (HBY.out _).mono ?_
                  rintro e w' ⟨rfl, kk, rfl⟩
                  have HI8 := Lib.hid (HI7.out.drewN kk)
                  go_wp2
                  go_roundw
                  case rel => exact ⟨k + 1, false, by omega, by go_num, rfl, Lib.hid (later_no HLT.out HLT2.out), HI8⟩
                  case measure => simp [RowKit.intOf]; omega

              ·
                go_wp2_with fail
                refine (HBY.out _).mono ?_
                rintro e w' ⟨rfl, kk, rfl⟩
                have HI8 := Lib.hid (HI7.out.drewN kk)
                go_wp2
                go_roundw
                case rel => exact ⟨k + 1, true, by omega, by go_num, rfl, Lib.hid (later_yes HLT.out), HI8⟩
                case measure => simp [RowKit.intOf]; omega

            · have hkn2 : k = yn := by omega
              subst hkn2
              have HWT := Lib.hid (written_any hmq (xa : Int) (k : Int) t ⟨by simp only; omega, by simp only; omega, by simp only; omega, by simp only; omega, by simp only; omega⟩)
              rw [later_all (r := r) HLT.out (by omega) (by omega)] at HWT
              clear hmq
              cases r
              · go_wp2_with fail
                refine HWT.out.mono ?_
                rintro e w8 ⟨rfl, hA8⟩
                have HA8 := Lib.hid (HY.out.at_.next hA8)
                clear hA8
                go_wp2_with fail
                refine (HAW.out _).mono ?_
                rintro e w9 ⟨rfl, hA9⟩
                have HE9 := Lib.hid (HC.out _ (HA8.out.next hA9)).2.2
                clear hA9
                go_wp2
                go_ret
                exact ⟨rfl, HE9.out⟩
              · go_wp2_with fail
                refine HWT.out.mono ?_
                rintro e w8 ⟨rfl, hA8⟩
                have HA8 := Lib.hid (HY.out.at_.next hA8)
                clear hA8
                go_wp2_with fail
                refine (HAW.out _).mono ?_
                rintro e w9 ⟨rfl, hA9⟩
                have HE9 := Lib.hid (HC.out _ (HA8.out.next hA9)).2.2
                clear hA9
                go_wp2
                go_ret
                exact ⟨rfl, HE9.out⟩

        · have HRN := Lib.hid (range_no (w := wr) (some ⟨b, 0, none⟩) S.n (fun W hW => blocks_mp (hmq.on hW)) (xa : Int) (yn : Int) t (fun h => by have := h.2; rw [HX.out.n] at this; omega))
          have q20 : (20 : Int) < (xa : Int) + (yn : Int) := by omega
          clear hmq
          go_wp2_with fail
          refine HRN.out.mono ?_
          rintro e w5 ⟨rfl, hA5⟩
          have HA5 := Lib.hid (HX.out.at_.next hA5)
          clear hA5 c1 c2 HRN
          obtain ⟨c1, c2, _⟩ := HC.out w5 HA5.out
          go_wp2_with fail
          refine (HAW.out _).mono ?_
          rintro e w9 ⟨rfl, hA9⟩
          have HE9 := Lib.hid (HC.out _ (HA5.out.next hA9)).2.2
          clear hA9
          go_wp2
          go_ret
          exact ⟨rfl, HE9.out⟩

end Go.Proofs.Ytjpoiijifnfjhaa
