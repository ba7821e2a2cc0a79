/- Proved: the law BatchRow answers true for any batches and any cut and leaves what there was as it was: batches that are written one behind the other are read one by one; the first that is not whole ends it. -/
import Derived.Test.YtgmekkenodiclaaRrw
import Derived.Test.YtgmekkenodiclaaRs
import Derived.Test.YtgmekkenodiclaaSb
import Derived.Deep.CutBlock
namespace Go.Proofs.Ytgmekkenodiclaa
open Go.RowKit
attribute [local go_sem ↓] Go.wp_at_zero Go.wp_at_succ

/-- Behind i batches: all their blocks, and where each ends. -/
structure St1 (M : List Bt) (i a : Nat) (lA : List Rl) (lE : List Int) : Prop where
  len : lA.length = a
  en : a = eN M i
  le : a ≤ 33 * i
  rows : lA.map (·.1) = allR M i
  lel : lE.length = i + 1
  es : ∀ j, j < i + 1 → lE[j]? = some (eN M j : Int)
  bk : ∀ j, j < i → Bk (M.getD j btz).1 (M.getD j btz).2
theorem St1.zero (M : List Bt) : St1 M 0 0 [] [0] := by
  refine ⟨rfl, rfl, Nat.le_refl _, rfl, rfl, ?_, fun j hj => absurd hj (Nat.not_lt_zero j)⟩
  intro j hj
  obtain rfl : j = 0 := by omega
  rfl
theorem St1.more {M : List Bt} {i a : Nat} {lA : List Rl} {lE : List Int} (h : St1 M i a lA lE) (hi : i < M.length) (hb : Bk (M.getD i btz).1 (M.getD i btz).2) {l' : List Rl} (hl : l'.map (·.1) = eb 1 (M.getD i btz).1.toNat (M.getD i btz).2) {r : Nat} (hr : a + (tot (M.getD i btz).2 + 1) = r) : St1 M (i + 1) r (lA ++ l') (lE ++ [(r : Int)]) := by
  have hen := eN_more hi
  have hr2 : r = eN M (i + 1) := by rw [hen, ← hr, h.en]
  have h32 := hb.n32
  have hle := h.le
  refine ⟨?_, hr2, by omega, by rw [List.map_append, h.rows, hl, allR_more hi], by rw [List.length_append, h.lel]; rfl, fun j hj => ?_, fun j hj => ?_⟩
  · have := congrArg List.length hl
    rw [List.length_map, eb_len] at this
    rw [List.length_append, h.len, this, hr]
  · by_cases e : j < i + 1
    · rw [List.getElem?_append_left (by rw [h.lel]; exact e)]; exact h.es j e
    · obtain rfl : j = i + 1 := by omega
      rw [List.getElem?_append_right (by rw [h.lel]; omega), h.lel, Nat.sub_self, hr2]; rfl
  · by_cases e : j < i
    · exact h.bk j e
    · obtain rfl : j = i := by omega
      exact hb
theorem bt_mem {M : List Bt} {j : Nat} (h : j < M.length) : M.getD j btz ∈ M := by
  rw [List.getD_eq_getElem?_getD, List.getElem?_eq_getElem h]; exact List.getElem_mem h
theorem pb_of {L : List Tx} (h : ∀ x ∈ L, TOk x) : Pb (fla L) := fun p hp => by
  obtain ⟨x, hx, hpx⟩ := fla_mem.1 hp
  exact ((h x hx).1 p hpx).1
theorem St1.byte {M : List Bt} {i a : Nat} {lA : List Rl} {lE : List Int} (h : St1 M i a lA lE) (hi : i ≤ M.length) (hk : ∀ b ∈ M, BOk b) : ∀ r ∈ allR M i, AllB r := fun r hr => by
  obtain ⟨b, hb, hrb⟩ := List.mem_flatMap.1 hr
  obtain ⟨j, hj, rfl⟩ := List.mem_iff_getElem.1 hb
  rw [List.length_take] at hj
  have hbk := h.bk j (by omega)
  have hM := hk _ (bt_mem (show j < M.length by omega))
  have e : (M.take i)[j]'(by rw [List.length_take]; exact hj) = M.getD j btz := by
    rw [List.getElem_take, List.getD_eq_getElem?_getD, List.getElem?_eq_getElem (by omega)]; rfl
  rw [e] at hrb
  have hs := hbk.s1
  have hb' : Bk (((M.getD j btz).1.toNat : Nat) : Int) (M.getD j btz).2 := by rw [Int.toNat_of_nonneg (by omega)]; exact hbk
  exact (eb_row hb' (pb_of hM.1) (by omega) r hrb).2
theorem lf_more {M : List Bt} {c u : Nat} (h : u < M.length) : lf M c (u + 1) = (lf M c u).drop (tot (M.getD u btz).2 + 1) := by
  rw [lf, lf, List.drop_drop, eN_more h]
theorem lf_byte {M : List Bt} {c u : Nat} (h : ∀ r ∈ allR M M.length, AllB r) : ∀ r ∈ lf M c u, AllB r := fun r hr => h r (List.mem_of_mem_take (List.mem_of_mem_drop hr))
/-- What a Decode of what is left tells. -/
theorem lf_dec {M : List Bt} {c u : Nat} (h : u < M.length) (hb : Bk (M.getD u btz).1 (M.getD u btz).2) (hp : Pb (fla (M.getD u btz).2)) (hc2 : c ≤ eN M M.length) {w w' : World} {x : Ending} (hd : DecP (lf M c u) w x w') :
    (eN M (u + 1) ≤ c ∧ ∃ (A : Option Addr) (d : Nat), At w w' ∧ TV w' A (M.getD u btz).2 ∧ x = .returned (.tuple #[.agg #[.int .i64 (M.getD u btz).1, .slice A (M.getD u btz).2.length d], .int .i64 1, .int .i64 ((tot (M.getD u btz).2 + 1 : Nat) : Int), .int .i64 0])) ∨
    (c < eN M (u + 1) ∧ At w w' ∧ x = .returned (.tuple #[.agg #[.int .i64 0, .slice none 0 0], .int .i64 0, .int .i64 0, .int .i64 14])) := by
  have hs := hb.s1
  by_cases hc : eN M (u + 1) ≤ c
  · have hr := lf_rok h hb hp hc hc2
    obtain ⟨hA, ⟨e, s, L, A, d, h1, h2, h3, rfl⟩ | ⟨h1, _⟩ | ⟨h1, _⟩⟩ := hd
    · obtain rfl := h2 _ _ _ hr
      obtain ⟨rfl, rfl⟩ := rok_same h1 hr
      exact Or.inl ⟨hc, A, d, hA, h3, by rw [Int.toNat_of_nonneg (by omega)]; rfl⟩
    · exact absurd hr (dk_no h1 _ _ _)
    · exact absurd hr (h1 _ _ _)
  · have hr := lf_part h hb hp (by omega) hc2
    obtain ⟨hA, ⟨e, s, L, A, d, h1, _⟩ | ⟨_, rfl⟩ | ⟨_, h1, _⟩⟩ := hd
    · exact absurd h1 (dk_no hr _ _ _)
    · exact Or.inr ⟨by omega, hA, rfl⟩
    · exact absurd hr h1
/-- The same, its numbers named. -/
def LfP (M : List Bt) (c u : Nat) (s : Int) (L : List Tx) (m t : Nat) (w : World) (x : Ending) (w' : World) : Prop :=
  (eN M u + t ≤ c ∧ ∃ (A : Option Addr) (d : Nat), At w w' ∧ TV w' A L ∧ x = .returned (.tuple #[.agg #[.int .i64 s, .slice A m d], .int .i64 1, .int .i64 (t : Int), .int .i64 0])) ∨
  (c < eN M (u + 1) ∧ At w w' ∧ x = .returned (.tuple #[.agg #[.int .i64 0, .slice none 0 0], .int .i64 0, .int .i64 0, .int .i64 14]))
theorem lf_named {M : List Bt} {c u : Nat} (h : u < M.length) {s : Int} {L : List Tx} {m t : Nat} (hb : (s, L) = M.getD u btz) (hm : L.length = m) (ht : tot L + 1 = t) (hk : Bk s L) (hp : Pb (fla L)) (hc2 : c ≤ eN M M.length) {w w' : World} {x : Ending} (hd : DecP (lf M c u) w x w') : LfP M c u s L m t w x w' := by
  subst hm ht
  have h1 := lf_dec h (by rw [← hb]; exact hk) (by rw [← hb]; exact hp) hc2 hd
  have h2 := eN_more h
  rw [← hb] at h1 h2
  rcases h1 with ⟨h3, h4⟩ | h3
  · exact Or.inl ⟨by rw [← h2]; exact h3, h4⟩
  · exact Or.inr h3
/-- One int, just laid. -/
theorem ints_new (w : World) (z : Int) : OI w (w.alloc (.cells #[.int .i64 z] 3)) (.slice (some ⟨w.heap.size, 0, none⟩) 1 1) [z] :=
  ⟨⟨rfl, .inr ⟨w.heap.size, 1, #[.int .i64 z], rfl, Nat.zero_le _, heap_alloc_new w _, Nat.le_refl _, by unfold maxLen; omega, rfl, rfl⟩⟩, fun _ _ => trivial, fun g hg => by
    have hg : some w.heap.size = some g := hg
    injection hg with hg
    exact Nat.le_of_eq hg, (At.start w).alloc _⟩

set_option maxHeartbeats 8000000 in
set_option maxRecDepth 100000 in
theorem brow_any (A0 : Option Addr) (M : List Bt) (n c0 : Nat) (cut : Int) (hn : M.length = n) (hk : ∀ b ∈ M, BOk b) (w : World) (hv : MV w A0 M) : Calls Try.prog 6 #[.slice A0 n c0, .int .i64 cut] w (Gives (.bool true) w) := by
  have HN := Lib.hid hn
  have HV := Lib.hid hv
  have HK := Lib.hid hk
  have HAW := Lib.hid awake_any
  clear hn hv hk
  by_cases h8 : 8 < n
  · have z0 : decide (8 < (n : Int)) = true := decide_eq_true (by omega)
    go_enter Try.func6, Try.ntmps6
    go_wp2_with fail
    refine (HAW.out w).mono ?_
    rintro x w1 ⟨rfl, hA⟩
    go_wp2_with fail
    try rw [Exit.noGoto_ret]
    go_ret
    exact ⟨rfl, hA⟩
  have z0 : decide (8 < (n : Int)) = false := decide_eq_false (by omega)
  have n8 : n ≤ 8 := by omega
  clear h8
  have HE0 := Lib.hid (ints_new w 0)
  go_enter Try.func6, Try.ntmps6
  go_wp2_with fail
  obtain ⟨qe, hqe⟩ : ∃ q, w.heap.size = q := ⟨_, rfl⟩
  obtain ⟨we, hwe⟩ : ∃ we, w.alloc (.cells #[.int .i64 0] 3) = we := ⟨_, rfl⟩
  have HT0 : Hid (Tw w we (.slice none 0 0) [] (.slice (some ⟨qe, 0, none⟩) 1 1) [0]) := Lib.hid (by
    have h := HE0.out
    rw [hwe, hqe] at h
    exact ⟨Ow.nil' h.at_, h⟩)
  rw [hwe, hqe]
  clear HE0 hqe hwe z0
  go_loopw [5, 6, 7] (fun c5 c6 c7 wr => ∃ (i a e d d2 : Nat) (B B2 : Option Addr) (lA : List Rl) (lE : List Int), i ≤ n ∧ c7 = .int .i64 (i : Int) ∧ c5 = .slice B a d ∧ c6 = .slice B2 e d2 ∧ e = i + 1 ∧ Hid (St1 M i a lA lE) ∧ Hid (Tw w wr (.slice B a d) lA (.slice B2 e d2) lE)) (fun _ _ c7 _ => n - (RowKit.intOf c7).toNat)
  case atStart => exact ⟨0, 0, 1, 0, 1, none, _, [], [0], Nat.zero_le _, rfl, rfl, rfl, rfl, Lib.hid (St1.zero M), HT0⟩
  case round =>
    clear HT0
    obtain ⟨i, a, e, d, d2, B, B2, lA, lE, hi, rfl, rfl, rfl, he, HS, HT⟩ := hrel
    by_cases hlt : i < n
    · have hiM : i < M.length := by rw [HN.out]; exact hlt
      obtain ⟨g, o, rfl, hg, hc⟩ := HV.out.pos (by omega)
      obtain ⟨b, hb⟩ : ∃ b, b = M.getD i btz := ⟨_, rfl⟩
      have HBM := Lib.hid hb
      have hkb : BOk b := by rw [hb]; exact HK.out _ (bt_mem hiM)
      obtain ⟨k0, Bx, cx, k1, k2, k3, k4⟩ := hc i hiM
      rw [← hb] at k0 k1 k2 k3 k4
      clear hb
      obtain ⟨s, L⟩ := b
      simp only at k0 k1 k2 k3 k4
      obtain ⟨m, hm⟩ : ∃ m, L.length = m := ⟨_, rfl⟩
      have hmx : m ≤ maxLen := by rw [← hm]; exact hkb.2
      rw [hm] at k1 k3 k4
      have HKB := Lib.hid hkb
      have HAT : Hid (At w wr) := Lib.hid HT.out.a.at_
      have HTV : Hid (∀ W, At w W → TV W Bx L) := Lib.hid fun W hW => k2.on hW
      have HSM := Lib.hid (small_any Bx L m cx hm hmx hkb.1 wr (HTV.out wr HAT.out))
      have HM := Lib.hid hm
      have HC : Hid (∀ W, At w W → W.cell? ⟨g, o + i * 2, none⟩ = some (.int .i64 s) ∧ W.cell? ⟨g, o + i * 2 + 1, none⟩ = some (.slice Bx m cx)) := Lib.hid fun W hW => ⟨(Below.cell hW (p := ⟨g, o + i * 2, none⟩) hg).trans k0, (Below.cell hW (p := ⟨g, o + i * 2 + 1, none⟩) hg).trans k1⟩
      have HIM := Lib.hid hiM
      have HHE := Lib.hid he
      clear hg hc k0 k1 k2 k3 k4 hkb hm hmx hiM he
      obtain ⟨f0, f1⟩ := HC.out wr HAT.out
      have g1 : (0 : Int) ≤ (i : Int) := by omega
      have g2 : (i : Int) < (n : Int) := by omega
      go_wp2_with fail
      refine HSM.out.mono ?_
      rintro x w1 ⟨bb, rfl, hsm, hA1⟩
      have HS1 := Lib.hid hsm
      have HA1 := Lib.hid hA1
      clear hsm hA1 f0 f1
      have HAW1 : Hid (At w w1) := Lib.hid (HAT.out.next HA1.out)
      obtain ⟨f0, f1⟩ := HC.out w1 HAW1.out
      cases bb with
      | false =>
        go_wp2_with fail
        refine (HAW.out w1).mono ?_
        rintro x w2 ⟨rfl, hA2⟩
        have HA2 : Hid (At w w2) := Lib.hid (HAW1.out.next hA2)
        clear hA2
        go_wp2_with fail
        try rw [Exit.noGoto_ret]
        go_ret
        exact ⟨rfl, HA2.out⟩
      | true =>
        obtain ⟨t, ht⟩ : ∃ t, tot L + 1 = t := ⟨_, rfl⟩
        have HE := Lib.hid (bencode_any s 1 Bx L m cx HM.out (by have := (HS1.out rfl).2; rw [HM.out] at this; omega) (by have := (HS1.out rfl).1; omega) (pb_of HKB.out.1) t ht w1 (HTV.out w1 HAW1.out))
        have HTT := Lib.hid ht
        clear ht
        go_wp2_with fail
        refine HE.out.mono ?_
        rintro x w2 (⟨hbk, B3, d3, l3, rfl, hl3, hm3, hnew, ho⟩ | ⟨_, rfl, hA2⟩)
        rotate_left
        · have HA2 : Hid (At w w2) := Lib.hid (HAW1.out.next hA2)
          clear hA2
          go_wp2_with fail
          refine (HAW.out w2).mono ?_
          rintro x w3 ⟨rfl, hA3⟩
          have HA3 : Hid (At w w3) := Lib.hid (HA2.out.next hA3)
          clear hA3
          go_wp2_with fail
          try rw [Exit.noGoto_ret]
          go_ret
          exact ⟨rfl, HA3.out⟩
        · have HT2 : Hid (Tw w w2 (.slice B a d) lA (.slice B2 e d2) lE) := Lib.hid ((HT.out.on HA1.out).on ho.at_)
          have HM3 : Hid (∀ x ∈ l3, gx (ob (.slice B2 e d2)) rgd (ob (.slice B a d)) w2 x) := Lib.hid fun x hx => (HT.out.on HA1.out).fresh (ho.gd x hx) (hnew x hx)
          have HC3 := Lib.hid (or_cells ho (At.start w2) B3 t d3 rfl)
          have HZ3 : Hid (B3 = none → t = 0 ∧ d3 = 0) := Lib.hid fun hB => by
            obtain ⟨A', c', he', _, hz, _⟩ := ho.form
            injection he' with e1 e2 e3
            rw [e2, e3]; exact hz (e1.symm.trans hB)
          obtain ⟨r, hr⟩ : ∃ r, a + t = r := ⟨_, rfl⟩
          have HST : Hid (St1 M (i + 1) r (lA ++ l3) (lE ++ [(r : Int)])) := Lib.hid (by
            have h1 := HBM.out
            refine HS.out.more HIM.out (by rw [← h1]; exact hbk.1) (by rw [← h1]; exact hm3) (by rw [← h1]; show a + (tot L + 1) = r; have := HTT.out; omega))
          have hr6 : r ≤ 1000000 := by have := HST.out.le; omega
          have HL3 := Lib.hid hl3
          obtain ⟨e1, he1⟩ : ∃ e1, e + 1 = e1 := ⟨_, rfl⟩
          have he6 : e1 ≤ 1000000 := by have := HHE.out; omega
          have HLA := Lib.hid HS.out.len
          have HLE : Hid (lE.length = e) := Lib.hid (by rw [HS.out.lel, HHE.out])
          clear hbk hl3 hm3 hnew ho f0 f1
          go_wp2_with (first
            | (at_builtin; refine Ow.append (kR.x _) rfl HT2.out.a (.tmp 47) (.tmp 48) rfl a t r HLA.out rfl B3 d3 l3 rfl HM3.out HL3.out HZ3.out HC3.out hr hr6 ?_; intro A' c' w3 HG; have HT3 := Lib.hid (HT2.out.stepA HG.out))
            | (at_builtin; refine Ow.append kI rfl (HT3.out.e.on kI ((At.start w3).alloc (.cells #[.int .i64 (r : Int)] 3))) (.tmp 50) (.tmp 53) rfl e 1 e1 HLE.out rfl (some ⟨w3.heap.size, 0, none⟩) 1 [(r : Int)] rfl (fun _ _ => trivial) rfl (fun h => by cases h) (one_laid w3 _ _ _ rfl) he1 he6 ?_; intro A2 c2 w4 HG2))
          go_roundw
          case rel => exact ⟨i + 1, r, e1, c', c2, A', A2, _, _, by omega, by go_num, rfl, rfl, by have := HHE.out; omega, HST, Lib.hid ((HT3.out.on ((At.start w3).alloc _)).stepE HG2.out)⟩
          case measure => simp [RowKit.intOf]; omega
    · have hin : i = n := by omega
      subst hin
      obtain ⟨wo, rfl⟩ : ∃ wo, wo = wr := ⟨_, rfl⟩
      have hMi : M.length = i := HN.out
      obtain ⟨A9, c9, he9, hcc, hzz, hrv⟩ := OR.rv (Ow.weak kR HT.out.a)
      injection he9 with e1 e2 e3
      subst e1 e3
      rw [HS.out.rows] at hrv
      rw [HS.out.len] at hcc hzz
      obtain ⟨g2, c2, hb2, _, _, _⟩ := HT.out.e.pos (by rw [HS.out.lel]; omega)
      injection hb2 with e1 e4 e5
      subst e1
      clear e2 e4 e5
      have HAT : Hid (At w wo) := Lib.hid HT.out.a.at_
      have HRV : Hid (∀ W, At wo W → RV W B (allR M M.length)) := Lib.hid fun W hW => by rw [hMi]; exact hrv.on hW
      have HZ0 : Hid (B = none → a = 0 ∧ d = 0) := Lib.hid hzz
      have HEC : Hid (∀ W, At wo W → ∀ j, j ≤ i → W.cell? ⟨g2, j, none⟩ = some (.int .i64 (eN M j : Int))) := Lib.hid fun W hW j hj => by
        have := (HT.out.e.on kI hW).cell kI (HS.out.es j (by omega)) (i := 0) (u := .int .i64 (eN M j : Int)) rfl
        rw [Nat.mul_one, Nat.add_zero] at this
        exact this
      have HBY : Hid (∀ r ∈ allR M M.length, AllB r) := Lib.hid (by
        have := HS.out.byte (by omega) HK.out
        rw [hMi]; exact this)
      have HEN : Hid (a = eN M M.length) := Lib.hid (by rw [hMi]; exact HS.out.en)
      have HBK : Hid (∀ j, j < i → Bk (M.getD j btz).1 (M.getD j btz).2) := Lib.hid HS.out.bk
      have ha264 : a ≤ 264 := by have := HS.out.le; omega
      obtain ⟨c, hcut⟩ : ∃ c, c = rd cut (a + 1) := ⟨_, rfl⟩
      have hca : c ≤ a := by have := rd_lt cut (a + 1) (by omega); omega
      have HRD : Hid (∀ W, Calls Try.prog 15 #[.int .i64 cut, .int .i64 ((a : Int) + 1)] W fun e w' => e = .returned (.int .i64 (c : Int)) ∧ W = w') := Lib.hid fun W => by
        rw [hcut, show (a : Int) + 1 = ((a + 1 : Nat) : Int) by omega]; exact round_any cut (a + 1) (by omega) (by omega) W
      have HMI := Lib.hid hMi
      have HE1 := Lib.hid he
      clear hcut hzz hrv hi hlt HS HT hMi he
      go_wp2_with fail
      refine (HRD.out _).mono ?_
      rintro x w' ⟨rfl, rfl⟩
      have HC5 : Hid (c ≤ eN M M.length) := Lib.hid (by rw [← HEN.out]; exact hca)
      have hc264 : c ≤ 264 := by omega
      go_upto_block 2 with (refine rows_to rfl (.tmp 60) (.tmp 61) rfl B a d c rfl rfl hca hcc HZ0.out ?_)
      go_cut [10, 11] from 12 to 106 (fun c10 c11 wx => ∃ (u p r : Nat) (X : Option Addr), u ≤ i ∧ c11 = .int .i64 (u : Int) ∧ c10 = .slice X p r ∧ Hid (eN M u ≤ c ∧ (u < i → c < eN M (u + 1)) ∧ p = c - eN M u) ∧ Hid (At wo wx))
      case first =>
        go_wp2_with fail
        go_loopw [10, 11] (fun c10 c11 wx => ∃ (u p r : Nat) (X : Option Addr), u ≤ i ∧ c11 = .int .i64 (u : Int) ∧ c10 = .slice X p r ∧ Hid (RV wx X (lf M c u) ∧ p = c - eN M u ∧ p ≤ r ∧ (X = none → p = 0 ∧ r = 0) ∧ eN M u ≤ c) ∧ Hid (At wo wx)) (fun c10 _ _ => match c10 with | .slice _ m _ => m | _ => 0)
        case atStart => exact ⟨0, c, d, B, Nat.zero_le _, rfl, rfl, Lib.hid ⟨by rw [lf, eN_zero, List.drop_zero]; exact (HRV.out wo (At.start wo)).take c, by rw [eN_zero]; rfl, by omega, (fun h => by have := HZ0.out h; omega), by rw [eN_zero]; exact Nat.zero_le _⟩, Lib.hid (At.start wo)⟩
        case round =>
          obtain ⟨u, p, r, X, hu, rfl, rfl, HL, HA⟩ := hrel
          by_cases hp : 0 < p
          · have zp : decide ((0 : Int) < (p : Int)) = true := decide_eq_true (by omega)
            have hui : u < i := by
              by_cases h : u = i
              · have h1 := HL.out.2.1
                have h2 := HC5.out
                rw [h, ← HMI.out] at h1
                omega
              · omega
            have hum : u < M.length := by rw [HMI.out]; exact hui
            have hpc : p ≤ c := by have := HL.out.2.1; omega
            have HD := Lib.hid (decode_any X (lf M c u) p r (by rw [lf_len HC5.out, HL.out.2.1]) (by omega) (lf_byte HBY.out) wr HL.out.1)
            obtain ⟨b, hb⟩ : ∃ b, b = M.getD u btz := ⟨_, rfl⟩
            have hbk := HBK.out u hui
            have hkb := HK.out _ (bt_mem hum)
            rw [← hb] at hbk hkb
            obtain ⟨s, L⟩ := b
            simp only at hbk
            obtain ⟨m, hm⟩ : ∃ m, L.length = m := ⟨_, rfl⟩
            obtain ⟨t, ht⟩ : ∃ t, tot L + 1 = t := ⟨_, rfl⟩
            have HLP : Hid (∀ x w', DecP (lf M c u) wr x w' → LfP M c u s L m t wr x w') := Lib.hid fun x w' hd => lf_named hum hb hm ht hbk (pb_of hkb.1) HC5.out hd
            have HBB := Lib.hid (And.intro hb (And.intro hbk (And.intro hm ht)))
            have HUM := Lib.hid hum
            clear hb hbk hkb hm ht hum
            go_wp2_with fail
            refine HD.out.mono ?_
            rintro x w1 hd
            rcases HLP.out _ _ hd with ⟨hce, A, d5, hA1, htv, rfl⟩ | ⟨hce, hA1, rfl⟩
            rotate_left
            · have HCE := Lib.hid hce
              have HA1 := Lib.hid (HA.out.next hA1)
              clear hd hA1 hce
              go_wp2_with fail
              go_meet
              case rel => exact ⟨u, p, r, X, hu, rfl, rfl, Lib.hid ⟨HL.out.2.2.2.2, fun _ => HCE.out, HL.out.2.1⟩, Lib.hid (HA1.out.alloc _)⟩
            · have HCE := Lib.hid hce
              have htp : t ≤ p := by have := HL.out.2.1; omega
              have ht1 : 1 ≤ t := by have := HBB.out.2.2.2; omega
              have hpr : p ≤ r := HL.out.2.2.1
              have HZX := Lib.hid HL.out.2.2.2.1
              obtain ⟨g, o, rfl, hg, hcs⟩ := HV.out.pos (by have := HUM.out; omega)
              obtain ⟨k0, Bx, cx, k1, k2, _, _⟩ := hcs u HUM.out
              rw [← HBB.out.1] at k0 k1 k2
              simp only at k0 k1 k2
              rw [HBB.out.2.2.1] at k1
              have m8 : m ≤ 8 := by rw [← HBB.out.2.2.1]; exact HBB.out.2.1.n8
              obtain ⟨wy, hwy⟩ : ∃ wy, w1.alloc (.cells #[.int .i64 s, .slice A m d5] 27) = wy := ⟨_, rfl⟩
              obtain ⟨qy, hqy⟩ : ∃ q, w1.heap.size = q := ⟨_, rfl⟩
              have hAy : At w1 wy := by rw [← hwy]; exact (At.start w1).alloc _
              have HBY2 : Hid (Bb wy qy s (.slice A m d5)) := Lib.hid (by rw [← hwy, ← hqy]; exact bb_new _ _ _)
              have HAY : Hid (At wo wy) := Lib.hid ((HA.out.next hA1).next hAy)
              have HXY : Hid (At wr wy) := Lib.hid (At.next hA1 hAy)
              have HCM : Hid (∀ W, At wo W → W.cell? ⟨g, o + u * 2, none⟩ = some (.int .i64 s) ∧ W.cell? ⟨g, o + u * 2 + 1, none⟩ = some (.slice Bx m cx)) := Lib.hid fun W hW => ⟨(Below.cell (HAT.out.next hW) (p := ⟨g, o + u * 2, none⟩) hg).trans k0, (Below.cell (HAT.out.next hW) (p := ⟨g, o + u * 2 + 1, none⟩) hg).trans k1⟩
              have hAd : At wy wy.drew := (At.start wy).drewN 1
              have HSB := Lib.hid (sameBatch_any s A Bx L m d5 cx HBB.out.2.2.1 (by omega) (fun x hx => ⟨by have := HBB.out.2.1.n16 x hx; omega, HBB.out.2.1.n40 x hx⟩) wy.drew (htv.on (hAy.next hAd)) (k2.on ((HAT.out.next HAY.out).next hAd)))
              obtain ⟨b0, b1⟩ := HBY2.out.cells
              obtain ⟨f0, f1⟩ := HCM.out wy HAY.out
              have g3 : (0 : Int) ≤ (u : Int) := by omega
              have g4 : (u : Int) < (i : Int) := by omega
              have z1 : decide ((i : Int) ≤ (u : Int)) = false := decide_eq_false (by omega)
              have z1b : decide (i ≤ u) = false := decide_eq_false (by omega)
              have z2b : decide (t < 1) = false := decide_eq_false (by omega)
              have z3b : decide (p < t) = false := decide_eq_false (by omega)
              have z2 : decide ((t : Int) < 1) = false := decide_eq_false (by omega)
              have z3 : decide ((p : Int) < (t : Int)) = false := decide_eq_false (by omega)
              clear hd hA1 hce hg hcs k0 k1 k2 htv hAy hAd
              go_wp2_with fail
              go_region_held3 (fun w' => w'.cell? ⟨qy, 0, none⟩ = some (.int .i64 s) ∧ w'.cell? ⟨qy, 1, none⟩ = some (.slice A m d5) ∧ w'.cell? ⟨g, o + u * 2, none⟩ = some (.int .i64 s) ∧ w'.cell? ⟨g, o + u * 2 + 1, none⟩ = some (.slice Bx m cx)) (first | go_keep | exact HS4.out)
                (first
                  | (go_at_call 12; (with_reducible refine HSB.out.mono ?_); rintro x w4 ⟨rfl, hA4⟩; have HA4 : Hid (At wy w4) := Lib.hid (((At.start wy).drewN 1).next hA4); have HS4 := Lib.hid (And.intro (HBY2.out.on HA4.out).cells.1 (And.intro (HBY2.out.on HA4.out).cells.2 (HCM.out w4 (HAY.out.next HA4.out)))); clear hA4))
              all_goals
                go_wp2_with (refine rows_from rfl (.tmp 102) (.tmp 103) rfl X p r t rfl rfl htp hpr HZX.out ?_; intro X8 p8 r8 HX8)
                go_roundw
                case rel => exact ⟨u + 1, p8, r8, X8, by omega, by go_num, rfl, Lib.hid ⟨by
                    have h1 := HX8.out.rv w4 _ (HL.out.1.on (HXY.out.next HA4.out)) (by rw [lf_len HC5.out, HL.out.2.1])
                    rw [lf_more HUM.out, ← HBB.out.1]
                    show RV w4 X8 ((lf M c u).drop (tot L + 1))
                    rw [HBB.out.2.2.2]; exact h1, by
                    have h1 := eN_more HUM.out
                    rw [← HBB.out.1] at h1
                    have h2 : eN M (u + 1) = eN M u + (tot L + 1) := h1
                    have h3 := HX8.out.len
                    have h4 := HL.out.2.1
                    have h5 := HBB.out.2.2.2
                    omega, HX8.out.cap, HX8.out.none, by
                    have h1 := eN_more HUM.out
                    rw [← HBB.out.1] at h1
                    have h2 : eN M (u + 1) = eN M u + (tot L + 1) := h1
                    have h5 := HBB.out.2.2.2
                    have h6 := HCE.out
                    omega⟩, Lib.hid (HAY.out.next HA4.out)⟩
                case measure => have := HX8.out.len; simp; omega
          · have zp : decide ((0 : Int) < (p : Int)) = false := decide_eq_false (by omega)
            have HP0 : Hid (p = 0) := Lib.hid (by omega)
            go_wp2_with fail
            go_meet
            case rel => exact ⟨u, p, r, X, hu, rfl, rfl, Lib.hid ⟨HL.out.2.2.2.2, (fun h => by
              have h1 := eN_lt (M := M) (show u < u + 1 by omega) (by rw [HMI.out]; exact h)
              have h2 := HL.out.2.1
              have h3 := HP0.out
              have h4 := HL.out.2.2.2.2
              omega), HL.out.2.1⟩, HA⟩
      obtain ⟨u, p, r, X, hu, rfl, rfl, HX, HA⟩ := hcut
      obtain ⟨y0, hy0⟩ : ∃ y, y = eN M u := ⟨_, rfl⟩
      have HY0 := Lib.hid hy0
      have hsub : (c : Int) - (y0 : Int) = (p : Int) := by have h1 := HX.out.1; have h2 := HX.out.2.2; rw [← hy0] at h1 h2; omega
      have hy6 : y0 ≤ 264 := by have h1 := HX.out.1; rw [← hy0] at h1; omega
      clear hy0
      go_wp2_with fail
      go_loopw [16] (fun c16 wx => ∃ v : Nat, v ≤ u ∧ c16 = .int .i64 (v : Int) ∧ Hid (At wo wx)) (fun c16 _ => u - (RowKit.intOf c16).toNat)
      case atStart => exact ⟨0, Nat.zero_le _, rfl, HA⟩
      case round =>
        obtain ⟨v, hv, rfl, HA2⟩ := hrel
        obtain ⟨y, hy⟩ : ∃ y, y = eN M (v + 1) := ⟨_, rfl⟩
        have g3 : (0 : Int) ≤ (v : Int) + 1 := by omega
        by_cases hvi : v < i
        · have z1 : decide ((v : Int) + 1 < (e : Int)) = true := decide_eq_true (by have := HE1.out; omega)
          have g4 : (v : Int) + 1 < (e : Int) := by have := HE1.out; omega
          have e1 := HEC.out wr HA2.out (v + 1) (by omega)
          rw [← hy] at e1
          by_cases hlt : v < u
          · have hyc : y ≤ c := by
              have h1 := HX.out.1
              rcases Nat.lt_or_ge (v + 1) u with h | h
              · have h2 := eN_lt (M := M) h (by rw [HMI.out]; exact hu)
                omega
              · obtain rfl : u = v + 1 := by omega
                omega
            have z2 : decide ((y : Int) ≤ (c : Int)) = true := decide_eq_true (by omega)
            clear hy
            go_wp2_with fail
            go_roundw
            case rel => exact ⟨v + 1, by omega, by go_num, HA2⟩
            case measure => simp [RowKit.intOf]; omega
          · obtain rfl : v = u := by omega
            have hyc : ¬ y ≤ c := by have := HX.out.2.1 hvi; omega
            have z2 : decide ((y : Int) ≤ (c : Int)) = false := decide_eq_false (by omega)
            have z2b : decide (y ≤ c) = false := decide_eq_false hyc
            have e0 := HEC.out wr HA2.out v hu
            rw [← HY0.out] at e0
            have g5 : (0 : Int) ≤ (v : Int) := by omega
            have g6 : (v : Int) < (e : Int) := by omega
            clear hy
            go_wp2_with fail
            refine (HAW.out _).mono ?_
            rintro x w3 ⟨rfl, hA3⟩
            have HA3 : Hid (At w w3) := Lib.hid ((HAT.out.next HA2.out).next hA3)
            clear hA3
            go_wp2_with fail
            try rw [Exit.noGoto_ret]
            go_ret
            exact ⟨rfl, HA3.out⟩
        · obtain rfl : v = i := by omega
          obtain rfl : v = u := by omega
          have z1 : decide ((v : Int) + 1 < (e : Int)) = false := decide_eq_false (by have := HE1.out; omega)
          have e0 := HEC.out wr HA2.out v hu
          rw [← HY0.out] at e0
          have g5 : (0 : Int) ≤ (v : Int) := by omega
          have g6 : (v : Int) < (e : Int) := by have := HE1.out; omega
          clear hy
          go_wp2_with fail
          refine (HAW.out _).mono ?_
          rintro x w3 ⟨rfl, hA3⟩
          have HA3 : Hid (At w w3) := Lib.hid ((HAT.out.next HA2.out).next hA3)
          clear hA3
          go_wp2_with fail
          try rw [Exit.noGoto_ret]
          go_ret
          exact ⟨rfl, HA3.out⟩

end Go.Proofs.Ytgmekkenodiclaa
