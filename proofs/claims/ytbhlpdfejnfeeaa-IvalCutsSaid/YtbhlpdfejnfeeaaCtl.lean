/- Proved: the law IvalCuts answers true for any extent and any extents: what is cut off and what is left are an extent's blocks, each once. -/
import Derived.Test.YtbhlpdfejnfeeaaTri
import Derived.Test.YtbhlpdfejnfeeaaCut
namespace Go.Proofs.Ytbhlpdfejnfeeaa
open Go.RowKit

/-- What is left of an extent lies in it, and has no block of what was cut off. -/
theorem lf_at {e : Int × Int} {l R L : List (Int × Int)} (h : Lf e l R) (hL : Is l L) {r : Int × Int} (hr : r ∈ R) : e.1 ≤ r.1 ∧ 1 ≤ r.2 ∧ r.1 + r.2 ≤ e.1 + e.2 ∧ shB L r.1 r.2 = false := by
  have v := h.1.1 r hr
  unfold Vm at v
  have h1 := (in_one _ _).1 ((h.2 r.1).1 ⟨r, hr, by omega, by omega⟩).1
  have h2 := (in_one _ _).1 ((h.2 (r.1 + r.2 - 1)).1 ⟨r, hr, by omega, by omega⟩).1
  refine ⟨h1.1, v.2.1, by omega, ?_⟩
  cases hs : shB L r.1 r.2
  · rfl
  · obtain ⟨x, h3, h4⟩ := (sh_iff hL.1.1 v.2.1).1 hs
    have h5 := (in_one _ _).1 h3
    exact absurd ((hL.2 x).1 h4) ((h.2 x).1 ⟨r, hr, h5.1, h5.2⟩).2
/-- A block of the extent is left, or was cut off. -/
theorem lf_or {e : Int × Int} {l R L : List (Int × Int)} (h : Lf e l R) (hL : Is l L) {x : Int} (h1 : e.1 ≤ x) (h2 : x < e.1 + e.2) : In R x ↔ ¬ In L x := by
  rw [h.2, hL.2, in_one]
  exact ⟨fun h => h.2, fun h => ⟨⟨h1, h2⟩, h⟩⟩
theorem me_in {L : List (Int × Int)} (hL : Nm L) {x : Int} (h1 : 0 ≤ x) (h2 : x ≤ 1048576) : meB L x 1 = true ↔ In L x := by
  rw [me_iff hL.1]
  constructor
  · rintro ⟨_, y, h3, h4⟩
    have := (in_one _ _).1 h3
    simp only at this
    obtain rfl : y = x := by omega
    exact h4
  · intro h
    exact ⟨⟨by simp only; omega, by simp only; omega, by simp, by simp, by simp only; omega⟩, x, (in_one _ _).2 ⟨by simp only; omega, by simp only; omega⟩, h⟩

theorem small_any (A : Option Addr) (n c : Nat) (w : World) (h : n ≤ 150) : Calls Try.prog 15 #[.slice A n c] w fun e w' => e = .returned (.bool true) ∧ w = w' := by
  have h' : (n : Int) ≤ 150 := by omega
  go_enter Try.func15, Try.ntmps15
  go_wp2
  go_ret
  exact ⟨rfl, rfl⟩
theorem large_any (A : Option Addr) (n c : Nat) (w : World) (h : ¬ n ≤ 150) : Calls Try.prog 15 #[.slice A n c] w fun e w' => e = .returned (.bool false) ∧ w = w' := by
  have h' : decide ((n : Int) ≤ 150) = false := decide_eq_false (by omega)
  go_enter Try.func15, Try.ntmps15
  go_wp2
  go_ret
  exact ⟨rfl, rfl⟩

set_option maxHeartbeats 4000000 in
set_option maxRecDepth 100000 in
theorem cuts_yes (a n : Int) (A : Option Addr) (m c : Nat) (l : List (Int × Int)) (w : World) (h1 : 0 ≤ a) (h2 : a ≤ 1000) (h3 : 1 ≤ n) (h4 : n ≤ 300) (hm : m ≤ 150) (hz : A = none → m = 0 ∧ c = 0) (hl : l.length = m) (hx : EV w A l) :
    Calls Try.prog 4 #[.agg #[.int .i64 a, .int .i64 n], .slice A m c] w (Gives (.bool true) w) := by
  have HC := Lib.hid (box_cells (w := w) (a := a) (n := n))
  have HB : Hid (At w (w.alloc (.cells #[.int .i64 a, .int .i64 n] 28))) := Lib.hid ((At.start w).alloc _)
  have HX := Lib.hid hx
  have HL := Lib.hid hl
  have HZ := Lib.hid hz
  clear hx hl hz
  obtain ⟨c1, c2⟩ := HC.out _ (At.start _)
  go_enter Try.func4, Try.ntmps4
  go_wp2_with fail
  generalize w.alloc (.cells #[.int .i64 a, .int .i64 n] 28) = wb at *
  refine (small_any A m c _ hm).mono ?_
  rintro e w' ⟨rfl, rfl⟩
  go_wp2_with fail
  refine (new_any 1000 _).mono ?_
  rintro e w1 n1
  obtain ⟨rfl, hs1⟩ := st_new n1
  have HS1 := Lib.hid hs1
  clear n1 hs1 c1 c2
  obtain ⟨b, hb⟩ : ∃ b, b = wb.heap.size := ⟨_, rfl⟩
  rw [← hb] at HS1
  rw [← hb]
  clear hb
  obtain ⟨x, hx⟩ : ∃ x, x = w.heap.size := ⟨_, rfl⟩
  rw [← hx] at HC
  rw [← hx]
  clear hx
  have HXB : Hid (∀ W, At wb W → EV W A l) := Lib.hid (fun W hW => HX.out.on (HB.out.next hW))
  clear HX
  go_wp2
  go_loopw [6] (fun i wr => ∃ (k : Nat) (v : Value) (L : List (Int × Int)), k ≤ m ∧ i = .int .i64 (k : Int) ∧ Hid (St wb wr b v 1000 L ∧ Is (l.take k) L ∧ ∀ e ∈ l.take k, Va e)) (fun i _ => m - (intOf i).toNat)
  case atStart => exact ⟨0, _, [], by omega, rfl, Lib.hid ⟨HS1.out, Is.nil, fun e he => by cases he⟩⟩
  case round =>
    obtain ⟨k, v, L, hk, rfl, HS⟩ := hrel
    by_cases hlt : k < m
    · obtain ⟨g, o, rfl, hg, hc⟩ := (HXB.out wr HS.out.1.at_).pos (by rw [HL.out]; omega)
      have hck := hc k (by rw [HL.out]; exact hlt)
      have d1 := hck.1
      have d2 := hck.2
      have hmem := getD_mem (show k < l.length by rw [HL.out]; exact hlt)
      have htk : l.take (k + 1) = l.take k ++ [l.getD k (0, 0)] := by
        rw [List.take_succ_eq_append_getElem (by rw [HL.out]; exact hlt), List.getD_eq_getElem?_getD, List.getElem?_eq_getElem (by rw [HL.out]; exact hlt)]; rfl
      obtain ⟨p, hp⟩ : ∃ p, l.getD k (0, 0) = p := ⟨_, rfl⟩
      rw [hp] at d1 d2 hmem htk
      obtain ⟨p1, p2⟩ := p
      simp only at d1 d2
      have HTK := Lib.hid htk
      have q1 : (0 : Int) ≤ (k : Int) := by omega
      have q2 : (k : Int) < (m : Int) := by omega
      have HWA : Hid (∀ W, At wr W → At w W) := Lib.hid (fun W hW => HB.out.next (HS.out.1.at_.next hW))
      clear hc hck hp hmem htk hg
      by_cases s1 : 0 ≤ p1
      · by_cases s2 : p1 ≤ 2000
        · by_cases s3 : 1 ≤ p2
          · by_cases s4 : p2 ≤ 300
            · have hva : Va (p1, p2) := ⟨by simp only; omega, by simp only; omega, by simp only; omega, by simp only; omega, by simp only; omega⟩
              have HVA := Lib.hid hva
              clear hva
              have HSA : Hid (St wb (wr.alloc (.cells #[.int .i64 p1, .int .i64 p2] 28)) b v 1000 L) := Lib.hid (HS.out.1.on ((At.start wr).alloc _))
              have HAD := Lib.hid (add_any (some ⟨wr.heap.size, 0, none⟩) 1 1 [(p1, p2)] HSA.out.sv (by omega) (fun h => by cases h) rfl (ev_one wr p1 p2))
              go_wp2_with fail
              refine HAD.out.mono ?_
              rintro e w4 had
              obtain ⟨v4, L4, rfl, hs4, hd4, hi4⟩ := had.ok (by rw [allB_one]; exact vaB_yes HVA.out) HS.out.2.1 (fun e he => (HS.out.2.2 e he).vm) (by simp [HL.out]; omega)
              rw [← HTK.out] at hi4
              have HS4 := Lib.hid (HSA.out.did hs4 hd4)
              have HI4 := Lib.hid hi4
              clear had hs4 hd4 hi4 HAD
              go_wp2
              go_roundw
              case rel => exact ⟨k + 1, v4, L4, by omega, by go_num, Lib.hid ⟨HS4.out, HI4.out, fun e he => by
                rw [HTK.out] at he
                rcases List.mem_append.1 he with he | he
                · exact HS.out.2.2 e he
                · rw [List.mem_singleton.1 he]; exact HVA.out⟩⟩
              case measure => simp [intOf]; omega
            · go_wp2_with fail
              refine (awake_any _).mono ?_
              rintro e w5 ⟨rfl, ha5⟩
              have HA5 := Lib.hid (HWA.out _ ha5)
              clear ha5
              go_wp2
              go_ret
              exact ⟨rfl, HA5.out⟩
          · go_wp2_with fail
            refine (awake_any _).mono ?_
            rintro e w5 ⟨rfl, ha5⟩
            have HA5 := Lib.hid (HWA.out _ ha5)
            clear ha5
            go_wp2
            go_ret
            exact ⟨rfl, HA5.out⟩
        · go_wp2_with fail
          refine (awake_any _).mono ?_
          rintro e w5 ⟨rfl, ha5⟩
          have HA5 := Lib.hid (HWA.out _ ha5)
          clear ha5
          go_wp2
          go_ret
          exact ⟨rfl, HA5.out⟩
      · go_wp2_with fail
        refine (awake_any _).mono ?_
        rintro e w5 ⟨rfl, ha5⟩
        have HA5 := Lib.hid (HWA.out _ ha5)
        clear ha5
        go_wp2
        go_ret
        exact ⟨rfl, HA5.out⟩
    · obtain rfl : k = m := by omega
      have hall : l.take k = l := List.take_of_length_le (by rw [HL.out]; exact Nat.le_refl _)
      have HIL : Hid (Is l L ∧ ∀ e ∈ l, Va e) := Lib.hid (by have := HS.out.2; rwa [hall] at this)
      have HS2 := Lib.hid HS.out.1
      clear hall HS1 HS hk hlt
      obtain ⟨c1, c2⟩ := HC.out _ HS2.out.at_
      go_wp2_with fail
      refine (cut_any a n A k c l _ (by omega) HZ.out HL.out (HXB.out _ HS2.out.at_) ⟨by simp only; omega, by simp only; omega, by simp only; omega, by simp only; omega, by simp only; omega⟩ (allB_yes HIL.out.2)).mono ?_
      rintro e w3 ⟨R, hlf, hrl, v3, rfl, ho3, ha3, -⟩
      obtain ⟨A3, d3, rfl, -, -, hev3⟩ := ho3.ev
      obtain ⟨N, hN⟩ : ∃ N, N = R.length := ⟨_, rfl⟩
      rw [← hN] at hrl
      rw [← hN]
      have hN151 : N ≤ 151 := by rw [HL.out] at hrl; omega
      have HN := Lib.hid hN
      have HLF := Lib.hid hlf
      have HS3 := Lib.hid (HS2.out.on ha3)
      have HEV := Lib.hid hev3
      have hll : L.length ≤ 150 := by have := is_len (fun e he => (HIL.out.2 e he).vm) HIL.out.1; rw [HL.out] at this; omega
      clear hlf hrl ho3 ha3 hev3 hN c1 c2 HXB HZ HS2
      obtain ⟨c1, c2⟩ := HC.out _ HS3.out.at_
      have HRC : Hid (∀ (j : Nat), j < N → ∃ g o, A3 = some ⟨g, o, none⟩ ∧ ∀ W, At w3 W → W.cell? ⟨g, o + j * 2, none⟩ = some (.int .i64 (R.getD j (0, 0)).1) ∧ W.cell? ⟨g, o + j * 2 + 1, none⟩ = some (.int .i64 (R.getD j (0, 0)).2)) := Lib.hid (fun j hj => by
        obtain ⟨g, o, rfl, hg, hc⟩ := HEV.out.pos (by rw [← HN.out]; omega)
        have h := hc j (by rw [← HN.out]; exact hj)
        exact ⟨g, o, rfl, fun W hW => ⟨(Below.cell hW (p := ⟨g, o + j * 2, none⟩) hg).trans h.1, (Below.cell hW (p := ⟨g, o + j * 2 + 1, none⟩) hg).trans h.2⟩⟩)
      have HRB : Hid (∀ (j : Nat), j < N → a ≤ (R.getD j (0, 0)).1 ∧ 1 ≤ (R.getD j (0, 0)).2 ∧ (R.getD j (0, 0)).1 + (R.getD j (0, 0)).2 ≤ a + n ∧ shB L (R.getD j (0, 0)).1 (R.getD j (0, 0)).2 = false) := Lib.hid (fun j hj => lf_at HLF.out HIL.out.1 (getD_mem (by rw [← HN.out]; exact hj)))
      have HSC : Hid (∀ (q : Nat) (z : Int), q ≤ N → (∀ j, j < q → (R.getD j (0, 0)).1 + (R.getD j (0, 0)).2 ≤ z) → (q < N → z < (R.getD q (0, 0)).1 + (R.getD q (0, 0)).2) → a ≤ z → z < a + n → meB L z 1 = !decide (q < N ∧ (R.getD q (0, 0)).1 ≤ z)) := Lib.hid (fun q z hq hp hn h1 h2 => by
        have s := scan_iff HLF.out.1 hp (fun h => hn (by rw [HN.out]; exact h))
        rw [lf_or HLF.out HIL.out.1 h1 h2, ← HN.out] at s
        have m := me_in HIL.out.1.1 (x := z) (by omega) (by omega)
        by_cases hd : q < N ∧ (R.getD q (0, 0)).1 ≤ z
        · rw [decide_eq_true hd]
          cases hm : meB L z 1
          · rfl
          · exact absurd (m.1 hm) (s.2 hd)
        · rw [decide_eq_false hd]
          cases hm : meB L z 1
          · exact absurd (s.1 (fun h => by rw [m.2 h] at hm; cases hm)) hd
          · rfl)
      go_wp2
      go_loopw [8, 9] (fun at_ i wr => ∃ (q : Nat) (z : Int), q ≤ N ∧ at_ = .int .i64 (q : Int) ∧ i = .int .i64 z ∧ a ≤ z ∧ z ≤ a + n ∧ Hid (∀ j, j < q → (R.getD j (0, 0)).1 + (R.getD j (0, 0)).2 ≤ z) ∧ Hid (At w3 wr)) (fun _ i _ => (a + n - intOf i).toNat)
      case atStart => exact ⟨0, a, by omega, rfl, rfl, by omega, by omega, Lib.hid (fun j hj => absurd hj (by omega)), Lib.hid (At.start w3)⟩
      case round =>
        obtain ⟨q, z, hq, rfl, rfl, hz1, hz2, HP, HA⟩ := hrel
        obtain ⟨c1, c2⟩ := HC.out _ (HS3.out.at_.next HA.out)
        have y1 : IntKind.i64.wrap (a + n) = a + n := IntWalk.i64_in _ (by omega)
        by_cases hzl : z < a + n
        · go_wp2
          go_loopw [8] (fun at_ wi => ∃ q' : Nat, q' ≤ N ∧ at_ = .int .i64 (q' : Int) ∧ Hid (∀ j, j < q' → (R.getD j (0, 0)).1 + (R.getD j (0, 0)).2 ≤ z) ∧ Hid (At w3 wi)) (fun at_ _ => N - (intOf at_).toNat)
          case atStart => exact ⟨q, hq, rfl, HP, HA⟩
          case round =>
            obtain ⟨q', hq', rfl, HP', HA'⟩ := hrel
            clear HP c1 c2
            by_cases hqN : q' < N
            · obtain ⟨g, o, rfl, hcell⟩ := HRC.out q' hqN
              obtain ⟨d1, d2⟩ := hcell _ HA'.out
              have HCL := Lib.hid hcell
              have hrb := HRB.out q' hqN
              have hsc := HSC.out q' z hq' HP'.out
              obtain ⟨p, hp⟩ : ∃ p, R.getD q' (0, 0) = p := ⟨_, rfl⟩
              rw [hp] at d1 d2 HCL hrb hsc
              obtain ⟨p1, p2⟩ := p
              obtain ⟨r1, r2, r3, -⟩ := hrb
              simp only at d1 d2 r1 r2 r3
              have HPP := Lib.hid hp
              have HSS := Lib.hid hsc
              have g1 : (0 : Int) ≤ (q' : Int) := by omega
              have g2 : (q' : Int) < (N : Int) := by omega
              have y2 : IntKind.i64.wrap (p1 + p2) = p1 + p2 := IntWalk.i64_in _ (by omega)
              clear hcell hp hsc
              by_cases hend : p1 + p2 ≤ z
              · have HNX : Hid (∀ m', At w3 (wr.drewN m')) := Lib.hid (fun m' => HA'.out.drewN m')
                go_wp2_with fail
                go_quiet (fail)
                go_wp2
                go_roundw
                case rel => exact ⟨q' + 1, by omega, by go_num, Lib.hid (fun j hj => by
                  by_cases e : j = q'
                  · subst e; rw [HPP.out]; exact hend
                  · exact HP'.out j (by omega)), Lib.hid (HNX.out _)⟩
                case measure => simp [intOf]; omega
              · have hend' : decide (p1 + p2 ≤ z) = false := decide_eq_false hend
                go_wp2_with fail
                go_quiet (fail)
                have hA9 := HA'.out.drewN nq
                have HA9 := Lib.hid hA9
                clear hA9 d1 d2
                generalize wr.drewN nq = w9 at HA9 ⊢
                obtain ⟨d1, d2⟩ := HCL.out _ HA9.out
                have y3 : IntKind.i64.wrap (z + 1) = z + 1 := IntWalk.i64_in _ (by omega)
                by_cases hin : p1 ≤ z
                · have HMB : Hid (meB L z 1 = false) := Lib.hid (by rw [HSS.out (fun _ => by omega) hz1 hzl, decide_eq_true ⟨hqN, hin⟩]; rfl)
                  have hme := has_any (HS3.out.on HA9.out).sv (by omega) z
                  rw [HMB.out] at hme
                  have HH := Lib.hid hme
                  clear hme
                  go_wp2_with fail
                  refine HH.out.mono ?_
                  rintro e w7 ⟨rfl, ha7⟩
                  have HA7 : Hid (At w3 w7) := Lib.hid (HA9.out.next ha7)
                  clear ha7 HH
                  go_wp2
                  go_roundw
                  case rel => exact ⟨q', z + 1, by omega, rfl, by go_num, by omega, by omega, Lib.hid (fun j hj => by have := HP'.out j hj; omega), Lib.hid HA7.out⟩
                  case measure => simp [intOf]; omega
                · have hin' : decide (p1 ≤ z) = false := decide_eq_false hin
                  have HMB : Hid (meB L z 1 = true) := Lib.hid (by rw [HSS.out (fun _ => by omega) hz1 hzl, decide_eq_false (fun h => hin h.2)]; rfl)
                  have hme := has_any (HS3.out.on HA9.out).sv (by omega) z
                  rw [HMB.out] at hme
                  have HH := Lib.hid hme
                  clear hme
                  go_wp2_with fail
                  refine HH.out.mono ?_
                  rintro e w7 ⟨rfl, ha7⟩
                  have HA7 : Hid (At w3 w7) := Lib.hid (HA9.out.next ha7)
                  clear ha7 HH
                  go_wp2
                  go_roundw
                  case rel => exact ⟨q', z + 1, by omega, rfl, by go_num, by omega, by omega, Lib.hid (fun j hj => by have := HP'.out j hj; omega), Lib.hid HA7.out⟩
                  case measure => simp [intOf]; omega
            · have g2 : decide ((q' : Int) < (N : Int)) = false := decide_eq_false (by omega)
              have HMB : Hid (meB L z 1 = true) := Lib.hid (by rw [HSC.out q' z hq' HP'.out (fun h => absurd h hqN) hz1 hzl, decide_eq_false (fun h => hqN h.1)]; rfl)
              have y3 : IntKind.i64.wrap (z + 1) = z + 1 := IntWalk.i64_in _ (by omega)
              go_wp2_with fail
              go_quiet (fail)
              have hA9 := HA'.out.drewN nq
              have HA9 := Lib.hid hA9
              clear hA9
              generalize wr.drewN nq = w9 at HA9 ⊢
              have hme := has_any (HS3.out.on HA9.out).sv (by omega) z
              rw [HMB.out] at hme
              have HH := Lib.hid hme
              clear hme
              go_wp2_with fail
              refine HH.out.mono ?_
              rintro e w7 ⟨rfl, ha7⟩
              have HA7 : Hid (At w3 w7) := Lib.hid (HA9.out.next ha7)
              clear ha7 HH
              go_wp2
              go_roundw
              case rel => exact ⟨q', z + 1, by omega, rfl, by go_num, by omega, by omega, Lib.hid (fun j hj => by have := HP'.out j hj; omega), Lib.hid HA7.out⟩
              case measure => simp [intOf]; omega
        · have hge : decide (z < a + n) = false := decide_eq_false hzl
          obtain rfl : z = a + n := by omega
          have HS4 := Lib.hid (HS3.out.on HA.out)
          clear HP c1 c2 hzl
          obtain ⟨c1, c2⟩ := HC.out _ HS4.out.at_
          generalize wr = w4 at *
          go_wp2
          go_loopw [11] (fun i wr => ∃ k : Nat, k ≤ N ∧ i = .int .i64 (k : Int) ∧ Hid (At w4 wr)) (fun i _ => N - (intOf i).toNat)
          case atStart => exact ⟨0, by omega, rfl, Lib.hid (At.start w4)⟩
          case round =>
            obtain ⟨k, hk, rfl, HA4⟩ := hrel
            clear c1 c2
            by_cases hlt : k < N
            · obtain ⟨g, o, rfl, hcell⟩ := HRC.out k hlt
              have HCL : Hid (∀ W, At w4 W → (W.cell? ⟨g, o + k * 2, none⟩ = some (.int .i64 (R.getD k (0, 0)).1) ∧ W.cell? ⟨g, o + k * 2 + 1, none⟩ = some (.int .i64 (R.getD k (0, 0)).2)) ∧ W.cell? ⟨x, 0, none⟩ = some (.int .i64 a) ∧ W.cell? ⟨x, 1, none⟩ = some (.int .i64 n)) := Lib.hid (fun W hW => ⟨hcell W (HA.out.next hW), HC.out W (HS4.out.at_.next hW)⟩)
              have hrb := HRB.out k hlt
              obtain ⟨p, hp⟩ : ∃ p, R.getD k (0, 0) = p := ⟨_, rfl⟩
              rw [hp] at HCL hrb
              obtain ⟨p1, p2⟩ := p
              obtain ⟨r1, r2, r3, r4⟩ := hrb
              simp only at r1 r2 r3 r4
              obtain ⟨⟨d1, d2⟩, c1, c2⟩ := HCL.out _ HA4.out
              simp only at d1 d2
              have hme : meB L p1 p2 = false := by unfold meB; rw [r4, Bool.and_false]
              have HMT : Hid (∀ W, At w4 W → Calls Try.prog 17 #[.pointer (some ⟨b, 0, none⟩), .agg #[.int .i64 p1, .int .i64 p2]] W (Gives (.bool false) W)) := Lib.hid (fun W hW => by
                have := meets_any (HS4.out.on hW).sv (by omega) p1 p2
                rwa [hme] at this)
              have g1 : (0 : Int) ≤ (k : Int) := by omega
              have g2 : (k : Int) < (N : Int) := by omega
              have t1 : decide (p1 < a) = false := decide_eq_false (by omega)
              have t2 : decide (p2 < 1) = false := decide_eq_false (by omega)
              have t3 : decide (a + n < p1 + p2) = false := decide_eq_false (by omega)
              have y2 : IntKind.i64.wrap (p1 + p2) = p1 + p2 := IntWalk.i64_in _ (by omega)
              have HAD : Hid (At w4 wr.drew) := Lib.hid (HA4.out.drewN 1)
              clear hcell hp r4 hme
              go_wp2_with fail
              go_region_held3 (fun w' => w'.cell? ⟨x, 0, none⟩ = some (.int .i64 a) ∧ w'.cell? ⟨x, 1, none⟩ = some (.int .i64 n) ∧ w'.cell? ⟨g, o + k * 2, none⟩ = some (.int .i64 p1) ∧ w'.cell? ⟨g, o + k * 2 + 1, none⟩ = some (.int .i64 p2)) (go_keep)
                (first
                  | (go_at_call 17; refine (HMT.out _ HAD.out).mono ?_; rintro e w7 ⟨rfl, ha7⟩; have HA7 : Hid (At w4 w7) := Lib.hid (HAD.out.next ha7); obtain ⟨⟨f1, f2⟩, f3, f4⟩ := HCL.out _ HA7.out; (try simp only at f1 f2); clear ha7))
              all_goals
                go_wp2
                go_roundw
                case rel => exact ⟨k + 1, by omega, by go_num, Lib.hid HA7.out⟩
                case measure => simp [intOf]; omega
            · have g2 : decide ((k : Int) < (N : Int)) = false := decide_eq_false (by omega)
              go_wp2_with fail
              refine (awake_any _).mono ?_
              rintro e w5 ⟨rfl, ha5⟩
              have HA5 := Lib.hid (HB.out.next (HS4.out.at_.next (HA4.out.next ha5)))
              clear ha5
              go_wp2
              go_ret
              exact ⟨rfl, HA5.out⟩

end Go.Proofs.Ytbhlpdfejnfeeaa
