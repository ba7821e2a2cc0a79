/- Proved: the document's own Apply: what it leaves of its map. -/
import Derived.Test.YtcffoebpgjonmaaRmt
namespace Go.Proofs.Ytcffoebpgjonmaa
open Go.RowKit

/-- What it leaves. -/
def Rap (d : Nat) (M' : Em.St) (N : Nat) (P : Nat → Prop) (w : World) (e : Ending) (w' : World) : Prop := (∃ z : Int, e = .returned (.int .i64 z)) ∧ Rm w' d M' N P ∧ Mv (fun g => g = d) w w'
theorem rs_not {Q : List Pt} {j : Nat} (h1 : 1 ≤ j) (h2 : j < Q.length) (h : ¬ (Q.getD (j - 1) pz).1 < (Q.getD j pz).1) : ¬ Em.Rs Q := fun hr => h (hr j h1 h2)
/-- One that is out of range makes the first or the last one be so. -/
theorem rs_ends {Q : List Pt} {n : Int} {j : Nat} (hr : Em.Rs Q) (hj : j < Q.length) (h : ¬ (0 ≤ (Q.getD j pz).1 ∧ (Q.getD j pz).1 < n)) : (Q.getD 0 pz).1 < 0 ∨ n ≤ (Q.getD (Q.length - 1) pz).1 := by
  by_cases h0 : 0 ≤ (Q.getD j pz).1
  · right
    have hn : n ≤ (Q.getD j pz).1 := by
      rcases Int.lt_or_le (Q.getD j pz).1 n with h1 | h1
      · exact absurd ⟨h0, h1⟩ h
      · exact h1
    rcases Nat.lt_or_ge j (Q.length - 1) with h2 | h2
    · have := hr.lt (Q.length - 1) j h2 (by omega); omega
    · have : j = Q.length - 1 := by omega
      rw [← this]; exact hn
  · left
    rcases Nat.eq_zero_or_pos j with e | e
    · subst e; omega
    · have := hr.lt j 0 e hj; omega
theorem rs_in {Q : List Pt} {n : Int} (h : ∀ j, j < Q.length → 0 ≤ (Q.getD j pz).1 ∧ (Q.getD j pz).1 < n) (h0 : Q ≠ []) : ¬ ((Q.getD 0 pz).1 < 0 ∨ n ≤ (Q.getD (Q.length - 1) pz).1) := by
  have hp := List.length_pos_iff.2 h0
  have h1 := h 0 hp
  have h2 := h (Q.length - 1) (by omega)
  omega

set_option maxHeartbeats 8000000 in
set_option maxRecDepth 100000 in
theorem rapply_any {w : World} {d N : Nat} {M : Em.St} {P : Nat → Prop} (h : Rm w d M N P) (hP : ∀ g, w.heap.size ≤ g → P g) (hc : M.c < 20000) (hN : N ≤ 50000000) (T : Int) (A : Option Addr) (Q : List Pt) (n c : Nat) (hn : Q.length = n) (hl : n ≤ 1000000) (hv : PV w A Q) (hB : AllBy Q) :
    Calls Try.prog 13 #[.pointer (some ⟨d, 0, none⟩), .agg #[.int .i64 T, .slice A n c]] w (Rap d (Em.took M T Q) (N + n) P w) := by
  have HRM := Lib.hid h
  have HNO : Hid (Em.rf M T Q ≠ 0 → ∀ (z : Int) W, At w W → Rap d (Em.took M T Q) (N + n) P w (.returned (.int .i64 z)) W) := Lib.hid fun h0 z W hW => by
    obtain ⟨v, X, hq, hx⟩ := h
    rw [Em.took_no h0]
    exact ⟨⟨z, rfl⟩, ⟨v, X, hq.on hW, by omega⟩, Mv.of_below _ hW⟩
  obtain ⟨v, X, hq, hX⟩ := h
  have HQ := Lib.hid hq
  have HPP := Lib.hid hP
  have HN := Lib.hid hn
  have HV := Lib.hid hv
  have HB := Lib.hid hB
  have hlast := hq.ok.l1
  clear hP hn hv hB hq
  obtain ⟨q, hq⟩ : ∃ q, w.heap.size = q := ⟨_, rfl⟩
  obtain ⟨wa, hwa⟩ : ∃ wa, w.alloc (.cells #[.int .i64 T, .slice A n c] 36) = wa := ⟨_, rfl⟩
  have HA0 : Hid (At w wa) := Lib.hid (by rw [← hwa]; exact (At.start w).alloc _)
  have HQB : Hid (wa.heap[q]? = some (.cells #[.int .i64 T, .slice A n c] 36 (0, 0))) := Lib.hid (by rw [← hwa, ← hq]; exact heap_alloc_new w _)
  have HC : Hid (∀ W, At wa W → W.cell? ⟨q, 0, none⟩ = some (.int .i64 T) ∧ W.cell? ⟨q, 1, none⟩ = some (.slice A n c) ∧ W.cell? ⟨d, 0, none⟩ = some (.int .i64 (M.n : Int)) ∧ W.cell? ⟨d, 1, none⟩ = some v ∧ W.cell? ⟨d, 2, none⟩ = some (.int .i64 M.last)) := Lib.hid fun W hW =>
    ⟨(cell_at (hW.keep HQB.out) 0).trans rfl, (cell_at (hW.keep HQB.out) 1).trans rfl, (HQ.out.on (HA0.out.next hW)).cells⟩
  obtain ⟨d0, d1, d2, d3, d4⟩ := HC.out wa (At.start _)
  go_enter Try.func13, Try.ntmps13
  go_wp2
  clear hwa hq
  by_cases h1 : T ≤ M.last
  · have e1 : decide (T ≤ M.last) = true := decide_eq_true h1
    have HE := Lib.hid (HNO.out (by rw [Em.rf_time (Or.inl h1)]; decide) 11)
    clear h1
    go_quiet (fail)
    go_wp2
    go_ret
    exact HE.out _ (HA0.out.next ((At.start wa).drewN _))
  have e1 : decide (T ≤ M.last) = false := decide_eq_false h1
  by_cases h2 : 1099511627776 < T
  · have e2 : decide (1099511627776 < T) = true := decide_eq_true h2
    have HE := Lib.hid (HNO.out (by rw [Em.rf_time (Or.inr h2)]; decide) 11)
    clear h1 h2
    go_quiet (fail)
    go_wp2
    go_ret
    exact HE.out _ (HA0.out.next ((At.start wa).drewN _))
  have e2 : decide (1099511627776 < T) = false := decide_eq_false h2
  have HT1 : Hid (¬ (T ≤ M.last ∨ 1099511627776 < T)) := Lib.hid (by omega)
  clear h1 h2
  go_quiet (fail)
  have hA1 : At wa (wa.drewN nq) := (At.start wa).drewN nq
  generalize wa.drewN nq = w1 at hA1 ⊢
  have HA1 := Lib.hid hA1
  clear hA1 d0 d1 d2 d3 d4 e1 e2
  obtain ⟨d0, d1, d2, d3, d4⟩ := HC.out w1 HA1.out
  by_cases hn0 : n = 0
  · have q0 : ((n : Int) == 0) = true := by rw [hn0]; rfl
    have HE := Lib.hid (HNO.out (by
      have hp : Q = [] := List.eq_nil_of_length_eq_zero (by rw [HN.out]; exact hn0)
      rw [Em.rf_arg HT1.out (Or.inl hp)]; decide) 1)
    clear hn0
    go_wp2
    go_ret
    exact HE.out _ (HA0.out.next HA1.out)
  have q0 : ((n : Int) == 0) = false := by simp; omega
  have HNE : Hid (Q ≠ []) := Lib.hid fun e => by have := HN.out; rw [e] at this; exact hn0 this.symm
  obtain ⟨b, o, rfl, hbl, -⟩ := HV.out.pos (by rw [HN.out]; omega)
  have HQC : Hid (∀ W, At wa W → ∀ j, j < n → W.cell? ⟨b, o + j * 2, none⟩ = some (.int .i64 (Q.getD j pz).1) ∧ ∃ B cb, W.cell? ⟨b, o + j * 2 + 1, none⟩ = some (.slice B (Q.getD j pz).2.length cb) ∧ BV W B (Q.getD j pz).2) := Lib.hid fun W hW j hj => pv_cells (HV.out.on (HA0.out.next hW)) (by rw [HN.out]; exact hj)
  clear hbl
  go_wp2
  clear d0 d1 d2 d3 d4 q0 hn0
  go_loopw [5] (fun c5 wr => ∃ j : Nat, 1 ≤ j ∧ j ≤ n ∧ c5 = .int .i64 (j : Int) ∧ Hid (∀ i, 1 ≤ i → i < j → (Q.getD (i - 1) pz).1 < (Q.getD i pz).1) ∧ Hid (At wa wr)) (fun c5 _ => n - (RowKit.intOf c5).toNat)
  case atStart => exact ⟨1, Nat.le_refl _, by have := HN.out; have := HNE.out; have := List.length_pos_iff.2 this; omega, rfl, Lib.hid fun i a b => absurd a (by omega), HA1⟩
  case round =>
    clear HA1
    obtain ⟨j, hj1, hjn, rfl, HR, HA⟩ := hrel
    obtain ⟨d0, d1, d2, d3, d4⟩ := HC.out wr HA.out
    by_cases hlt : j < n
    · have c1 := (HQC.out wr HA.out j hlt).1
      obtain ⟨i, hi⟩ : ∃ i, i = j - 1 := ⟨_, rfl⟩
      have c2 := (HQC.out wr HA.out i (by omega)).1
      have hij : (j : Int) - 1 = (i : Int) := by omega
      have g1 : (0 : Int) ≤ (j : Int) := by omega
      have g2 : (j : Int) < (n : Int) := by omega
      have g3 : (0 : Int) ≤ (i : Int) := by omega
      have g4 : (i : Int) < (n : Int) := by omega
      have hwr : IntKind.i64.wrap ((j : Int) - 1) = (i : Int) := by rw [hij]; exact IntWalk.i64_in _ (by omega)
      obtain ⟨x, hx⟩ : ∃ x, x = (Q.getD j pz).1 := ⟨_, rfl⟩
      obtain ⟨y, hy⟩ : ∃ y, y = (Q.getD i pz).1 := ⟨_, rfl⟩
      rw [← hx] at c1
      rw [← hy] at c2
      have HX := Lib.hid hx
      have HY := Lib.hid hy
      have HI := Lib.hid hi
      clear hx hy hi
      by_cases hxy : x ≤ y
      · have hxt : decide (x ≤ y) = true := decide_eq_true hxy
        have HE := Lib.hid (HNO.out (by
          have hr : ¬ Em.Rs Q := rs_not hj1 (by rw [HN.out]; exact hlt) (by rw [← HI.out, ← HX.out, ← HY.out]; omega)
          rw [Em.rf_arg HT1.out (Or.inr hr)]; decide) 1)
        clear hxy
        go_wp2
        go_quiet (fail)
        go_wp2
        go_ret
        exact HE.out _ (HA0.out.next (HA.out.next ((At.start wr).drewN _)))
      · have hxf : decide (x ≤ y) = false := decide_eq_false hxy
        have HRR : Hid (∀ i, 1 ≤ i → i < j + 1 → (Q.getD (i - 1) pz).1 < (Q.getD i pz).1) := Lib.hid fun k a b => by
          by_cases e : k = j
          · subst e; rw [← HI.out, ← HX.out, ← HY.out]; omega
          · exact HR.out k a (by omega)
        have HAD : Hid (∀ m, At wa (wr.drewN m)) := Lib.hid fun m => HA.out.next ((At.start wr).drewN m)
        clear hxy
        go_wp2
        go_quiet (fail)
        go_wp2
        go_roundw
        case rel => exact ⟨j + 1, by omega, by omega, by go_num, HRR, Lib.hid (HAD.out _)⟩
        case measure => simp [RowKit.intOf]; omega
    · have HRS : Hid (Em.Rs Q) := Lib.hid fun i a b => HR.out i a (by rw [HN.out] at b; omega)
      have hjn' : j = n := by omega
      subst hjn'
      obtain ⟨w2, hw2⟩ : ∃ w2, w2 = wr := ⟨_, rfl⟩
      rw [← hw2] at HA d0 d1 d2 d3 d4 ⊢
      clear hw2 HR
      have HA2 := HA
      clear d0 d1 d2 d3 d4
      obtain ⟨d0, d1, d2, d3, d4⟩ := HC.out w2 HA2.out
      go_wp2
      clear d0 d1 d2 d3 d4
      go_loopw [6] (fun c6 wr => ∃ i : Nat, i ≤ j ∧ c6 = .int .i64 (i : Int) ∧ Hid (∀ k, k < i → 0 ≤ (Q.getD k pz).1 ∧ (Q.getD k pz).1 < (M.n : Int)) ∧ Hid (At wa wr)) (fun c6 _ => j - (RowKit.intOf c6).toNat)
      case atStart => exact ⟨0, Nat.zero_le _, rfl, Lib.hid fun k a => absurd a (Nat.not_lt_zero k), HA2⟩
      case round =>
        clear HA2 HA
        obtain ⟨i, hi, rfl, HR, HA⟩ := hrel
        obtain ⟨d0, d1, d2, d3, d4⟩ := HC.out wr HA.out
        by_cases hlt : i < j
        · have c1 := (HQC.out wr HA.out i hlt).1
          have g1 : (0 : Int) ≤ (i : Int) := by omega
          have g2 : (i : Int) < (j : Int) := by omega
          obtain ⟨x, hx⟩ : ∃ x, x = (Q.getD i pz).1 := ⟨_, rfl⟩
          rw [← hx] at c1
          have HX := Lib.hid hx
          have HBAD : Hid (¬ (0 ≤ x ∧ x < (M.n : Int)) → ∀ W, At wa W → Rap d (Em.took M T Q) (N + j) P w (.returned (.int .i64 2)) W) := Lib.hid fun hb W hW => HNO.out (by
            rw [Em.rf_range HT1.out (fun h => h.elim HNE.out (fun h => h HRS.out)) (rs_ends HRS.out (by rw [HN.out]; exact hlt) (by rw [← HX.out]; exact hb))]; decide) 2 W (HA0.out.next hW)
          clear hx
          by_cases hx0 : x < 0
          · have e1 : decide (x < 0) = true := decide_eq_true hx0
            have HE := Lib.hid (HBAD.out (by omega))
            clear hx0
            go_wp2
            go_quiet (fail)
            go_wp2
            go_ret
            exact HE.out _ (HA.out.next ((At.start wr).drewN _))
          · have e1 : decide (x < 0) = false := decide_eq_false hx0
            by_cases hxn : (M.n : Int) ≤ x
            · have e2 : decide ((M.n : Int) ≤ x) = true := decide_eq_true hxn
              have HE := Lib.hid (HBAD.out (by omega))
              clear hx0 hxn
              go_wp2
              go_quiet (fail)
              go_wp2
              go_ret
              exact HE.out _ (HA.out.next ((At.start wr).drewN _))
            · have e2 : decide ((M.n : Int) ≤ x) = false := decide_eq_false hxn
              have HRR : Hid (∀ k, k < i + 1 → 0 ≤ (Q.getD k pz).1 ∧ (Q.getD k pz).1 < (M.n : Int)) := Lib.hid fun k a => by
                by_cases e : k = i
                · subst e; rw [← HX.out]; omega
                · exact HR.out k (by omega)
              have HAD : Hid (∀ m, At wa (wr.drewN m)) := Lib.hid fun m => HA.out.next ((At.start wr).drewN m)
              clear hx0 hxn
              go_wp2
              go_quiet (fail)
              go_wp2
              go_roundw
              case rel => exact ⟨i + 1, by omega, by go_num, HRR, Lib.hid (HAD.out _)⟩
              case measure => simp [RowKit.intOf]; omega
        · have hij : i = j := by omega
          have HRG : Hid (∀ k, k < j → 0 ≤ (Q.getD k pz).1 ∧ (Q.getD k pz).1 < (M.n : Int)) := Lib.hid (by rw [← hij]; exact HR.out)
          subst hij
          obtain ⟨w3, hw3⟩ : ∃ w3, w3 = wr := ⟨_, rfl⟩
          rw [← hw3] at HA d0 d1 d2 d3 d4 ⊢
          clear hw3 HR
          have HA3 := HA
          go_wp2
          clear d0 d1 d2 d3 d4
          go_loopw [7] (fun c7 wr => ∃ u : Nat, u ≤ i ∧ c7 = .int .i64 (u : Int) ∧ Hid (∀ k, k < u → (Q.getD k pz).2.length = 40) ∧ wr = w3) (fun c7 _ => i - (RowKit.intOf c7).toNat)
          case atStart => exact ⟨0, Nat.zero_le _, rfl, Lib.hid fun k a => absurd a (Nat.not_lt_zero k), rfl⟩
          case round =>
            obtain ⟨u, hu, rfl, HR, hwr⟩ := hrel
            have hwr' := hwr.symm
            subst hwr'
            obtain ⟨d0, d1, d2, d3, d4⟩ := HC.out w3 HA3.out
            by_cases hlt : u < i
            · obtain ⟨-, B, cb, c1, -⟩ := HQC.out w3 HA3.out u hlt
              have g1 : (0 : Int) ≤ (u : Int) := by omega
              have g2 : (u : Int) < (i : Int) := by omega
              obtain ⟨x, hx⟩ : ∃ x, x = (Q.getD u pz).2.length := ⟨_, rfl⟩
              rw [← hx] at c1
              have HX := Lib.hid hx
              clear hx
              by_cases h40 : x = 40
              · have e1 : ((x : Int) != 40) = false := by simp; omega
                have HRR : Hid (∀ k, k < u + 1 → (Q.getD k pz).2.length = 40) := Lib.hid fun k a => by
                  by_cases e : k = u
                  · subst e; rw [← HX.out]; exact h40
                  · exact HR.out k (by omega)
                clear h40
                go_wp2
                go_roundw
                case rel => exact ⟨u + 1, by omega, by go_num, HRR, by first | rfl | trivial⟩
                case measure => simp [RowKit.intOf]; omega
              · have e1 : ((x : Int) != 40) = true := by simp; omega
                have HE := Lib.hid (HNO.out (by
                  rw [Em.rf_len HT1.out (fun h => h.elim HNE.out (fun h => h HRS.out)) (rs_in (fun k hk => HRG.out k (by rw [HN.out] at hk; exact hk)) HNE.out) ⟨_, pt_mem (show u < Q.length by rw [HN.out]; exact hlt), by rw [← HX.out]; exact h40⟩]; decide) 3 w3 (HA0.out.next HA3.out))
                clear h40
                go_wp2
                go_ret
                exact HE.out
            · have hui : u = i := by omega
              subst hui
              have h2 : ¬ (Q = [] ∨ ¬ Em.Rs Q) := fun h => h.elim HNE.out (fun h => h HRS.out)
              have h3 := rs_in (fun k hk => HRG.out k (by rw [HN.out] at hk; exact hk)) HNE.out
              have h4 : ¬ ∃ p ∈ Q, p.2.length ≠ 40 := fun ⟨p, hp, e⟩ => by
                obtain ⟨k, hk, rfl⟩ := Em.mem_at hp
                exact e (HR.out k (by rw [HN.out] at hk; exact hk))
              have hfi := Em.fine_of HT1.out h2 h3 h4
              have HFI := Lib.hid hfi
              have HTK := Lib.hid (Em.took_ok hfi.rf)
              have HQU := Lib.hid (qv_up T HRS.out)
              have HL40 := Lib.hid HR.out
              clear h2 h3 h4 hfi HR HT1 HNE HRG HRS
              obtain ⟨AX, cX, hvX, -, hfX⟩ := HQ.out.vr.form
              obtain ⟨NX, hNX⟩ : ∃ NX, NX = X.length := ⟨_, rfl⟩
              rw [← hNX] at hvX hX hfX
              subst hvX
              have HNX := Lib.hid hNX
              have HA03 : Hid (At w w3) := Lib.hid (HA0.out.next HA3.out)
              have hgX : 0 < NX → ∃ g, AX = some ⟨g, 0, none⟩ := fun h => by obtain ⟨g, h1, _⟩ := hfX h; exact ⟨g, h1⟩
              obtain ⟨gx, hgx⟩ : ∃ gx : Nat, 0 < NX → AX = some ⟨gx, 0, none⟩ := by
                by_cases h0 : 0 < NX
                · obtain ⟨g, h1⟩ := hgX h0; exact ⟨g, fun _ => h1⟩
                · exact ⟨0, fun h => absurd h h0⟩
              have HX0 : Hid (∀ W, At w W → ∀ j, j < NX → W.cell? ⟨gx, j * 3, none⟩ = some (.int .i64 (X.getD j lvz).1.1) ∧ W.cell? ⟨gx, j * 3 + 1, none⟩ = some (.int .i64 (X.getD j lvz).1.2.1) ∧ W.cell? ⟨gx, j * 3 + 2, none⟩ = some (.slice (some ⟨(X.getD j lvz).2.1, 0, none⟩) 40 (X.getD j lvz).2.2)) := Lib.hid fun W hW j hj => by
                obtain ⟨g, h1, h2, h3⟩ := hfX (by omega)
                rw [hgx (by omega)] at h1
                injection h1 with h1
                injection h1 with h1 _
                subst h1
                obtain ⟨k1, k2, k3⟩ := h3 j hj
                exact ⟨(Below.cell hW (p := ⟨gx, j * 3, none⟩) h2).trans k1, (Below.cell hW (p := ⟨gx, j * 3 + 1, none⟩) h2).trans k2, (Below.cell hW (p := ⟨gx, j * 3 + 2, none⟩) h2).trans k3⟩
              have HGX := Lib.hid hgx
              obtain ⟨i0, z0, hi0, hz0, hz1, hz2, hz3⟩ := ver_parts
              have HZ := Lib.hid (And.intro hi0 (And.intro hz0 (And.intro hz1 (And.intro hz2 hz3))))
              clear hgX hfX hgx hNX hi0 hz0 hz1 hz2 hz3
              obtain ⟨w4, hw4⟩ : ∃ w4, w4 = w3 := ⟨_, rfl⟩
              rw [← hw4] at HA3 HA03 d0 d1 d2 d3 d4 ⊢
              clear hw4 HA
              have HST : Hid (Mw w4 w4 X (qv T Q) 0 0 (.slice none 0 0) []) := Lib.hid (Mw.start _ _ _)
              go_wp2
              clear d0 d1 d2 d3 d4
              go_loopw [8, 9, 10] (fun c8 c9 c10 wr => ∃ (i k : Nat) (O : List Lv), i ≤ NX + 1 ∧ k ≤ u ∧ c10 = .int .i64 (i : Int) ∧ c9 = .int .i64 (k : Int) ∧ ((i ≤ NX ∧ Hid (Mw w4 wr X (qv T Q) i k c8 O)) ∨ (i = NX + 1 ∧ k = u ∧ Hid (Mw w4 wr X (qv T Q) NX u c8 O)))) (fun _ _ c10 _ => NX + 1 + 1 - (RowKit.intOf c10).toNat)
              case atStart => exact ⟨0, 0, [], by omega, by omega, rfl, rfl, Or.inl ⟨by omega, HST⟩⟩
              case round =>
                clear HST
                obtain ⟨i, k, O, hi, hk, rfl, rfl, hor⟩ := hrel
                rcases hor with ⟨hiN, HM⟩ | ⟨hiN, hkn, HM⟩
                · obtain ⟨d0, d1, d2, d3, d4⟩ := HC.out wr (HA3.out.next HM.out.at_)
                  obtain ⟨A8, cp8, rfl, -, -⟩ := HM.out.vr.form
                  have e0 : decide ((i : Int) ≤ (NX : Int)) = true := decide_eq_true (by omega)
                  go_wp2
                  clear d0 d1 d2 d3 d4
                  go_loopw [8, 9] (fun c8 c9 wi => ∃ (k : Nat) (O : List Lv), k ≤ u ∧ c9 = .int .i64 (k : Int) ∧ Hid (Mw w4 wi X (qv T Q) i k c8 O)) (fun _ c9 _ => u - (RowKit.intOf c9).toNat)
                  case atStart => exact ⟨k, O, hk, rfl, HM⟩
                  case round =>
                    clear HM
                    obtain ⟨k, O, hk, rfl, HM⟩ := hrel
                    obtain ⟨wi, hwi⟩ : ∃ wi, wi = wr := ⟨_, rfl⟩
                    rw [← hwi] at HM ⊢
                    clear hwi
                    obtain ⟨d0, d1, d2, d3, d4⟩ := HC.out wi (HA3.out.next HM.out.at_)
                    obtain ⟨A8, cp8, rfl, -, -⟩ := HM.out.vr.form
                    obtain ⟨oN, hoN⟩ : ∃ oN, oN = O.length := ⟨_, rfl⟩
                    have hol := HM.out.len
                    rw [← hoN] at hol HM
                    rw [← hoN]
                    have HOL := Lib.hid hoN
                    clear hoN
                    by_cases hku : k < u
                    · have c1 := (HQC.out wi (HA3.out.next HM.out.at_) k hku).1
                      have hqk := qv_at T Q k (by rw [HN.out]; exact hku)
                      obtain ⟨x, hx⟩ : ∃ x, x = (Q.getD k pz).1 := ⟨_, rfl⟩
                      rw [← hx] at c1 hqk
                      have HXK := Lib.hid hx
                      have HQK := Lib.hid hqk
                      have e1 : decide ((k : Int) < (u : Int)) = true := decide_eq_true (by omega)
                      have g1 : (0 : Int) ≤ (k : Int) := by omega
                      have g2 : (k : Int) < (u : Int) := by omega
                      clear hx hqk
                      by_cases hlt : i < NX → x < (X.getD i lvz).1.1
                      · have HLT := Lib.hid hlt
                        have HMQ : Hid (∀ dd, dd = (Q.getD k pz).2 → Mg (X.map (·.1)) (qv T Q) i (k + 1) (O.map (·.1) ++ [(x, T, dd)])) := Lib.hid fun dd hdd => by
                          have := mg_q HM.out.mg (by rw [qv_len, HN.out]; exact hku) (fun hi' => by
                            rw [List.length_map] at hi'
                            rw [lv_fst X i hi', HQK.out]
                            exact HLT.out (by rw [HNX.out]; exact hi')) HQU.out
                          rw [HQK.out, ← hdd] at this
                          exact this
                        by_cases hie : i = NX
                        · have e2 : ((i : Int) == (NX : Int)) = true := by rw [hie]; simp
                          clear hlt hie
                          go_wp2
                          go_quiet (fail)
                          have hA5 : At wi (wi.drewN nq) := (At.start wi).drewN nq
                          generalize wi.drewN nq = w5 at hA5 ⊢
                          have HM5 := Lib.hid (HM.out.on hA5)
                          have HRO : Hid (∀ W, At w5 W → W.ownsRow 0 73 3 (.slice A8 oN cp8) oN (vcs O)) := Lib.hid fun W hW => by
                            have := (HM5.out.vr.on hW).row
                            rw [← HOL.out] at this
                            exact this
                          clear hA5 HM d0 d1 d2 d3 d4 c1
                          obtain ⟨d0, d1, d2, d3, d4⟩ := HC.out w5 (HA3.out.next HM5.out.at_)
                          obtain ⟨B, cb, kc2, hbv⟩ := (HQC.out w5 (HA3.out.next HM5.out.at_) k hku).2
                          have hl40 := HL40.out k hku
                          obtain ⟨dd, hdd⟩ : ∃ dd, dd = (Q.getD k pz).2 := ⟨_, rfl⟩
                          rw [← hdd] at kc2 hbv hl40
                          rw [hl40] at kc2
                          have hbb : AllB dd := by rw [hdd]; exact HB.out _ (pt_mem (by rw [HN.out]; exact hku))
                          obtain ⟨pb, po, rfl, -, -⟩ := hbv.pos (by omega)
                          have HBW : Hid (BV w (some ⟨pb, po, none⟩) dd) := Lib.hid (by
                            obtain ⟨B', cb', hc', hb'⟩ := (HQC.out wa (At.start wa) k hku).2
                            obtain ⟨B2, cb2, hc2, hb2⟩ := (pv_cells HV.out (k := k) (by rw [HN.out]; exact hku)).2
                            have h9 := (Below.cell (HA03.out.next HM5.out.at_) (p := ⟨b, o + k * 2 + 1, none⟩) (World.block_lt_of_cell? w _ hc2)).trans hc2
                            rw [kc2] at h9
                            injection h9 with h9
                            injection h9 with h9 _ _
                            rw [h9, hdd]; exact hb2)
                          have HXE : Hid (x = (Q.getD k pz).1 ∧ b < w4.heap.size ∧ w4.cell? ⟨b, o + k * 2 + 1, none⟩ = some (.slice (some ⟨pb, po, none⟩) 40 cb) ∧ BV w4 (some ⟨pb, po, none⟩) dd ∧ dd.length = 40 ∧ AllB dd ∧ Mg (X.map (·.1)) (qv T Q) i (k + 1) (O.map (·.1) ++ [(x, T, dd)])) := Lib.hid (by
                            obtain ⟨B2, cb2, hc2, hb2⟩ := (pv_cells HV.out (k := k) (by rw [HN.out]; exact hku)).2
                            have hbl := World.block_lt_of_cell? w _ hc2
                            have h9 := (Below.cell (HA03.out.next HM5.out.at_) (p := ⟨b, o + k * 2 + 1, none⟩) hbl).trans hc2
                            have h8 := (Below.cell HA03.out (p := ⟨b, o + k * 2 + 1, none⟩) hbl).trans hc2
                            rw [kc2] at h9
                            rw [← h9] at h8
                            exact ⟨HXK.out, Nat.lt_of_lt_of_le hbl HA03.out.size, h8, HBW.out.below HA03.out, hl40, hbb, HMQ.out dd hdd⟩)
                          clear kc2 hbv hl40 hdd hbb HBW d0 d1 d2 d3 d4
                          have HS : Hid (∀ W, At w4 W → W.cell? ⟨q, 0, none⟩ = some (.int .i64 T) ∧ W.cell? ⟨q, 1, none⟩ = some (.slice (some ⟨b, o, none⟩) u c) ∧ W.cell? ⟨b, o + k * 2, none⟩ = some (.int .i64 x) ∧ W.cell? ⟨b, o + k * 2 + 1, none⟩ = some (.slice (some ⟨pb, po, none⟩) 40 cb)) := Lib.hid fun W hW => by
                            have hWa := HA3.out.next hW
                            obtain ⟨c0, c1, -, -, -⟩ := HC.out W hWa
                            obtain ⟨k1, B', cb', k2, -⟩ := HQC.out W hWa k hku
                            rw [← HXE.out.1] at k1
                            refine ⟨c0, c1, k1, ?_⟩
                            exact (Below.cell hW (p := ⟨b, o + k * 2 + 1, none⟩) HXE.out.2.1).trans HXE.out.2.2.1
                          have M1 : Hid (Ey (w5.alloc (.cells #[] 5)).drew w5.heap.size) := Lib.hid ((em_new w5).on ((At.start _).drewN 1))
                          have D1 : Hid (At w5 (w5.alloc (.cells #[] 5)).drew) := Lib.hid (((At.start w5).alloc _).drewN 1)
                          obtain ⟨t0, t1, t2, t3⟩ := HS.out w5 HM5.out.at_
                          go_wp2_with fail
                          go_region_held3 (fun w' => w'.cell? ⟨q, 0, none⟩ = some (.int .i64 T) ∧ w'.cell? ⟨q, 1, none⟩ = some (.slice (some ⟨b, o, none⟩) u c) ∧ w'.cell? ⟨b, o + k * 2, none⟩ = some (.int .i64 x) ∧ w'.cell? ⟨b, o + k * 2 + 1, none⟩ = some (.slice (some ⟨pb, po, none⟩) 40 cb)) (first | go_keep | exact HS.out _ (HM5.out.at_.next A7.out) | exact HS.out _ (HM5.out.at_.next (A7.out.alloc _)) | exact HS.out _ A8.out)
                            (first
                              | (refine step_forty (by rfl) (.tmp 139) (.tmp 145) (by rfl) _ M1.out (by rfl) pb po cb dd (by rfl) (HXE.out.2.2.2.1.below (HM5.out.at_.next D1.out)) HXE.out.2.2.2.2.1 ?_; intro gd cd w7 X7; have A7 : Hid (At w5 w7) := Lib.hid (X7.out.mv.at_ D1.out (fun j hj => by rw [hj]; exact Nat.le_refl _)); obtain ⟨s0, s1, s2, s3⟩ := HS.out w7 (HM5.out.at_.next A7.out))
                              | (refine step_append_lies _ (by rfl) (.tmp 130) (.tmp 148) 65 (by rfl) 0 73 i0 z0 3 40 Try.underlying65 HZ.out.1 HZ.out.2.1 HZ.out.2.2.1 HZ.out.2.2.2.1 HZ.out.2.2.2.2 (by omega) (.slice A8 oN cp8) oN (vcs O) (by rfl) (HRO.out _ (A7.out.alloc _)) ⟨w7.heap.size, 0, none⟩ 1 1 [.int .i64 x, .int .i64 T, .slice (some ⟨gd, 0, none⟩) 40 cd] (by rfl) rfl (World.news_of_block (cs := #[.int .i64 x, .int .i64 T, .slice (some ⟨gd, 0, none⟩) 40 cd]) (t := 73) (fr := (0, 0)) (heap_alloc_new w7 _)) (fun v hv => by simp at hv; rcases hv with rfl | rfl | rfl <;> rfl) (by omega) (by unfold maxLen; omega) (by omega) (Nat.zero_le _) (w7.heap.size + 1) (by simp) ?_; intro gg cap w8 hown hgrow hat hlt8; have HG8 := Lib.hid (And.intro hown (And.intro hgrow hat)); have A8 : Hid (At w4 w8) := Lib.hid (mw_grown HM5.out (A7.out.alloc _) hgrow); obtain ⟨r0, r1, r2, r3⟩ := HS.out w8 A8.out; clear hown hgrow hat hlt8))
                          have HM8 : Hid (Mw w4 w8 X (qv T Q) i (k + 1) (.slice (some ⟨gg, 0, none⟩) (oN + 1) cap) (O ++ [((x, T, dd), gd, cd)])) := Lib.hid (by
                            have hg7 : w5.heap.size ≤ gd := by have := D1.out.size; have h1 := X7.out.at_; have : (w5.alloc (.cells #[] 5)).drew.heap.size = w5.heap.size + 1 := (by simp); rcases h1 with e | e <;> omega
                            have := (HM5.out.on (A7.out.alloc _)).add (y := (x, T, dd)) (gc := gd) (cc := cd) (gg := gg) (cap := cap) (At.start _) (i' := i) (k' := k + 1) HXE.out.2.2.2.2.2.2 (by omega) (X7.out.bv.below ((At.start w7).alloc _)) (by have := X7.out.lt; simp; omega) ⟨HXE.out.2.2.2.2.1, HXE.out.2.2.2.2.2.1⟩ (fun e => by have := HM5.out.vr.lt e; omega) (Or.inr (Nat.le_trans HM5.out.at_.size hg7)) (by rw [← HOL.out]; exact HG8.out.1) HG8.out.2.1 (HG8.out.2.2.imp_right fun e => by rw [e]; simp)
                            rw [← HOL.out] at this
                            exact this)
                          clear HS M1 D1 A7 A8 HG8 X7 t0 t1 t2 t3 s0 s1 s2 s3 r0 r1 r2 r3
                          go_wp2
                          go_roundw
                          case rel => exact ⟨k + 1, _, by omega, by go_num, HM8⟩
                          case measure => simp [RowKit.intOf]; omega
                        · have e2 : ((i : Int) == (NX : Int)) = false := by simp; omega
                          obtain ⟨x1, -, -⟩ := HX0.out wi (HA03.out.next HM.out.at_) i (by omega)
                          have hxy := hlt (by omega)
                          obtain rfl : AX = some ⟨gx, 0, none⟩ := HGX.out (by omega)
                          obtain ⟨y, hy⟩ : ∃ y, y = (X.getD i lvz).1.1 := ⟨_, rfl⟩
                          rw [← hy] at x1 hxy
                          have e3 : decide (x < y) = true := decide_eq_true hxy
                          have g3 : (0 : Int) ≤ (i : Int) := by omega
                          have g4 : (i : Int) < (NX : Int) := by omega
                          clear hlt hie hy hxy
                          go_wp2
                          go_quiet (fail)
                          have hA5 : At wi (wi.drewN nq) := (At.start wi).drewN nq
                          generalize wi.drewN nq = w5 at hA5 ⊢
                          have HM5 := Lib.hid (HM.out.on hA5)
                          have HRO : Hid (∀ W, At w5 W → W.ownsRow 0 73 3 (.slice A8 oN cp8) oN (vcs O)) := Lib.hid fun W hW => by
                            have := (HM5.out.vr.on hW).row
                            rw [← HOL.out] at this
                            exact this
                          clear hA5 HM d0 d1 d2 d3 d4 c1 x1
                          obtain ⟨d0, d1, d2, d3, d4⟩ := HC.out w5 (HA3.out.next HM5.out.at_)
                          obtain ⟨B, cb, kc2, hbv⟩ := (HQC.out w5 (HA3.out.next HM5.out.at_) k hku).2
                          have hl40 := HL40.out k hku
                          obtain ⟨dd, hdd⟩ : ∃ dd, dd = (Q.getD k pz).2 := ⟨_, rfl⟩
                          rw [← hdd] at kc2 hbv hl40
                          rw [hl40] at kc2
                          have hbb : AllB dd := by rw [hdd]; exact HB.out _ (pt_mem (by rw [HN.out]; exact hku))
                          obtain ⟨pb, po, rfl, -, -⟩ := hbv.pos (by omega)
                          have HBW : Hid (BV w (some ⟨pb, po, none⟩) dd) := Lib.hid (by
                            obtain ⟨B', cb', hc', hb'⟩ := (HQC.out wa (At.start wa) k hku).2
                            obtain ⟨B2, cb2, hc2, hb2⟩ := (pv_cells HV.out (k := k) (by rw [HN.out]; exact hku)).2
                            have h9 := (Below.cell (HA03.out.next HM5.out.at_) (p := ⟨b, o + k * 2 + 1, none⟩) (World.block_lt_of_cell? w _ hc2)).trans hc2
                            rw [kc2] at h9
                            injection h9 with h9
                            injection h9 with h9 _ _
                            rw [h9, hdd]; exact hb2)
                          have HXE : Hid (x = (Q.getD k pz).1 ∧ b < w4.heap.size ∧ w4.cell? ⟨b, o + k * 2 + 1, none⟩ = some (.slice (some ⟨pb, po, none⟩) 40 cb) ∧ BV w4 (some ⟨pb, po, none⟩) dd ∧ dd.length = 40 ∧ AllB dd ∧ Mg (X.map (·.1)) (qv T Q) i (k + 1) (O.map (·.1) ++ [(x, T, dd)])) := Lib.hid (by
                            obtain ⟨B2, cb2, hc2, hb2⟩ := (pv_cells HV.out (k := k) (by rw [HN.out]; exact hku)).2
                            have hbl := World.block_lt_of_cell? w _ hc2
                            have h9 := (Below.cell (HA03.out.next HM5.out.at_) (p := ⟨b, o + k * 2 + 1, none⟩) hbl).trans hc2
                            have h8 := (Below.cell HA03.out (p := ⟨b, o + k * 2 + 1, none⟩) hbl).trans hc2
                            rw [kc2] at h9
                            rw [← h9] at h8
                            exact ⟨HXK.out, Nat.lt_of_lt_of_le hbl HA03.out.size, h8, HBW.out.below HA03.out, hl40, hbb, HMQ.out dd hdd⟩)
                          clear kc2 hbv hl40 hdd hbb HBW d0 d1 d2 d3 d4
                          have HS : Hid (∀ W, At w4 W → W.cell? ⟨q, 0, none⟩ = some (.int .i64 T) ∧ W.cell? ⟨q, 1, none⟩ = some (.slice (some ⟨b, o, none⟩) u c) ∧ W.cell? ⟨b, o + k * 2, none⟩ = some (.int .i64 x) ∧ W.cell? ⟨b, o + k * 2 + 1, none⟩ = some (.slice (some ⟨pb, po, none⟩) 40 cb)) := Lib.hid fun W hW => by
                            have hWa := HA3.out.next hW
                            obtain ⟨c0, c1, -, -, -⟩ := HC.out W hWa
                            obtain ⟨k1, B', cb', k2, -⟩ := HQC.out W hWa k hku
                            rw [← HXE.out.1] at k1
                            refine ⟨c0, c1, k1, ?_⟩
                            exact (Below.cell hW (p := ⟨b, o + k * 2 + 1, none⟩) HXE.out.2.1).trans HXE.out.2.2.1
                          have M1 : Hid (Ey (w5.alloc (.cells #[] 5)).drew w5.heap.size) := Lib.hid ((em_new w5).on ((At.start _).drewN 1))
                          have D1 : Hid (At w5 (w5.alloc (.cells #[] 5)).drew) := Lib.hid (((At.start w5).alloc _).drewN 1)
                          obtain ⟨t0, t1, t2, t3⟩ := HS.out w5 HM5.out.at_
                          go_wp2_with fail
                          go_region_held3 (fun w' => w'.cell? ⟨q, 0, none⟩ = some (.int .i64 T) ∧ w'.cell? ⟨q, 1, none⟩ = some (.slice (some ⟨b, o, none⟩) u c) ∧ w'.cell? ⟨b, o + k * 2, none⟩ = some (.int .i64 x) ∧ w'.cell? ⟨b, o + k * 2 + 1, none⟩ = some (.slice (some ⟨pb, po, none⟩) 40 cb)) (first | go_keep | exact HS.out _ (HM5.out.at_.next A7.out) | exact HS.out _ (HM5.out.at_.next (A7.out.alloc _)) | exact HS.out _ A8.out)
                            (first
                              | (refine step_forty (by rfl) (.tmp 139) (.tmp 145) (by rfl) _ M1.out (by rfl) pb po cb dd (by rfl) (HXE.out.2.2.2.1.below (HM5.out.at_.next D1.out)) HXE.out.2.2.2.2.1 ?_; intro gd cd w7 X7; have A7 : Hid (At w5 w7) := Lib.hid (X7.out.mv.at_ D1.out (fun j hj => by rw [hj]; exact Nat.le_refl _)); obtain ⟨s0, s1, s2, s3⟩ := HS.out w7 (HM5.out.at_.next A7.out))
                              | (refine step_append_lies _ (by rfl) (.tmp 130) (.tmp 148) 65 (by rfl) 0 73 i0 z0 3 40 Try.underlying65 HZ.out.1 HZ.out.2.1 HZ.out.2.2.1 HZ.out.2.2.2.1 HZ.out.2.2.2.2 (by omega) (.slice A8 oN cp8) oN (vcs O) (by rfl) (HRO.out _ (A7.out.alloc _)) ⟨w7.heap.size, 0, none⟩ 1 1 [.int .i64 x, .int .i64 T, .slice (some ⟨gd, 0, none⟩) 40 cd] (by rfl) rfl (World.news_of_block (cs := #[.int .i64 x, .int .i64 T, .slice (some ⟨gd, 0, none⟩) 40 cd]) (t := 73) (fr := (0, 0)) (heap_alloc_new w7 _)) (fun v hv => by simp at hv; rcases hv with rfl | rfl | rfl <;> rfl) (by omega) (by unfold maxLen; omega) (by omega) (Nat.zero_le _) (w7.heap.size + 1) (by simp) ?_; intro gg cap w8 hown hgrow hat hlt8; have HG8 := Lib.hid (And.intro hown (And.intro hgrow hat)); have A8 : Hid (At w4 w8) := Lib.hid (mw_grown HM5.out (A7.out.alloc _) hgrow); obtain ⟨r0, r1, r2, r3⟩ := HS.out w8 A8.out; clear hown hgrow hat hlt8))
                          have HM8 : Hid (Mw w4 w8 X (qv T Q) i (k + 1) (.slice (some ⟨gg, 0, none⟩) (oN + 1) cap) (O ++ [((x, T, dd), gd, cd)])) := Lib.hid (by
                            have hg7 : w5.heap.size ≤ gd := by have := D1.out.size; have h1 := X7.out.at_; have : (w5.alloc (.cells #[] 5)).drew.heap.size = w5.heap.size + 1 := (by simp); rcases h1 with e | e <;> omega
                            have := (HM5.out.on (A7.out.alloc _)).add (y := (x, T, dd)) (gc := gd) (cc := cd) (gg := gg) (cap := cap) (At.start _) (i' := i) (k' := k + 1) HXE.out.2.2.2.2.2.2 (by omega) (X7.out.bv.below ((At.start w7).alloc _)) (by have := X7.out.lt; simp; omega) ⟨HXE.out.2.2.2.2.1, HXE.out.2.2.2.2.2.1⟩ (fun e => by have := HM5.out.vr.lt e; omega) (Or.inr (Nat.le_trans HM5.out.at_.size hg7)) (by rw [← HOL.out]; exact HG8.out.1) HG8.out.2.1 (HG8.out.2.2.imp_right fun e => by rw [e]; simp)
                            rw [← HOL.out] at this
                            exact this)
                          clear HS M1 D1 A7 A8 HG8 X7 t0 t1 t2 t3 s0 s1 s2 s3 r0 r1 r2 r3
                          go_wp2
                          go_roundw
                          case rel => exact ⟨k + 1, _, by omega, by go_num, HM8⟩
                          case measure => simp [RowKit.intOf]; omega
                      · have hiN2 : i < NX := Decidable.byContradiction fun h => hlt fun h' => absurd h' h
                        have hiN := hiN2
                        have HNL : Hid (k < (qv T Q).length → ¬ ((qv T Q).getD k vz).1 < (X.getD i lvz).1.1) := Lib.hid fun _ => by
                          rw [HQK.out]; exact fun h => hlt fun _ => h
                        obtain ⟨x1, -, -⟩ := HX0.out wi (HA03.out.next HM.out.at_) i hiN
                        obtain rfl : AX = some ⟨gx, 0, none⟩ := HGX.out (by omega)
                        have e2 : ((i : Int) == (NX : Int)) = false := by simp; omega
                        have hxy : ¬ x < (X.getD i lvz).1.1 := fun h => hlt fun _ => h
                        obtain ⟨yy, hyy⟩ : ∃ yy, yy = (X.getD i lvz).1.1 := ⟨_, rfl⟩
                        rw [← hyy] at x1 hxy
                        have e3 : decide (x < yy) = false := decide_eq_false hxy
                        clear hxy hyy
                        have e4 : decide ((i : Int) < (NX : Int)) = true := decide_eq_true (by omega)
                        have g3 : (0 : Int) ≤ (i : Int) := by omega
                        have g4 : (i : Int) < (NX : Int) := by omega
                        clear hlt hiN2
                        go_wp2
                        go_quiet (fail)
                        have hA5 : At wi (wi.drewN nq) := (At.start wi).drewN nq
                        generalize wi.drewN nq = w5 at hA5 ⊢
                        have HM5 := Lib.hid (HM.out.on hA5)
                        have HRO : Hid (∀ W, At w5 W → W.ownsRow 0 73 3 (.slice A8 oN cp8) oN (vcs O)) := Lib.hid fun W hW => by
                          have := (HM5.out.vr.on hW).row
                          rw [← HOL.out] at this
                          exact this
                        clear hA5 HM d0 d1 d2 d3 d4 c1
                        obtain ⟨d0, d1, d2, d3, d4⟩ := HC.out w5 (HA3.out.next HM5.out.at_)
                        clear x1
                        obtain ⟨x1, x2, x3⟩ := HX0.out w5 (HA03.out.next HM5.out.at_) i hiN
                        obtain ⟨y0, hy0⟩ : ∃ y : Lv, y = X.getD i lvz := ⟨_, rfl⟩
                        have HYM : Hid (y0 ∈ X) := Lib.hid (by rw [hy0]; exact lv_mem (by rw [← HNX.out]; exact hiN))
                        have hmx : Mg (X.map (·.1)) (qv T Q) (i + 1) k (O.map (·.1) ++ [y0.1]) := by
                          have hil : i < X.length := by rw [← HNX.out]; exact hiN
                          have := mg_x HM5.out.mg (by rw [List.length_map]; exact hil) (fun hk' => by rw [lv_fst X i hil]; exact Int.not_lt.2 (HNL.out hk')) HQ.out.kx.up
                          rw [lv_fst X i hil, ← hy0] at this
                          exact this
                        obtain ⟨⟨yk, yt, yd⟩, yg, yc⟩ := y0
                        rw [← hy0] at x1 x2 x3
                        simp only at x1 x2 x3
                        have hyv := (HQ.out.vr.bv _ HYM.out)
                        have hyb := HQ.out.vr.by_ _ HYM.out
                        have HMX := Lib.hid (And.intro hmx (And.intro hyv hyb))
                        clear hmx hyv hyb hy0
                        have g3 : (0 : Int) ≤ (i : Int) := by omega
                        have g4 : (i : Int) < (NX : Int) := by omega
                        have HAy : Hid (At w5 (w5.alloc (.cells #[.int .i64 yk, .int .i64 yt, .slice (some ⟨yg, 0, none⟩) 40 yc] 73))) := Lib.hid ((At.start w5).alloc _)
                        have HRy := Lib.hid (HRO.out _ HAy.out)
                        have HNy : Hid (∀ j v, [.int .i64 yk, .int .i64 yt, .slice (some ⟨yg, 0, none⟩) 40 yc][j]? = some v → (w5.alloc (.cells #[.int .i64 yk, .int .i64 yt, .slice (some ⟨yg, 0, none⟩) 40 yc] 73)).cell? ((⟨w5.heap.size, 0, none⟩ : Addr).add j) = some v) := Lib.hid (World.news_of_block (cs := #[.int .i64 yk, .int .i64 yt, .slice (some ⟨yg, 0, none⟩) 40 yc]) (t := 73) (fr := (0, 0)) (heap_alloc_new w5 _))
                        have e4 : decide ((i : Int) < (NX : Int)) = true := decide_eq_true (by omega)
                        go_wp2_with (at_builtin; refine wpList_append_lies _ rfl (.tmp 159) (.tmp 167) 65 rfl 0 73 i0 z0 3 40 Try.underlying65 HZ.out.1 HZ.out.2.1 HZ.out.2.2.1 HZ.out.2.2.2.1 HZ.out.2.2.2.2 (by omega) _ oN (vcs O) rfl HRy.out ⟨w5.heap.size, 0, none⟩ 1 1 [.int .i64 yk, .int .i64 yt, .slice (some ⟨yg, 0, none⟩) 40 yc] rfl rfl HNy.out (fun v hv => by simp at hv; rcases hv with rfl | rfl | rfl <;> rfl) (by omega) (by unfold maxLen; omega) (by omega) (Nat.zero_le _) _ rfl ?_; intro gg cap w8 hown hgrow hat hlt8; have HG8 := Lib.hid (And.intro hown (And.intro hgrow hat)); clear hown hgrow hat hlt8)
                        have HM8 : Hid (Mw w4 w8 X (qv T Q) (i + 1) k (.slice (some ⟨gg, 0, none⟩) (oN + 1) cap) (O ++ [((yk, yt, yd), yg, yc)])) := Lib.hid (by
                          have hgl := HMX.out.2.1.2
                          have hA5 : At w w5 := HA03.out.next HM5.out.at_
                          have := (HM5.out.on HAy.out).add (y := (yk, yt, yd)) (gc := yg) (cc := yc) (gg := gg) (cap := cap) (At.start _) (i' := i + 1) (k' := k) HMX.out.1 (by omega) (HMX.out.2.1.1.below (hA5.next HAy.out)) (Nat.lt_of_lt_of_le hgl (hA5.next HAy.out).size) HMX.out.2.2 (fun e => by have h1 := HM5.out.nw _ e; have h2 := HA03.out.size; exact absurd hgl (Nat.not_lt.2 (Nat.le_trans h2 h1))) (Or.inl HYM.out) (by rw [← HOL.out]; exact HG8.out.1) HG8.out.2.1 (HG8.out.2.2.imp_right fun e => by rw [e]; exact Nat.le_refl _)
                          rw [← HOL.out] at this
                          exact this)
                        clear HAy HRy HNy HG8 x1 x2 x3 HMX
                        go_roundw
                        case rel => exact ⟨i + 1, k, _, by omega, by omega, by go_num, rfl, Or.inl ⟨by omega, HM8⟩⟩
                        case measure => simp [RowKit.intOf]; omega
                    · have e1 : decide ((k : Int) < (u : Int)) = false := decide_eq_false (by omega)
                      have c1 : True := trivial
                      have hkn : k = u := by omega
                      by_cases hiN2 : i < NX
                      · have hiN := hiN2
                        have HNL : Hid (k < (qv T Q).length → ¬ ((qv T Q).getD k vz).1 < (X.getD i lvz).1.1) := Lib.hid fun h => by rw [qv_len, HN.out] at h; exact absurd h hku
                        obtain rfl : AX = some ⟨gx, 0, none⟩ := HGX.out (by omega)
                        have e4 : decide ((i : Int) < (NX : Int)) = true := decide_eq_true (by omega)
                        clear hiN2 hkn
                        go_wp2
                        go_quiet (fail)
                        have hA5 : At wi (wi.drewN nq) := (At.start wi).drewN nq
                        generalize wi.drewN nq = w5 at hA5 ⊢
                        have HM5 := Lib.hid (HM.out.on hA5)
                        have HRO : Hid (∀ W, At w5 W → W.ownsRow 0 73 3 (.slice A8 oN cp8) oN (vcs O)) := Lib.hid fun W hW => by
                          have := (HM5.out.vr.on hW).row
                          rw [← HOL.out] at this
                          exact this
                        clear hA5 HM d0 d1 d2 d3 d4 c1
                        obtain ⟨d0, d1, d2, d3, d4⟩ := HC.out w5 (HA3.out.next HM5.out.at_)
                        obtain ⟨x1, x2, x3⟩ := HX0.out w5 (HA03.out.next HM5.out.at_) i hiN
                        obtain ⟨y0, hy0⟩ : ∃ y : Lv, y = X.getD i lvz := ⟨_, rfl⟩
                        have HYM : Hid (y0 ∈ X) := Lib.hid (by rw [hy0]; exact lv_mem (by rw [← HNX.out]; exact hiN))
                        have hmx : Mg (X.map (·.1)) (qv T Q) (i + 1) k (O.map (·.1) ++ [y0.1]) := by
                          have hil : i < X.length := by rw [← HNX.out]; exact hiN
                          have := mg_x HM5.out.mg (by rw [List.length_map]; exact hil) (fun hk' => by rw [lv_fst X i hil]; exact Int.not_lt.2 (HNL.out hk')) HQ.out.kx.up
                          rw [lv_fst X i hil, ← hy0] at this
                          exact this
                        obtain ⟨⟨yk, yt, yd⟩, yg, yc⟩ := y0
                        rw [← hy0] at x1 x2 x3
                        simp only at x1 x2 x3
                        have hyv := (HQ.out.vr.bv _ HYM.out)
                        have hyb := HQ.out.vr.by_ _ HYM.out
                        have HMX := Lib.hid (And.intro hmx (And.intro hyv hyb))
                        clear hmx hyv hyb hy0
                        have g3 : (0 : Int) ≤ (i : Int) := by omega
                        have g4 : (i : Int) < (NX : Int) := by omega
                        have HAy : Hid (At w5 (w5.alloc (.cells #[.int .i64 yk, .int .i64 yt, .slice (some ⟨yg, 0, none⟩) 40 yc] 73))) := Lib.hid ((At.start w5).alloc _)
                        have HRy := Lib.hid (HRO.out _ HAy.out)
                        have HNy : Hid (∀ j v, [.int .i64 yk, .int .i64 yt, .slice (some ⟨yg, 0, none⟩) 40 yc][j]? = some v → (w5.alloc (.cells #[.int .i64 yk, .int .i64 yt, .slice (some ⟨yg, 0, none⟩) 40 yc] 73)).cell? ((⟨w5.heap.size, 0, none⟩ : Addr).add j) = some v) := Lib.hid (World.news_of_block (cs := #[.int .i64 yk, .int .i64 yt, .slice (some ⟨yg, 0, none⟩) 40 yc]) (t := 73) (fr := (0, 0)) (heap_alloc_new w5 _))
                        have e4 : decide ((i : Int) < (NX : Int)) = true := decide_eq_true (by omega)
                        go_wp2_with (at_builtin; refine wpList_append_lies _ rfl (.tmp 159) (.tmp 167) 65 rfl 0 73 i0 z0 3 40 Try.underlying65 HZ.out.1 HZ.out.2.1 HZ.out.2.2.1 HZ.out.2.2.2.1 HZ.out.2.2.2.2 (by omega) _ oN (vcs O) rfl HRy.out ⟨w5.heap.size, 0, none⟩ 1 1 [.int .i64 yk, .int .i64 yt, .slice (some ⟨yg, 0, none⟩) 40 yc] rfl rfl HNy.out (fun v hv => by simp at hv; rcases hv with rfl | rfl | rfl <;> rfl) (by omega) (by unfold maxLen; omega) (by omega) (Nat.zero_le _) _ rfl ?_; intro gg cap w8 hown hgrow hat hlt8; have HG8 := Lib.hid (And.intro hown (And.intro hgrow hat)); clear hown hgrow hat hlt8)
                        have HM8 : Hid (Mw w4 w8 X (qv T Q) (i + 1) k (.slice (some ⟨gg, 0, none⟩) (oN + 1) cap) (O ++ [((yk, yt, yd), yg, yc)])) := Lib.hid (by
                          have hgl := HMX.out.2.1.2
                          have hA5 : At w w5 := HA03.out.next HM5.out.at_
                          have := (HM5.out.on HAy.out).add (y := (yk, yt, yd)) (gc := yg) (cc := yc) (gg := gg) (cap := cap) (At.start _) (i' := i + 1) (k' := k) HMX.out.1 (by omega) (HMX.out.2.1.1.below (hA5.next HAy.out)) (Nat.lt_of_lt_of_le hgl (hA5.next HAy.out).size) HMX.out.2.2 (fun e => by have h1 := HM5.out.nw _ e; have h2 := HA03.out.size; exact absurd hgl (Nat.not_lt.2 (Nat.le_trans h2 h1))) (Or.inl HYM.out) (by rw [← HOL.out]; exact HG8.out.1) HG8.out.2.1 (HG8.out.2.2.imp_right fun e => by rw [e]; exact Nat.le_refl _)
                          rw [← HOL.out] at this
                          exact this)
                        clear HAy HRy HNy HG8 x1 x2 x3 HMX
                        go_roundw
                        case rel => exact ⟨i + 1, k, _, by omega, by omega, by go_num, rfl, Or.inl ⟨by omega, HM8⟩⟩
                        case measure => simp [RowKit.intOf]; omega
                      · have hie : i = NX := by omega
                        have e4 : decide ((i : Int) < (NX : Int)) = false := decide_eq_false (by omega)
                        clear hiN2
                        go_wp2
                        go_quiet (fail)
                        have hA5 : At wi (wi.drewN nq) := (At.start wi).drewN nq
                        generalize wi.drewN nq = w5 at hA5 ⊢
                        have HM5 := Lib.hid (HM.out.on hA5)
                        have HRO : Hid (∀ W, At w5 W → W.ownsRow 0 73 3 (.slice A8 oN cp8) oN (vcs O)) := Lib.hid fun W hW => by
                          have := (HM5.out.vr.on hW).row
                          rw [← HOL.out] at this
                          exact this
                        clear hA5 HM d0 d1 d2 d3 d4 c1
                        obtain ⟨d0, d1, d2, d3, d4⟩ := HC.out w5 (HA3.out.next HM5.out.at_)
                        have HM8 : Hid (Mw w4 w5 X (qv T Q) NX u (.slice A8 oN cp8) O) := Lib.hid (by have := HM5.out; rw [hie, hkn] at this; exact this)
                        have HIE := Lib.hid hie
                        have e5 : decide (i < NX) = false := decide_eq_false (by omega)
                        have e4 : decide ((i : Int) < (NX : Int)) = false := decide_eq_false (by omega)
                        clear hie
                        go_wp2
                        go_roundw
                        case rel => exact ⟨i + 1, k, _, by have := HIE.out; omega, by omega, by go_num, rfl, Or.inr ⟨by have := HIE.out; omega, hkn, HM8⟩⟩
                        case measure => simp [RowKit.intOf]; omega
                · obtain ⟨d0, d1, d2, d3, d4⟩ := HC.out wr (HA3.out.next HM.out.at_)
                  obtain ⟨A8, cp8, rfl, -, -⟩ := HM.out.vr.form
                  have HAR : Hid (At w wr) := Lib.hid (HA03.out.next HM.out.at_)
                  have hbx := HAR.out.keep HQ.out.box
                  have hqx := (HA3.out.next HM.out.at_).keep HQB.out
                  have f1 := free_at hbx 1
                  have hb1 := heap_set hbx 1 (.slice A8 O.length cp8)
                  have f2 := free_at hb1 2
                  have k2 := (cell_at hb1 2).trans rfl
                  have hmv : Mv (fun g => g = d) wr (wr.setCell ⟨d, 1, none⟩ (.slice A8 O.length cp8)) := Mv.set (F := fun g => g = d) (Mv.refl _ wr) (p := ⟨d, 1, none⟩) (Or.inl rfl) _
                  have k0 := (cell_at (hmv.keep hqx (cells_ne hqx hbx (by decide))) 0).trans rfl
                  have HE := Lib.hid (rm_turn HQ.out HA03.out (by rw [← HNX.out, HN.out]; exact HM.out) HPP.out HFI.out hc HB.out (by rw [← HNX.out]; exact hX) HN.out)
                  have e0 : decide ((i : Int) ≤ (NX : Int)) = false := decide_eq_false (by omega)
                  have e5 : decide (i ≤ NX) = false := decide_eq_false (by omega)
                  clear hbx hqx hb1 hmv
                  go_wp2
                  go_ret
                  rw [HTK.out]
                  exact ⟨⟨0, rfl⟩, HE.out⟩

end Go.Proofs.Ytcffoebpgjonmaa
