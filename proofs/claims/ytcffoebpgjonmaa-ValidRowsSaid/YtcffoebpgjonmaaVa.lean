/- Proved: whether a transaction may be committed: the document's own Valid. -/
import Derived.Test.YtcffoebpgjonmaaCk
namespace Go.Proofs.Ytcffoebpgjonmaa
open Go.RowKit
open Iv (In Nm Is Vm Va Sv EV Ow)

theorem lt_kx {X : List Vx} {M : Em.St} (h : Kx X M) {t : Int} {L : List (Int × Int)} : (∃ v ∈ X, t < v.2.1 ∧ In L v.1) ↔ Lt_ M t L := by
  constructor
  · rintro ⟨v, hv, h1, h2⟩
    have h3 := (h.rng v hv).1
    refine ⟨v.1.toNat, ?_, v.2, h.ver hv, h1⟩
    rw [Int.toNat_of_nonneg h3]; exact h2
  · rintro ⟨k, hk, u, hu, h1⟩
    rw [← h.fk k] at hu
    unfold fk at hu
    obtain ⟨v, hv, rfl⟩ := List.mem_map.1 hu
    obtain ⟨hv1, hv2⟩ := List.mem_filter.1 hv
    have e : v.1 = (k : Int) := of_decide_eq_true hv2
    exact ⟨v, hv1, h1, by rw [e]; exact hk⟩
theorem take_no {α : Type} {X : List α} {z : α} {C : α → Prop} {k : Nat} (hk : k < X.length) (h : ¬ ∃ x ∈ X.take k, C x) (h1 : ¬ C (X.getD k z)) : ¬ ∃ x ∈ X.take (k + 1), C x := by
  rintro ⟨x, hx, hc⟩
  have e : X.take (k + 1) = X.take k ++ [X.getD k z] := by
    rw [List.take_succ_eq_append_getElem hk, List.getD_eq_getElem?_getD, List.getElem?_eq_getElem hk]; rfl
  rw [e] at hx
  rcases List.mem_append.1 hx with hx | hx
  · exact h ⟨x, hx, hc⟩
  · rw [List.mem_singleton.1 hx] at hc; exact h1 hc
theorem ck_kx {X : List Vx} {M : Em.St} (hX : Kx X M) {Q : List Tx} {t : Int} {R W : List (Int × Int)} (h : W ≠ []) {v : Vx} (hv : v ∈ X) (h1 : t < v.2.1) (h2 : In R v.1 ∨ In W v.1) : ck M Q t R W = 8 :=
  ck_yes h (h2.elim (fun h2 => Or.inl (Or.inl ((lt_kx hX).1 ⟨v, hv, h1, h2⟩))) fun h2 => Or.inr (Or.inl ((lt_kx hX).1 ⟨v, hv, h1, h2⟩)))
theorem ck_q {M : Em.St} {Q : List Tx} {t : Int} {R W : List (Int × Int)} (h : W ≠ []) {x : Tx} (hx : x ∈ Q) (h2 : Ag x R ∨ Ag x W) : ck M Q t R W = 8 :=
  ck_yes h (h2.elim (fun h2 => Or.inl (Or.inr ⟨x, hx, h2⟩)) fun h2 => Or.inr (Or.inr ⟨x, hx, h2⟩))
theorem ck_none2 {X : List Vx} {M : Em.St} (hX : Kx X M) {Q : List Tx} {t : Int} {R W : List (Int × Int)} (h1 : ¬ ∃ v ∈ X, t < v.2.1 ∧ (In R v.1 ∨ In W v.1)) (h2 : ¬ ∃ x ∈ Q, Ag x R ∨ Ag x W) : ck M Q t R W = 0 := by
  refine ck_no ?_
  rintro ((h | ⟨x, hx, h⟩) | (h | ⟨x, hx, h⟩))
  · obtain ⟨v, a, b, c⟩ := (lt_kx hX).2 h; exact h1 ⟨v, a, b, Or.inl c⟩
  · exact h2 ⟨x, hx, Or.inl h⟩
  · obtain ⟨v, a, b, c⟩ := (lt_kx hX).2 h; exact h1 ⟨v, a, b, Or.inr c⟩
  · exact h2 ⟨x, hx, Or.inr h⟩

set_option maxHeartbeats 8000000 in
set_option maxRecDepth 100000 in
theorem rvalid_any {w : World} {d N : Nat} {M : Em.St} {Z : Nat → Prop} (hm : Rm w d M N Z) (hNl : N ≤ 100000000) (A : Option Addr) (Q : List Tx) (n c : Nat) (hn : Q.length = n) (hn2 : n ≤ 1000000) (hP : ∀ x ∈ Q, x.2.length ≤ 1000000) (hv : TV w A Q) (t : Int)
    {dr dw : Nat} {R W : List (Int × Int)} (hR : Dv w dr R) (hW : Dv w dw W) (hRl : R.length ≤ 1000) (hWl : W.length ≤ 1000) :
    Calls Try.prog 18 #[.pointer (some ⟨d, 0, none⟩), .slice A n c, .int .i64 t, .pointer (some ⟨dr, 0, none⟩), .pointer (some ⟨dw, 0, none⟩)] w (Gives (.int .i64 (ck M Q t R W)) w) := by
  obtain ⟨v, X, hx, hXN⟩ := hm
  have HH : Hid (∀ V, At w V → (∀ a, Calls Try.prog 30 #[.pointer (some ⟨dr, 0, none⟩), .int .i64 a] V (Gives (.bool (inB R a)) V)) ∧ ∀ a, Calls Try.prog 30 #[.pointer (some ⟨dw, 0, none⟩), .int .i64 a] V (Gives (.bool (inB W a)) V)) := Lib.hid fun V hV => ⟨fun a => rhas_any (hR.on hV) (by omega) a, fun a => rhas_any (hW.on hV) (by omega) a⟩
  have HG : Hid (∀ V, At w V → ∀ T B P m cb, P.length = m → m ≤ 1000000 → PV V B P → Calls Try.prog 16 #[.agg #[.int .i64 T, .slice B m cb], .pointer (some ⟨dr, 0, none⟩)] V (Gives (.bool (agB (T, P) R)) V) ∧ Calls Try.prog 16 #[.agg #[.int .i64 T, .slice B m cb], .pointer (some ⟨dw, 0, none⟩)] V (Gives (.bool (agB (T, P) W)) V)) := Lib.hid fun V hV T B P m cb h1 h2 h3 =>
    ⟨ragainst_any (hR.on hV) (by omega) T B P m cb h1 h2 h3, ragainst_any (hW.on hV) (by omega) T B P m cb h1 h2 h3⟩
  obtain ⟨hWn, AW, nw_, cw_, hWb, hWln, -⟩ := hW
  have d1 : w.cell? ⟨dw, 1, none⟩ = some (.slice AW nw_ cw_) := (cell_at hWb 1).trans rfl
  have hz : W = [] → nw_ = 0 := fun e => by rw [← hWln, e]; rfl
  have hp : W ≠ [] → nw_ ≠ 0 := fun e h => e (List.eq_nil_of_length_eq_zero (by rw [hWln]; exact h))
  obtain ⟨AX, cX, rfl, -, hf⟩ := hx.vr.form
  obtain ⟨l, hl⟩ : ∃ l, l = X.length := ⟨_, rfl⟩
  rw [← hl] at hf hXN
  have HX := Lib.hid hx
  have HL := Lib.hid hl
  have HF := Lib.hid hf
  have HBX := Lib.hid hx.box
  rw [← hl] at HBX
  have HV := Lib.hid hv
  have HN := Lib.hid hn
  have HPL := Lib.hid hP
  clear hx hf hl hn hv hR hRl hWl hP hWb hWln hWn
  go_enter Try.func18, Try.ntmps18
  by_cases hw0 : W = []
  · have z0 : ((nw_ : Int) == 0) = true := by rw [hz hw0]; rfl
    have HR : Hid (ck M Q t R W = 0) := Lib.hid (by rw [hw0]; exact ck_none _ _ _ _)
    clear hz hp hw0
    go_wp2
    go_ret
    exact ⟨by rw [HR.out]; rfl, At.start _⟩
  · have z0 : ((nw_ : Int) == 0) = false := by have := hp hw0; simp; omega
    have HNE := Lib.hid hw0
    clear hz hp hw0
    go_wp2
    clear d1
    go_loopw [11] (fun c11 wr => ∃ k : Nat, k ≤ l ∧ c11 = .int .i64 (k : Int) ∧ Hid (¬ ∃ v ∈ (X.map (·.1)).take k, t < v.2.1 ∧ (In R v.1 ∨ In W v.1)) ∧ Hid (At w wr)) (fun c11 _ => l - (RowKit.intOf c11).toNat)
    case atStart => exact ⟨0, Nat.zero_le _, rfl, Lib.hid (fun ⟨_, h, _⟩ => by cases h), Lib.hid (At.start w)⟩
    case round =>
      obtain ⟨k, hk, rfl, HI, HA⟩ := hrel
      have c1 : wr.cell? ⟨d, 1, none⟩ = some (.slice AX l cX) := (cell_at (HA.out.keep HBX.out) 1).trans rfl
      by_cases hlt : k < l
      · have hkX : k < X.length := by rw [← HL.out]; exact hlt
        obtain ⟨gx, rfl, hgx, hcx⟩ := HF.out (by omega)
        obtain ⟨k1, k2, -⟩ := hcx k (by rw [HL.out]; exact hkX)
        have j1 : wr.cell? ⟨gx, k * 3, none⟩ = _ := (Below.cell HA.out (p := ⟨gx, k * 3, none⟩) hgx).trans k1
        have j2 : wr.cell? ⟨gx, k * 3 + 1, none⟩ = _ := (Below.cell HA.out (p := ⟨gx, k * 3 + 1, none⟩) hgx).trans k2
        have HJ : Hid (∀ V, At wr V → V.cell? ⟨d, 1, none⟩ = some (.slice (some ⟨gx, 0, none⟩) l cX) ∧ V.cell? ⟨gx, k * 3, none⟩ = some (.int .i64 (X.getD k lvz).1.1) ∧ V.cell? ⟨gx, k * 3 + 1, none⟩ = some (.int .i64 (X.getD k lvz).1.2.1)) := Lib.hid fun V hV =>
          ⟨(cell_at ((HA.out.next hV).keep HBX.out) 1).trans rfl, (Below.cell (HA.out.next hV) (p := ⟨gx, k * 3, none⟩) hgx).trans k1, (Below.cell (HA.out.next hV) (p := ⟨gx, k * 3 + 1, none⟩) hgx).trans k2⟩
        have hkm : k < (X.map (·.1)).length := by rw [List.length_map]; exact hkX
        have hit := fun h1 => take_no (z := vz) hkm HI.out h1
        have hck := fun h1 h2 => ck_kx (Q := Q) (t := t) (R := R) HX.out.kx HNE.out (v := (X.getD k lvz).1) (List.mem_map.2 ⟨_, lv_mem hkX, rfl⟩) h1 h2
        rw [lv_fst X k hkX] at hit
        obtain ⟨x0, hx0⟩ : ∃ x, X.getD k lvz = x := ⟨_, rfl⟩
        rw [hx0] at j1 j2 HJ hit hck
        obtain ⟨⟨xk, xt, xd⟩, xg, xc⟩ := x0
        simp only at j1 j2 HJ hit hck
        have HIT := Lib.hid hit
        have HCK := Lib.hid hck
        have g1 : (0 : Int) ≤ (k : Int) := by omega
        have g2 : (k : Int) < (l : Int) := by omega
        clear hcx k1 k2 hit hck hx0 hkX hkm hgx
        by_cases e1 : t < xt
        · have z1 : decide (t < xt) = true := decide_eq_true e1
          have HE1 := Lib.hid e1
          clear e1
          go_wp2_with fail
          refine ((HH.out _ HA.out).1 xk).mono ?_
          rintro e w2 ⟨rfl, hA2⟩
          have HA2 := Lib.hid (HA.out.next hA2)
          obtain ⟨c2, m1, m2⟩ := HJ.out _ hA2
          clear hA2
          by_cases h1 : In R xk
          · rw [inB_yes h1]
            have HR := Lib.hid (HCK.out HE1.out (Or.inl h1))
            clear h1
            go_wp2
            go_ret
            exact ⟨by rw [HR.out]; rfl, HA2.out⟩
          · rw [inB_no h1]
            have HH1 := Lib.hid h1
            clear h1
            go_wp2_with fail
            refine ((HH.out _ HA2.out).2 xk).mono ?_
            rintro e w3 ⟨rfl, hA3⟩
            have HA3 := Lib.hid (HA2.out.next hA3)
            clear hA3
            by_cases h2 : In W xk
            · rw [inB_yes h2]
              have HR := Lib.hid (HCK.out HE1.out (Or.inr h2))
              clear h2
              go_wp2
              go_ret
              exact ⟨by rw [HR.out]; rfl, HA3.out⟩
            · rw [inB_no h2]
              have HI2 := Lib.hid (HIT.out fun h => h.2.elim HH1.out h2)
              clear h2
              go_wp2
              go_roundw
              case rel => exact ⟨k + 1, by omega, by go_num, HI2, HA3⟩
              case measure => simp [RowKit.intOf]; omega
        · have z1 : decide (t < xt) = false := decide_eq_false e1
          have HI2 := Lib.hid (HIT.out fun h => e1 h.1)
          clear e1
          go_wp2
          go_roundw
          case rel => exact ⟨k + 1, by omega, by go_num, HI2, HA⟩
          case measure => simp [RowKit.intOf]; omega
      · have HXN : Hid (¬ ∃ v ∈ X.map (·.1), t < v.2.1 ∧ (In R v.1 ∨ In W v.1)) := Lib.hid (by
          have := HI.out
          rwa [show k = (X.map (·.1)).length by rw [List.length_map, ← HL.out]; omega, List.take_length] at this)
        have z1 : decide ((k : Int) < (l : Int)) = false := decide_eq_false (by omega)
        have HAS : Hid (At w wr) := HA
        clear hk HI HA
        go_wp2
        clear c1
        go_loopw [12] (fun c12 wr => ∃ k : Nat, k ≤ n ∧ c12 = .int .i64 (k : Int) ∧ Hid (¬ ∃ x ∈ Q.take k, Ag x R ∨ Ag x W) ∧ Hid (At w wr)) (fun c12 _ => n - (RowKit.intOf c12).toNat)
        case atStart => exact ⟨0, Nat.zero_le _, rfl, Lib.hid (fun ⟨_, h, _⟩ => by cases h), HAS⟩
        case round =>
          clear HAS
          obtain ⟨i, hi, rfl, HI, HA⟩ := hrel
          by_cases hlt2 : i < n
          · have hiQ : i < Q.length := by rw [HN.out]; exact hlt2
            obtain ⟨gb, o, rfl, hg, hc⟩ := (HV.out.on HA.out).pos (by omega)
            obtain ⟨k1, B, cb, k2, hpv⟩ := hc i hiQ
            have hpl := HPL.out _ (tx_mem hiQ)
            have hit := fun h1 => take_no (z := txz) hiQ HI.out h1
            have hmem := fun h1 => ck_q (M := M) (t := t) (R := R) HNE.out (tx_mem hiQ) h1
            obtain ⟨x0, hx0⟩ : ∃ x, Q.getD i txz = x := ⟨_, rfl⟩
            rw [hx0] at k1 k2 hpv hpl hit hmem
            obtain ⟨T, P⟩ := x0
            simp only at k1 k2 hpv hpl
            obtain ⟨m, hm⟩ : ∃ m, P.length = m := ⟨_, rfl⟩
            rw [hm] at k2 hpl
            have HIT := Lib.hid hit
            have HMEM := Lib.hid hmem
            have HGG : Hid (∀ V, At wr V → _) := Lib.hid fun V (hV : At wr V) => HG.out V (HA.out.next hV) T B P m cb hm hpl (hpv.on hV)
            have HK : Hid (∀ V, At wr V → V.cell? ⟨gb, o + i * 2, none⟩ = some (.int .i64 T) ∧ V.cell? ⟨gb, o + i * 2 + 1, none⟩ = some (.slice B m cb)) := Lib.hid fun V hV =>
              ⟨(Below.cell hV (p := ⟨gb, o + i * 2, none⟩) hg).trans k1, (Below.cell hV (p := ⟨gb, o + i * 2 + 1, none⟩) hg).trans k2⟩
            have f1 : (0 : Int) ≤ (i : Int) := by omega
            have f2 : (i : Int) < (n : Int) := by omega
            clear hc hit hmem hx0 hiQ hg hm hpv
            go_wp2_with fail
            refine (HGG.out _ (At.start _)).1.mono ?_
            rintro e w4 ⟨rfl, hA4⟩
            have hA4' : At wr w4 := hA4
            obtain ⟨m1, m2⟩ := HK.out _ hA4'
            have HA4 : Hid (At wr w4) := Lib.hid hA4'
            clear hA4 hA4'
            by_cases h1 : Ag (T, P) R
            · rw [agB_yes h1]
              have HR := Lib.hid (HMEM.out (Or.inl h1))
              clear h1
              go_wp2
              go_ret
              exact ⟨by rw [HR.out]; rfl, HA.out.next HA4.out⟩
            · rw [agB_no h1]
              have HH1 := Lib.hid h1
              clear h1
              go_wp2_with fail
              refine (HGG.out _ HA4.out).2.mono ?_
              rintro e w5 ⟨rfl, hA5⟩
              have HA5 := Lib.hid ((HA.out.next HA4.out).next hA5)
              clear hA5
              by_cases h2 : Ag (T, P) W
              · rw [agB_yes h2]
                have HR := Lib.hid (HMEM.out (Or.inr h2))
                clear h2
                go_wp2
                go_ret
                exact ⟨by rw [HR.out]; rfl, HA5.out⟩
              · rw [agB_no h2]
                have HI2 := Lib.hid (HIT.out fun h => h.elim HH1.out h2)
                clear h2
                go_wp2
                go_roundw
                case rel => exact ⟨i + 1, by omega, by go_num, HI2, HA5⟩
                case measure => simp [RowKit.intOf]; omega
          · have HR := Lib.hid (ck_none2 (Q := Q) (t := t) (R := R) (W := W) HX.out.kx HXN.out (by have := HI.out; rwa [show i = Q.length by rw [HN.out]; omega, List.take_length] at this))
            have z2 : decide ((i : Int) < (n : Int)) = false := decide_eq_false (by omega)
            clear hi
            go_wp2
            go_ret
            exact ⟨by rw [HR.out]; rfl, HA.out⟩

end Go.Proofs.Ytcffoebpgjonmaa
