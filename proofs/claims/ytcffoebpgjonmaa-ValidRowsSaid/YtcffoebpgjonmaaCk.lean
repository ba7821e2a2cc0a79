/- Proved: whether a transaction may be committed: the landed Check. -/
import Derived.Test.YtcffoebpgjonmaaCg
import Derived.Deep.Cut
namespace Go.Proofs.Ytcffoebpgjonmaa
open Go.RowKit
open Iv (In Nm Is Vm Va Sv EV Ow)

theorem sm_pos {L : List (Int × Int)} (h : Nm L) (h0 : L ≠ []) : ¬ Iv.sm L = 0 := by
  intro e
  cases L with
  | nil => exact h0 rfl
  | cons x L =>
    have hv := h.1 x List.mem_cons_self
    unfold Vm at hv
    have hs : 0 ≤ Iv.sm L := (Iv.sm_le h.tail).1
    have e2 : Iv.sm (x :: L) = x.2 + Iv.sm L := rfl
    omega
/-- One of the two sets. -/
def ss (R W : List (Int × Int)) (k : Nat) : List (Int × Int) := if k = 0 then R else W
theorem ck_any {M : Em.St} {Q : List Tx} {t : Int} {R W : List (Int × Int)} (h : W ≠ []) {k : Nat} (hc : Cf M Q t (ss R W k)) : ck M Q t R W = 8 := by
  refine ck_yes h ?_
  unfold ss at hc
  by_cases e : k = 0
  · rw [if_pos e] at hc; exact Or.inl hc
  · rw [if_neg e] at hc; exact Or.inr hc
theorem ck_two {M : Em.St} {Q : List Tx} {t : Int} {R W : List (Int × Int)} (h : ∀ j, j < 2 → ¬ Cf M Q t (ss R W j)) : ck M Q t R W = 0 :=
  ck_no fun hc => hc.elim (h 0 (by omega)) (h 1 (by omega))
theorem ag_take {Q : List Tx} {S : List (Int × Int)} {k : Nat} (hk : k < Q.length) (h : ¬ ∃ x ∈ Q.take k, Ag x S) (h1 : ¬ Ag (Q.getD k txz) S) : ¬ ∃ x ∈ Q.take (k + 1), Ag x S := by
  rintro ⟨x, hx, ha⟩
  have e : Q.take (k + 1) = Q.take k ++ [Q.getD k txz] := by
    rw [List.take_succ_eq_append_getElem hk, List.getD_eq_getElem?_getD, List.getElem?_eq_getElem hk]; rfl
  rw [e] at hx
  rcases List.mem_append.1 hx with hx | hx
  · exact h ⟨x, hx, ha⟩
  · rw [List.mem_singleton.1 hx] at ha; exact h1 ha

set_option maxHeartbeats 8000000 in
set_option maxRecDepth 100000 in
theorem check_any {w : World} {b : Nat} {M : Em.St} {F : Nat → Prop} (hm : Em.Mp w b M F) (hU : Up M) (A : Option Addr) (Q : List Tx) (n c : Nat) (hn : Q.length = n) (hn2 : n ≤ 1000000) (hP : ∀ x ∈ Q, x.2.length ≤ 1000000) (hv : TV w A Q) (t : Int)
    {br bw : Nat} {vr vw : Value} {mr mw : Int} {R W : List (Int × Int)} (hR : Sv w br vr mr R) (hW : Sv w bw vw mw W) (hRl : R.length ≤ 1000) (hWl : W.length ≤ 1000) :
    Calls Try.prog 17 #[.pointer (some ⟨b, 0, none⟩), .slice A n c, .int .i64 t, .pointer (some ⟨br, 0, none⟩), .pointer (some ⟨bw, 0, none⟩)] w (Gives (.int .i64 (ck M Q t R W)) w) := by
  have HCO := Lib.hid (Iv.count_any hW (by omega))
  have HS : Hid (∀ k, k < 2 → ∃ bs vs ms, (k = 0 ∧ bs = br ∨ k = 1 ∧ bs = bw) ∧ Sv w bs vs ms (ss R W k) ∧ (ss R W k).length ≤ 1000) := Lib.hid fun k hk => by
    by_cases e : k = 0
    · subst e; exact ⟨br, vr, mr, Or.inl ⟨rfl, rfl⟩, hR, hRl⟩
    · have e1 : ss R W k = W := if_neg e
      rw [e1]; exact ⟨bw, vw, mw, Or.inr ⟨by omega, rfl⟩, hW, hWl⟩
  have HCG : Hid (∀ V, At w V → ∀ (a m : Int), Vm (a, m) → Calls Try.prog 33 #[.pointer (some ⟨b, 0, none⟩), .agg #[.int .i64 a, .int .i64 m], .int .i64 t] V (Gives (.bool (chB M t (a, m))) V)) := Lib.hid fun V hV a m he => changed_any (hm.on hV) hU he t
  have HV := Lib.hid hv
  have HN := Lib.hid hn
  have HPL := Lib.hid hP
  have hz : W = [] → Iv.sm W = 0 := fun e => by rw [e]; rfl
  have hp : W ≠ [] → ¬ Iv.sm W = 0 := sm_pos hW.nm
  obtain ⟨s, hs⟩ : ∃ s, s = Iv.sm W := ⟨_, rfl⟩
  rw [← hs] at HCO hz hp
  clear hm hU hn hv hR hW hRl hWl hP hs
  go_enter Try.func17, Try.ntmps17
  go_wp2_with fail
  go_step3
  go_wp2_with fail
  refine HCO.out.mono ?_
  rintro e w1 ⟨rfl, hA1⟩
  have HA1 : Hid (At w w1) := Lib.hid hA1
  clear hA1 HCO
  by_cases hw0 : W = []
  · have z0 : (s == 0) = true := by rw [hz hw0]; rfl
    have HR : Hid (ck M Q t R W = 0) := Lib.hid (by rw [hw0]; exact ck_none _ _ _ _)
    clear hz hp
    go_wp2_with fail
    try rw [Exit.noGoto_ret]
    go_ret
    exact ⟨by rw [HR.out]; rfl, HA1.out⟩
  · have z0 : (s == 0) = false := by simpa using hp hw0
    have HNE := Lib.hid hw0
    clear hz hp hw0
    obtain ⟨q, hq⟩ : ∃ q, w1.heap.size = q := ⟨_, rfl⟩
    obtain ⟨w2, hw2⟩ : ∃ w2, w1.alloc (.cells #[.pointer (some ⟨br, 0, none⟩), .pointer (some ⟨bw, 0, none⟩)] 38) = w2 := ⟨_, rfl⟩
    have hQ : w2.heap[q]? = some (.cells #[.pointer (some ⟨br, 0, none⟩), .pointer (some ⟨bw, 0, none⟩)] 38 (0, 0)) := by rw [← hw2, ← hq]; exact heap_alloc_new w1 _
    have HQ := Lib.hid hQ
    have HA2 : Hid (At w w2) := Lib.hid (HA1.out.next (by rw [← hw2]; exact (At.start w1).alloc _))
    clear hQ HA1
    go_wp2_with fail
    go_step3
    go_wp2_with fail
    clear hw2 hq
    go_loopw [11, 25] (fun c11 c25 wr => ∃ k : Nat, k ≤ 2 ∧ c25 = .int .i64 (k : Int) ∧ c11 = .int .i64 0 ∧ Hid (∀ j, j < k → ¬ Cf M Q t (ss R W j)) ∧ Hid (At w2 wr)) (fun _ c25 _ => 2 - (RowKit.intOf c25).toNat)
    case atStart => exact ⟨0, Nat.zero_le _, rfl, rfl, Lib.hid (fun j h => absurd h (Nat.not_lt_zero j)), Lib.hid (At.start w2)⟩
    case round =>
      obtain ⟨k, hk, rfl, rfl, HC, HA⟩ := hrel
      by_cases hlt : k < 2
      · obtain ⟨bs, vs, ms, hbs, hsv, hsl⟩ := HS.out k hlt
        have hck := fun h => ck_any (M := M) (Q := Q) (t := t) HNE.out (R := R) (k := k) h
        have hmore : ¬ Cf M Q t (ss R W k) → ∀ j, j < k + 1 → ¬ Cf M Q t (ss R W j) := fun h j hj => by
          by_cases e : j = k
          · rw [e]; exact h
          · exact HC.out j (by omega)
        obtain ⟨S, hSe⟩ : ∃ S, S = ss R W k := ⟨_, rfl⟩
        rw [← hSe] at hsv hsl hck hmore
        have hcell : wr.cell? ⟨q, k, none⟩ = some (.pointer (some ⟨bs, 0, none⟩)) := by
          rw [cell_at (HA.out.keep HQ.out)]
          rcases hbs with ⟨rfl, rfl⟩ | ⟨rfl, rfl⟩ <;> rfl
        have HSV := Lib.hid hsv
        have HCK := Lib.hid hck
        have HMO := Lib.hid hmore
        have g1 : (0 : Int) ≤ (k : Int) := by omega
        have g2 : (k : Int) < 2 := by omega
        have HAS : Hid (At w2 wr) := HA
        clear hsv hck hmore hSe hbs HC HA
        go_wp2_with fail
        go_loopw [11, 31] (fun c11 c31 wx => ∃ i : Nat, i ≤ n ∧ c31 = .int .i64 (i : Int) ∧ c11 = .int .i64 0 ∧ Hid (¬ ∃ x ∈ Q.take i, Ag x S) ∧ Hid (At w2 wx)) (fun _ c31 _ => n - (RowKit.intOf c31).toNat)
        case atStart => exact ⟨0, Nat.zero_le _, rfl, rfl, Lib.hid (fun ⟨_, h, _⟩ => by cases h), HAS⟩
        case round =>
          clear hcell HAS
          obtain ⟨i, hi, rfl, rfl, HI, HA⟩ := hrel
          by_cases hlt2 : i < n
          · have hiQ : i < Q.length := by rw [HN.out]; exact hlt2
            obtain ⟨gb, o, rfl, hg, hc⟩ := (HV.out.on (HA2.out.next HA.out)).pos (by omega)
            obtain ⟨k1, B, cb, k2, hpv⟩ := hc i hiQ
            have hpl := HPL.out _ (tx_mem hiQ)
            have hit := fun h1 => ag_take hiQ HI.out h1
            have hmem : Ag (Q.getD i txz) S → Cf M Q t S := fun h1 => Or.inr ⟨_, tx_mem hiQ, h1⟩
            obtain ⟨x0, hx0⟩ : ∃ x, Q.getD i txz = x := ⟨_, rfl⟩
            rw [hx0] at k1 k2 hpv hpl hit hmem
            obtain ⟨T, P⟩ := x0
            simp only at k1 k2 hpv hpl
            obtain ⟨m, hm⟩ : ∃ m, P.length = m := ⟨_, rfl⟩
            rw [hm] at k2 hpl
            have HIT := Lib.hid hit
            have HMEM := Lib.hid hmem
            have f1 : (0 : Int) ≤ (i : Int) := by omega
            have f2 : (i : Int) < (n : Int) := by omega
            have hAb : At wr (wr.alloc (.cells #[.int .i64 T, .slice B m cb] 36)) := (At.start wr).alloc _
            have HAB := Lib.hid (HA.out.next hAb)
            have HAG := Lib.hid (against_any (HSV.out.on (HA2.out.next HAB.out)) (by omega) T B P m cb hm hpl (hpv.on hAb))
            clear hc hit hmem hx0 hiQ hg hm hAb hpv
            go_wp2_with fail
            refine HAG.out.mono ?_
            rintro e w4 ⟨rfl, hA4⟩
            have HA4 := Lib.hid (HAB.out.next hA4)
            clear hA4
            by_cases hag : Ag (T, P) S
            · rw [agB_yes hag]
              have HR := Lib.hid (HCK.out (HMEM.out hag))
              clear hag
              go_wp2_with fail
              try rw [Exit.noGoto_ret]
              go_ret
              exact ⟨by rw [HR.out]; rfl, HA2.out.next HA4.out⟩
            · rw [agB_no hag]
              have HI2 := Lib.hid (HIT.out hag)
              clear hag
              go_wp2_with fail
              go_roundw
              case rel => exact ⟨i + 1, by omega, by go_num, rfl, HI2, HA4⟩
              case measure => simp [RowKit.intOf]; omega
          · have HQN : Hid (¬ ∃ x ∈ Q, Ag x S) := Lib.hid (by have := HI.out; rwa [show i = Q.length by rw [HN.out]; omega, List.take_length] at this)
            have HEX := Lib.hid (Iv.extents_any (HSV.out.on (HA2.out.next HA.out)) (by omega))
            have z2 : decide ((i : Int) < (n : Int)) = false := decide_eq_false (by omega)
            clear HI hi
            go_wp2_with fail
            refine HEX.out.mono ?_
            rintro e w5 ⟨v5, rfl, hO5, hA5, -⟩
            obtain ⟨A5, c5, rfl, -, -, hE5⟩ := hO5.ev
            obtain ⟨l, hl⟩ : ∃ l, l = S.length := ⟨_, rfl⟩
            rw [← hl]
            have HL := Lib.hid hl
            have HE5 := Lib.hid hE5
            have HA5 := Lib.hid (HA.out.next hA5)
            have hl2 : l ≤ 1000 := by omega
            clear hl hE5 hA5 hO5 HEX HA
            go_wp2_with fail
            go_loopw [11, 42] (fun c11 c42 wx => ∃ i : Nat, i ≤ l ∧ c42 = .int .i64 (i : Int) ∧ c11 = .int .i64 0 ∧ Hid (¬ Lt_ M t (S.take i)) ∧ Hid (At w5 wx)) (fun _ c42 _ => l - (RowKit.intOf c42).toNat)
            case atStart => exact ⟨0, Nat.zero_le _, rfl, rfl, Lib.hid (fun ⟨_, h, _⟩ => Iv.in_nil _ h), Lib.hid (At.start w5)⟩
            case round =>
              obtain ⟨i, hi, rfl, rfl, HI, HA⟩ := hrel
              by_cases hlt3 : i < l
              · have hiS : i < S.length := by rw [← HL.out]; exact hlt3
                obtain ⟨gb, o, rfl, hg, hc⟩ := (HE5.out.on HA.out).pos (by omega)
                obtain ⟨k1, k2⟩ := hc i hiS
                have hvm := HSV.out.nm.1 _ (Iv.getD_mem hiS)
                have hit := fun h1 => lt_take (M := M) (t := t) hiS HI.out h1
                have hmem : Ch M t (S.getD i (0, 0)) → Cf M Q t S := fun h1 => Or.inl (lt_at hiS h1)
                obtain ⟨x0, hx0⟩ : ∃ x, S.getD i (0, 0) = x := ⟨_, rfl⟩
                rw [hx0] at k1 k2 hvm hit hmem
                obtain ⟨y, yn⟩ := x0
                simp only at k1 k2
                have HIT := Lib.hid hit
                have HMEM := Lib.hid hmem
                have f1 : (0 : Int) ≤ (i : Int) := by omega
                have f2 : (i : Int) < (l : Int) := by omega
                have hAb : At wr (wr.alloc (.cells #[.int .i64 y, .int .i64 yn] 49)) := (At.start wr).alloc _
                have HAB := Lib.hid (HA.out.next hAb)
                have HAG := Lib.hid (HCG.out _ (HA2.out.next (HA5.out.next HAB.out)) y yn hvm)
                clear hc hit hmem hx0 hiS hg hAb hvm
                go_wp2_with fail
                refine HAG.out.mono ?_
                rintro e w6 ⟨rfl, hA6⟩
                have HA6 := Lib.hid (HAB.out.next hA6)
                clear hA6
                by_cases hag : Ch M t (y, yn)
                · rw [chB_yes hag]
                  have HR := Lib.hid (HCK.out (HMEM.out hag))
                  clear hag
                  go_wp2_with fail
                  try rw [Exit.noGoto_ret]
                  go_ret
                  exact ⟨by rw [HR.out]; rfl, HA2.out.next (HA5.out.next HA6.out)⟩
                · rw [chB_no hag]
                  have HI2 := Lib.hid (HIT.out hag)
                  clear hag
                  go_wp2_with fail
                  go_roundw
                  case rel => exact ⟨i + 1, by omega, by go_num, rfl, HI2, HA6⟩
                  case measure => simp [RowKit.intOf]; omega
              · have HC2 := Lib.hid (HMO.out fun h => h.elim (by have := HI.out; rwa [show i = S.length by rw [← HL.out]; omega, List.take_length] at this) HQN.out)
                have z3 : decide ((i : Int) < (l : Int)) = false := decide_eq_false (by omega)
                clear hi
                go_wp2_with fail
                go_roundw
                case rel => exact ⟨k + 1, by omega, by go_num, rfl, HC2, Lib.hid (HA5.out.next HA.out)⟩
                case measure => simp [RowKit.intOf]; omega
      · have HR := Lib.hid (ck_two (M := M) (Q := Q) (t := t) (R := R) (W := W) fun j hj => HC.out j (by omega))
        have z2 : decide ((k : Int) < 2) = false := decide_eq_false (by omega)
        clear hk
        go_wp2_with fail
        try rw [Exit.noGoto_ret]
        go_ret
        exact ⟨by rw [HR.out]; rfl, HA2.out.next HA.out⟩

end Go.Proofs.Ytcffoebpgjonmaa
