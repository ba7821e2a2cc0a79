/- Proved: the law ValidMore's walk: what conflicts goes on conflicting, when it read or wrote more, when it began earlier, and when more was committed. -/
import Derived.Test.YtcffoebpgjonmaaMt
namespace Go.Proofs.Ytcffoebpgjonmaa
open Go.RowKit
open Iv (In Nm Is Vm Va Sv EV Ow allB nf)

theorem lt_mono {M : Em.St} {s t : Int} {L K : List (Int × Int)} (h : Lt_ M t L) (hs : s ≤ t) (hL : ∀ x, In L x → In K x) : Lt_ M s K := by
  obtain ⟨k, hk, v, hv, h1⟩ := h
  exact ⟨k, hL _ hk, v, hv, by omega⟩
theorem all_app {r m : List (Int × Int)} (h : allB (r ++ m) = true) : allB r = true := Iv.allB_yes fun e he => (Iv.allB_iff _).1 h e (List.mem_append_left _ he)
theorem ck_more {M : Em.St} {t : Int} {r w m : List (Int × Int)} (h : ck M [] t (ex r) (ex w) = 8) (h0 : ex (r ++ m) ≠ []) : ck M [] t (ex (r ++ m)) (ex w) = 8 := by
  have ha : allB (r ++ m) = true := by
    cases e : allB (r ++ m) with
    | true => rfl
    | false => exact absurd (ex_no e) h0
  obtain ⟨h1, h2⟩ := ck_8 h
  refine ck_yes h1 (h2.imp (fun h => h.imp (fun h => lt_mono h (Int.le_refl _) fun x hx => ?_) fun h => by obtain ⟨_, h, _⟩ := h; cases h) id)
  rw [ex_in (all_app ha)] at hx
  rw [ex_in ha, Iv.in_app]; exact Or.inl hx
theorem ck_early {M : Em.St} {t s : Int} {R W : List (Int × Int)} (h : ck M [] t R W = 8) (hs : s ≤ t) : ck M [] s R W = 8 := by
  obtain ⟨h1, h2⟩ := ck_8 h
  exact ck_yes h1 (h2.imp (fun h => h.imp (fun h => lt_mono h hs fun _ => id) fun h => by obtain ⟨_, h, _⟩ := h; cases h) (fun h => h.imp (fun h => lt_mono h hs fun _ => id) fun h => by obtain ⟨_, h, _⟩ := h; cases h))

/-- Extents appended to a row of the call's own, from whatever slice. -/
def Lay2 (w : World) (v : Value) (v' : Value) (M : List (Int × Int)) (w' : World) : Prop := Ow w' v' M ∧ Mv (fun g => v.ownBlock = some g) w w' ∧ (v'.ownBlock = v.ownBlock ∨ v'.ownBlock = some w.heap.size)
theorem lay2_new {w0 w w' : World} {v v' : Value} {M : List (Int × Int)} (h : Lay2 w v v' M w') (hA : At w0 w) (hv : ∀ g, v.ownBlock = some g → w0.heap.size ≤ g) : At w0 w' ∧ ∀ g, v'.ownBlock = some g → w0.heap.size ≤ g := by
  refine ⟨h.2.1.at_ hA hv, fun g hg => ?_⟩
  rcases h.2.2 with e | e
  · exact hv g (by rw [← e]; exact hg)
  · rw [e] at hg
    injection hg with hg
    rw [← hg]; exact hA.size
theorem ow_slice {w : World} {A : Option Addr} {n c : Nat} {L : List (Int × Int)} (h : Ow w (.slice A n c) L) : EV w A L ∧ L.length = n ∧ (A = none → n = 0 ∧ c = 0) := by
  rcases h.form with ⟨e, rfl⟩ | ⟨g, c', T, e, h1, h2, h3, h4⟩
  · injection e with e1 e2 e3
    subst e1 e2 e3
    exact ⟨EV.nil _ _, rfl, fun _ => ⟨rfl, rfl⟩⟩
  · obtain ⟨A', c2, e', -, -, hv⟩ := h.ev
    injection e' with f1 f2 f3
    rw [f1]
    injection e with g1 g2 g3
    exact ⟨hv, f2.symm, fun hn => by rw [← f1, g1] at hn; cases hn⟩
theorem run_evs (w : World) (ty : TypeId) (B : Option Addr) (m cb : Nat) (M : List (Int × Int)) (hv : Ow w (.slice B m cb) M) (hm : M.length = m) (A : Option Addr) (n c : Nat) (L : List (Int × Int)) (hx : EV w A L) (hl : L.length = n) (hz : A = none → n = 0 ∧ c = 0) (hmn : m + n ≤ 400000) :
    ∃ A' c' w', (Builtin.append_ #[23, 23] ty #[.slice B m cb, .slice A n c]).run Try.prog w = .ok (.slice A' (m + n) c') w' ∧ Lay2 w (.slice B m cb) (.slice A' (m + n) c') (M ++ L) w' := by
  obtain ⟨i0, hi, hz0, hz1, hz2⟩ := info_parts Iv.info_ext
  have hw : w.ownsRow 0 49 2 (.slice B m cb) m (Iv.fl M) := by have := hv; unfold Ow at this; rw [hm] at this; exact this
  cases A with
  | none =>
    obtain ⟨rfl, rfl⟩ := hz rfl
    have hL : L = [] := List.eq_nil_of_length_eq_zero hl
    subst hL
    refine ⟨B, cb, w, ?_, by rw [List.append_nil]; exact hv, Mv.refl _ _, Or.inl rfl⟩
    exact run_append_owned_none (P := Try.prog) (w := w) 0 23 ty 49 i0 2 Try.underlying23 hi _ m _ hw
  | some ad =>
    have hcells : ∀ j u, (Iv.fl L)[j]? = some u → w.cell? (ad.add j) = some u := by
      rcases Nat.eq_zero_or_pos L.length with h0 | h0
      · rw [List.eq_nil_of_length_eq_zero h0]; intro j u h; simp [Iv.fl] at h
      · obtain ⟨ad', e, -, h⟩ := hx.cells h0
        injection e with e
        subst e
        exact h
    obtain ⟨v', w', hr, q2, q3, _, q5⟩ := run_append_own_at (P := Try.prog) w 0 23 ty 49 i0 _ 2 16 Try.underlying23 hi hz0 hz1 hz2 rfl (by decide) _ m (Iv.fl M) hw ad n c (Iv.fl L) (by rw [Iv.fl_len, hl]) hcells (fun u hu => Iv.fl_cells u L hu) (by unfold maxLen; omega) (by omega) (Nat.zero_le _)
    have q : ∃ A' c', v' = .slice A' (m + n) c' := by
      rcases Joins.ownsRow_forms q2 with ⟨rfl, h0⟩ | ⟨g, cap, rfl⟩
      · exact ⟨none, 0, by rw [h0]⟩
      · exact ⟨_, _, rfl⟩
    obtain ⟨A', c', rfl⟩ := q
    refine ⟨A', c', w', hr, ?_, (Mv.refl _ _).grown q3 fun k hk => Or.inl hk, ?_⟩
    · unfold Ow
      rw [Iv.fl_app, List.length_append, hm, hl]; exact q2
    · rcases q5 with h | h
      · exact Or.inl h
      · exact Or.inr h
theorem evs_append {w : World} {ops : Array Oper} {rest : List Oper} {o : Oper} {a : Act} {Q : Exit → Act → World → Prop} (hgd : o.guard = none) (s x : Operand)
    (ho : o.op = .call { callee := .builtin .append, args := #[s, x], argTypes := #[23, 23] }) (B : Option Addr) (m cb : Nat) (M : List (Int × Int)) (hs : a.eval s = .slice B m cb) (hv : Ow w (.slice B m cb) M) (hm : M.length = m) (A : Option Addr) (n c : Nat) (L : List (Int × Int)) (hx : a.eval x = .slice A n c) (hxv : EV w A L) (hl : L.length = n) (hz : A = none → n = 0 ∧ c = 0) (hmn : m + n ≤ 400000) (r : Nat) (hr : m + n = r)
    (h : ∀ A' c' w', Hid (Lay2 w (.slice B m cb) (.slice A' r c') (M ++ L) w') → wpList Try.prog ops Q rest (a.put o.dst (.slice A' r c')) w') : wpList Try.prog ops Q (o :: rest) a w := by
  subst hr
  refine wpList_plain hgd fun K hK => ?_
  obtain ⟨A', c', w', hr, h2⟩ := run_evs w o.type B m cb M hv hm A n c L hxv hl hz hmn
  unfold Oper.wp execOp
  simp only [ho, resolve, invoke, builtin, Sem.run_bind, Sem.run_pure, Result.andThen_ok, List.map_toArray, List.map_cons, List.map_nil, hs, hx, hr]
  exact hK _ _ (h A' c' w' (Lib.hid h2))

set_option maxHeartbeats 8000000 in
set_option maxRecDepth 100000 in
theorem more_any (A0 : Option Addr) (L : List Tx) (n0 c0 : Nat) (hL : L.length = n0) (hn0 : n0 ≤ maxLen) (hLk : ∀ x ∈ L, TOk x) (t : Int)
    (A2 : Option Addr) (R : List (Int × Int)) (n2 c2 : Nat) (hR : R.length = n2) (hz2 : A2 = none → n2 = 0 ∧ c2 = 0) (A3 : Option Addr) (W : List (Int × Int)) (n3 c3 : Nat) (hW : W.length = n3) (hz3 : A3 = none → n3 = 0 ∧ c3 = 0)
    (A4 : Option Addr) (U : List (Int × Int)) (n4 c4 : Nat) (hU : U.length = n4) (hz4 : A4 = none → n4 = 0 ∧ c4 = 0) (el : Int)
    (w : World) (hvL : TV w A0 L) (hvR : EV w A2 R) (hvW : EV w A3 W) (hvU : EV w A4 U) :
    Calls Try.prog 5 #[.slice A0 n0 c0, .int .i64 t, .slice A2 n2 c2, .slice A3 n3 c3, .slice A4 n4 c4, .int .i64 el] w (Gives (.bool true) w) := by
  have HSM := Lib.hid (small_any A0 none L [] n0 c0 0 0 hL rfl hn0 (Nat.zero_le _) hLk (fun _ h => by cases h) A2 A3 n2 c2 n3 c3 w hvL (TV.nil _ _))
  have HVL := Lib.hid hvL
  have HVR := Lib.hid hvR
  have HVW := Lib.hid hvW
  have HVU := Lib.hid hvU
  have HL := Lib.hid hL
  have HR := Lib.hid (And.intro hR hz2)
  have HW := Lib.hid (And.intro hW hz3)
  have HU := Lib.hid (And.intro hU hz4)
  have HLK := Lib.hid hLk
  have HNM := Lib.hid (fun W => Em.new_any 50 (by omega) (by omega) W)
  rw [show ((50 : Nat) : Int) = 50 from rfl] at HNM
  clear hvL hvR hvW hvU hL hR hz2 hW hz3 hU hz4 hLk hn0
  go_enter Try.func5, Try.ntmps5
  go_wp2_with fail
  refine HSM.out.mono ?_
  rintro e w1 ⟨bs, rfl, hsm, hA⟩
  have HA1 : Hid (At w w1) := Lib.hid hA
  have HSZ := Lib.hid hsm
  clear hA hsm HSM
  cases bs
  · go_wp2_with fail
    refine (awake_any _).mono ?_
    rintro e w2 ⟨rfl, hA⟩
    have HA2 := Lib.hid (HA1.out.next hA)
    clear hA
    go_wp2
    go_ret
    exact ⟨rfl, HA2.out⟩
  · have HS1 := Lib.hid (HSZ.out rfl)
    have hlim : n0 ≤ 10000 ∧ n2 ≤ 60 ∧ n3 ≤ 60 := by
      obtain ⟨h1, h2, h3, h4⟩ := HS1.out
      rw [HL.out] at h1
      omega
    obtain ⟨hl0, hl2, hl3⟩ := hlim
    have HLP : Hid (∀ x ∈ L, x.2.length ≤ 1000000) := Lib.hid fun x hx => by have := tot_mem hx; have := HS1.out.1; omega
    clear HSZ HS1
    by_cases h0 : 30 < n4
    · have z0 : decide ((30 : Int) < (n4 : Int)) = true := decide_eq_true (by omega)
      clear h0
      go_wp2_with fail
      refine (awake_any _).mono ?_
      rintro e w2 ⟨rfl, hA⟩
      have HA2 := Lib.hid (HA1.out.next hA)
      clear hA
      go_wp2
      go_ret
      exact ⟨rfl, HA2.out⟩
    · have z0 : decide ((30 : Int) < (n4 : Int)) = false := decide_eq_false (by omega)
      by_cases h1 : n3 = 0
      · have z1 : ((n3 : Int) == 0) = true := by rw [h1]; rfl
        clear h1
        go_wp2_with fail
        refine (awake_any _).mono ?_
        rintro e w2 ⟨rfl, hA⟩
        have HA2 := Lib.hid (HA1.out.next hA)
        clear hA
        go_wp2
        go_ret
        exact ⟨rfl, HA2.out⟩
      · have z1 : ((n3 : Int) == 0) = false := by simp; omega
        by_cases h2 : el < 0
        · have z2 : decide (el < 0) = true := decide_eq_true (by omega)
          clear h2
          go_wp2_with fail
          refine (awake_any _).mono ?_
          rintro e w2 ⟨rfl, hA⟩
          have HA2 := Lib.hid (HA1.out.next hA)
          clear hA
          go_wp2
          go_ret
          exact ⟨rfl, HA2.out⟩
        · have z2 : decide (el < 0) = false := decide_eq_false (by omega)
          by_cases h3 : 1073741824 < el
          · have z3 : decide ((1073741824 : Int) < el) = true := decide_eq_true (by omega)
            clear h3
            go_wp2_with fail
            refine (awake_any _).mono ?_
            rintro e w2 ⟨rfl, hA⟩
            have HA2 := Lib.hid (HA1.out.next hA)
            clear hA
            go_wp2
            go_ret
            exact ⟨rfl, HA2.out⟩
          · have z3 : decide ((1073741824 : Int) < el) = false := decide_eq_false (by omega)
            by_cases h4 : t < -1099511627776
            · have z4 : decide (t < -1099511627776) = true := decide_eq_true (by omega)
              clear h4
              go_wp2_with fail
              refine (awake_any _).mono ?_
              rintro e w2 ⟨rfl, hA⟩
              have HA2 := Lib.hid (HA1.out.next hA)
              clear hA
              go_wp2
              go_ret
              exact ⟨rfl, HA2.out⟩
            · have z4 : decide (t < -1099511627776) = false := decide_eq_false (by omega)
              by_cases h5 : 2199023255552 < t
              · have z5 : decide ((2199023255552 : Int) < t) = true := decide_eq_true (by omega)
                clear h5
                go_wp2_with fail
                refine (awake_any _).mono ?_
                rintro e w2 ⟨rfl, hA⟩
                have HA2 := Lib.hid (HA1.out.next hA)
                clear hA
                go_wp2
                go_ret
                exact ⟨rfl, HA2.out⟩
              · have z5 : decide ((2199023255552 : Int) < t) = false := decide_eq_false (by omega)
                have HM3 : Hid (W ≠ []) := Lib.hid fun e => h1 (by rw [← HW.out.1, e]; rfl)
                have HEL : Hid (0 ≤ el ∧ el ≤ 1073741824 ∧ -1099511627776 ≤ t ∧ t ≤ 2199023255552) := Lib.hid (by omega)
                have hl4 : n4 ≤ 30 := by omega
                clear h0 h1 h2 h3 h4 h5
                go_wp2_with fail
                refine (HNM.out _).mono ?_
                rintro e w2 ⟨b, F, rfl, hm2, hF2, hA2⟩
                have HM0 : Hid (Mt w w2 b F (Em.st0 50) 0) := Lib.hid (Mt.start hm2 (fun g hg => Nat.le_trans HA1.out.size (hF2 g hg)) (HA1.out.next hA2))
                clear hm2 hF2 hA2 HNM
                clear z0 z1 z2 z3 z4 z5
                go_wp2_with fail
                go_loopw [15] (fun c15 wr => ∃ (k : Nat) (M : Em.St) (F : Nat → Prop), k ≤ n0 ∧ c15 = .int .i64 (k : Int) ∧ Hid (Mt w wr b F M k)) (fun c15 _ => n0 - (RowKit.intOf c15).toNat)
                case atStart => exact ⟨0, Em.st0 50, F, Nat.zero_le _, rfl, HM0⟩
                case round =>
                  clear HM0
                  obtain ⟨k, M, F, hk, rfl, HB⟩ := hrel
                  by_cases hlt : k < n0
                  · have hkL : k < L.length := by rw [HL.out]; exact hlt
                    obtain ⟨gb, o, rfl, hg, hc⟩ := HVL.out.pos (by omega)
                    obtain ⟨k1, B, cb, k2, hpv⟩ := hc k hkL
                    have hok := HLK.out _ (tx_mem hkL)
                    have hpl := HLP.out _ (tx_mem hkL)
                    obtain ⟨x0, hx0⟩ : ∃ x, L.getD k txz = x := ⟨_, rfl⟩
                    rw [hx0] at k1 k2 hpv hok hpl
                    obtain ⟨T, Z⟩ := x0
                    simp only at k1 k2 hpv hpl
                    obtain ⟨m, hm⟩ : ∃ m, Z.length = m := ⟨_, rfl⟩
                    rw [hm] at k2 hpl
                    have e1 := (Below.cell HB.out.at_ (p := ⟨gb, o + k * 2, none⟩) hg).trans k1
                    have e2 := (Below.cell HB.out.at_ (p := ⟨gb, o + k * 2 + 1, none⟩) hg).trans k2
                    have HAP := Lib.hid (HB.out.apply T B Z m cb hm hpl hpv (pb_by hok.1) (by omega))
                    have g1 : (0 : Int) ≤ (k : Int) := by omega
                    have g2 : (k : Int) < (n0 : Int) := by omega
                    clear hc hok hpl hx0 hm hpv hkL hg k1 k2
                    go_wp2_with fail
                    refine HAP.out.mono ?_
                    rintro e w5 ⟨F5, rfl, hp5⟩
                    have HB5 := Lib.hid hp5
                    clear hp5 e1 e2
                    go_wp2
                    go_roundw
                    case rel => exact ⟨k + 1, _, F5, by omega, by go_num, HB5⟩
                    case measure => simp [RowKit.intOf]; omega
                  · have zk : decide ((k : Int) < (n0 : Int)) = false := decide_eq_false (by omega)
                    have HSR := Lib.hid (sets_any A2 n2 c2 R HR.out.1 (by omega) HR.out.2 wr (HVR.out.on HB.out.at_))
                    go_wp2_with fail
                    refine HSR.out.mono ?_
                    rintro e w6 ⟨ba, da, va, rfl, hsa, -, hA6⟩
                    have H6 : Hid (Sv w6 ba va 100 (ex R) ∧ At wr w6) := Lib.hid ⟨hsa, hA6⟩
                    clear hsa hA6 HSR
                    have HSW := Lib.hid (sets_any A3 n3 c3 W HW.out.1 (by omega) HW.out.2 w6 (HVW.out.on (HB.out.at_.next H6.out.2)))
                    go_wp2_with fail
                    refine HSW.out.mono ?_
                    rintro e w7 ⟨bw, dw, vw, rfl, hsw, -, hA7⟩
                    have H7 : Hid (Sv w7 bw vw 100 (ex W) ∧ At w6 w7) := Lib.hid ⟨hsw, hA7⟩
                    have HAT7 : Hid (At w w7) := Lib.hid ((HB.out.at_.next H6.out.2).next hA7)
                    clear hsw hA7 HSW
                    obtain ⟨q, hq⟩ : ∃ q, w7.heap.size = q := ⟨_, rfl⟩
                    obtain ⟨wq, hwq⟩ : ∃ wq, w7.alloc (.cells #[] 49) = wq := ⟨_, rfl⟩
                    have HAQ : Hid (At w7 wq) := Lib.hid (by rw [← hwq]; exact (At.start w7).alloc _)
                    have HOQ : Hid (Ow wq (.slice (some ⟨q, 0, none⟩) 0 0) []) := Lib.hid (by rw [← hwq, ← hq]; exact Iv.made_row w7)
                    have HQW : Hid (∀ g, (Value.slice (some ⟨q, 0, none⟩) 0 0).ownBlock = some g → w7.heap.size ≤ g) := Lib.hid (fun g hg => by injection hg with hg; rw [← hg, ← hq]; exact Nat.le_refl _)
                    have hn2a : 0 + n2 ≤ 400000 := by omega
                    have hn4a : n2 + n4 ≤ 400000 := by omega
                    obtain ⟨nn, hnn⟩ : ∃ nn, n2 + n4 = nn := ⟨_, rfl⟩
                    have hnl : nn ≤ 100 := by omega
                    have HNN := Lib.hid hnn
                    clear hnn
                    go_wp2_with (first
                      | (at_builtin; refine evs_append rfl (.tmp 92) (.tmp 93) rfl (some ⟨q, 0, none⟩) 0 0 [] rfl HOQ.out rfl A2 n2 c2 R rfl (HVR.out.on (HAT7.out.next HAQ.out)) HR.out.1 HR.out.2 hn2a n2 (Nat.zero_add _) ?_; intro A8 c8 w8 H8; have HA8 := Lib.hid (lay2_new H8.out HAQ.out HQW.out); have HL8 : Hid (([] ++ R).length = n2) := Lib.hid (by rw [List.nil_append, HR.out.1]))
                      | (at_builtin; refine evs_append rfl (.tmp 94) (.tmp 95) rfl A8 n2 c8 ([] ++ R) rfl H8.out.1 HL8.out A4 n4 c4 U rfl (HVU.out.on (HAT7.out.next HA8.out.1)) HU.out.1 HU.out.2 hn4a nn HNN.out ?_; intro A9 c9 w9 H9; have HA9 := Lib.hid (lay2_new H9.out HA8.out.1 HA8.out.2); have H9S := Lib.hid (ow_slice H9.out.1))
                      | (go_at_call 14; refine (sets_any A9 nn c9 ([] ++ R ++ U) H9S.out.2.1 hnl H9S.out.2.2 w9 H9S.out.1).mono ?_; rintro e w10 ⟨bc, dc, vc, rfl, hsc, hdc, hA10⟩; have H10 := Lib.hid (And.intro hsc (And.intro hdc hA10)); clear hsc hdc hA10))
                    have hA710 : At w7 w10 := HA9.out.1.next H10.out.2.2
                    have HX : Hid (∀ V, At w10 V → Em.Mp V b M F ∧ Sv V ba va 100 (ex R) ∧ Sv V bw vw 100 (ex W) ∧ Sv V bc vc 100 (ex (R ++ U)) ∧ Dv V dc (ex (R ++ U))) := Lib.hid fun V hV => by
                      have h4 := H10.out.1.on hV
                      have h5 := H10.out.2.1.on hV
                      rw [List.nil_append] at h4 h5
                      exact ⟨HB.out.m.on ((H6.out.2.next H7.out.2).next (hA710.next hV)), H6.out.1.on (H7.out.2.next (hA710.next hV)), H7.out.1.on (hA710.next hV), h4, h5⟩
                    have HAW : Hid (At w w10) := Lib.hid (HAT7.out.next hA710)
                    have HLN : Hid ((ex R).length ≤ 1000 ∧ (ex W).length ≤ 1000 ∧ (ex (R ++ U)).length ≤ 1000) := Lib.hid ⟨by have := ex_len R; have := HR.out.1; omega, by have := ex_len W; have := HW.out.1; omega, by have := ex_len (R ++ U); have h1 := HR.out.1; have h2 := HU.out.1; have h3 := HNN.out; rw [List.length_append, h1, h2] at this; omega⟩
                    have HUP := Lib.hid HB.out.up
                    clear H6 H7 H8 H9 H9S H10 HA8 HA9 HL8 hA710 HNN HOQ HQW HAQ hwq hq HAT7 HB hk
                    have hc1 := fun V (hV : At w10 V) => check_any (HX.out V hV).1 HUP.out none [] 0 0 rfl (by omega) (fun _ h => by cases h) (TV.nil _ _) t (HX.out V hV).2.1 (HX.out V hV).2.2.1 HLN.out.1 HLN.out.2.1
                    by_cases hz : ck M [] t (ex R) (ex W) = 8
                    · rw [hz] at hc1
                      have HC1 := Lib.hid hc1
                      have HC2 : Hid (ex (R ++ U) ≠ [] → ∀ V, At w10 V → Calls Try.prog 17 #[.pointer (some ⟨b, 0, none⟩), .slice none 0 0, .int .i64 t, .pointer (some ⟨bc, 0, none⟩), .pointer (some ⟨bw, 0, none⟩)] V (Gives (.int .i64 8) V)) := Lib.hid fun h0 V hV => by
                        have := check_any (HX.out V hV).1 HUP.out none [] 0 0 rfl (by omega) (fun _ h => by cases h) (TV.nil _ _) t (HX.out V hV).2.2.2.1 (HX.out V hV).2.2.1 HLN.out.2.2 HLN.out.2.1
                        rwa [ck_more hz h0] at this
                      have HC3 : Hid (∀ V, At w10 V → Calls Try.prog 17 #[.pointer (some ⟨b, 0, none⟩), .slice none 0 0, .int .i64 (t - el), .pointer (some ⟨ba, 0, none⟩), .pointer (some ⟨bw, 0, none⟩)] V (Gives (.int .i64 8) V)) := Lib.hid fun V hV => by
                        have := check_any (HX.out V hV).1 HUP.out none [] 0 0 rfl (by omega) (fun _ h => by cases h) (TV.nil _ _) (t - el) (HX.out V hV).2.1 (HX.out V hV).2.2.1 HLN.out.1 HLN.out.2.1
                        rwa [ck_early hz (by have := HEL.out; omega)] at this
                      clear hz hc1
                      go_wp2_with fail
                      refine (HC1.out _ (At.start _)).mono ?_
                      rintro e w11 ⟨rfl, hA11⟩
                      have HA11 : Hid (At w10 w11) := Lib.hid hA11
                      obtain ⟨-, AX, nx, cx, hbx, hnx, -⟩ := (HX.out w11 hA11).2.2.2.2
                      have d1 : w11.cell? ⟨dc, 1, none⟩ = some (.slice AX nx cx) := (cell_at hbx 1).trans rfl
                      have HNX := Lib.hid hnx
                      clear hA11 HC1 hbx hnx
                      by_cases hx0 : nx = 0
                      · have zx : ((nx : Int) == 0) = true := by rw [hx0]; rfl
                        clear hx0
                        go_wp2_with fail
                        refine (awake_any _).mono ?_
                        rintro e w12 ⟨rfl, hA⟩
                        have HA12 := Lib.hid (HAW.out.next (HA11.out.next hA))
                        clear hA
                        go_wp2
                        go_ret
                        exact ⟨rfl, HA12.out⟩
                      · have zx : ((nx : Int) == 0) = false := by simp; omega
                        have HNE : Hid (ex (R ++ U) ≠ []) := Lib.hid fun e => hx0 (by rw [← HNX.out, e]; rfl)
                        have hws : IntKind.i64.wrap (t - el) = t - el := IntWalk.i64_in _ (by have := HEL.out; omega)
                        clear hx0
                        go_wp2_with fail
                        refine (HC2.out HNE.out _ HA11.out).mono ?_
                        rintro e w12 ⟨rfl, hA⟩
                        have HA12 := Lib.hid (HA11.out.next hA)
                        clear hA
                        go_wp2_with fail
                        refine (HC3.out _ HA12.out).mono ?_
                        rintro e w13 ⟨rfl, hA⟩
                        have HA13 := Lib.hid (HA12.out.next hA)
                        clear hA
                        go_wp2_with fail
                        refine (awake_any _).mono ?_
                        rintro e w14 ⟨rfl, hA⟩
                        have HA14 := Lib.hid (HAW.out.next (HA13.out.next hA))
                        clear hA
                        go_wp2
                        go_ret
                        exact ⟨rfl, HA14.out⟩
                    · rw [(ck_cases M [] t (ex R) (ex W)).resolve_right hz] at hc1
                      have HC1 := Lib.hid hc1
                      clear hz hc1
                      go_wp2_with fail
                      refine (HC1.out _ (At.start _)).mono ?_
                      rintro e w11 ⟨rfl, hA11⟩
                      have HA11 : Hid (At w10 w11) := Lib.hid hA11
                      clear hA11 HC1
                      go_wp2_with fail
                      refine (awake_any _).mono ?_
                      rintro e w12 ⟨rfl, hA⟩
                      have HA12 := Lib.hid (HAW.out.next (HA11.out.next hA))
                      clear hA
                      go_wp2
                      go_ret
                      exact ⟨rfl, HA12.out⟩

end Go.Proofs.Ytcffoebpgjonmaa
