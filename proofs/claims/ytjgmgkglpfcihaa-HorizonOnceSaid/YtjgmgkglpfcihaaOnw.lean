/- Proved: the law HorizonOnce's walk where it looks. -/
import Derived.Test.YtjgmgkglpfcihaaOnc
namespace Go.Proofs.Ytjgmgkglpfcihaa
open Go.RowKit

/-- What stands between two steps. -/
def Ost (w : World) (b mb : Nat) (M : Int) (i gg m k6 k7 : Nat) (A6 A7 : Option Addr) (S : St) (wr : World) : Prop :=
  Oc w b mb S (.slice A6 m k6) m S.H (.slice A7 m k7) m (S.H.map S.t) wr ∧ S.g = gg ∧ gg ≤ i ∧ S.most = M
theorem Oc.same {w0 wr : World} {b mb n6 n7 : Nat} {S : St} {v6 v7 : Value} {R6 R7 R6' R7' : List Int} (h : Oc w0 b mb S v6 n6 R6 v7 n7 R7 wr) (h6 : R6 = R6') (h7 : R7 = R7') : Oc w0 b mb S v6 n6 R6' v7 n7 R7' wr := by subst h6 h7; exact h
/-- One more is open, and stands in both rows. -/
theorem once_more {w w5 : World} {b mb i gg m q8 q9 k8 k9 : Nat} {M : Int} {A8 A9 : Option Addr} {S : St} {t : Int} (ho : Ok S) (hl : S.H.length = m) (hg : S.g = gg) (hgi : gg ≤ i) (hM : S.most = M)
    (h : Oc w b mb (op S t) (.slice A8 q8 k8) q8 (S.H ++ [(gg : Int) + 1]) (.slice A9 q9 k9) q9 (S.H.map S.t ++ [t]) w5) : q9 = q8 ∧ (q8 = q9 → Ost w b mb M (i + 1) (gg + 1) q8 k8 k9 A8 A9 (op S t) w5) := by
  have h1 := h.r6.len
  have h2 := h.r7.len
  simp only [List.length_append, List.length_map, List.length_singleton] at h1 h2
  refine ⟨by omega, fun e => ?_⟩
  subst e
  refine ⟨h.same (by show _ = S.H ++ [(S.g : Int) + 1]; rw [hg]) (op_map ho t).symm, by show S.g + 1 = gg + 1; rw [hg], by omega, hM⟩

theorem iv_gone {w : World} {A B : Option Addr} {R : List Int} {j q : Nat} (_h : IV w A R) (hl : R.length = j) (hj : j ≤ q) : IV w B (R.drop q) := Or.inl (by rw [List.drop_eq_nil_iff]; omega)
theorem iv_rest {w : World} {g q : Nat} {R : List Int} (h : IV w (some ⟨g, 0, none⟩) R) : IV w (some ⟨g, q, none⟩) (R.drop q) := by
  have := h.drop q
  rwa [Nat.zero_add] at this
/-- A cheap guard on the world of an arm. -/
theorem at_world {P : Program} {c : Prop} {_d : Decidable c} {o : Oper} {a : Act} {K : Act → World → Prop} {Q : Exit → Act → World → Prop} {E : Prop} (W : World) (h : @ite _ c _d (Oper.wp P o a W K Q) E) : @ite _ c _d (Oper.wp P o a W K Q) E := h
set_option maxHeartbeats 4000000 in
set_option maxRecDepth 100000 in
theorem once_in (M : Int) (A : Option Addr) (u c : Nat) (Z : List (Int × Int)) (h0 : 0 ≤ M) (h1 : M ≤ 50) (h2 : u ≤ 200) (hl : Z.length = u) (hk : ∀ s ∈ Z, Kw s.2) (w : World) (hv : SV w A Z) : Calls Try.prog 6 #[.int .i64 M, .slice A u c] w (Gives (.bool true) w) := by
  have h5 : decide ((200 : Int) < (u : Int)) = false := decide_eq_false (by omega)
  have h6 : decide (M < 0) = false := decide_eq_false (by omega)
  have h7 : decide ((50 : Int) < M) = false := decide_eq_false (by omega)
  have HL := Lib.hid hl
  have HK := Lib.hid hk
  have HV := Lib.hid hv
  have HG := Lib.hid awake_any
  clear hl hv hk h0 h1
  go_enter Try.func6, Try.ntmps6
  go_wp2_with fail
  refine (new_any M w).mono ?_
  rintro e w1 ⟨b, mb, rfl, hb, hb1, hb2, hA⟩
  have HP0 : Hid (Ost w b mb M 0 0 0 0 0 none none (st0 M) w1) := Lib.hid ⟨⟨Hs.start hb hb1 hb2 hA (At.start w), OI.nil _ _, OI.nil _ _, fun g hg => by cases hg⟩, rfl, Nat.le_refl _, rfl⟩
  clear hb hb1 hb2 hA
  go_wp2
  go_loopw [6, 7, 8, 9] (fun c6 c7 c8 c9 wr => ∃ (i gg m k6 k7 : Nat) (A6 A7 : Option Addr) (S : St), i ≤ u ∧ c9 = .int .i64 (i : Int) ∧ c8 = .int .i64 (gg : Int) ∧ c6 = .slice A6 m k6 ∧ c7 = .slice A7 m k7 ∧ Hid (Ost w b mb M i gg m k6 k7 A6 A7 S wr)) (fun _ _ _ c9 _ => u - (RowKit.intOf c9).toNat)
  case atStart => exact ⟨0, 0, 0, 0, 0, none, none, st0 M, by omega, rfl, rfl, rfl, rfl, HP0⟩
  case round =>
    clear HP0
    obtain ⟨i, gg, m, k6, k7, A6, A7, S, hi, rfl, rfl, rfl, rfl, HP⟩ := hrel
    by_cases hlt : i < u
    · obtain ⟨lb, off, rfl, hlb, hcs⟩ := HV.out.pos (by rw [HL.out]; omega)
      have HKW : Hid (Kw (Z.getD i (0, 0)).2) := Lib.hid (kw_step HK.out i)
      have HCX : Hid (∀ W, At w W → W.cell? ⟨lb, off + i * 2, none⟩ = some (.int .i64 (Z.getD i (0, 0)).1) ∧ W.cell? ⟨lb, off + i * 2 + 1, none⟩ = some (.int .i64 (Z.getD i (0, 0)).2)) := Lib.hid fun W hW =>
        ⟨(Below.cell hW (p := ⟨lb, off + i * 2, none⟩) hlb).trans (hcs i (by rw [HL.out]; exact hlt)).1, (Below.cell hW (p := ⟨lb, off + i * 2 + 1, none⟩) hlb).trans (hcs i (by rw [HL.out]; exact hlt)).2⟩
      obtain ⟨x, hx⟩ : ∃ x, x = (Z.getD i (0, 0)).1 := ⟨_, rfl⟩
      obtain ⟨y, hy⟩ : ∃ y, y = (Z.getD i (0, 0)).2 := ⟨_, rfl⟩
      rw [← hx, ← hy] at HCX
      rw [← hy] at HKW
      have hst := HP.out.1.hs.stands
      have HOK := Lib.hid HP.out.1.hs.bk.ok
      have HSL := Lib.hid HP.out.1.r6.len
      have hmg : m ≤ gg := by have h1 := ok_len HOK.out; have h2 := HSL.out; have h3 := HP.out.2.1; omega
      have hgi := HP.out.2.2.1
      obtain ⟨hc, hc2⟩ := HCX.out wr hst
      have g1 : (0 : Int) ≤ (i : Int) := by omega
      have g2 : (i : Int) < (u : Int) := by omega
      clear hcs hlb hx hy hst
      go_upto_if 44 with fail
      go_cut [6, 7, 8, 10, 11, 12, 13, 14, 15] from 33 to 172 (fun s6 s7 s8 s10 s11 s12 s13 s14 s15 wx => ∃ (gg m k6 k7 : Nat) (A6 A7 : Option Addr) (S : St), s8 = .int .i64 (gg : Int) ∧ s6 = .slice A6 m k6 ∧ s7 = .slice A7 m k7 ∧ Hid (Ost w b mb M (i + 1) gg m k6 k7 A6 A7 S wx))
      case first =>
        by_cases hx1 : x = 1
        · subst hx1
          have hR := round_any y 1000 (by omega) (by omega) wr
          rw [show ((1000 : Nat) : Int) = 1000 from rfl] at hR
          have hr := rd_lt y 1000 (by omega)
          obtain ⟨t, ht⟩ : ∃ t, t = rd y 1000 := ⟨_, rfl⟩
          rw [← ht] at hR hr
          have HR := Lib.hid hR
          clear hR ht
          by_cases hmM : (m : Int) < M
          · have hO := open_ok HP.out.1.hs.bk (t : Int) (by omega) (by omega) (by rw [HSL.out, HP.out.2.2.2]; exact hmM) (by rw [HP.out.2.1]; omega)
            rw [HP.out.2.1] at hO
            have HO := Lib.hid hO
            have nle : decide ((gg : Int) + 1 ≤ (gg : Int)) = false := decide_eq_false (by omega)
            clear hO hc
            go_wp2_with fail
            refine HR.out.mono ?_
            rintro e w' ⟨rfl, rfl⟩
            go_wp2_with fail
            refine HO.out.mono ?_
            rintro e w3 ⟨rfl, hb3, hm3⟩
            have OC3 := Lib.hid (HP.out.1.turnB (HP.out.1.hs.turn hb3 hm3) hm3)
            clear hb3 hm3 hc2
            go_wp2_with (first
              | (at_builtin; refine ints_append rfl (.tmp 76) (.tmp 78) rfl w.heap.size (.slice A6 m k6) m S.H rfl (OC3.out.on ((At.start _).alloc _)).r6 (some ⟨w3.heap.size, 0, none⟩) 1 1 [(gg : Int) + 1] rfl (fun h => by cases h) (one_iv _ _) rfl (by omega) (OC3.out.on ((At.start _).alloc _)).hs.stands.size ?_; intro A8 k8 q8 w5 P5; have OC5 := Lib.hid ((OC3.out.on ((At.start _).alloc _)).app6 P5.out))
              | (at_builtin; refine ints_append rfl (.tmp 80) (.tmp 82) rfl w.heap.size (.slice A7 m k7) m (S.H.map S.t) rfl (OC5.out.on ((At.start _).alloc _)).r7 (some ⟨w5.heap.size, 0, none⟩) 1 1 [(t : Int)] rfl (fun h => by cases h) (one_iv _ _) rfl (by omega) (OC5.out.on ((At.start _).alloc _)).hs.stands.size ?_; intro A9 k9 q9 w6 P6; have OC6 := Lib.hid ((OC5.out.on ((At.start _).alloc _)).app7 P6.out))
              | (at_builtin; fail))
            go_meet
            case rel =>
              have hfin := once_more HOK.out HSL.out HP.out.2.1 hgi HP.out.2.2.2 OC6.out
              obtain ⟨rfl, hfin⟩ := hfin
              exact ⟨gg + 1, _, k8, k9, A8, A9, _, by go_num, rfl, rfl, Lib.hid (hfin rfl)⟩
          · have hO := open_many HP.out.1.hs.bk (t : Int) (by omega) (by omega) (by rw [HSL.out, HP.out.2.2.2]; exact hmM)
            have HO := Lib.hid hO
            have nmM : decide ((m : Int) < M) = false := decide_eq_false hmM
            clear hO hc hmM
            go_wp2_with fail
            refine HR.out.mono ?_
            rintro e w' ⟨rfl, rfl⟩
            go_wp2_with fail
            refine HO.out.mono ?_
            rintro e w3 ⟨rfl, ha3⟩
            have OC3 : Hid (Ost w b mb M (i + 1) gg m k6 k7 A6 A7 S w3) := Lib.hid ⟨HP.out.1.on ha3, HP.out.2.1, by omega, HP.out.2.2.2⟩
            clear ha3 hc2
            go_wp2
            go_meet
            case rel => exact ⟨gg, m, k6, k7, A6, A7, S, rfl, rfl, rfl, OC3⟩
        · have hxb : (x == 1) = false := by simpa using hx1
          clear hx1 hc
          have HIV : Hid (IV wr A6 S.H) := Lib.hid HP.out.1.r6.ir.iv
          go_wp2
          go_loopw [13, 14] (fun c13 c14 wx => ∃ (j : Nat) (kv : Int), j ≤ m ∧ c14 = .int .i64 (j : Int) ∧ c13 = .int .i64 kv ∧ Hid (Fnd S.H j y kv) ∧ ∃ nq, wx = wr.drewN nq) (fun _ c14 _ => m - (RowKit.intOf c14).toNat)
          case atStart => exact ⟨0, -1, by omega, rfl, rfl, Lib.hid (fnd_start S.H y), 0, rfl⟩
          case round =>
            obtain ⟨j, kv, hj, rfl, rfl, HF, nq, rfl⟩ := hrel
            by_cases hltj : j < m
            · obtain ⟨ob, oo, rfl, -, hos⟩ := HIV.out.pos (by rw [HSL.out]; omega)
              have ho := hos j (by rw [HSL.out]; exact hltj)
              have HFY : Hid (S.H.getD j 0 = y → Fnd S.H (j + 1) y (j : Int)) := Lib.hid (fun e => HF.out.yes (by rw [HSL.out]; exact hltj) e)
              have HFN : Hid (S.H.getD j 0 ≠ y → Fnd S.H (j + 1) y kv) := Lib.hid (fun e => HF.out.no e)
              obtain ⟨v, hvv⟩ : ∃ v, v = S.H.getD j 0 := ⟨_, rfl⟩
              rw [← hvv] at ho HFY HFN
              have g3 : (0 : Int) ≤ (j : Int) := by omega
              have g4 : (j : Int) < (m : Int) := by omega
              clear hos hvv
              by_cases hvy : v = y
              · have q1 : (v == y) = true := by simpa using hvy
                have HFZ := Lib.hid (HFY.out hvy)
                clear hvy
                go_wp2
                go_quiet (fail)
                go_wp2
                go_roundw
                case rel => exact ⟨j + 1, (j : Int), by omega, by go_num, rfl, HFZ, _, rfl⟩
                case measure => simp [RowKit.intOf]; omega
              · have q1 : (v == y) = false := by simpa using hvy
                have HFZ := Lib.hid (HFN.out hvy)
                clear hvy
                go_wp2
                go_quiet (fail)
                go_wp2
                go_roundw
                case rel => exact ⟨j + 1, kv, by omega, by go_num, rfl, HFZ, _, rfl⟩
                case measure => simp [RowKit.intOf]; omega
            · have hjm : j = m := by omega
              subst hjm
              have HPD := Lib.hid (HP.out.1.on ((At.start wr).drewN nq))
              have hC := close_bk HPD.out.hs.bk y HKW.out
              rcases HF.out.out (by rw [HSL.out]; exact Nat.le_refl _) with ⟨rfl, hno⟩ | ⟨p, rfl, hp⟩
              · rw [cd_out hno, cl_not hno] at hC
                have HC := Lib.hid hC
                clear hC hno HF
                go_wp2_with fail
                refine HC.out.mono ?_
                rintro e w3 ⟨rfl, hb3, hm3⟩
                have OC3 : Hid (Ost w b mb M (i + 1) gg j k6 k7 A6 A7 S w3) := Lib.hid ⟨HPD.out.turnB (HPD.out.hs.turn hb3 hm3) hm3, HP.out.2.1, by omega, HP.out.2.2.2⟩
                clear hb3 hm3 HC
                go_wp2
                go_meet
                case rel => exact ⟨gg, j, k6, k7, A6, A7, S, rfl, rfl, rfl, OC3⟩
              · have hmem := List.mem_of_getElem? hp
                rw [cd_in hmem] at hC
                have HC := Lib.hid hC
                have hpl : p < j := by
                  rcases Nat.lt_or_ge p S.H.length with h | h
                  · rw [HSL.out] at h; exact h
                  · rw [List.getElem?_eq_none h] at hp; cases hp
                have HD1 := Lib.hid (dl_at HOK.out.nodup hp)
                have HD2 := Lib.hid (map_dl (t := S.t) HOK.out.nodup hp)
                obtain ⟨o6, cs6, m6, rfl, -, hkm⟩ := HP.out.1.r6.ir.pos (by omega)
                obtain ⟨o7, cs7, m7, rfl, -, hkn⟩ := HP.out.1.r7.ir.pos (by omega)
                clear hC hmem hp HF HIV
                have g3 : (0 : Int) ≤ (p : Int) := by omega
                have g4 : (p : Int) ≤ (k6 : Int) := by omega
                have g5 : (p : Int) ≤ (k7 : Int) := by omega
                obtain ⟨q, hq⟩ : ∃ q : Nat, q = p + 1 := ⟨_, rfl⟩
                rw [← hq] at HD1 HD2
                have hpq : (p : Int) + 1 = (q : Int) := by omega
                have hwr : IntKind.i64.wrap (q : Int) = (q : Int) := IntWalk.i64_in _ (by omega)
                have hqj : q ≤ j := by omega
                have g6 : (0 : Int) ≤ (q : Int) := by omega
                have g7 : (q : Int) ≤ (j : Int) := by omega
                have hpq2 : p ≤ q := by omega
                have g10 : (p : Int) ≤ (q : Int) := by omega
                clear hq
                have HLNm := Lib.hid HSL.out
                have HLNn : Hid ((S.H.map S.t).length = j) := Lib.hid (by rw [List.length_map]; exact HSL.out)
                have HTKm : Hid ((S.H.take p).length = p) := Lib.hid (by rw [List.length_take, HSL.out]; omega)
                have HTKn : Hid (((S.H.map S.t).take p).length = p) := Lib.hid (by rw [List.length_take, List.length_map, HSL.out]; omega)
                go_wp2_with fail
                refine HC.out.mono ?_
                rintro e w3 ⟨rfl, hb3, hm3⟩
                have OC3 := Lib.hid (HPD.out.turnB (HPD.out.hs.turn hb3 hm3) hm3)
                clear hb3 hm3 HC
                have HI6 : Hid (∀ W, At w3 W → IV W (some ⟨o6, 0, none⟩) S.H) := Lib.hid fun W hW => (OC3.out.r6.on hW).ir.iv
                by_cases ek : k6 = q
                · obtain rfl : q = k6 := ek.symm
                  have hqk := Lib.hid hkm
                  clear hkm
                  have Am : Hid (At w3 (w3.alloc (.cells #[] 3)).drew) := Lib.hid (((At.start w3).alloc _).drewN 1)
                  have Om : Hid (OI (w3.alloc (.cells #[] 3)).drew w3.heap.size (.slice (some ⟨w3.heap.size, 0, none⟩) 0 0) 0 []) := Lib.hid (OI.made (Nat.le_refl _))
                  go_wp2_with fail
                  go_region_held3 (fun _ => True) (exact trivial)
                    (first
                      | ((with_reducible refine at_world (w3.alloc (.cells #[] 3)).drew ?_); refine step_ints (by rfl) (.tmp 123) (.tmp 126) (by rfl) w3.heap.size _ 0 [] Om.out (by rfl) (some ⟨o6, 0, none⟩) p q (S.H.take p) (by rfl) (fun h => by cases h) ((HI6.out _ Am.out).take p) HTKm.out (by omega) Am.out.size ?_; intro Bm dm rm Vm Pm; have HAm : Hid (At w3 Vm) := Lib.hid (Pm.out.stay Om.out Am.out (Nat.le_refl _)))
                      | ((with_reducible refine at_world Vm ?_); refine step_ints (by rfl) (.tmp 127) (.tmp 131) (by rfl) w3.heap.size _ rm _ Pm.out.own (by rfl) (some ⟨o6, 0, none⟩) (j - q) 0 (S.H.drop q) (by rfl) (fun h => by cases h) (iv_gone (HI6.out _ HAm.out) HLNm.out hqk.out) (by rw [List.length_drop, HLNm.out]) (by have h := Pm.out.own.len; rw [List.nil_append, HTKm.out] at h; omega) HAm.out.size ?_; intro Em fm hm Um Qm; have HUm : Hid (At w3 Um) := Lib.hid (Qm.out.stay Pm.out.own HAm.out (Nat.le_refl _))))
                  have HI7 : Hid (∀ W, At Um W → IV W (some ⟨o7, 0, none⟩) (S.H.map S.t)) := Lib.hid fun W hW => (OC3.out.r7.on (HUm.out.next hW)).ir.iv
                  clear Am Om HI6 HAm
                  by_cases el : k7 = q
                  · obtain rfl : q = k7 := el.symm
                    have hqk := Lib.hid hkn
                    clear hkn
                    have An : Hid (At Um (Um.alloc (.cells #[] 3)).drew) := Lib.hid (((At.start Um).alloc _).drewN 1)
                    have On : Hid (OI (Um.alloc (.cells #[] 3)).drew Um.heap.size (.slice (some ⟨Um.heap.size, 0, none⟩) 0 0) 0 []) := Lib.hid (OI.made (Nat.le_refl _))
                    go_wp2_with fail
                    go_region_held3 (fun _ => True) (exact trivial)
                      (first
                        | ((with_reducible refine at_world (Um.alloc (.cells #[] 3)).drew ?_); refine step_ints (by rfl) (.tmp 133) (.tmp 136) (by rfl) Um.heap.size _ 0 [] On.out (by rfl) (some ⟨o7, 0, none⟩) p q ((S.H.map S.t).take p) (by rfl) (fun h => by cases h) ((HI7.out _ An.out).take p) HTKn.out (by omega) An.out.size ?_; intro Bn dn rn Vn Pn; have HAn : Hid (At Um Vn) := Lib.hid (Pn.out.stay On.out An.out (Nat.le_refl _)))
                        | ((with_reducible refine at_world Vn ?_); refine step_ints (by rfl) (.tmp 137) (.tmp 141) (by rfl) Um.heap.size _ rn _ Pn.out.own (by rfl) (some ⟨o7, 0, none⟩) (j - q) 0 ((S.H.map S.t).drop q) (by rfl) (fun h => by cases h) (iv_gone (HI7.out _ HAn.out) HLNn.out hqk.out) (by rw [List.length_drop, HLNn.out]) (by have h := Pn.out.own.len; rw [List.nil_append, HTKn.out] at h; omega) HAn.out.size ?_; intro En fn hn Un Qn; have HUn : Hid (At Um Un) := Lib.hid (Qn.out.stay Pn.out.own HAn.out (Nat.le_refl _))))
                    go_wp2
                    go_meet
                    case rel =>
                      have o8 : OI Um w3.heap.size (.slice Em hm fm) hm (cl S y).H := by show OI _ _ _ _ (dl S.H y); rw [← HD1.out]; exact Qm.out.own
                      have o9 : OI Un Um.heap.size (.slice En hn fn) hn ((cl S y).H.map (cl S y).t) := by show OI _ _ _ _ ((dl S.H y).map S.t); rw [← HD2.out]; exact Qn.out.own
                      have hq : hn = hm := by have a := o8.len; have b := o9.len; rw [List.length_map] at b; omega
                      subst hq
                      exact ⟨gg, _, fm, fn, Em, En, cl S y, rfl, rfl, rfl, Lib.hid ⟨OC3.out.anew HUm.out o8 HUn.out o9, HP.out.2.1, by omega, HP.out.2.2.2⟩⟩
                  · have g9 : (q : Int) ≤ (k7 : Int) := by omega
                    have An : Hid (At Um (Um.alloc (.cells #[] 3)).drew) := Lib.hid (((At.start Um).alloc _).drewN 1)
                    have On : Hid (OI (Um.alloc (.cells #[] 3)).drew Um.heap.size (.slice (some ⟨Um.heap.size, 0, none⟩) 0 0) 0 []) := Lib.hid (OI.made (Nat.le_refl _))
                    go_wp2_with fail
                    go_region_held3 (fun _ => True) (exact trivial)
                      (first
                        | ((with_reducible refine at_world (Um.alloc (.cells #[] 3)).drew ?_); refine step_ints (by rfl) (.tmp 133) (.tmp 136) (by rfl) Um.heap.size _ 0 [] On.out (by rfl) (some ⟨o7, 0, none⟩) p k7 ((S.H.map S.t).take p) (by rfl) (fun h => by cases h) ((HI7.out _ An.out).take p) HTKn.out (by omega) An.out.size ?_; intro Bn dn rn Vn Pn; have HAn : Hid (At Um Vn) := Lib.hid (Pn.out.stay On.out An.out (Nat.le_refl _)))
                        | ((with_reducible refine at_world Vn ?_); refine step_ints (by rfl) (.tmp 137) (.tmp 141) (by rfl) Um.heap.size _ rn _ Pn.out.own (by rfl) (some ⟨o7, q, none⟩) (j - q) (k7 - q) ((S.H.map S.t).drop q) (by rfl) (fun h => by cases h) (iv_rest (HI7.out _ HAn.out)) (by rw [List.length_drop, HLNn.out]) (by have h := Pn.out.own.len; rw [List.nil_append, HTKn.out] at h; omega) HAn.out.size ?_; intro En fn hn Un Qn; have HUn : Hid (At Um Un) := Lib.hid (Qn.out.stay Pn.out.own HAn.out (Nat.le_refl _))))
                    go_wp2
                    go_meet
                    case rel =>
                      have o8 : OI Um w3.heap.size (.slice Em hm fm) hm (cl S y).H := by show OI _ _ _ _ (dl S.H y); rw [← HD1.out]; exact Qm.out.own
                      have o9 : OI Un Um.heap.size (.slice En hn fn) hn ((cl S y).H.map (cl S y).t) := by show OI _ _ _ _ ((dl S.H y).map S.t); rw [← HD2.out]; exact Qn.out.own
                      have hq : hn = hm := by have a := o8.len; have b := o9.len; rw [List.length_map] at b; omega
                      subst hq
                      exact ⟨gg, _, fm, fn, Em, En, cl S y, rfl, rfl, rfl, Lib.hid ⟨OC3.out.anew HUm.out o8 HUn.out o9, HP.out.2.1, by omega, HP.out.2.2.2⟩⟩
                · have g8 : (q : Int) ≤ (k6 : Int) := by omega
                  have Am : Hid (At w3 (w3.alloc (.cells #[] 3)).drew) := Lib.hid (((At.start w3).alloc _).drewN 1)
                  have Om : Hid (OI (w3.alloc (.cells #[] 3)).drew w3.heap.size (.slice (some ⟨w3.heap.size, 0, none⟩) 0 0) 0 []) := Lib.hid (OI.made (Nat.le_refl _))
                  go_wp2_with fail
                  go_region_held3 (fun _ => True) (exact trivial)
                    (first
                      | ((with_reducible refine at_world (w3.alloc (.cells #[] 3)).drew ?_); refine step_ints (by rfl) (.tmp 123) (.tmp 126) (by rfl) w3.heap.size _ 0 [] Om.out (by rfl) (some ⟨o6, 0, none⟩) p k6 (S.H.take p) (by rfl) (fun h => by cases h) ((HI6.out _ Am.out).take p) HTKm.out (by omega) Am.out.size ?_; intro Bm dm rm Vm Pm; have HAm : Hid (At w3 Vm) := Lib.hid (Pm.out.stay Om.out Am.out (Nat.le_refl _)))
                      | ((with_reducible refine at_world Vm ?_); refine step_ints (by rfl) (.tmp 127) (.tmp 131) (by rfl) w3.heap.size _ rm _ Pm.out.own (by rfl) (some ⟨o6, q, none⟩) (j - q) (k6 - q) (S.H.drop q) (by rfl) (fun h => by cases h) (iv_rest (HI6.out _ HAm.out)) (by rw [List.length_drop, HLNm.out]) (by have h := Pm.out.own.len; rw [List.nil_append, HTKm.out] at h; omega) HAm.out.size ?_; intro Em fm hm Um Qm; have HUm : Hid (At w3 Um) := Lib.hid (Qm.out.stay Pm.out.own HAm.out (Nat.le_refl _))))
                  have HI7 : Hid (∀ W, At Um W → IV W (some ⟨o7, 0, none⟩) (S.H.map S.t)) := Lib.hid fun W hW => (OC3.out.r7.on (HUm.out.next hW)).ir.iv
                  clear Am Om HI6 HAm
                  by_cases el : k7 = q
                  · obtain rfl : q = k7 := el.symm
                    have hqk := Lib.hid hkn
                    clear hkn
                    have An : Hid (At Um (Um.alloc (.cells #[] 3)).drew) := Lib.hid (((At.start Um).alloc _).drewN 1)
                    have On : Hid (OI (Um.alloc (.cells #[] 3)).drew Um.heap.size (.slice (some ⟨Um.heap.size, 0, none⟩) 0 0) 0 []) := Lib.hid (OI.made (Nat.le_refl _))
                    go_wp2_with fail
                    go_region_held3 (fun _ => True) (exact trivial)
                      (first
                        | ((with_reducible refine at_world (Um.alloc (.cells #[] 3)).drew ?_); refine step_ints (by rfl) (.tmp 133) (.tmp 136) (by rfl) Um.heap.size _ 0 [] On.out (by rfl) (some ⟨o7, 0, none⟩) p q ((S.H.map S.t).take p) (by rfl) (fun h => by cases h) ((HI7.out _ An.out).take p) HTKn.out (by omega) An.out.size ?_; intro Bn dn rn Vn Pn; have HAn : Hid (At Um Vn) := Lib.hid (Pn.out.stay On.out An.out (Nat.le_refl _)))
                        | ((with_reducible refine at_world Vn ?_); refine step_ints (by rfl) (.tmp 137) (.tmp 141) (by rfl) Um.heap.size _ rn _ Pn.out.own (by rfl) (some ⟨o7, 0, none⟩) (j - q) 0 ((S.H.map S.t).drop q) (by rfl) (fun h => by cases h) (iv_gone (HI7.out _ HAn.out) HLNn.out hqk.out) (by rw [List.length_drop, HLNn.out]) (by have h := Pn.out.own.len; rw [List.nil_append, HTKn.out] at h; omega) HAn.out.size ?_; intro En fn hn Un Qn; have HUn : Hid (At Um Un) := Lib.hid (Qn.out.stay Pn.out.own HAn.out (Nat.le_refl _))))
                    go_wp2
                    go_meet
                    case rel =>
                      have o8 : OI Um w3.heap.size (.slice Em hm fm) hm (cl S y).H := by show OI _ _ _ _ (dl S.H y); rw [← HD1.out]; exact Qm.out.own
                      have o9 : OI Un Um.heap.size (.slice En hn fn) hn ((cl S y).H.map (cl S y).t) := by show OI _ _ _ _ ((dl S.H y).map S.t); rw [← HD2.out]; exact Qn.out.own
                      have hq : hn = hm := by have a := o8.len; have b := o9.len; rw [List.length_map] at b; omega
                      subst hq
                      exact ⟨gg, _, fm, fn, Em, En, cl S y, rfl, rfl, rfl, Lib.hid ⟨OC3.out.anew HUm.out o8 HUn.out o9, HP.out.2.1, by omega, HP.out.2.2.2⟩⟩
                  · have g9 : (q : Int) ≤ (k7 : Int) := by omega
                    have An : Hid (At Um (Um.alloc (.cells #[] 3)).drew) := Lib.hid (((At.start Um).alloc _).drewN 1)
                    have On : Hid (OI (Um.alloc (.cells #[] 3)).drew Um.heap.size (.slice (some ⟨Um.heap.size, 0, none⟩) 0 0) 0 []) := Lib.hid (OI.made (Nat.le_refl _))
                    go_wp2_with fail
                    go_region_held3 (fun _ => True) (exact trivial)
                      (first
                        | ((with_reducible refine at_world (Um.alloc (.cells #[] 3)).drew ?_); refine step_ints (by rfl) (.tmp 133) (.tmp 136) (by rfl) Um.heap.size _ 0 [] On.out (by rfl) (some ⟨o7, 0, none⟩) p k7 ((S.H.map S.t).take p) (by rfl) (fun h => by cases h) ((HI7.out _ An.out).take p) HTKn.out (by omega) An.out.size ?_; intro Bn dn rn Vn Pn; have HAn : Hid (At Um Vn) := Lib.hid (Pn.out.stay On.out An.out (Nat.le_refl _)))
                        | ((with_reducible refine at_world Vn ?_); refine step_ints (by rfl) (.tmp 137) (.tmp 141) (by rfl) Um.heap.size _ rn _ Pn.out.own (by rfl) (some ⟨o7, q, none⟩) (j - q) (k7 - q) ((S.H.map S.t).drop q) (by rfl) (fun h => by cases h) (iv_rest (HI7.out _ HAn.out)) (by rw [List.length_drop, HLNn.out]) (by have h := Pn.out.own.len; rw [List.nil_append, HTKn.out] at h; omega) HAn.out.size ?_; intro En fn hn Un Qn; have HUn : Hid (At Um Un) := Lib.hid (Qn.out.stay Pn.out.own HAn.out (Nat.le_refl _))))
                    go_wp2
                    go_meet
                    case rel =>
                      have o8 : OI Um w3.heap.size (.slice Em hm fm) hm (cl S y).H := by show OI _ _ _ _ (dl S.H y); rw [← HD1.out]; exact Qm.out.own
                      have o9 : OI Un Um.heap.size (.slice En hn fn) hn ((cl S y).H.map (cl S y).t) := by show OI _ _ _ _ ((dl S.H y).map S.t); rw [← HD2.out]; exact Qn.out.own
                      have hq : hn = hm := by have a := o8.len; have b := o9.len; rw [List.length_map] at b; omega
                      subst hq
                      exact ⟨gg, _, fm, fn, Em, En, cl S y, rfl, rfl, rfl, Lib.hid ⟨OC3.out.anew HUm.out o8 HUn.out o9, HP.out.2.1, by omega, HP.out.2.2.2⟩⟩
      obtain ⟨gg', m', k6', k7', A6', A7', S', rfl, rfl, rfl, HQ⟩ := hcut
      clear HP HCX HKW HOK HSL hmg hgi hc hc2
      have HSL := Lib.hid HQ.out.1.r6.len
      have HI6 := Lib.hid HQ.out.1.r6.ir.iv
      have HI7 := Lib.hid HQ.out.1.r7.ir.iv
      have hmg : m' ≤ gg' := by have h1 := ok_len HQ.out.1.hs.bk.ok; have h2 := HSL.out; have h3 := HQ.out.2.1; omega
      have hgi := HQ.out.2.2.1
      go_wp2
      go_loopw [16] (fun c16 wx => ∃ j : Nat, j ≤ m' ∧ c16 = .int .i64 (j : Int) ∧ wx = wc) (fun c16 _ => m' - (RowKit.intOf c16).toNat)
      case atStart => exact ⟨0, by omega, rfl, rfl⟩
      case round =>
        obtain ⟨j, hj, rfl, rfl⟩ := hrel
        by_cases hltj : j < m'
        · obtain ⟨ob, oo, rfl, -, hos⟩ := HI6.out.pos (by rw [HSL.out]; omega)
          obtain ⟨tb, tq, rfl, -, hts⟩ := HI7.out.pos (by rw [List.length_map, HSL.out]; omega)
          have ho := hos j (by rw [HSL.out]; exact hltj)
          have ht := hts j (by rw [List.length_map, HSL.out]; exact hltj)
          have hjl : j < S'.H.length := by rw [HSL.out]; exact hltj
          have hmem : S'.H.getD j 0 ∈ S'.H := by rw [List.getD_eq_getElem?_getD, List.getElem?_eq_getElem hjl]; exact List.getElem_mem _
          have hmt : (S'.H.map S'.t).getD j 0 = S'.t (S'.H.getD j 0) := by
            rw [List.getD_eq_getElem?_getD, List.getElem?_map, List.getElem?_eq_getElem hjl, List.getD_eq_getElem?_getD, List.getElem?_eq_getElem hjl]; rfl
          rw [hmt] at ht
          have hAT := at_bk HQ.out.1.hs.bk (S'.H.getD j 0) (by have h1 := HQ.out.1.hs.bk.ok.rng _ hmem; have h2 := HQ.out.1.hs.bk.ok.g1; exact ky_wf (by omega) (by omega))
          rw [tm_in hmem, cd_in hmem] at hAT
          have HAT := Lib.hid hAT
          obtain ⟨v, hvv⟩ : ∃ v, v = S'.H.getD j 0 := ⟨_, rfl⟩
          rw [← hvv] at ho ht HAT
          obtain ⟨tv, htv⟩ : ∃ tv, tv = S'.t v := ⟨_, rfl⟩
          rw [← htv] at ht HAT
          have g3 : (0 : Int) ≤ (j : Int) := by omega
          have g4 : (j : Int) < (m' : Int) := by omega
          have nb : (tv != tv) = false := by simp
          clear hos hts hmem hmt hAT hvv htv hjl
          go_wp2_with fail
          refine HAT.out.mono ?_
          rintro e w' ⟨rfl, rfl⟩
          go_wp2
          go_roundw
          case rel => exact ⟨j + 1, by omega, by go_num, by first | rfl | trivial⟩
          case measure => simp [RowKit.intOf]; omega
        · have hjm : j = m' := by omega
          subst hjm
          have hLS := list_bk HQ.out.1.hs.bk
          unfold Lists at hLS
          rw [HSL.out] at hLS
          have HLS := Lib.hid hLS
          have HH : Hid (∀ W, At wr W → IV W A6' S'.H) := Lib.hid fun W hW => HI6.out.on hW
          clear hLS
          go_wp2_with fail
          refine HLS.out.mono ?_
          rintro e w6 ⟨B6, d6, rfl, -, hi6, -, ha6⟩
          have HB6 := Lib.hid hi6
          have HA6 := Lib.hid ha6
          clear hi6 ha6
          go_wp2_with fail
          refine (ints_same B6 A6' _ d6 k6' S'.H w6 (by omega) HSL.out HB6.out (HH.out _ HA6.out)).mono ?_
          rintro e w7 ⟨rfl, ha7⟩
          have HQ7 : Hid (Ost w b mb M (i + 1) gg' j k6' k7' A6' A7' S' w7) := Lib.hid ⟨HQ.out.1.on (HA6.out.next ha7), HQ.out.2⟩
          clear ha7 HA6 HB6 HQ
          go_wp2
          go_roundw
          case rel => exact ⟨i + 1, gg', j, k6', k7', A6', A7', S', by omega, by go_num, rfl, rfl, rfl, HQ7⟩
          case measure => simp [RowKit.intOf]; omega
    · have HA := Lib.hid HP.out.1.hs.stands
      clear HP
      go_wp2_with fail
      refine (HG.out _).mono ?_
      rintro e w9 ⟨rfl, ha⟩
      have HA9 : Hid (At w w9) := Lib.hid (HA.out.next ha)
      clear ha
      go_wp2
      go_ret
      exact ⟨rfl, HA9.out⟩

end Go.Proofs.Ytjgmgkglpfcihaa
