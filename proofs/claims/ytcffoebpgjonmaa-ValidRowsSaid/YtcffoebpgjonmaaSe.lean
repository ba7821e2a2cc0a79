/- Proved: the document's own Add to an empty set; sets, on both sides. -/
import Derived.Test.YtcffoebpgjonmaaHa
namespace Go.Proofs.Ytcffoebpgjonmaa
open Go.RowKit
open Iv (In Nm Is Vm Va Sv EV Ow allB nf)

/-- A row of extents laid once more, behind an empty one. -/
def Lay (w : World) (v : Value) (M : List (Int × Int)) (w' : World) : Prop := Ow w' v M ∧ At w w' ∧ ∀ g, v.ownBlock = some g → w.heap.size ≤ g
theorem run_exts (w : World) (ty : TypeId) (v : Value) (M : List (Int × Int)) (hv : Ow w v M) (hn : M.length ≤ 400000) :
    ∃ A' c' w', (Builtin.append_ #[23, 23] ty #[.slice (some ⟨w.heap.size, 0, none⟩) 0 0, v]).run Try.prog (w.alloc (.cells #[] 49)) = .ok (.slice A' M.length c') w' ∧ Lay w (.slice A' M.length c') M w' := by
  obtain ⟨i0, hi, hz0, hz1, hz2⟩ := info_parts Iv.info_ext
  have hmr := Iv.made_row w
  have ha : At w (w.alloc (.cells #[] 49)) := (At.start w).alloc _
  rcases hv.form with ⟨rfl, rfl⟩ | ⟨g, c, T, rfl, h1, h2, h3, h4⟩
  · exact ⟨_, _, _, run_append_owned_none (P := Try.prog) (w := w.alloc (.cells #[] 49)) 0 23 ty 49 i0 2 Try.underlying23 hi _ 0 _ hmr, hmr, ha, fun g hg => by injection hg with hg; exact Nat.le_of_eq hg⟩
  · have hw := ha.keep h4
    obtain ⟨v', w', hr, q2, q3, _, q5⟩ := run_append_own_at (P := Try.prog) (w.alloc (.cells #[] 49)) 0 23 ty 49 i0 _ 2 16 Try.underlying23 hi hz0 hz1 hz2 rfl (by decide) _ 0 [] hmr ⟨g, 0, none⟩ M.length c (Iv.fl M) (Iv.fl_len M) (fun j u hj => by
        rw [Go.WideShapes.add_plain, cell_at hw, Nat.zero_add, List.getElem?_toArray, List.getElem?_append_left (List.getElem?_eq_some_iff.1 hj).1]; exact hj) (fun u hu => Iv.fl_cells u M hu) (by unfold maxLen; omega) (by omega) (Nat.zero_le _)
    rw [Nat.zero_add, List.nil_append] at q2
    have q : ∃ A' c', v' = .slice A' M.length c' := by
      rcases Joins.ownsRow_forms q2 with ⟨rfl, h0⟩ | ⟨g, cap, rfl⟩
      · exact ⟨none, 0, by rw [h0]⟩
      · exact ⟨_, _, rfl⟩
    obtain ⟨A', c', rfl⟩ := q
    refine ⟨A', c', w', hr, q2, Iv.made_at q3, fun k hk => ?_⟩
    rcases q5 with h | h
    · rw [h] at hk
      injection hk with hk
      exact Nat.le_of_eq hk
    · rw [h] at hk
      injection hk with hk
      rw [← hk]; simp
theorem exts_append {w w1 : World} {q : Nat} (hw1 : w.alloc (.cells #[] 49) = w1) (hq : w.heap.size = q) {ops : Array Oper} {rest : List Oper} {o : Oper} {a : Act} {Q : Exit → Act → World → Prop} (hgd : o.guard = none) (s x : Operand)
    (ho : o.op = .call { callee := .builtin .append, args := #[s, x], argTypes := #[23, 23] }) (hs : a.eval s = .slice (some ⟨q, 0, none⟩) 0 0) (v : Value) (M : List (Int × Int)) (hv : Ow w v M) (hx : a.eval x = v) (n : Nat) (hl : M.length = n) (hn : n ≤ 400000)
    (h : ∀ A' c' w', Hid (Lay w (.slice A' n c') M w') → wpList Try.prog ops Q rest (a.put o.dst (.slice A' n c')) w') : wpList Try.prog ops Q (o :: rest) a w1 := by
  subst hl hw1 hq
  refine wpList_plain hgd fun K hK => ?_
  obtain ⟨A', c', w', hr, h2⟩ := run_exts w o.type v M hv hn
  unfold Oper.wp execOp
  simp only [ho, resolve, invoke, builtin, Sem.run_bind, Sem.run_pure, Result.andThen_ok, List.map_toArray, List.map_cons, List.map_nil, hs, hx, hr]
  exact hK _ _ (h A' c' w' (Lib.hid h2))

/-- What a set holds when these were added to an empty one. -/
def ex (l : List (Int × Int)) : List (Int × Int) := if allB l = true then nf l else []
theorem va_vm {l : List (Int × Int)} (h : allB l = true) : ∀ e ∈ l, Vm e := fun e he => ((Iv.allB_iff l).1 h e he).vm
theorem ex_yes {l : List (Int × Int)} (h : allB l = true) : ex l = nf l := if_pos h
theorem ex_no {l : List (Int × Int)} (h : allB l = false) : ex l = [] := if_neg (by rw [h]; simp)
theorem ex_nm (l : List (Int × Int)) : Nm (ex l) := by
  by_cases h : allB l = true
  · rw [ex_yes h]; exact (Iv.nf_is (va_vm h)).1
  · rw [ex_no (by simpa using h)]; exact Nm.nil
theorem ex_len (l : List (Int × Int)) : (ex l).length ≤ l.length := by
  by_cases h : allB l = true
  · rw [ex_yes h]; exact Iv.is_len (va_vm h) (Iv.nf_is (va_vm h))
  · rw [ex_no (by simpa using h)]; exact Nat.zero_le _
theorem ex_in {l : List (Int × Int)} (h : allB l = true) (x : Int) : In (ex l) x ↔ In l x := by rw [ex_yes h]; exact (Iv.nf_is (va_vm h)).2 x
theorem ex_ne {l : List (Int × Int)} (h : allB l = true) (h0 : l ≠ []) : ex l ≠ [] := by rw [ex_yes h]; exact Iv.is_ne (va_vm h) (Iv.nf_is (va_vm h)) h0
theorem ex_nil : ex [] = [] := List.eq_nil_of_length_eq_zero (Nat.le_zero.1 (ex_len []))

/-- What the document's Add tells and leaves. -/
def Radd (d : Nat) (l : List (Int × Int)) (w : World) (e : Ending) (w' : World) : Prop := e = .returned (.int .i64 (if allB l = true then 0 else 1)) ∧ Dv w' d (ex l) ∧ Mv (fun g => g = d) w w'

set_option maxHeartbeats 4000000 in
set_option maxRecDepth 100000 in
theorem radd_any {w : World} {d : Nat} (hb : w.heap[d]? = some (.cells #[.int .i64 100, .slice none 0 0] 53 (0, 0))) (A : Option Addr) (n c : Nat) (l : List (Int × Int)) (hl : l.length = n) (hn : n ≤ 100) (hv : EV w A l) :
    Calls Try.prog 28 #[.pointer (some ⟨d, 0, none⟩), .slice A n c] w (Radd d l w) := by
  have HB := Lib.hid hb
  have HV := Lib.hid hv
  have HN := Lib.hid hl
  clear hb hv hl
  go_enter Try.func28, Try.ntmps28
  go_wp2
  go_loopw [5] (fun c5 wr => ∃ k : Nat, k ≤ n ∧ c5 = .int .i64 (k : Int) ∧ Hid (∀ j, j < k → Va (l.getD j (0, 0))) ∧ Hid (At w wr)) (fun c5 _ => n - (RowKit.intOf c5).toNat)
  case atStart => exact ⟨0, Nat.zero_le _, rfl, Lib.hid (fun j h => absurd h (Nat.not_lt_zero j)), Lib.hid (At.start w)⟩
  case round =>
    obtain ⟨k, hk, rfl, HI, HA⟩ := hrel
    by_cases hlt : k < n
    · have hkl : k < l.length := by rw [HN.out]; exact hlt
      obtain ⟨g, o, rfl, hg, hc⟩ := (HV.out.on HA.out).pos (by omega)
      obtain ⟨k1, k2⟩ := hc k hkl
      have hno : ¬ Va (l.getD k (0, 0)) → allB l = false := fun h => Iv.allB_no (Iv.getD_mem hkl) h
      have hmo : Va (l.getD k (0, 0)) → ∀ j, j < k + 1 → Va (l.getD j (0, 0)) := fun h j hj => by
        by_cases e : j = k
        · rw [e]; exact h
        · exact HI.out j (by omega)
      obtain ⟨x0, hx0⟩ : ∃ x, l.getD k (0, 0) = x := ⟨_, rfl⟩
      rw [hx0] at k1 k2 hno hmo
      obtain ⟨y, yn⟩ := x0
      simp only at k1 k2
      have HNO := Lib.hid hno
      have HMO := Lib.hid hmo
      have g1 : (0 : Int) ≤ (k : Int) := by omega
      have g2 : (k : Int) < (n : Int) := by omega
      clear hc hno hmo hx0 hkl hg
      by_cases hva : Va (y, yn)
      · have HM := Lib.hid (Iv.may_any y yn wr)
        rw [Iv.vaB_yes hva] at HM
        have HI2 := Lib.hid (HMO.out hva)
        clear hva
        go_wp2_with fail
        refine HM.out.mono ?_
        rintro e w2 ⟨rfl, hA2⟩
        have HA2 := Lib.hid (HA.out.next hA2)
        clear hA2
        go_wp2
        go_roundw
        case rel => exact ⟨k + 1, by omega, by go_num, HI2, HA2⟩
        case measure => simp [RowKit.intOf]; omega
      · have HM := Lib.hid (Iv.may_any y yn wr)
        rw [Iv.vaB_no hva] at HM
        have HR := Lib.hid (HNO.out hva)
        clear hva
        go_wp2_with fail
        refine HM.out.mono ?_
        rintro e w2 ⟨rfl, hA2⟩
        have HA2 := Lib.hid (HA.out.next hA2)
        clear hA2
        go_wp2
        go_ret
        exact ⟨by rw [HR.out]; rfl, ⟨by rw [ex_no HR.out]; exact Nm.nil, none, 0, 0, HA2.out.keep HB.out, by rw [ex_no HR.out]; rfl, by rw [ex_no HR.out]; exact EV.nil _ _⟩, Mv.of_below _ HA2.out⟩
    · have hall : allB l = true := Iv.allB_yes fun e he => by
        obtain ⟨j, hj, rfl⟩ := List.getElem_of_mem he
        have := HI.out j (by rw [HN.out] at hj; omega)
        rwa [List.getD_eq_getElem?_getD, List.getElem?_eq_getElem hj] at this
      have HALL := Lib.hid hall
      have hbx := HA.out.keep HB.out
      obtain ⟨wb, hwb⟩ : ∃ wb, wr.alloc (.cells #[] 49) = wb := ⟨_, rfl⟩
      obtain ⟨q, hq⟩ : ∃ q, wr.heap.size = q := ⟨_, rfl⟩
      have b1 : wb.cell? ⟨d, 1, none⟩ = some (.slice none 0 0) := by rw [← hwb]; exact (cell_at (((At.start wr).alloc _).keep hbx) 1).trans rfl
      have HON : Hid (Ow wr (.slice none 0 0) []) := Lib.hid (Ow.nil wr)
      have z1 : decide ((k : Int) < (n : Int)) = false := decide_eq_false (by omega)
      clear hbx hall
      clear hk
      go_wp2_with (at_builtin; refine exts_append hwb hq rfl (.tmp 20) (.tmp 24) rfl rfl (.slice none 0 0) [] HON.out rfl 0 rfl (by omega) ?_; intro A6 c6 w6 H6)
      have HE6 : Hid (EV w6 A6 []) := Lib.hid (EV.nil _ _)
      have HA6 : Hid (At w w6) := Lib.hid (HA.out.next H6.out.2.1)
      clear H6 HON HA b1 hwb hq
      go_loopw [6, 7] (fun c6 c7 wr => ∃ (k : Nat) (O : List (Int × Int)) (B : Option Addr) (m cb : Nat), k ≤ n ∧ c7 = .int .i64 (k : Int) ∧ c6 = .slice B m cb ∧ m ≤ 100 ∧ Hid (O.length = m) ∧ Hid (Is (l.take k) O) ∧ Hid (EV wr B O) ∧ Hid (At w wr)) (fun _ c7 _ => n - (RowKit.intOf c7).toNat)
      case atStart => exact ⟨0, [], A6, 0, c6, Nat.zero_le _, rfl, rfl, Nat.zero_le _, Lib.hid rfl, Lib.hid Is.nil, HE6, HA6⟩
      case round =>
        clear HE6 HA6
        obtain ⟨k, O, B, m, cb, hk, rfl, rfl, hm, HM, HO, HE, HA⟩ := hrel
        by_cases hlt : k < n
        · have hkl : k < l.length := by rw [HN.out]; exact hlt
          obtain ⟨g, o, rfl, hg, hc⟩ := (HV.out.on HA.out).pos (by omega)
          obtain ⟨k1, k2⟩ := hc k hkl
          have hvm := va_vm HALL.out _ (Iv.getD_mem hkl)
          have htk := ex_take l k hkl
          obtain ⟨x0, hx0⟩ : ∃ x, l.getD k (0, 0) = x := ⟨_, rfl⟩
          rw [hx0] at k1 k2 hvm htk
          obtain ⟨y, yn⟩ := x0
          simp only at k1 k2
          have HPU := Lib.hid (rput_any B m cb O y yn HO.out.1 hvm HM.out (by omega) wr HE.out)
          have HIS : Hid (∀ M', Is (O ++ [(y, yn)]) M' → Is (l.take (k + 1)) M' ∧ M'.length ≤ 100) := Lib.hid fun M' hM' => by
            have h1 : Is (l.take (k + 1)) M' := by rw [htk]; exact Iv.is_app HO.out hM'
            refine ⟨h1, ?_⟩
            have := Iv.is_len (fun e he => va_vm HALL.out e (List.mem_of_mem_take he)) h1
            rw [List.length_take] at this
            omega
          have g1 : (0 : Int) ≤ (k : Int) := by omega
          have g2 : (k : Int) < (n : Int) := by omega
          clear hc hx0 hkl hg hvm htk
          go_wp2_with fail
          refine HPU.out.mono ?_
          rintro e w7 ⟨M', hi', -, h7, c7, rfl, hO7, hA7, -⟩
          obtain ⟨A7, cc7, e7, -, -, hE7⟩ := hO7.ev
          injection e7 with e7 _ _
          have HE7 : Hid (EV w7 (some ⟨h7, 0, none⟩) M') := Lib.hid (by rw [e7]; exact hE7)
          have HI7 := Lib.hid (HIS.out M' hi')
          have HA7 := Lib.hid (HA.out.next hA7)
          obtain ⟨m7, hm7⟩ : ∃ m7, M'.length = m7 := ⟨_, rfl⟩
          rw [hm7]
          have HM7 := Lib.hid hm7
          have hm8 : m7 ≤ 100 := by rw [← hm7]; exact HI7.out.2
          clear hi' hO7 hA7 e7 hE7 hm7 HPU HIS
          go_wp2
          go_roundw
          case rel => exact ⟨k + 1, M', _, m7, _, by omega, by go_num, rfl, hm8, HM7, Lib.hid HI7.out.1, HE7, HA7⟩
          case measure => simp [RowKit.intOf]; omega
        · have hbx := HA.out.keep HB.out
          have b5 : wr.frozen? ⟨d, 1, none⟩ = false := free_at hbx 1
          have b6 : wr.cell? ⟨d, 0, none⟩ = some (.int .i64 100) := (cell_at hbx 0).trans rfl
          have b7 : wr.cell? ⟨d, 1, none⟩ = some (.slice none 0 0) := (cell_at hbx 1).trans rfl
          have e1 : max (100 : Int) 0 = 100 := by decide
          have e2 : decide (100 < (m : Int)) = false := decide_eq_false (by omega)
          have hO2 : O = ex l := by
            have h1 := HO.out
            rw [show k = l.length by rw [HN.out]; omega, List.take_length] at h1
            rw [ex_yes HALL.out]
            exact Iv.is_one h1 (Iv.nf_is (va_vm HALL.out))
          have HO2 := Lib.hid hO2
          have HSB : Hid ((wr.setCell ⟨d, 1, none⟩ (.slice B m cb)).heap[d]? = some (.cells #[.int .i64 100, .slice B m cb] 53 (0, 0))) := Lib.hid (heap_set hbx 1 _)
          have HMV : Hid (Mv (fun g => g = d) w (wr.setCell ⟨d, 1, none⟩ (.slice B m cb))) := Lib.hid (Mv.set (F := fun g => g = d) (p := ⟨d, 1, none⟩) (Mv.of_below _ HA.out) (Or.inl rfl) _)
          have HEE : Hid (EV (wr.setCell ⟨d, 1, none⟩ (.slice B m cb)) B O) := Lib.hid (by
            rcases HE.out with h | ⟨g, o, rfl, hg, hc⟩
            · exact Or.inl h
            · by_cases h0 : O.length = 0
              · exact Or.inl (List.eq_nil_of_length_eq_zero h0)
              · refine Or.inr ⟨g, o, rfl, by simpa [World.setCell] using hg, fun j hj => ?_⟩
                have hne : g ≠ d := fun e => by
                  obtain ⟨h1, h2⟩ := hc 0 (by omega)
                  subst e
                  rw [cell_at hbx] at h1 h2
                  rcases Nat.lt_or_ge (o + 0 * 2) 1 with h3 | h3
                  · have h4 : o = 0 := by omega
                    subst h4
                    simp at h2
                  · rw [cell_at hbx] at *
                    have : o + 0 * 2 + 1 ≥ 2 := by omega
                    simp [this] at h2
                have hm := Mv.set (F := fun g => g = d) (p := ⟨d, 1, none⟩) (Mv.refl (fun g => g = d) wr) (Or.inl rfl) (.slice (some ⟨g, o, none⟩) m cb)
                obtain ⟨h1, h2⟩ := hc j hj
                exact ⟨(World.cell?_of_block (a := ⟨g, o + j * 2, none⟩) (hm.block g hg hne)).trans h1, (World.cell?_of_block (a := ⟨g, o + j * 2 + 1, none⟩) (hm.block g hg hne)).trans h2⟩)
          have z1 : decide ((k : Int) < (n : Int)) = false := decide_eq_false (by omega)
          clear hbx hO2 hk
          go_wp2
          go_ret
          exact ⟨by rw [HALL.out]; rfl, ⟨ex_nm l, _, _, _, HSB.out, by rw [← HO2.out]; exact HM.out, by rw [← HO2.out]; exact HEE.out⟩, HMV.out⟩

/-- What sets hands back. -/
def SetsP (l : List (Int × Int)) (w : World) (e : Ending) (w' : World) : Prop :=
  ∃ (b d : Nat) (v : Value), e = .returned (.tuple #[.pointer (some ⟨b, 0, none⟩), .pointer (some ⟨d, 0, none⟩), .bool true]) ∧ Sv w' b v 100 (ex l) ∧ Dv w' d (ex l) ∧ At w w'
theorem adds_ex {b : Nat} {v : Value} {l : List (Int × Int)} {w w' : World} {e : Ending} (h : Iv.Adds b v 100 [] l w e w') (hl : l.length ≤ 100) : ∃ v', e = .returned (.int .i64 (if allB l = true then 0 else 1)) ∧ Sv w' b v' 100 (ex l) ∧ Iv.Did w b v v' w' := by
  obtain ⟨c, v', L', rfl, hs, hd, h | h | h⟩ := h
  · obtain ⟨rfl, rfl, h1⟩ := h
    rw [ex_no h1, h1]
    exact ⟨v', rfl, hs, hd⟩
  · obtain ⟨rfl, h1, h2, -⟩ := h
    obtain rfl := Iv.is_one h2 (Iv.nf_is (va_vm h1))
    rw [ex_yes h1, h1]
    exact ⟨v', rfl, hs, hd⟩
  · obtain ⟨rfl, rfl, h1, M, h2, h3⟩ := h
    have := Iv.is_len (va_vm h1) h2
    omega

set_option maxHeartbeats 4000000 in
set_option maxRecDepth 100000 in
theorem sets_any (A : Option Addr) (n c : Nat) (l : List (Int × Int)) (hl : l.length = n) (hn : n ≤ 100) (hz : A = none → n = 0 ∧ c = 0) (w : World) (hv : EV w A l) :
    Calls Try.prog 14 #[.slice A n c] w (SetsP l w) := by
  have HV := Lib.hid hv
  have HN := Lib.hid hl
  have HZ := Lib.hid hz
  have HNW := Lib.hid (Iv.new_any 100 w)
  clear hv hl hz
  go_enter Try.func14, Try.ntmps14
  go_wp2_with fail
  refine HNW.out.mono ?_
  rintro e w1 ⟨rfl, hs1, hA1⟩
  obtain ⟨b, hb⟩ : ∃ b, b = w.heap.size := ⟨_, rfl⟩
  rw [← hb] at hs1 ⊢
  obtain ⟨d, hd⟩ : ∃ d, w1.heap.size = d := ⟨_, rfl⟩
  obtain ⟨w2, hw2⟩ : ∃ w2, w1.alloc (.cells #[.int .i64 100, .slice none 0 0] 53) = w2 := ⟨_, rfl⟩
  have hA2 : At w1 w2 := by rw [← hw2]; exact (At.start w1).alloc _
  have HD2 : Hid (w2.heap[d]? = some (.cells #[.int .i64 100, .slice none 0 0] 53 (0, 0))) := Lib.hid (by rw [← hw2, ← hd]; exact heap_alloc_new w1 _)
  have hbd : b < d := by rw [← hd]; exact lt_heap hs1.box
  have HBD := Lib.hid (And.intro hbd (Nat.le_of_eq hb.symm))
  have HA2 : Hid (At w w2) := Lib.hid (At.next hA1 hA2)
  have HAD := Lib.hid (Iv.add_any A n c l (hs1.on hA2) (by omega) HZ.out HN.out (HV.out.on HA2.out))
  clear hs1 hA1 hA2 hb hbd
  go_wp2_with fail
  refine HAD.out.mono ?_
  rintro e w3 hadd
  obtain ⟨v', rfl, hs3, hd3⟩ := adds_ex hadd (by rw [HN.out]; exact hn)
  have hdf : ¬ Iv.Ft b (.slice none 0 0) d := fun h => h.elim (fun e => by have := HBD.out.1; omega) (fun e => by cases e)
  have HD3 := Lib.hid (hd3.mv.keep HD2.out hdf)
  have HA3 : Hid (At w w3) := Lib.hid (hd3.mv.at_ HA2.out fun g hg => hg.elim (fun e => by rw [e]; exact HBD.out.2) (fun e => by cases e))
  have HF3 : Hid (∀ g, Iv.Ft b v' g → g ≠ d) := Lib.hid fun g hg e => by
    subst e
    rcases hd3.ft g hg with h | h
    · exact hdf h
    · have := lt_heap HD2.out; omega
  have HS3 := Lib.hid hs3
  obtain ⟨z, hz⟩ : ∃ z : Int, z = if allB l = true then 0 else 1 := ⟨_, rfl⟩
  have HRA := Lib.hid (radd_any HD3.out A n c l HN.out hn (HV.out.on HA3.out))
  unfold Radd at HRA
  rw [← hz] at HRA ⊢
  clear hadd hs3 hd3 hdf hz hw2 hd HAD
  go_wp2_with fail
  refine HRA.out.mono ?_
  rintro e w4 ⟨rfl, hD4, hM4⟩
  have HS4 := Lib.hid (HS3.out.keep hM4 HF3.out)
  have HD4 := Lib.hid hD4
  have HA4 : Hid (At w w4) := Lib.hid (hM4.at_ HA3.out fun g hg => by rw [hg]; have := HBD.out; omega)
  clear hD4 hM4 HRA
  go_wp2
  go_ret3
  exact ⟨b, d, v', by simp, HS4.out, HD4.out, HA4.out⟩

end Go.Proofs.Ytcffoebpgjonmaa
