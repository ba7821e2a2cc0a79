/- Proved: the document's own Add of one extent to the set inside a view. -/
import Derived.Test.YtgjlklladbcmcaaRs
namespace Go.Proofs.Ytgjlklladbcmcaa
open Go.RowKit
open Iv (In Nm Is Vm Ow)

/-- A row of extents laid once more, behind an empty one. -/
def Lay (w : World) (v : Value) (M : List (Int × Int)) (w' : World) : Prop := Ow w' v M ∧ At w w' ∧ ∀ g, v.ownBlock = some g → w.heap.size ≤ g
theorem run_exts (w : World) (ty : TypeId) (v : Value) (M : List (Int × Int)) (hv : Ow w v M) (hn : M.length ≤ 400000) :
    ∃ A' c' w', (Builtin.append_ #[58, 58] ty #[.slice (some ⟨w.heap.size, 0, none⟩) 0 0, v]).run Try.prog (w.alloc (.cells #[] 29)) = .ok (.slice A' M.length c') w' ∧ Lay w (.slice A' M.length c') M w' := by
  obtain ⟨i0, hi, hz0, hz1, hz2⟩ := info_parts Iv.info_ext
  have hmr := Iv.made_row w
  have ha : At w (w.alloc (.cells #[] 29)) := (At.start w).alloc _
  rcases hv.form with ⟨rfl, rfl⟩ | ⟨g, c, T, rfl, h1, h2, h3, h4⟩
  · exact ⟨_, _, _, run_append_owned_none (P := Try.prog) (w := w.alloc (.cells #[] 29)) 0 58 ty 29 i0 2 Try.underlying58 hi _ 0 _ hmr, hmr, ha, fun g hg => by injection hg with hg; exact Nat.le_of_eq hg⟩
  · have hw := ha.keep h4
    obtain ⟨v', w', hr, q2, q3, _, q5⟩ := run_append_own_at (P := Try.prog) (w.alloc (.cells #[] 29)) 0 58 ty 29 i0 _ 2 16 Try.underlying58 hi hz0 hz1 hz2 rfl (by decide) _ 0 [] hmr ⟨g, 0, none⟩ M.length c (Iv.fl M) (Iv.fl_len M) (fun j u hj => by
        rw [Go.WideShapes.add_plain, cell_at hw, Nat.zero_add, List.getElem?_toArray, List.getElem?_append_left (List.getElem?_eq_some_iff.1 hj).1]; exact hj) (fun u hu => Iv.fl_cells u M hu) (by unfold maxLen; omega) (by omega) (Nat.zero_le _)
    rw [Nat.zero_add, List.nil_append] at q2
    have q : ∃ A' c', v' = .slice A' M.length c' := by
      rcases Joins.ownsRow_forms q2 with ⟨rfl, h0⟩ | ⟨g, cap, rfl⟩
      · exact ⟨none, 0, by rw [h0]⟩
      · exact ⟨_, _, rfl⟩
    obtain ⟨A', c', rfl⟩ := q
    refine ⟨A', c', w', hr, q2, Iv.made_at q3, fun k hk => ?_⟩
    rcases q5 with h | h
    · rw [h] at hk
      injection hk with hk
      exact Nat.le_of_eq hk
    · rw [h] at hk
      injection hk with hk
      rw [← hk]; simp
theorem exts_append {w w1 : World} {q : Nat} (hw1 : w.alloc (.cells #[] 29) = w1) (hq : w.heap.size = q) {ops : Array Oper} {rest : List Oper} {o : Oper} {a : Act} {Q : Exit → Act → World → Prop} (hgd : o.guard = none) (s x : Operand)
    (ho : o.op = .call { callee := .builtin .append, args := #[s, x], argTypes := #[58, 58] }) (hs : a.eval s = .slice (some ⟨q, 0, none⟩) 0 0) (v : Value) (M : List (Int × Int)) (hv : Ow w v M) (hx : a.eval x = v) (n : Nat) (hl : M.length = n) (hn : n ≤ 400000)
    (h : ∀ A' c' w', Hid (Lay w (.slice A' n c') M w') → wpList Try.prog ops Q rest (a.put o.dst (.slice A' n c')) w') : wpList Try.prog ops Q (o :: rest) a w1 := by
  subst hl hw1 hq
  refine wpList_plain hgd fun K hK => ?_
  obtain ⟨A', c', w', hr, h2⟩ := run_exts w o.type v M hv hn
  unfold Oper.wp execOp
  simp only [ho, resolve, invoke, builtin, Sem.run_bind, Sem.run_pure, Result.andThen_ok, List.map_toArray, List.map_cons, List.map_nil, hs, hx, hr]
  exact hK _ _ (h A' c' w' (Lib.hid h2))


/-- The document's view at z: its map at x, its buffer at y, the time, the extents' row, the reads' row. -/
def Zb (w : World) (z x y : Nat) (t : Int) (v r : Value) : Prop := w.heap[z]? = some (.cells #[.pointer (some ⟨x, 0, none⟩), .pointer (some ⟨y, 0, none⟩), .int .i64 t, .int .i64 64, v, r] 62 (0, 0))
/-- What Add of one extent tells and leaves. -/
def Radd (z x y : Nat) (t : Int) (r : Value) (L : List (Int × Int)) (w : World) (e : Ending) (w' : World) : Prop := ∃ M', Is L M' ∧
  ((M'.length ≤ 64 ∧ e = .returned (.int .i64 0) ∧ ∃ v', Zb w' z x y t v' r ∧ Ow w' v' M' ∧ Mv (fun g => g = z) w w' ∧ ∀ g, v'.ownBlock = some g → w.heap.size ≤ g) ∨ (64 < M'.length ∧ e = .returned (.int .i64 7) ∧ At w w'))
set_option maxHeartbeats 2000000 in
set_option maxRecDepth 100000 in
theorem radd_any {w : World} {z x y g : Nat} {t : Int} {v r : Value} {M : List (Int × Int)} {f0 n0 : Int} (hb : Zb w z x y t v r) (ho : Ow w v M) (hM : Nm M) (hv : Iv.Va (f0, n0)) (hn : M.length ≤ 64) (hg : w.heap[g]? = some (.cells #[.int .i64 f0, .int .i64 n0] 29 (0, 0))) :
    Calls Try.prog 38 #[.pointer (some ⟨z, 3, none⟩), .slice (some ⟨g, 0, none⟩) 1 1] w (Radd z x y t r (M ++ [(f0, n0)]) w) := by
  have hva : Iv.vaB f0 n0 = true := Iv.vaB_yes hv
  obtain ⟨n, hnn⟩ : ∃ n, n = M.length := ⟨_, rfl⟩
  obtain ⟨B, cv, rfl, -, -, -⟩ := ho.ev
  rw [← hnn] at hb ho
  have HB := Lib.hid hb
  have HO := Lib.hid ho
  have HM := Lib.hid hM
  have HV := Lib.hid hv.vm
  have HN := Lib.hid hnn
  have HG := Lib.hid hg
  rw [← hnn] at hn
  clear hb ho hM hv hg hnn
  go_enter Try.func38, Try.ntmps38
  go_wp2
  go_loopw [5] (fun c5 wr => ∃ k : Nat, k ≤ 1 ∧ c5 = .int .i64 (k : Int) ∧ Hid (At w wr)) (fun c5 _ => 1 - (RowKit.intOf c5).toNat)
  case atStart => exact ⟨0, Nat.zero_le _, rfl, Lib.hid (At.start w)⟩
  case round =>
    obtain ⟨k, hk, rfl, HA⟩ := hrel
    by_cases hlt : k < 1
    · obtain rfl : k = 0 := by omega
      have hq := HA.out.keep HG.out
      have d0 : wr.cell? ⟨g, 0, none⟩ = some (.int .i64 f0) := (cell_at hq 0).trans rfl
      have d1 : wr.cell? ⟨g, 1, none⟩ = some (.int .i64 n0) := (cell_at hq 1).trans rfl
      clear hq
      go_wp2_with (go_at_call 58; refine (Iv.may_any _ _ _).mono ?_; rintro e w' ⟨rfl, hb'⟩)
      go_roundw
      case rel => exact ⟨1, by omega, rfl, Lib.hid (HA.out.next (by assumption))⟩
      case measure => simp [RowKit.intOf]
    · obtain rfl : k = 1 := by omega
      have hbx := HA.out.keep HB.out
      obtain ⟨wb, hwb⟩ : ∃ wb, wr.alloc (.cells #[] 29) = wb := ⟨_, rfl⟩
      obtain ⟨q, hq⟩ : ∃ q, wr.heap.size = q := ⟨_, rfl⟩
      have b1 : wb.cell? ⟨z, 4, none⟩ = some (.slice B n cv) := by rw [← hwb]; exact (cell_at (((At.start wr).alloc _).keep hbx) 4).trans rfl
      clear hbx
      go_wp2_with (at_builtin; refine exts_append hwb hq rfl (.tmp 20) (.tmp 24) rfl rfl (.slice B n cv) M (HO.out.on HA.out) rfl n HN.out.symm (by omega) ?_; intro A6 c6 w6 H6)
      go_loopw [6, 7] (fun c6' c7 w7 => ∃ k : Nat, k ≤ 1 ∧ c7 = .int .i64 (k : Int) ∧ ((k = 0 ∧ c6' = .slice A6 n c6 ∧ w7 = w6) ∨ (k = 1 ∧ ∃ (M' : List (Int × Int)) (m h c : Nat), c6' = .slice (some ⟨h, 0, none⟩) m c ∧ Hid (Is (M ++ [(f0, n0)]) M') ∧ Hid (m = M'.length) ∧ m ≤ n + 1 ∧ Hid (Ow w7 (.slice (some ⟨h, 0, none⟩) m c) M') ∧ Hid (At w6 w7) ∧ w6.heap.size ≤ h))) (fun _ c7 _ => 1 - (RowKit.intOf c7).toNat)
      case atStart => exact ⟨0, Nat.zero_le _, rfl, Or.inl ⟨rfl, rfl, rfl⟩⟩
      case round =>
        obtain ⟨k, hk, rfl, hor⟩ := hrel
        rcases hor with ⟨rfl, rfl, hw6⟩ | ⟨rfl, M', m, h, c, rfl, HI, hm, hml, HOW, HAT, hh⟩
        · subst hw6
          have HQ6 : Hid (At w wr) := Lib.hid (HA.out.next H6.out.2.1)
          have hq6 := HQ6.out.keep HG.out
          have d0 : wr.cell? ⟨g, 0, none⟩ = some (.int .i64 f0) := (cell_at hq6 0).trans rfl
          have d1 : wr.cell? ⟨g, 1, none⟩ = some (.int .i64 n0) := (cell_at hq6 1).trans rfl
          have HE6 : Hid (Iv.EV wr A6 M) := Lib.hid (by
            obtain ⟨A', c', e1, -, -, h2⟩ := H6.out.1.ev
            injection e1 with e1 _ _
            rw [e1]; exact h2)
          clear hq6 b1 hwb hq
          go_wp2_with (go_at_call 59; refine (rput_any A6 n c6 M f0 n0 HM.out HV.out HN.out.symm (by omega) _ HE6.out).mono ?_; rintro e w9 ⟨M', hi', hl', h, cc, rfl, how, hat, hh⟩; have HNN := Lib.hid (And.intro hi' (And.intro how (And.intro hat hh))); clear hi' how hat hh)
          go_roundw
          case rel => exact ⟨1, by omega, rfl, Or.inr ⟨rfl, M', _, h, cc, rfl, Lib.hid HNN.out.1, Lib.hid rfl, hl', Lib.hid HNN.out.2.1, Lib.hid HNN.out.2.2.1, HNN.out.2.2.2⟩⟩
          case measure => simp [RowKit.intOf]
        · have HQ7 : Hid (At w wr) := Lib.hid ((HA.out.next H6.out.2.1).next HAT.out)
          have hbx := HQ7.out.keep HB.out
          have b5 : wr.frozen? ⟨z, 4, none⟩ = false := free_at hbx 4
          have b6 : wr.cell? ⟨z, 3, none⟩ = some (.int .i64 64) := (cell_at hbx 3).trans rfl
          have b7 : wr.cell? ⟨z, 4, none⟩ = some (.slice B n cv) := (cell_at hbx 4).trans rfl
          have e1 : max (64 : Int) 0 = 64 := by decide
          have hhw : w.heap.size ≤ h := Nat.le_trans (HA.out.next H6.out.2.1).size hh
          by_cases hbig : 64 < m
          · have e2 : decide (64 < (m : Int)) = true := decide_eq_true (by omega)
            have HE : Hid (64 < M'.length) := Lib.hid (by rw [← hm.out]; exact hbig)
            clear hbx b1 hwb hq hbig
            go_wp2
            go_ret
            exact ⟨M', HI.out, Or.inr ⟨HE.out, rfl, HQ7.out⟩⟩
          · have e2 : decide (64 < (m : Int)) = false := decide_eq_false (by omega)
            have HE : Hid (M'.length ≤ 64) := Lib.hid (by rw [← hm.out]; omega)
            have HSB : Hid (Zb (wr.setCell ⟨z, 4, none⟩ (.slice (some ⟨h, 0, none⟩) m c)) z x y t (.slice (some ⟨h, 0, none⟩) m c) r) := Lib.hid (heap_set hbx 4 _)
            have HMV : Hid (Mv (fun g => g = z) w (wr.setCell ⟨z, 4, none⟩ (.slice (some ⟨h, 0, none⟩) m c))) := Lib.hid (Mv.set (F := fun g => g = z) (p := ⟨z, 4, none⟩) (Mv.of_below _ HQ7.out) (Or.inl rfl) _)
            have HOO : Hid (Ow (wr.setCell ⟨z, 4, none⟩ (.slice (some ⟨h, 0, none⟩) m c)) (.slice (some ⟨h, 0, none⟩) m c) M') := Lib.hid (HOW.out.mv (F := fun g => g = z) (Mv.set (F := fun g => g = z) (p := ⟨z, 4, none⟩) (Mv.refl _ wr) (Or.inl rfl) _) (fun g hg e => by
              have hg : h = g := by injection hg
              have := lt_heap HB.out
              omega))
            clear hbx b1 hwb hq hbig
            go_wp2
            go_ret
            exact ⟨M', HI.out, Or.inl ⟨HE.out, rfl, _, HSB.out, HOO.out, HMV.out, fun g hg => by
              have hg : h = g := by injection hg
              omega⟩⟩

end Go.Proofs.Ytgjlklladbcmcaa
