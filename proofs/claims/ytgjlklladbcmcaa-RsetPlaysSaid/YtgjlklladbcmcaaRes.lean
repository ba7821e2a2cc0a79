/- Proved: Reads hands back all that was read, in memory of its own; Set a new set of its blocks; of nothing nothing. -/
import Derived.Test.YtgjlklladbcmcaaVw
import Derived.Lib.SliceRun
namespace Go.Proofs.Ytgjlklladbcmcaa
open Go.RowKit

theorem rcs_set : ∀ (l : List Lr) (j : Nat) (x : Lr) (g c : Nat), l[j]? = some x → (rcs l).set (j * 3 + 1) (.slice (some ⟨g, 0, none⟩) 40 c) = rcs (l.set j (x.1, g, c))
  | [], _, _, _, _, h => by simp at h
  | y :: l, 0, x, g, c, h => by
    simp at h; subst h; rfl
  | y :: l, j + 1, x, g, c, h => by
    simp at h
    rw [show (j + 1) * 3 + 1 = j * 3 + 1 + 1 + 1 + 1 by omega, rcs, List.set_cons_succ, List.set_cons_succ, List.set_cons_succ, rcs_set l j x g c h, List.set_cons_succ, rcs]
theorem rfst_set (l : List Lr) (j : Nat) (x : Lr) (g c : Nat) (h : l[j]? = some x) : (l.set j (x.1, g, c)).map (·.1) = l.map (·.1) := by
  apply List.ext_getElem?
  intro i
  rw [List.getElem?_map, List.getElem?_map, List.getElem?_set]
  by_cases e : j = i
  · subst e
    rw [if_pos rfl, h, if_pos (List.getElem?_eq_some_iff.1 h).1]; rfl
  · rw [if_neg e]
/-- A read's bytes are laid anew. -/
theorem Rw.anew {w w' : World} {g n c j gc cc : Nat} {l : List Lr} {x : Lr} (h : Rw w' (.slice (some ⟨g, 0, none⟩) n c) l) (hn : l.length = n) (hj : l[j]? = some x) (hb : BV w' (some ⟨gc, 0, none⟩) x.1.d) (hgl : gc < w'.heap.size) (hne : gc ≠ g) (hA : At w w') (hg : w.heap.size ≤ g) :
    Rw (w'.setCell ⟨g, j * 3 + 1, none⟩ (.slice (some ⟨gc, 0, none⟩) 40 cc)) (.slice (some ⟨g, 0, none⟩) n c) (l.set j (x.1, gc, cc)) ∧ At w (w'.setCell ⟨g, j * 3 + 1, none⟩ (.slice (some ⟨gc, 0, none⟩) 40 cc)) := by
  have hmv : Mv (fun q => q = g) w' (w'.setCell ⟨g, j * 3 + 1, none⟩ (.slice (some ⟨gc, 0, none⟩) 40 cc)) := Mv.set (F := fun q => q = g) (Mv.refl _ w') (p := ⟨g, j * 3 + 1, none⟩) (Or.inl rfl) _
  have hxm : x ∈ l := List.mem_of_getElem? hj
  refine ⟨⟨?_, fun y hy => ?_, fun y hy => ?_⟩, Below.setCell hA hg _⟩
  · rw [List.length_set, ← rcs_set l j x gc cc hj]
    have := h.row
    rw [hn] at this ⊢
    exact (this.stored (j * 3 + 1) (.slice (some ⟨gc, 0, none⟩) 40 cc)).1
  · rcases List.mem_or_eq_of_mem_set hy with hy | rfl
    · exact ⟨bv_mv (h.bv y hy).1 hmv (fun e => h.ap hy (by rw [e]; rfl)), Nat.lt_of_lt_of_le (h.bv y hy).2 hmv.size⟩
    · exact ⟨bv_mv hb hmv hne, Nat.lt_of_lt_of_le hgl hmv.size⟩
  · rcases List.mem_or_eq_of_mem_set hy with hy | rfl
    · exact h.by_ y hy
    · exact h.by_ x hxm

set_option maxHeartbeats 1000000 in
set_option maxRecDepth 100000 in
theorem clone_reads {w : World} {v : Value} {l : List Lr} (h : Rw w v l) (hn : l.length ≤ 400000) :
    Calls Try.prog 43 #[v] w fun e w' => ∃ v', e = .returned v' ∧ Rw w' v' l ∧ At w w' ∧ ∀ g, v'.ownBlock = some g → w.heap.size ≤ g := by
  obtain ⟨i0, z0, hi, hz0, hz1, hz2, hz3⟩ := read_parts
  rcases h.row.2 with ⟨rfl, h0⟩ | ⟨g, c, cur, rfl, -, hh, -⟩
  · have hl : l = [] := List.eq_nil_of_length_eq_zero h0
    subst hl
    have hnil := Lib.run_eql_slice_nil (P := Try.prog) w 54 67 none 0 0 0 0 Try.underlying54
    clear h hi hz0 hz1 hz2 hz3 h0
    go_enter Try.func43, Try.ntmps43
    go_wp2
    go_ret
    exact ⟨_, rfl, Rw.nil _, At.start _, fun g hg => by cases hg⟩
  · obtain ⟨n, hnn⟩ : ∃ n, n = l.length := ⟨_, rfl⟩
    have H := Lib.hid h
    have HC : Hid (∀ j u, (rcs l)[j]? = some u → (w.alloc (.cells #[] 67)).cell? ((⟨g, 0, none⟩ : Addr).add j) = some u) := Lib.hid ((row_on h.row ((At.start w).alloc _)).cells (g := g) rfl)
    rw [← hnn] at H hn ⊢
    have hnil := Lib.run_eql_slice_nil (P := Try.prog) w 54 67 (some ⟨g, 0, none⟩) n c 0 0 Try.underlying54
    have HM := Lib.hid (made_row w 67 3)
    have HL := Lib.hid hnn
    have HZ := Lib.hid (And.intro hi (And.intro hz0 (And.intro hz1 (And.intro hz2 hz3))))
    clear h hi hz0 hz1 hz2 hz3 hnn hh
    go_enter Try.func43, Try.ntmps43
    go_wp2_with (at_builtin; refine wpList_append_own_at _ rfl (.tmp 5) (.tmp 6) 54 rfl 0 67 i0 _ 3 40 Try.underlying54 HZ.out.1 HZ.out.2.1 HZ.out.2.2.1 HZ.out.2.2.2.1 HZ.out.2.2.2.2 (by omega) _ 0 [] rfl HM.out ⟨g, 0, none⟩ n c (rcs l) rfl (by rw [rcs_len, HL.out]) HC.out (fun u hu => rcs_one l u hu) (by unfold maxLen; omega) (by omega) (Nat.zero_le _) ?_; intro v w1 hown hgrow hnn hat)
    go_ret
    rw [Nat.zero_add, List.nil_append, HL.out] at hown
    have hA := made_at hgrow
    refine ⟨v, rfl, ⟨hown, fun x hx => ⟨(H.out.bv x hx).1.below hA, Nat.lt_of_lt_of_le (H.out.bv x hx).2 hA.size⟩, H.out.by_⟩, hA, fun k hk => ?_⟩
    rcases hat with h | h
    · rw [h] at hk
      injection hk with hk
      exact Nat.le_of_eq hk
    · rw [h] at hk
      injection hk with hk
      rw [← hk]; simp

/-- The call hands back those reads, all of it in memory of its own. -/
def Readss (R : List Rd) (w : World) (e : Ending) (w' : World) : Prop := ∃ v l, e = .returned v ∧ Rw w' v l ∧ l.map (·.1) = R ∧ At w w'
set_option maxHeartbeats 400000 in
theorem reads_nil (w : World) : Calls Try.prog 18 #[.pointer none] w fun e w' => e = .returned (.slice none 0 0) ∧ w = w' := by
  go_enter Try.func18, Try.ntmps18
  go_wp2
  go_ret
  exact ⟨rfl, rfl⟩
set_option maxHeartbeats 2000000 in
set_option maxRecDepth 100000 in
theorem reads_any {w : World} {bv bm bb : Nat} {t : Int} {L : List (Int × Int)} {R : List Rd} {P : Nat → Prop} (hV : VP w bv bm bb t L R P) (hR : R.length ≤ 400000) :
    Calls Try.prog 18 #[.pointer (some ⟨bv, 0, none⟩)] w (Readss R w) := by
  obtain ⟨bs, vs, vr, l, hV⟩ := hV
  obtain ⟨-, -, -, -, c4⟩ := hV.box.cells
  have hl : l.length = R.length := by rw [← hV.is, List.length_map]
  have HC := Lib.hid (clone_reads hV.rw (by omega))
  have HIS := Lib.hid hV.is
  obtain ⟨A, c, rfl, -, -⟩ := hV.rw.form
  have hn : l.length ≤ 400000 := by omega
  have HR := Lib.hid hl
  clear hV hl hR
  go_enter Try.func18, Try.ntmps18
  go_wp2_with fail
  refine HC.out.mono ?_
  rintro e w1 ⟨v1, rfl, hrw, hA, hge⟩
  obtain ⟨A1, c1, rfl, -, -⟩ := hrw.form
  obtain ⟨n, hnn⟩ : ∃ n, n = l.length := ⟨_, rfl⟩
  rw [← hnn] at hrw hge hn
  rw [← hnn]
  have HN := Lib.hid hnn
  have HW := Lib.hid hrw
  have HA := Lib.hid hA
  have HG := Lib.hid hge
  clear hrw hA hge c4 hnn
  go_wp2
  go_loopw [15] (fun c15 wr => ∃ (k : Nat) (l' : List Lr), k ≤ n ∧ c15 = .int .i64 (k : Int) ∧ Hid (Rw wr (.slice A1 n c1) l' ∧ l'.map (·.1) = R ∧ At w wr)) (fun c15 _ => n - (RowKit.intOf c15).toNat)
  case atStart => exact ⟨0, l, Nat.zero_le _, rfl, Lib.hid ⟨HW.out, HIS.out, HA.out⟩⟩
  case round =>
    obtain ⟨k, l', hk, rfl, HK⟩ := hrel
    have hll : l'.length = n := by rw [HN.out, HR.out, ← HK.out.2.1, List.length_map]
    have HLL := Lib.hid hll
    by_cases hlt : k < n
    · have hkl : k < l'.length := by omega
      obtain ⟨A', c', he, -, hf⟩ := HK.out.1.form
      injection he with he1 he2 he3
      subst he1
      clear he2 he3
      obtain ⟨g, rfl, hg, hc⟩ := hf (by omega)
      obtain ⟨k1, k2, k3⟩ := hc k hkl
      have hxe : l'[k]? = some (l'.getD k lrz) := by rw [List.getD_eq_getElem?_getD, List.getElem?_eq_getElem hkl]; rfl
      obtain ⟨hxv, hxl⟩ := HK.out.1.bv _ (lr_mem hkl)
      have hxy := HK.out.1.by_ _ (lr_mem hkl)
      obtain ⟨x, hx⟩ : ∃ x : Lr, x = l'.getD k lrz := ⟨_, rfl⟩
      obtain ⟨⟨xn, d, o⟩, gc, cc⟩ := x
      rw [← hx] at k1 k2 k3 hxe hxv hxl hxy
      simp only at k1 k2 k3 hxv hxl hxy
      have HX := Lib.hid (And.intro hxe (And.intro hxv (And.intro hxl hxy)))
      have f2 := free_at (rw_block HK.out.1 (g := g) rfl).choose_spec (k * 3 + 1)
      obtain ⟨wb, hwb⟩ : ∃ wb, wr.alloc (.cells #[.int .i64 xn, .slice (some ⟨gc, 0, none⟩) 40 cc, .bool o] 67) = wb := ⟨_, rfl⟩
      obtain ⟨q9, hq9⟩ : ∃ q9, wr.heap.size = q9 := ⟨_, rfl⟩
      have hAb : At wr wb := by rw [← hwb]; exact (At.start _).alloc _
      have hQ9 : wb.heap[q9]? = some (.cells #[.int .i64 xn, .slice (some ⟨gc, 0, none⟩) 40 cc, .bool o] 67 (0, 0)) := by rw [← hwb, ← hq9]; exact heap_alloc_new _ _
      have r1 : wb.cell? ⟨q9, 1, none⟩ = some (.slice (some ⟨gc, 0, none⟩) 40 cc) := (cell_at hQ9 1).trans rfl
      have HAB := Lib.hid hAb
      have HGL := Lib.hid hg
      have HCL := Lib.hid (clone_bytes (c := cc) hxy.1 (hxv.below hAb))
      have HF2 := Lib.hid (And.intro k2 f2)
      have g1 : (0 : Int) ≤ (k : Int) := by omega
      have g2 : (k : Int) < (n : Int) := by omega
      clear hc hxe hxv hxl hxy hx hAb hQ9 hkl hf hll hg
      go_wp2_with fail
      refine HCL.out.mono ?_
      rintro e w5 ⟨g5, c5, rfl, hg5, hb5, hA5⟩
      have HA5 : Hid (At wr w5) := Lib.hid (HAB.out.next hA5)
      have hg5l : g5 < w5.heap.size := by
        obtain ⟨b', o', he, hlt', _⟩ := hb5.pos (by rw [HX.out.2.2.2.1]; omega)
        injection he with he
        injection he with he1 he2
        rw [he1]; exact hlt'
      have hgg : w1.heap.size ≤ g ∨ True := Or.inr trivial
      have j2 : w5.cell? ⟨g, k * 3 + 1, none⟩ = some (.slice (some ⟨gc, 0, none⟩) 40 cc) := (Below.cell HA5.out (p := ⟨g, k * 3 + 1, none⟩) HGL.out).trans HF2.out.1
      have j3 : w5.frozen? ⟨g, k * 3 + 1, none⟩ = false := (Below.frozen HA5.out (p := ⟨g, k * 3 + 1, none⟩) HGL.out).trans HF2.out.2
      have HY := Lib.hid ((HK.out.1.on HA5.out).anew HLL.out HX.out.1 hb5 hg5l (fun e => by have := HGL.out; have := HAB.out.size; omega) (HK.out.2.2.next HA5.out) (HG.out g rfl) (cc := c5))
      clear hg5 hb5 hA5 hg5l hgg k1 k2 k3 f2 r1
      go_wp2
      go_roundw
      case rel => exact ⟨k + 1, _, by omega, by go_num, Lib.hid ⟨HY.out.1, (rfst_set l' k _ g5 c5 HX.out.1).trans HK.out.2.1, HY.out.2⟩⟩
      case measure => simp [RowKit.intOf]; omega
    · have hkn : k = n := by omega
      have HE : Hid (Readss R w (.returned (.slice A1 n c1)) wr) := Lib.hid ⟨_, _, rfl, HK.out⟩
      clear hll
      go_wp2
      go_ret
      exact HE.out

/-- The call hands back a new set of the blocks L. -/
def VSet (L : List (Int × Int)) (w : World) (e : Ending) (w' : World) : Prop := ∃ b v, e = .returned (.pointer (some ⟨b, 0, none⟩)) ∧ Iv.Sv w' b v 64 L ∧ At w w'
theorem adds_new {w0 w w' : World} {b : Nat} {L : List (Int × Int)} {e : Ending} (h : Iv.Adds b (.slice none 0 0) 64 [] L w e w') (hN : Iv.Nm L) (hL : ∀ x ∈ L, x.1 + x.2 ≤ 1048576) (hl : L.length ≤ 64) (hA : At w0 w) (hb : w0.heap.size ≤ b) : ∃ z v', e = .returned (.int .i64 z) ∧ Iv.Sv w' b v' 64 L ∧ At w0 w' := by
  obtain ⟨c, v', L', rfl, hs, hd, h1⟩ := h
  have hat : At w0 w' := hd.mv.at_ hA fun g hg => hg.elim (fun e => by rw [e]; exact hb) (fun e => by cases e)
  have hva : Iv.allB L = true := Iv.allB_yes fun x hx => by
    have h1 := hN.1 x hx
    have h2 := hL x hx
    unfold Iv.Vm at h1
    unfold Iv.Va
    omega
  rcases h1 with ⟨_, _, h2⟩ | ⟨rfl, _, h2, _⟩ | ⟨_, _, _, M, h2, h3⟩
  · rw [hva] at h2; cases h2
  · rw [List.nil_append] at h2
    obtain rfl := Iv.is_one h2 (Iv.Is.self hN)
    exact ⟨0, v', rfl, hs, hat⟩
  · rw [List.nil_append] at h2
    obtain rfl := Iv.is_one h2 (Iv.Is.self hN)
    omega
set_option maxHeartbeats 1000000 in
theorem set_nil (w : World) : Calls Try.prog 19 #[.pointer none] w (VSet [] w) := by
  go_enter Try.func19, Try.ntmps19
  go_wp2_with fail
  refine (Iv.new_any 64 w).mono ?_
  rintro e w1 ⟨rfl, hs, hA⟩
  have HS : Hid (VSet [] w (.returned (.pointer (some ⟨w.heap.size, 0, none⟩))) w1) := Lib.hid ⟨_, _, rfl, hs, hA⟩
  clear hs hA
  go_wp2
  go_ret
  exact HS.out
set_option maxHeartbeats 2000000 in
set_option maxRecDepth 100000 in
theorem set_any {w : World} {bv bm bb : Nat} {t : Int} {L : List (Int × Int)} {R : List Rd} {P : Nat → Prop} (hV : VP w bv bm bb t L R P) (hL : ∀ x ∈ L, x.1 + x.2 ≤ 1048576) (hl : L.length ≤ 64) :
    Calls Try.prog 19 #[.pointer (some ⟨bv, 0, none⟩)] w (VSet L w) := by
  obtain ⟨bs, vs, vr, l, hV⟩ := hV
  have HV := Lib.hid hV
  have HL := Lib.hid (And.intro hV.sv.nm (And.intro hL hl))
  clear hV hL
  go_enter Try.func19, Try.ntmps19
  go_wp2_with fail
  refine (Iv.new_any 64 w).mono ?_
  rintro e w1 ⟨rfl, hs, hA⟩
  have HS := Lib.hid hs
  have HA : Hid (At w w1) := Lib.hid hA
  have c3 := (Vb.cells (hA.keep HV.out.box)).2.2.2.1
  have HX := Lib.hid (Iv.extents_any (HV.out.sv.on hA) (by omega))
  clear hs hA
  go_wp2_with fail
  refine HX.out.mono ?_
  rintro e w2 ⟨v2, rfl, ho, hA2, -⟩
  have HA2 : Hid (At w1 w2) := Lib.hid hA2
  have hz : ∀ A n c, v2 = .slice A n c → A = none → n = 0 ∧ c = 0 := fun A n c e1 e2 => by
    subst e1 e2
    rcases ho.form with ⟨e, _⟩ | ⟨g, c', T, e, _⟩
    · injection e with _ e2 e3; exact ⟨e2, e3⟩
    · injection e with e _ _; cases e
  obtain ⟨A, c, rfl, -, -, hev⟩ := ho.ev
  have HAD := Lib.hid (Iv.add_any A L.length c L (HS.out.on hA2) (by omega) (hz A _ c rfl) rfl hev)
  clear ho hA2 hz hev c3 HX
  go_wp2_with fail
  refine HAD.out.mono ?_
  rintro e w3 hadd
  obtain ⟨z, v', rfl, hs3, hA3⟩ := adds_new hadd HL.out.1 HL.out.2.1 HL.out.2.2 (HA.out.next HA2.out) (Nat.le_refl _)
  have HE : Hid (VSet L w (.returned (.pointer (some ⟨w.heap.size, 0, none⟩))) w3) := Lib.hid ⟨_, _, rfl, hs3, hA3⟩
  clear hadd hs3 hA3 HAD
  go_wp2
  go_ret
  exact HE.out

end Go.Proofs.Ytgjlklladbcmcaa
