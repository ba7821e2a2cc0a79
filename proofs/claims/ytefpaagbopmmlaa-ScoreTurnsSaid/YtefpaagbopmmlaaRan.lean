/- Proved: the landed Rank answers with the one rank of the zones. -/
import Derived.Test.YtefpaagbopmmlaaRnk
import Derived.Test.YtefpaagbopmmlaaRzon
import Derived.Laws.OwnMore
import Derived.OwnWalk
import Derived.Maps.AppendAt
import Derived.WalkSpells
namespace Go.Proofs.Ytefpaagbopmmlaa
open Go.RowKit Go.Sort Fl

theorem store_float (P : Program) (w : World) (a : Addr) (m : Mode) (k : FloatKind) (b : Nat) : (store a (.float k b) m).run P w = stored P w a (.float k b) m := run_store P w a _ m rfl
theorem info_f64 : (Try.prog.info? 24).map (fun i => (i.zero, i.size, i.bytes)) = some (some (.float .f64 0), 1, 8) := by kernel_rfl
theorem info_int : (Try.prog.info? 3).map (fun i => (i.zero, i.size, i.bytes)) = some (some (.int .i64 0), 1, 8) := by kernel_rfl
def nv (j : Nat) : Value := .int .i64 (j : Int)
theorem made_zero (n : Nat) : (madeCells #[Value.float FloatKind.f64 0] n).toList = (List.replicate n 0).map (Value.float .f64) := (toList_madeCells_one _ _).trans (by simp)
theorem fl_cell {w : World} {B T g cap n : Nat} {S : List Nat} (h : w.ownsRow B T 1 (.slice (some ⟨g, 0, none⟩) n cap) n (S.map (Value.float .f64))) (j : Nat) (hj : j < n) :
    w.cell? ⟨g, j, none⟩ = some (.float .f64 (S.getD j 0)) := by
  have hl : S.length = n := by simpa using h.1
  rw [h.cellAt j (by omega), List.getElem?_map, List.getD_eq_getElem?_getD, List.getElem?_eq_getElem (by omega)]
  rfl
theorem nv_cell {w : World} {B T g cap n : Nat} {S : List Nat} (h : w.ownsRow B T 1 (.slice (some ⟨g, 0, none⟩) n cap) n (S.map nv)) (j : Nat) (hj : j < n) :
    w.cell? ⟨g, j, none⟩ = some (nv (S.getD j 0)) := by
  have hl : S.length = n := by simpa using h.1
  rw [h.cellAt j (by omega), List.getElem?_map, List.getD_eq_getElem?_getD, List.getElem?_eq_getElem (by omega)]
  rfl

/-- A slice of places that reads as a list. -/
def NView (w : World) (v : Value) (R : List Nat) : Prop :=
  (v = .slice none 0 0 ∧ R = []) ∨ ∃ g off cap, v = .slice (some ⟨g, off, none⟩) R.length cap ∧ 0 < R.length ∧ g < w.heap.size ∧ ∀ j, j < R.length → w.cell? ⟨g, off + j, none⟩ = some (nv (R.getD j 0))
/-- What a Rank answers. -/
def Ranks (Z : List (Int × Int × Int)) (now : Int) (w : World) (e : Ending) (w' : World) : Prop := ∃ v R, e = .returned v ∧ IsRank Z now R ∧ NView w' v R ∧ Below w.heap.size w w'

/-- What stands at the head of a round of Rank's loop. -/
structure Rl (Z : List (Int × Int × Int)) (now : Int) (B n gs ps k : Nat) (v : Value) (S : List Nat) (w wr : World) : Prop where
  r : wr.ownsRow B 3 1 v (kept Z now k).length ((kept Z now k).map nv)
  s : wr.ownsRow B 24 1 (.slice (some ⟨gs, 0, none⟩) n n) n (S.map (Value.float .f64))
  p : wr.cell? ⟨ps, 0, none⟩ = some (.slice (some ⟨gs, 0, none⟩) n n)
  b : Below B w wr
  n1 : v.ownBlock ≠ some gs
  n2 : v.ownBlock ≠ some ps
  n0 : kept Z now k = [] → v = .slice none 0 0
  gp : gs ≠ ps
  gb : B ≤ gs
  pb : B ≤ ps ∧ ps < wr.heap.size
  sc : ∀ j ∈ kept Z now k, S.getD j 0 = wz Z now j
  s64 : ∀ s ∈ S, s < 18446744073709551616


section
variable {Z : List (Int × Int × Int)} {now : Int} {B n gs ps k : Nat} {v : Value} {S : List Nat} {w wr w2 : World}
theorem grown_of_below (hb : Below wr.heap.size wr w2) : wr.grownBy w2 none := ⟨hb.os, hb.tape, hb.output, hb.size, fun k hk _ => hb.block k hk⟩
theorem none_ne (o : Option Nat) : o = none ∨ o ≠ none := by cases o <;> simp
/-- A call that makes memory alone. -/
theorem Rl.keep (h : Rl Z now B n gs ps k v S w wr) (hB : B ≤ w.heap.size) (hb : Below wr.heap.size wr w2) : Rl Z now B n gs ps k v S w w2 where
  r := h.r.kept (grown_of_below hb) (none_ne _)
  s := h.s.kept (grown_of_below hb) (none_ne _)
  p := (hb.cell (p := ⟨ps, 0, none⟩) h.pb.2).trans h.p
  b := h.b.trans (hb.mono (Nat.le_trans hB h.b.size))
  n1 := h.n1
  n2 := h.n2
  n0 := h.n0
  gp := h.gp
  gb := h.gb
  pb := ⟨h.pb.1, Nat.lt_of_lt_of_le h.pb.2 hb.size⟩
  sc := h.sc
  s64 := h.s64
/-- A zone that is not worth it. -/
theorem Rl.skip (h : Rl Z now B n gs ps k v S w wr) (hk : ¬ okz Z now k) : Rl Z now B n gs ps (k + 1) v S w wr where
  r := by rw [kept_no hk]; exact h.r
  s := h.s
  p := h.p
  b := h.b
  n1 := h.n1
  n2 := h.n2
  n0 := by rw [kept_no hk]; exact h.n0
  gp := h.gp
  gb := h.gb
  pb := h.pb
  sc := by rw [kept_no hk]; exact h.sc
  s64 := h.s64
theorem set_get (S : List Nat) (k x j : Nat) (hk : k < S.length) : (S.set k x).getD j 0 = if j = k then x else S.getD j 0 := by
  by_cases e : j = k
  · subst e
    rw [if_pos rfl, List.getD_eq_getElem?_getD, List.getElem?_set_self hk]; rfl
  · rw [if_neg e, List.getD_eq_getElem?_getD, List.getElem?_set_ne (fun e' => e e'.symm), ← List.getD_eq_getElem?_getD]
/-- A zone that is. -/
theorem Rl.put {o : Obj} {v' : Value} {w4 : World} (h : Rl Z now B n gs ps k v S w wr) (hB : B ≤ w.heap.size) (hk : okz Z now k) (hkn : k < n)
    (hown : w4.ownsRow B 3 1 v' ((kept Z now k).length + 1) ((kept Z now k).map nv ++ [nv k])) (hg : ((wr.setCell ⟨gs, k, none⟩ (.float .f64 (wz Z now k))).alloc o).grownBy w4 v.ownBlock)
    (hv : v'.ownBlock = v.ownBlock ∨ v'.ownBlock = some ((wr.setCell ⟨gs, k, none⟩ (.float .f64 (wz Z now k))).alloc o).heap.size) : Rl Z now B n gs ps (k + 1) v' (S.set k (wz Z now k)) w w4 := by
  have hgs : gs < wr.heap.size := (h.s.lt _ rfl).2
  have hsz : ((wr.setCell ⟨gs, k, none⟩ (.float .f64 (wz Z now k))).alloc o).heap.size = wr.heap.size + 1 := by simp
  have hS : S.length = n := by simpa using h.s.1
  have hs := ((h.s.stored k (.float .f64 (wz Z now k))).1.alloc o).kept hg (.inr (by simpa [Value.ownBlock] using fun e => h.n1 e.symm))
  have hps : ((wr.setCell ⟨gs, k, none⟩ (.float .f64 (wz Z now k))).alloc o).cell? ⟨ps, 0, none⟩ = some (.slice (some ⟨gs, 0, none⟩) n n) := by
    rw [World.cell?_alloc_lt _ _ _ (by simpa using h.pb.2), World.cell?_setCell_other _ _ _ _ (by intro e; simp only [Addr.mk.injEq] at e; exact h.gp e.1)]
    exact h.p
  have hne : ∀ x, x < wr.heap.size → v.ownBlock ≠ some x → v'.ownBlock ≠ some x := fun x hx h1 h2 => by
    rcases hv with e | e
    · exact h1 (e.symm.trans h2)
    · rw [hsz, h2] at e
      injection e with e
      omega
  have hb0 : Below B w ((wr.setCell ⟨gs, k, none⟩ (.float .f64 (wz Z now k))).alloc o) := (h.b.setCell h.gb _).alloc (by have := h.b.size; simp; omega) _
  refine { r := ?_, s := ?_, p := ?_, b := ?_, n1 := hne gs hgs h.n1, n2 := hne ps h.pb.2 h.n2, n0 := ?_, gp := h.gp, gb := h.gb, pb := ⟨h.pb.1, ?_⟩, sc := ?_, s64 := ?_ }
  · rw [kept_yes hk, List.length_append, List.map_append]
    exact hown
  · rw [List.map_set]
    exact hs
  · exact (World.cell?_of_block (hg.block ps (by have := h.pb.2; omega) (fun e => h.n2 e.symm))).trans hps
  · exact hb0.grown hg (by have := h.b.size; omega) (fun x hx => (h.r.lt x hx).1)
  · rw [kept_yes hk]
    intro e
    simp at e
  · have := hg.size; have := h.pb.2; omega
  · intro j hj
    rw [set_get _ _ _ _ (by omega)]
    split
    · rename_i e; rw [e]
    · rename_i e
      rw [kept_yes hk, List.mem_append] at hj
      rcases hj with hj | hj
      · exact h.sc j hj
      · exact absurd (List.mem_singleton.1 hj) e
  · intro x hx
    rcases List.mem_or_eq_of_mem_set hx with hx | hx
    · exact h.s64 x hx
    · rw [hx]; have := (okz_facts hk).2.1; omega
theorem new_nv (w : World) (k : Nat) (T : TypeId) : ∀ j u, [nv k][j]? = some u → (w.alloc (.cells #[.int .i64 (k : Int)] T)).cell? ((⟨w.heap.size, 0, none⟩ : Addr).add j) = some u := by
  intro j u hj
  match j, hj with
  | 0, hj => simp at hj; subst hj; simp [Addr.add, nv, go_sem]
end


theorem below_rw {F : Nat → Int} {w : World} {g off : Nat} {L : List Nat} {m B : Nat} (h : B ≤ g) : Below B w (RW F w g off L m) := by
  refine ⟨rfl, rfl, rfl, by unfold RW; simp [World.heap_drewN], fun k hk => ?_⟩
  unfold RW putRow mapBlock
  show (Array.modify _ _ _)[k]? = _
  rw [Array.getElem?_modify, if_neg (by omega)]
section
variable {Z : List (Int × Int × Int)} {now : Int} {B n gs ps : Nat} {v : Value} {S : List Nat} {w wr : World}
/-- The rank is empty: nothing is sorted. -/
theorem rl_none (h : Rl Z now B n gs ps n v S w wr) (hZ : Z.length = n) (hB : B = w.heap.size) (hk : kept Z now n = []) (e : Ending) (he : e = .returned v) : Ranks Z now w e wr :=
  ⟨v, [], he, ⟨by rw [hZ, hk], List.Pairwise.nil⟩, .inl ⟨h.n0 hk, rfl⟩, by rw [← hB]; exact h.b⟩
/-- The row of the places, ready to be sorted. -/
theorem rl_sort (h : Rl Z now B n gs ps n v S w wr) (hZ : Z.length = n) (h0 : 0 < n) (hn : n ≤ 1000) (hB : B = w.heap.size) (hk : kept Z now n ≠ []) :
    Calls Try.prog 28 #[v, cv ps] wr fun e w' => e = .returned (.tuple #[]) ∧ Ranks Z now w (.returned v) w' := by
  obtain ⟨K, hK⟩ : ∃ K, K = kept Z now n := ⟨_, rfl⟩
  have hlen : K.length ≤ n := by rw [hK]; exact kept_len Z now n
  have hr := h.r
  have hsc := h.sc
  rw [← hK] at hk hr hsc
  have hK0 : 0 < K.length := List.length_pos_iff.2 hk
  rcases hr.2 with ⟨_, e⟩ | ⟨g, cap, cur, rfl, hgB, _⟩
  · omega
  have hcell := fun j hj => nv_cell hr j hj
  have hfro := fun j => hr.frozenAt j
  have hH : Holds (ev (Fk K)) wr g 0 (List.range K.length).toArray := fun j hj => by
    simp only [List.size_toArray, List.length_range] at hj
    have e : (List.range K.length).toArray[j]! = j := by
      rw [getElem!_pos _ j (by simpa using hj)]; simp
    rw [Nat.zero_add, e]
    exact ⟨hcell j hj, hfro j⟩
  have hF : ∀ x, 0 ≤ Fk K x ∧ Fk K x < (n : Int) := fun x => by
    unfold Fk
    refine ⟨by omega, ?_⟩
    by_cases hx : x < K.length
    · have := (mem_kept.1 (by rw [← hK]; exact at_mem hx : K.getD x 0 ∈ kept Z now n)).1
      omega
    · rw [List.getD_eq_getElem?_getD, List.getElem?_eq_none (by omega)]
      simpa using h0
  have hS : S.length = n := by simpa using h.s.1
  have n1 : ps ≠ g := fun e => h.n2 (by simp [Value.ownBlock, e])
  have n2 : gs ≠ g := fun e => h.n1 (by simp [Value.ownBlock, e])
  have hC := cmp_ok (Fk K) wr g 0 K.length ps gs n n S hF hS h.s64 h.p (fun j hj => fl_cell h.s j hj) n1 n2
  have hst := sort_some (Fk K) (cfk S K) (Tk Z now K) (ord_tk Z now K) wr g 0 K.length cap ps ⟨List.range K.length, by simp, hH⟩ hC (by omega) (List.range K.length) 0 (cross_range (n := n) hK hsc) (by simp)
  rw [← rw_start hH] at hst
  refine hst.mono ?_
  rintro e w' ⟨he, m', C, rfl, hp, hs⟩
  refine ⟨he, _, _, rfl, rank_of (by rw [hZ]; exact hK) hp hs, .inr ⟨g, 0, cap, ?_, ?_, ?_, ?_⟩, ?_⟩
  · rw [List.length_map, hp.length_eq, List.length_range]
  · rw [List.length_map, hp.length_eq, List.length_range]; exact hK0
  · have := (hr.lt g rfl).2
    exact Nat.lt_of_lt_of_le this (below_rw (B := 0) (Nat.zero_le _)).size
  · intro j hj
    rw [List.length_map] at hj
    have hlC : C.length = K.length := by rw [hp.length_eq, List.length_range]
    rw [rw_cell ⟨List.range K.length, by simp, hH⟩ hlC m' j (by omega)]
    have e : (C.map fun x => K.getD x 0).getD j 0 = K.getD (C.getD j 0) 0 := by
      rw [List.getD_eq_getElem?_getD, List.getElem?_map, List.getD_eq_getElem?_getD (l := C), List.getElem?_eq_getElem hj]
      rfl
    rw [e]
    rfl
  · rw [← hB]
    exact h.b.trans (below_rw hgB)
end

attribute [local go_sem] store_float
set_option maxHeartbeats 4000000 in
set_option maxRecDepth 100000 in
theorem rank_some (b off cap n : Nat) (Z : List (Int × Int × Int)) (now : Int) (w : World) (hZ : Z.length = n) (h0 : 0 < n) (hn : n ≤ 1000) (hw : b < w.heap.size)
    (hc : ∀ j, j < n → w.cell? ⟨b, off + j * 3, none⟩ = some (.int .i64 (zn Z j).1) ∧ w.cell? ⟨b, off + j * 3 + 1, none⟩ = some (.int .i64 (zn Z j).2.1) ∧ w.cell? ⟨b, off + j * 3 + 2, none⟩ = some (.int .i64 (zn Z j).2.2)) :
    Calls Try.prog 18 #[.slice (some ⟨b, off, none⟩) n cap, .int .i64 now] w (Ranks Z now w) := by
  obtain ⟨i0, hi, hz0, hz1, hz2⟩ := info_parts info_f64
  obtain ⟨j0, hj, hy0, hy1, hy2⟩ := info_parts info_int
  obtain ⟨BB, hBB⟩ : ∃ BB, BB = w.heap.size := ⟨_, rfl⟩
  have HBW : BB ≤ w.heap.size := by omega
  have HB1 : Hid (b < BB) := Lib.hid (by omega)
  have HCZ := Lib.hid hc
  have HZ := Lib.hid hZ
  have HBB := Lib.hid hBB
  clear hBB hc hZ hw
  go_enter Try.func18, Try.ntmps18
  go_wp2
  go_step3
  go_wp2_with (refine wpList_make_full _ rfl _ _ 53 rfl BB 24 i0 (.float .f64 0) 1 Try.underlying53 hi hz0 hz1 .i64 .i64 _ _ n rfl rfl rfl rfl (by rw [hz2]; omega) (by unfold maxLen; omega) (by omega) ?_)
  intro w1 hown hg
  have R0 : Hid (Rl Z now BB n w.heap.size w1.heap.size 0 (.slice none 0 0) (List.replicate n 0) w (w1.alloc (.cells #[.slice (some ⟨w.heap.size, 0, none⟩) n n] 53))) := Lib.hid (by
    have hb1 : Below BB w w1 := (Below.refl _ _).grown hg HBW (by simp)
    have hs1 : w.heap.size < w1.heap.size := (hown.lt _ rfl).2
    have h64 : ∀ s ∈ List.replicate n 0, s < 18446744073709551616 := fun s hs => by have := List.eq_of_mem_replicate hs; omega
    refine { r := World.ownsRow_nil _ _ _ _, s := ?_, p := by simp, b := hb1.alloc (Nat.le_trans HBW hb1.size) _, n1 := by simp [Value.ownBlock], n2 := by simp [Value.ownBlock], n0 := fun _ => rfl, gp := by omega, gb := HBW, pb := ⟨by have := hb1.size; omega, by simp⟩, sc := fun j hj => (by cases hj), s64 := h64 }
    rw [← made_zero]
    exact hown.alloc _)
  clear hown hg
  go_wp2
  go_step3
  go_wp2
  obtain ⟨gs, hgs⟩ : ∃ gs, gs = w.heap.size := ⟨_, rfl⟩
  obtain ⟨ps, hps⟩ : ∃ ps, ps = w1.heap.size := ⟨_, rfl⟩
  rw [← hgs, ← hps] at R0
  rw [← hgs, ← hps]
  clear hgs hps
  go_loopw [6, 16] (fun v i wr => ∃ (k : Nat) (S : List Nat), k ≤ n ∧ i = .int .i64 (k : Int) ∧ Hid (Rl Z now BB n gs ps k v S w wr)) (fun _ i _ => n - (intOf i).toNat)
  case atStart => exact ⟨0, _, Nat.zero_le _, rfl, R0⟩
  case round =>
    clear R0
    obtain ⟨k, S, hk, rfl, HR⟩ := hrel
    by_cases hlt : k < n
    · obtain ⟨hz0', hz1', hz2'⟩ := HCZ.out k hlt
      have c0 := (HR.out.b.cell (p := ⟨b, off + k * 3, none⟩) HB1.out).trans hz0'
      have c1 := (HR.out.b.cell (p := ⟨b, off + k * 3 + 1, none⟩) HB1.out).trans hz1'
      have c2 := (HR.out.b.cell (p := ⟨b, off + k * 3 + 2, none⟩) HB1.out).trans hz2'
      clear hz0' hz1' hz2'
      have HOK : Hid (okz Z now k ↔ (Jdg (zn Z k).1 (zn Z k).2.1 (zn Z k).2.2 now ∧ (zn Z k).2.1 ≠ 0 ∧ scV (zn Z k).1 (zn Z k).2.1 (zn Z k).2.2 now ≠ 0)) := Lib.hid Iff.rfl
      have HWZ : Hid (wz Z now k = scV (zn Z k).1 (zn Z k).2.1 (zn Z k).2.2 now) := Lib.hid rfl
      have HKE := Lib.hid (fun w2 (hb : Below wr.heap.size wr w2) => HR.out.keep (w2 := w2) HBW hb)
      have bb1 : (0 : Int) ≤ (k : Int) := by omega
      have bb2 : (k : Int) < (n : Int) := by omega
      generalize (zn Z k).1 = l at c0 HOK HWZ
      generalize (zn Z k).2.1 = s at c1 HOK HWZ
      generalize (zn Z k).2.2 = t at c2 HOK HWZ
      by_cases hJ : Jdg l s t now
      · have hs := fun w => score_yes l s t now w hJ
        have hx64 := scV_lt hJ
        by_cases h0s : s = 0
        · have HSK := Lib.hid (fun w2 hb => (HKE.out w2 hb).skip (fun h => (HOK.out.1 h).2.1 h0s))
          have e : scV l s t now = 9221120237041090560 := if_pos h0s
          rw [e] at hs
          have o1 : FloatKind.f64.format.order 9221120237041090560 9221120237041090560 = none := ord_nan_l _ _ (by decide) (by decide)
          unfold zv at hs
          have HS := Lib.hid hs
          clear hs hJ HR HKE HOK HWZ e h0s hx64
          go_wp2_with (go_at_call 11; refine (HS.out _).mono ?_; rintro e w2 ⟨rfl, hb⟩; obtain ⟨k0, k1, k2, hb2⟩ := box_at hb; have HBX := Lib.hid hb2; clear hb hb2)
          go_roundw
          case rel => exact ⟨k + 1, S, by omega, by go_num, Lib.hid (HSK.out _ HBX.out)⟩
          case measure => simp [intOf]; omega
        · have hs1 : 1 ≤ s := by have := hJ.1.1; have := hJ.1.2.1; omega
          have hxi := scV_le hJ hs1
          by_cases hx0 : scV l s t now = 0
          · have HSK := Lib.hid (fun w2 hb => (HKE.out w2 hb).skip (fun h => (HOK.out.1 h).2.2 hx0))
            rw [hx0] at hs
            have o1 : FloatKind.f64.format.order 0 0 = some .eq := ord_self _ (by decide) (by decide)
            unfold zv at hs
            have HS := Lib.hid hs
            clear hs hJ HR HKE HOK HWZ hx0 h0s hx64 hs1 hxi
            go_wp2_with (go_at_call 11; refine (HS.out _).mono ?_; rintro e w2 ⟨rfl, hb⟩; obtain ⟨k0, k1, k2, hb2⟩ := box_at hb; have HBX := Lib.hid hb2; clear hb hb2)
            go_roundw
            case rel => exact ⟨k + 1, S, by omega, by go_num, Lib.hid (HSK.out _ HBX.out)⟩
            case measure => simp [intOf]; omega
          · have hok : okz Z now k := HOK.out.2 ⟨hJ, h0s, hx0⟩
            have HPU := Lib.hid (fun (w2 : World) (o : Obj) (v' : Value) (w4 : World) (hb : Below wr.heap.size wr w2) => (HKE.out w2 hb).put (o := o) (v' := v') (w4 := w4) HBW hok hlt)
            have o1 : FloatKind.f64.format.order (scV l s t now) (scV l s t now) = some .eq := ord_self _ hx64 (small_num hxi)
            have o2 : FloatKind.f64.format.order (scV l s t now) 0 = some .gt := ord_above (Nat.pos_of_ne_zero hx0) hxi
            have HL : Hid ((kept Z now k).length ≤ k) := Lib.hid (kept_len Z now k)
            rw [← HWZ.out] at hs o1 o2
            generalize wz Z now k = x at hs o1 o2 HPU
            unfold zv at hs
            have HS := Lib.hid hs
            clear hs hJ HR HOK HWZ hx0 h0s hx64 hs1 hxi hok
            go_wp2_with (first
              | (go_at_call 11; refine (HS.out _).mono ?_; rintro e w2 ⟨rfl, hb⟩; obtain ⟨k0, k1, k2, hb2⟩ := box_at hb; have HBX := Lib.hid hb2; clear hb hb2; have HR2 := Lib.hid (HKE.out w2 HBX.out); have p1 := HR2.out.p; have p2 := HR2.out.s.frozenAt k; have p3 := fl_cell HR2.out.s k hlt; have HO := Lib.hid (HR2.out.r.kept (HR2.out.s.stored k (.float .f64 x)).2 (.inr HR2.out.n1)); have hsz : BB ≤ w2.heap.size := Nat.le_trans HBW HR2.out.b.size)
              | (at_builtin; refine wpList_append_own_at _ rfl _ _ 37 rfl BB 3 j0 (.int .i64 0) 1 8 Try.underlying37 hj hy0 hy1 hy2 rfl (by decide) _ _ _ rfl (HO.out.alloc _) ⟨w2.heap.size, 0, none⟩ 1 1 [nv k] rfl rfl (by simpa using new_nv (w2.setCell ⟨gs, k, none⟩ (.float .f64 x)) k 3) (fun u hu => by simp at hu; subst hu; rfl) (by have := HL.out; unfold maxLen; omega) (by have := HL.out; omega) (by simp; omega) ?_))
            intro v' w4 hown' hgrow _ hvv
            have HP := Lib.hid (HPU.out w2 _ v' w4 HBX.out hown' hgrow (by simpa using hvv))
            clear hown' hgrow hvv
            go_wp2
            go_roundw
            case rel => exact ⟨k + 1, _, by omega, by go_num, Lib.hid HP.out⟩
            case measure => simp [intOf]; omega
      · have HSK := Lib.hid (fun w2 hb => (HKE.out w2 hb).skip (fun h => hJ (HOK.out.1 h).1))
        have hs := fun w => score_no l s t now w hJ
        unfold zv at hs
        have HS := Lib.hid hs
        clear hs hJ HR HKE HOK HWZ
        go_wp2_with (go_at_call 11; refine (HS.out _).mono ?_; rintro e w2 ⟨rfl, hb⟩; obtain ⟨k0, k1, k2, hb2⟩ := box_at hb; have HBX := Lib.hid hb2; clear hb hb2)
        go_roundw
        case rel => exact ⟨k + 1, S, by omega, by go_num, Lib.hid (HSK.out _ HBX.out)⟩
        case measure => simp [intOf]; omega
    · obtain rfl : k = n := by omega
      by_cases hkn : kept Z now k = []
      · have HN := Lib.hid (fun e he => rl_none HR.out HZ.out HBB.out hkn e he)
        have hv := HR.out.n0 hkn
        subst hv
        have hs := sort_none (cv ps) wr
        unfold cv at hs
        have HS := Lib.hid hs
        clear hs hkn HR
        go_wp2_with (go_at_call 28; refine HS.out.mono ?_; rintro e w2 ⟨rfl, hw⟩; replace hw := hw.symm; subst hw)
        try rw [Exit.noGoto_ret]
        go_ret
        exact HN.out _ rfl
      · have hs := rl_sort HR.out HZ.out h0 hn HBB.out hkn
        unfold cv at hs
        have HS := Lib.hid hs
        clear hs hkn HR
        go_wp2_with (go_at_call 28; refine HS.out.mono ?_; rintro e w2 ⟨rfl, hw⟩; have HW := Lib.hid hw; clear hw)
        try rw [Exit.noGoto_ret]
        go_ret
        exact HW.out

end Go.Proofs.Ytefpaagbopmmlaa
