/- Proved: what Append does with a device: a block more in a zone, or no room. -/
import Derived.Test.YtgehnljkiocijaaRst
import Derived.Deep.AppendLies
import Derived.Deep.MidRow
import Derived.Great.BuildSlice
import Derived.Laws.Cover3
namespace Go.Proofs.Ytgehnljkiocijaa
open Go.RowKit
attribute [local go_sem ↓] Go.wp_at_zero Go.wp_at_succ

theorem info_block : (Try.prog.info? 60).map (fun i => (i.zero.map (·.cells.size), i.size, i.bytes)) = some (some 64, 64, 64) := by kernel_rfl
theorem block_parts : ∃ i z, Try.prog.info? 60 = some i ∧ i.zero = some z ∧ i.size = 64 ∧ i.bytes = 64 ∧ z.cells.size = 64 := by
  have h := info_block
  cases hi : Try.prog.info? 60 with
  | none => rw [hi] at h; cases h
  | some i =>
    rw [hi] at h
    simp only [Option.map_some, Option.some.injEq, Prod.mk.injEq] at h
    cases hz : i.zero with
    | none => rw [hz] at h; simp at h
    | some z =>
      rw [hz] at h
      simp only [Option.map_some, Option.some.injEq] at h
      exact ⟨i, z, rfl, hz, h.2.1, h.2.2, h.1⟩

/-- The 64 cells from a place on, read off a world. -/
def cellsAt (w : World) (b o : Nat) : List Value := (List.range 64).map fun j => (w.cell? ⟨b, o + j, none⟩).getD undef
def AllThere (w : World) (b o : Nat) : Prop := ∀ j, j < 64 → (w.cell? ⟨b, o + j, none⟩).isSome = true
theorem cellsAt_range {w : World} {b o : Nat} (h : AllThere w b o) : w.rangeAt b o (cellsAt w b o) := by
  intro j v hv
  have hj : j < 64 := by simpa [cellsAt] using (List.getElem?_eq_some_iff.1 hv).1
  obtain ⟨u, hu⟩ := Option.isSome_iff_exists.1 (h j hj)
  unfold cellsAt at hv
  rw [List.getElem?_map, List.getElem?_range hj] at hv
  simp only [Option.map_some, Option.some.injEq] at hv
  rw [hu] at hv ⊢
  simpa using hv
theorem cellsAt_eq {w : World} {b o : Nat} {cs : List Value} (h : w.rangeAt b o cs) (hl : cs.length = 64) : AllThere w b o ∧ cellsAt w b o = cs := by
  refine ⟨fun j hj => ?_, ?_⟩
  · rw [h j _ (List.getElem?_eq_getElem (by omega))]; rfl
  · apply List.ext_getElem (by simp [cellsAt, hl])
    intro j h1 h2
    simp only [cellsAt, List.getElem_map, List.getElem_range]
    rw [h j _ (List.getElem?_eq_getElem h2)]; rfl
theorem size_block : (Try.prog.info? 60).map (·.size) = some 64 := by
  obtain ⟨i, z, hi, _, h, _⟩ := block_parts
  rw [hi]; simp [h]
theorem load_pre (w : World) (b o : Nat) (h : AllThere w b o) : (Instr.loadAt 60 (.pointer (some ⟨b, o, none⟩))).run Try.prog w = .ok (.agg (cellsAt w b o).toArray) w :=
  run_loadAt_mid w b o _ _ _ (cellsAt_range h) Try.underlying60 rfl (by rw [size_block]; simp [cellsAt])
def cellsV (w : World) : Value → List Value
  | .pointer (some ⟨b, o, none⟩) => cellsAt w b o
  | _ => []
def ThereV (w : World) : Value → Prop
  | .pointer (some ⟨b, o, none⟩) => AllThere w b o
  | _ => False
theorem wp_load_pre {a : Act} {w : World} {K : Act → World → Prop} {Q : Exit → Act → World → Prop} (d : Option Tmp) (t : TypeId) (pos : String) (af : Array Edge) (x : Operand) (h : ThereV w (a.eval x)) :
    Oper.wp Try.prog { dst := d, op := Op.load 60 x, type := t, pos := pos, after := af, guard := none } a w K Q = K (a.put d (.agg (cellsV w (a.eval x)).toArray)) w := by
  generalize hx : a.eval x = p at h ⊢
  match p, h with
  | .pointer (some ⟨b, o, none⟩), h =>
    unfold Oper.wp execOp
    simp only [hx, load_pre w b o h, Sem.run_bind, Sem.run_pure, Result.andThen_ok]
    rfl
attribute [local go_sem ↓] wp_load_pre

set_option maxHeartbeats 1000000 in
set_option maxRecDepth 100000 in
theorem append_full {w : World} {b z sz ops rds : Nat} {S : Nat → Zr} (h : Dv w b z sz ops rds S) (ho : ops ≤ 1000000) (k : Nat) (hk : k < 8) (hf : (S k).n = sz) (A : Option Addr) (cp : Nat) :
    Calls Try.prog 12 #[.pointer (some ⟨b, 0, none⟩), .int .i64 (k : Int), .slice A 64 cp] w fun e w' => e = .returned (.tuple #[.int .i64 0, .int .i64 9]) ∧ Dv w' b z sz (ops + 1) rds S ∧ Did w b z S S w' := by
  have H := Lib.hid h
  have HF := Lib.hid hf
  have g1 : (0 : Int) ≤ (k : Int) := by omega
  have g2 : (k : Int) < 8 := by omega
  clear h hf
  go_enter Try.func12, Try.ntmps12
  go_wp2_with (go_at_call 26; refine (has_dv H.out k hk).mono ?_; rintro e w' ⟨rfl, rfl⟩)
  refine (start_dv H.out ho).mono ?_
  rintro e w1 ⟨rfl, hv, hd⟩
  obtain ⟨⟨c, hc1, hc2, c0⟩, c1, -⟩ := hv.cells
  have cr := hv.zrow hk
  obtain ⟨g, hg⟩ : ∃ g, g = (S k).g := ⟨_, rfl⟩
  obtain ⟨cc, hcc⟩ : ∃ cc, cc = (S k).c := ⟨_, rfl⟩
  rw [HF.out, ← hg, ← hcc] at cr
  have HV := Lib.hid hv
  have HD := Lib.hid hd
  clear hv hd hg hcc
  go_wp2
  go_ret2
  exact ⟨rfl, HV.out, HD.out⟩

/-- All places of a row are written. -/
theorem fold_all (cs : List Value) (Z : Array Value) (h : Z.size = cs.length) : List.foldl (fun (c : Array Value) (x : Value × Nat) => c.setIfInBounds x.2 x.1) Z cs.zipIdx = cs.toArray := by
  have hf := Great.foldl_set 0 cs 0 Z
  simp only [Nat.zero_add] at hf
  apply Array.ext_getElem?
  intro k
  rw [hf.2 k]
  by_cases hk : k < cs.length
  · rw [if_pos ⟨Nat.zero_le _, hk, by omega⟩]; simp
  · rw [if_neg (by omega), Array.getElem?_eq_none (by omega)]
    rw [List.getElem?_toArray, List.getElem?_eq_none (by omega)]
theorem own_ne {g : Option Addr} {n c x : Nat} (h : ∀ a, g = some a → a.block ≠ x) : some x ≠ (Value.slice g n c).ownBlock := by
  rcases g with _ | a
  · intro e; cases e
  · intro e
    injection e with e
    exact h a rfl e.symm
theorem own_block {g : Option Addr} {n c i : Nat} (h : (Value.slice g n c).ownBlock = some i) : ∃ a, g = some a ∧ a.block = i := by
  rcases g with _ | a
  · cases h
  · injection h with h
    exact ⟨a, rfl, h⟩
theorem keep_cell {w : World} {ob : Obj} {a : Addr} {v : Value} (h : w.cell? a = some v) : (w.alloc ob).drew.cell? a = some v := by
  have hb := World.block_lt_of_cell? w _ h
  show (w.alloc ob).cell? a = some v
  rw [World.cell?_alloc_lt _ _ _ hb]; exact h
theorem keep_free {w : World} {ob : Obj} {b o : Nat} {f : Bool} (hb : b < w.heap.size) (h : w.frozen? ⟨b, o, none⟩ = f) : (w.alloc ob).drew.frozen? ⟨b, o, none⟩ = f := by
  show (w.alloc ob).frozen? ⟨b, o, none⟩ = f
  rw [World.frozen?_alloc_past _ _ _ hb]; exact h
theorem keep_range {w : World} {ob : Obj} {b o : Nat} {cs : List Value} (h : w.rangeAt b o cs) : (w.alloc ob).drew.rangeAt b o cs := fun j v hv => keep_cell (h j v hv)
theorem set_range {w : World} {b o z i : Nat} {u : Value} {cs : List Value} (h : w.rangeAt b o cs) (hne : b ≠ z) : (w.setCell ⟨z, i, none⟩ u).rangeAt b o cs := fun j v hv =>
  (World.cell?_setCell_other _ _ _ _ (by intro e; injection e with e1 _; exact hne e1.symm)).trans (h j v hv)

theorem BV.mv {w w' : World} {F : Nat → Prop} {ad : Addr} {L : List Nat} (h : BV w (some ad) L) (hm : Mv F w w') (hF : ¬ F ad.block) : BV w' (some ad) L := by
  rcases h with rfl | ⟨b, o, he, hlt, hc⟩
  · exact Or.inl rfl
  · injection he with he
    subst he
    exact Or.inr ⟨b, o, rfl, Nat.lt_of_lt_of_le hlt hm.size, fun j hj => (World.cell?_of_block (a := ⟨b, o + j, none⟩) (hm.block b hlt hF)).trans (hc j hj)⟩
theorem BV.range {w : World} {b o : Nat} {L : List Nat} (h : BV w (some ⟨b, o, none⟩) L) : w.rangeAt b o (L.map bt) := by
  intro j v hv
  have hj : j < L.length := by simpa using (List.getElem?_eq_some_iff.1 hv).1
  obtain ⟨ad, he, _, hc⟩ := h.cells (by omega)
  injection he with he
  subst he
  have := hc j v hv
  rwa [Go.WideShapes.add_plain] at this

set_option maxHeartbeats 2000000 in
set_option maxRecDepth 100000 in
theorem append_room {w : World} {b z sz ops rds : Nat} {S : Nat → Zr} (h : Dv w b z sz ops rds S) (ho : ops ≤ 1000000) (k : Nat) (hk : k < 8) (hf : (S k).n < sz) (pb po : Nat) (cp : Nat) (L : List Nat) (hL : L.length = 64) (hb : BV w (some ⟨pb, po, none⟩) L) (hap : ¬ Ft b z S pb) :
    Calls Try.prog 12 #[.pointer (some ⟨b, 0, none⟩), .int .i64 (k : Int), .slice (some ⟨pb, po, none⟩) 64 cp] w fun e w' => ∃ g c, e = .returned (.tuple #[.int .i64 ((S k).n : Int), .int .i64 0]) ∧ Dv w' b z sz (ops + 1) rds (up S k ⟨some ⟨g, 0, none⟩, (S k).n + 1, c, (S k).d, (S k).L ++ L⟩) ∧ Did w b z S (up S k ⟨some ⟨g, 0, none⟩, (S k).n + 1, c, (S k).d, (S k).L ++ L⟩) w' := by
  obtain ⟨i0, zv, hi0, hz0, hz1, hz2, hz3⟩ := block_parts
  have H := Lib.hid h
  have g1 : (0 : Int) ≤ (k : Int) := by omega
  have g2 : (k : Int) < 8 := by omega
  have htop := h.top
  obtain ⟨n, hn⟩ : ∃ n, n = (S k).n := ⟨_, rfl⟩
  obtain ⟨g, hg⟩ : ∃ g, g = (S k).g := ⟨_, rfl⟩
  obtain ⟨cc, hcc⟩ : ∃ cc, cc = (S k).c := ⟨_, rfl⟩
  rw [← hn] at hf ⊢
  have nb : ((n : Int) == (sz : Int)) = false := by simp; omega
  obtain ⟨cs, hcs⟩ : ∃ cs : List Value, cs = L.map bt := ⟨_, rfl⟩
  have hcl : cs.length = 64 := by rw [hcs, List.length_map, hL]
  have hfo := fold_all cs #[.int .u8 0, .int .u8 0, .int .u8 0, .int .u8 0, .int .u8 0, .int .u8 0, .int .u8 0, .int .u8 0, .int .u8 0, .int .u8 0, .int .u8 0, .int .u8 0, .int .u8 0, .int .u8 0, .int .u8 0, .int .u8 0, .int .u8 0, .int .u8 0, .int .u8 0, .int .u8 0, .int .u8 0, .int .u8 0, .int .u8 0, .int .u8 0, .int .u8 0, .int .u8 0, .int .u8 0, .int .u8 0, .int .u8 0, .int .u8 0, .int .u8 0, .int .u8 0, .int .u8 0, .int .u8 0, .int .u8 0, .int .u8 0, .int .u8 0, .int .u8 0, .int .u8 0, .int .u8 0, .int .u8 0, .int .u8 0, .int .u8 0, .int .u8 0, .int .u8 0, .int .u8 0, .int .u8 0, .int .u8 0, .int .u8 0, .int .u8 0, .int .u8 0, .int .u8 0, .int .u8 0, .int .u8 0, .int .u8 0, .int .u8 0, .int .u8 0, .int .u8 0, .int .u8 0, .int .u8 0, .int .u8 0, .int .u8 0, .int .u8 0, .int .u8 0] (by rw [hcl]; rfl)
  have hat : ∀ w, (Instr.arrayAt 60 (.slice (some ⟨pb, po, none⟩) 64 cp)).run Try.prog w = .ok (.pointer (some ⟨pb, po, none⟩)) w := fun w => run_arrayAt w _ _ 64 _ 64 cp Try.underlying60 (Nat.le_refl _)
  have hu := Try.underlying60
  have hsz : (Try.prog.info? 60).map (·.size) = some cs.length := by rw [hcl, hi0]; simp [hz1]
  have HC := Lib.hid hcs
  have HB := Lib.hid hb
  have HAP := Lib.hid hap
  have HN := Lib.hid (And.intro hn (And.intro hg hcc))
  have HI := Lib.hid hi0
  have HZ := Lib.hid (And.intro hz0 (And.intro hz1 (And.intro hz2 hz3)))
  have HL := Lib.hid hL
  clear h hb hL hcs hap hn hg hcc hi0 hz0 hz1 hz2 hz3
  go_enter Try.func12, Try.ntmps12
  go_wp2_with (go_at_call 26; refine (has_dv H.out k hk).mono ?_; rintro e w' ⟨rfl, rfl⟩)
  refine (start_dv H.out ho).mono ?_
  rintro e w1 ⟨rfl, hv, hd⟩
  obtain ⟨⟨c, hc1, hc2, c0⟩, c1, -⟩ := hv.cells
  have cr := hv.zrow hk
  have fr := hv.zfree (k * 2)
  rw [← HN.out.1, ← HN.out.2.1, ← HN.out.2.2] at cr
  have hzl := hv.lt z (Or.inr (Or.inl rfl))
  have hrg : w1.rangeAt pb po cs := by rw [HC.out]; exact (HB.out.mv hd.mv HAP.out).range
  have hown : w1.ownsRow 0 60 64 (.slice g n cc) n ((S k).L.map bt) := by
    have := (hv.row k hk).own
    unfold sl at this
    rwa [← HN.out.1, ← HN.out.2.1, ← HN.out.2.2] at this
  have hez : some z ≠ (Value.slice g n cc).ownBlock := own_ne fun a ha => (hv.br k hk a (by rw [← HN.out.2.1]; exact ha)).2
  have hep : some pb ≠ (Value.slice g n cc).ownBlock := own_ne fun a ha e => HAP.out (Or.inr (Or.inr ⟨k, hk, a, by rw [← HN.out.2.1]; exact ha, e⟩))
  have hpl : pb < w1.heap.size := by
    have := HB.out.mv hd.mv HAP.out
    obtain ⟨ad, he, hlt, _⟩ := this.cells (by rw [HL.out]; omega)
    injection he with he
    subst he; exact hlt
  have HEZ := Lib.hid hez
  have HEP := Lib.hid hep
  have hpz : pb ≠ z := fun e => HAP.out (Or.inr (Or.inl e))
  have HPZ := Lib.hid hpz
  have HPL := Lib.hid hpl
  have HV := Lib.hid hv
  have HD := Lib.hid hd
  have HO := Lib.hid hown
  clear hv hd hown hez hep hpl hpz
  have hpre := cellsAt_eq (w := w1.drew) hrg hcl
  have hal : ThereV w1.drew (.pointer (some ⟨pb, po, none⟩)) := hpre.1
  have hce : cellsV w1.drew (.pointer (some ⟨pb, po, none⟩)) = cs := hpre.2
  clear hpre
  clear hu hsz hrg
  go_wp2
  go_region_law
    ((refine step_append_lies _ (by rfl) (.tmp 43) (.tmp 47) 52 (by rfl) 0 60 i0 zv 64 64 Try.underlying52 HI.out HZ.out.1 HZ.out.2.1 HZ.out.2.2.1 HZ.out.2.2.2 (by omega) (.slice g n cc) n ((S k).L.map bt) (by rfl) ((HO.out.alloc _).drew) ⟨w1.heap.size, 0, none⟩ 1 1 cs (by rfl) hcl (World.news_of_block (cs := cs.toArray) (t := 60) (fr := (0, 0)) (heap_alloc_new w1 _)) (by rw [HC.out]; exact bt_one _) (by omega) (by unfold maxLen; omega) (by omega) (Nat.zero_le _) (w1.heap.size + 1) (by simp) ?_; intro gg cap w2 hown1 hgrow hat2 hlt; have cr2 := (hgrow.cell_far ⟨z, k * 2, none⟩ (by simp; omega) HEZ.out).trans (keep_cell cr); have fr2 := (hgrow.frozen_far ⟨z, k * 2, none⟩ (by simp; omega) HEZ.out).trans (keep_free hzl fr)))
  all_goals
    have hmv : Mv (fun i => ∃ a, (S k).g = some a ∧ a.block = i) w1 w2 := ((Mv.of_below _ ((At.start w1).alloc _)).drewN 1).grown hgrow fun i hi => Or.inl (by
      obtain ⟨a, ha, e⟩ := own_block hi
      exact ⟨a, by rw [← HN.out.2.1]; exact ha, e⟩)
    have hzn : Zn w2 ⟨some ⟨gg, 0, none⟩, n + 1, cap, (S k).d, (S k).L ++ L⟩ := Or.inr ⟨Nat.succ_pos n, gg, rfl, by
      rw [HC.out, ← List.map_append] at hown1
      exact hown1⟩
    have hset := HV.out.setRow hk hmv hzn rfl hf (Nat.le_succ_of_le (by rw [HN.out.1]; exact HV.out.dur k hk)) (fun a ha => by
      injection ha with ha
      subst ha
      rcases hat2 with h | h
      · obtain ⟨a, ha, e⟩ := own_block h
        left
        rw [← HN.out.2.1, ha]
        obtain ⟨g', _, _, e', _⟩ := (HV.out.row k hk).form a (by rw [← HN.out.2.1]; exact ha)
        subst e'
        simp only at e
        subst e; rfl
      · right
        show w1.heap.size ≤ gg
        omega)
    have HE := Lib.hid hset
    clear hmv hzn hset hown1 hgrow hat2 hlt
    go_wp2
    go_ret2
    exact ⟨gg, cap, rfl, HE.out.1, HD.out.trans HE.out.2⟩

end Go.Proofs.Ytgehnljkiocijaa
