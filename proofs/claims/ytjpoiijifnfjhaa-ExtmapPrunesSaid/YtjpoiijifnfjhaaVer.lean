/- Proved: words for versions in memory; the newest one that may be read is found. -/
import Derived.Test.YtjpoiijifnfjhaaClo
import Derived.Deep.MidRow
import Derived.Deep.WholeRow
import Derived.Laws.Tables
import Derived.Laws.Rows
import Derived.IntWalk
namespace Go.Proofs.Ytjpoiijifnfjhaa
open Go.RowKit

/-- A version's 41 cells, and those of a list. -/
def vc (v : Ver) : List Value := .int .i64 v.1 :: v.2.map bt
def vl : List Ver → List Value
  | [] => []
  | v :: L => vc v ++ vl L
def AllV (L : List Ver) : Prop := ∀ v ∈ L, v.2.length = 40
theorem vc_len {v : Ver} (h : v.2.length = 40) : (vc v).length = 41 := by simp [vc, h]
theorem vl_app : ∀ (L M : List Ver), vl (L ++ M) = vl L ++ vl M
  | [], _ => rfl
  | v :: L, M => by rw [List.cons_append, vl, vl, vl_app L M, List.append_assoc]
theorem vl_one (v : Ver) : vl [v] = vc v := by simp [vl]
theorem vl_len : ∀ (L : List Ver), AllV L → (vl L).length = L.length * 41
  | [], _ => rfl
  | v :: L, h => by
    rw [vl, List.length_append, vc_len (h v (List.mem_cons_self ..)), vl_len L fun u hu => h u (List.mem_cons_of_mem _ hu), List.length_cons]; omega
theorem vl_drop : ∀ (L : List Ver) (k : Nat), AllV L → vl (L.drop k) = (vl L).drop (k * 41)
  | [], k, _ => by simp [vl]
  | v :: L, 0, _ => by simp
  | v :: L, k + 1, h => by
    have h1 := vc_len (h v (List.mem_cons_self ..))
    rw [List.drop_succ_cons, vl_drop L k fun u hu => h u (List.mem_cons_of_mem _ hu), vl, show (k + 1) * 41 = 41 + k * 41 by omega, ← List.drop_drop, ← h1, List.drop_left]
theorem vl_at : ∀ (L : List Ver) (k : Nat), AllV L → k < L.length → ∀ j, j < 41 → (vl L)[k * 41 + j]? = (vc (L.getD k zv))[j]?
  | [], k, _, h, _, _ => by simp at h
  | v :: L, 0, hv, _, j, hj => by
    have h1 := vc_len (hv v (List.mem_cons_self ..))
    rw [vl, Nat.zero_mul, Nat.zero_add, List.getElem?_append_left (by omega)]; rfl
  | v :: L, k + 1, hv, h, j, hj => by
    have h1 := vc_len (hv v (List.mem_cons_self ..))
    rw [vl, List.getElem?_append_right (by omega), show (k + 1) * 41 + j - (vc v).length = k * 41 + j by omega, vl_at L k (fun u hu => hv u (List.mem_cons_of_mem _ hu)) (by simpa using h) j hj]; rfl
theorem vc_cells (v : Ver) : ∀ u ∈ vc v, u.oneCell' = true := by
  intro u hu
  rcases List.mem_cons.1 hu with rfl | hu
  · rfl
  · obtain ⟨x, _, rfl⟩ := List.mem_map.1 hu; rfl
theorem vl_cells : ∀ (L : List Ver), ∀ u ∈ vl L, u.oneCell' = true
  | [], u, h => by cases h
  | v :: L, u, h => by
    rw [vl] at h
    rcases List.mem_append.1 h with h | h
    · exact vc_cells v u h
    · exact vl_cells L u h
theorem AllV.at {L : List Ver} (h : AllV L) (k : Nat) : (L.getD k zv).2.length = 40 := by
  by_cases hk : k < L.length
  · rw [List.getD_eq_getElem?_getD, List.getElem?_eq_getElem hk]; exact h _ (List.getElem_mem hk)
  · rw [List.getD_eq_getElem?_getD, List.getElem?_eq_none (by omega)]; exact zv_len

/-- The slice at A reads as the list L of versions. -/
def VV (w : World) (A : Option Addr) (L : List Ver) : Prop :=
  L = [] ∨ ∃ g o, A = some ⟨g, o, none⟩ ∧ g < w.heap.size ∧ ∀ j, j < L.length → w.rangeAt g (o + j * 41) (vc (L.getD j zv))
theorem VV.pos {w : World} {A : Option Addr} {L : List Ver} (h : VV w A L) (h0 : 0 < L.length) : ∃ g o, A = some ⟨g, o, none⟩ ∧ g < w.heap.size ∧ ∀ j, j < L.length → w.rangeAt g (o + j * 41) (vc (L.getD j zv)) := by
  rcases h with rfl | h
  · simp at h0
  · exact h
theorem VV.on {w w' : World} {A : Option Addr} {L : List Ver} (h : VV w A L) (hb : At w w') : VV w' A L := by
  rcases h with h | ⟨b, o, rfl, hlt, hc⟩
  · exact Or.inl h
  · exact Or.inr ⟨b, o, rfl, Nat.lt_of_lt_of_le hlt hb.size, fun j hj i v hv => (Below.cell hb (p := ⟨b, o + j * 41 + i, none⟩) hlt).trans (hc j hj i v hv)⟩
theorem range_fst {w : World} {g o : Nat} {v : Ver} (h : w.rangeAt g o (vc v)) : w.cell? ⟨g, o, none⟩ = some (.int .i64 v.1) := by
  have := h 0 (.int .i64 v.1) rfl
  rwa [Nat.add_zero] at this

/-- A row of versions of the map's own: the slice v holds L. -/
def Vo (w : World) (v : Value) (L : List Ver) : Prop := w.ownsRow 0 65 41 v L.length (vl L)
theorem Vo.nil (w : World) : Vo w (.slice none 0 0) [] := World.ownsRow_nil _ _ _ _
theorem Vo.form {w : World} {v : Value} {L : List Ver} (h : Vo w v L) : (v = .slice none 0 0 ∧ L = []) ∨ ∃ g c T, v = .slice (some ⟨g, 0, none⟩) L.length c ∧ L.length ≤ c ∧ c ≤ maxLen ∧ (vl L ++ T).length = c * 41 ∧ w.heap[g]? = some (.cells (vl L ++ T).toArray 65 (0, 0)) := by
  rcases h.2 with ⟨h1, h2⟩ | ⟨g, cap, cur, h1, _, h3, h4, h5, h6, h7⟩
  · exact Or.inl ⟨h1, List.eq_nil_of_length_eq_zero h2⟩
  · refine Or.inr ⟨g, cap, cur.toList.drop (L.length * 41), h1, h4, h5, ?_, ?_⟩
    · rw [← h7, List.take_append_drop, Array.length_toList, h6]
    · rw [← h7, List.take_append_drop, Array.toArray_toList]; exact h3
theorem Vo.of_block {w : World} {g c : Nat} {L : List Ver} {T : List Value} (hV : AllV L) (h1 : L.length ≤ c) (h2 : c ≤ maxLen) (h3 : (vl L ++ T).length = c * 41) (h4 : w.heap[g]? = some (.cells (vl L ++ T).toArray 65 (0, 0))) : Vo w (.slice (some ⟨g, 0, none⟩) L.length c) L :=
  ⟨vl_len L hV, Or.inr ⟨g, c, _, rfl, Nat.zero_le _, h4, h1, h2, by rw [List.size_toArray, h3], by rw [← vl_len L hV]; simp⟩⟩
theorem Vo.lt {w : World} {v : Value} {L : List Ver} (h : Vo w v L) {g : Nat} (hg : v.ownBlock = some g) : g < w.heap.size := by
  rcases h.form with ⟨rfl, _⟩ | ⟨g', c, T, rfl, _, _, _, h4⟩
  · cases hg
  · injection hg with hg; rw [← hg]; exact lt_heap h4
theorem Vo.type {w : World} {v : Value} {L : List Ver} (h : Vo w v L) {g : Nat} (hg : v.ownBlock = some g) : ∃ cs, w.heap[g]? = some (.cells cs 65 (0, 0)) := by
  rcases h.form with ⟨rfl, _⟩ | ⟨g', c, T, rfl, _, _, _, h4⟩
  · cases hg
  · injection hg with hg; rw [← hg]; exact ⟨_, h4⟩
theorem Vo.keep {w w' : World} {v : Value} {L : List Ver} (h : Vo w v L) (hk : ∀ g, v.ownBlock = some g → w'.heap[g]? = w.heap[g]?) : Vo w' v L := by
  refine ⟨h.1, ?_⟩
  rcases h.2 with h | ⟨g, cap, cur, hv, hB, hh, hr⟩
  · exact Or.inl h
  · refine Or.inr ⟨g, cap, cur, hv, hB, ?_, hr⟩
    rw [hk g (by rw [hv]; rfl)]; exact hh
theorem Vo.on {w w' : World} {v : Value} {L : List Ver} (h : Vo w v L) (hm : At w w') : Vo w' v L := h.keep fun _ hg => hm.block _ (h.lt hg)
theorem Vo.mv {w w' : World} {F : Nat → Prop} {v : Value} {L : List Ver} (h : Vo w v L) (hm : Mv F w w') (hF : ∀ g, v.ownBlock = some g → ¬ F g) : Vo w' v L := h.keep fun g hg => hm.block _ (h.lt hg) (hF g hg)
theorem Vo.vv {w : World} {v : Value} {L : List Ver} (h : Vo w v L) (hV : AllV L) : ∃ A c, v = .slice A L.length c ∧ L.length ≤ c ∧ c ≤ maxLen ∧ VV w A L := by
  rcases h.form with ⟨rfl, rfl⟩ | ⟨g, c, T, rfl, h1, h2, h3, h4⟩
  · exact ⟨none, 0, rfl, by simp, by unfold maxLen; omega, Or.inl rfl⟩
  · refine ⟨_, c, rfl, h1, h2, Or.inr ⟨g, 0, rfl, lt_heap h4, fun j hj i u hu => ?_⟩⟩
    have hl := vl_len L hV
    have hi : i < 41 := by
      have := (List.getElem?_eq_some_iff.1 hu).1
      rwa [vc_len (hV.at j)] at this
    rw [cell_at h4, List.getElem?_toArray, List.getElem?_append_left (by omega), Nat.zero_add, vl_at L j hV hj i hi]; exact hu

theorem ver_info : (Try.prog.info? 65).map (fun i => (i.zero.map (·.cells.size), i.size, i.bytes)) = some (some 41, 41, 48) := by kernel_rfl
theorem ver_parts : ∃ i z, Try.prog.info? 65 = some i ∧ i.zero = some z ∧ i.size = 41 ∧ i.bytes = 48 ∧ z.cells.size = 41 := by
  have h := ver_info
  cases hi : Try.prog.info? 65 with
  | none => rw [hi] at h; cases h
  | some i =>
    rw [hi] at h
    simp only [Option.map_some, Option.some.injEq, Prod.mk.injEq] at h
    cases hz : i.zero with
    | none => rw [hz] at h; simp at h
    | some z =>
      rw [hz] at h
      simp only [Option.map_some, Option.some.injEq] at h
      exact ⟨i, z, rfl, hz, h.2.1, h.2.2, h.1⟩
theorem size_ver : (Try.prog.info? 65).map (·.size) = some 41 := by
  obtain ⟨i, z, hi, _, h, _⟩ := ver_parts
  rw [hi]; simp [h]

set_option maxHeartbeats 1000000 in
/-- The place of the newest one that is not later than a time. -/
theorem readable_any {w : World} {A : Option Addr} {L : List Ver} (h : VV w A L) (hl : L.length ≤ 100000) (c : Nat) (t : Int) :
    Calls Try.prog 32 #[.slice A L.length c, .int .i64 t] w fun e w' => e = .returned (.int .i64 ((rk L t : Int) - 1)) ∧ w = w' := by
  obtain ⟨n, hn⟩ : ∃ n, n = L.length := ⟨_, rfl⟩
  have HV := Lib.hid h
  have HR : Hid (rk L t = scan L t n) := Lib.hid (by rw [hn]; rfl)
  rw [← hn] at hl ⊢
  have HN := Lib.hid hn
  clear h hn
  go_enter Try.func32, Try.ntmps32
  go_wp2
  go_step3
  go_wp2
  go_step3
  go_wp2
  go_loop [5] (fun k => ∃ (z : Int) (j : Nat), Hid (z + 1 = (j : Int)) ∧ j ≤ n ∧ k = .int .i64 z ∧ Hid (scan L t n = scan L t j)) (fun k => (intOf k + 1).toNat)
  case atStart => exact ⟨(n : Int) - 1, n, Lib.hid (by omega), Nat.le_refl _, rfl, Lib.hid rfl⟩
  case round =>
    obtain ⟨z, j, HJ, hj, rfl, HS⟩ := hrel
    by_cases h0 : j = 0
    · have hz : z = -1 := by have := HJ.out; omega
      subst hz
      have hr : (rk L t : Int) - 1 = -1 := by rw [HR.out, HS.out, h0]; rfl
      have HE := Lib.hid hr
      clear hr h0
      go_wp2
      try rw [Exit.noGoto_ret]
      go_ret
      exact ⟨by rw [HE.out]; rfl, rfl⟩
    · obtain ⟨m, hm⟩ : ∃ m : Nat, j = m + 1 := ⟨j - 1, by omega⟩
      have hz : z = (m : Int) := by have := HJ.out; omega
      subst hz
      have hmn : m < n := by omega
      obtain ⟨g, o, rfl, hgl, hc⟩ := HV.out.pos (by rw [← HN.out]; omega)
      have c0 := range_fst (hc m (by rw [← HN.out]; exact hmn))
      have g1 : (0 : Int) ≤ (m : Int) := by omega
      have g2 : (m : Int) < (n : Int) := by omega
      obtain ⟨x, hx⟩ : ∃ x, x = (L.getD m zv).1 := ⟨_, rfl⟩
      rw [← hx] at c0
      have HX := Lib.hid hx
      have HM := Lib.hid hm
      have HG := Lib.hid hgl
      clear hc hx hm hgl h0
      by_cases hxt : x ≤ t
      · have HE : Hid ((rk L t : Int) - 1 = (m : Int)) := Lib.hid (by
          rw [HR.out, HS.out, HM.out, scan_hit L t m (by rw [← HX.out]; exact hxt)]; omega)
        go_wp2
        try rw [Exit.noGoto_ret]
        go_ret
        exact ⟨by rw [HE.out]; rfl, rfl⟩
      · have hxf : decide (x ≤ t) = false := decide_eq_false hxt
        have HE : Hid (scan L t n = scan L t m) := Lib.hid (by
          rw [HS.out, HM.out, scan_step L t m (by rw [← HX.out]; exact hxt)])
        go_wp2
        go_round
        case rel => exact ⟨(m : Int) - 1, m, Lib.hid (by omega), by omega, rfl, HE⟩
        case measure => simp [intOf]

theorem under_ver : ∃ d, Try.prog.underlying 65 = some d ∧ d.isRow = true := ⟨_, Try.underlying65, rfl⟩
/-- A result that lies in a cell, a version. -/
theorem results_ver {fn : Func} {p : Tmp} (h : fn.results = #[.cell p 65]) (tmps : Array Value) (w : World) (g : Nat) (v : Ver) (hp : tmps.getD p undef = .pointer (some ⟨g, 0, none⟩)) (hl : v.2.length = 40)
    (hg : w.heap[g]? = some (.cells (vc v).toArray 65 (0, 0))) : (results fn tmps).run Try.prog w = .ok (.agg (vc v).toArray) w :=
  results_cell_row h tmps w g _ _ _ _ hp hg Try.underlying65 rfl (by rw [size_ver, List.size_toArray, vc_len hl])

section
variable {ops : Array Oper} {rest : List Oper} {op : Oper} {a : Act} {w : World} {Q : Exit → Act → World → Prop}
/-- A version is loaded whole. -/
theorem load_ver (hgd : op.guard = none) (x : Operand) (ho : op.op = .load 65 x) (b o : Nat) (hx : a.eval x = .pointer (some ⟨b, o, none⟩)) (v : Ver) (hl : v.2.length = 40) (hc : w.rangeAt b o (vc v))
    (h : wpList Try.prog ops Q rest (a.put op.dst (.agg (vc v).toArray)) w) : wpList Try.prog ops Q (op :: rest) a w :=
  wpList_load_mid hgd _ x ho b o hx (vc v) _ hc Try.underlying65 rfl (by rw [size_ver, vc_len hl]) h
/-- A version is stored whole into a block that was made last. -/
theorem store_ver (hgd : op.guard = none) (x y : Operand) (ho : op.op = .store 65 x y) (v : Ver) (hl : v.2.length = 40) (W : World) (zs : Array Value) (hw : w = W.alloc (.cells zs 65)) (hz : zs.size = 41)
    (hx : a.eval x = .pointer (some ⟨W.heap.size, 0, none⟩)) (hy : a.eval y = .agg (vc v).toArray) (h : wpList Try.prog ops Q rest (a.put op.dst undef) (W.alloc (.cells (vc v).toArray 65))) : wpList Try.prog ops Q (op :: rest) a w := by
  subst hw
  refine wpList_store_row hgd _ x y ho W.heap.size _ hx hy _ zs (heap_alloc_new _ _) (by rw [size_ver, List.size_toArray, vc_len hl]) (by rw [hz, List.size_toArray, vc_len hl]) (all_oneCell_toArray (vc_cells v)) ?_
  rw [World.setRow_alloc_new]
  exact h
end
theorem range_alloc {w : World} {b o : Nat} {cs : List Value} (h : w.rangeAt b o cs) (ob : Obj) : (w.alloc ob).rangeAt b o cs := fun j v hv => by
  have := h j v hv
  rw [World.cell?_alloc_lt _ _ _ (World.block_lt_of_cell? w _ this)]; exact this

set_option maxHeartbeats 1000000 in
set_option maxRecDepth 100000 in
/-- The newest one of a block that has any. -/
theorem newest_any {w : World} {A : Option Addr} {L : List Ver} (h : VV w A L) (hV : AllV L) (h0 : 0 < L.length) (hl : L.length ≤ 100000) (c : Nat) :
    Calls Try.prog 35 #[.slice A L.length c] w (Gives (.agg (vc (nw L)).toArray) w) := by
  obtain ⟨g, o, rfl, hgl, hc⟩ := h.pos h0
  have hr := hc (L.length - 1) (by omega)
  have hv := hV.at (L.length - 1)
  obtain ⟨m, hm⟩ : ∃ m, m = L.length - 1 := ⟨_, rfl⟩
  obtain ⟨n, hn⟩ : ∃ n, n = L.length := ⟨_, rfl⟩
  have hnw : nw L = L.getD m zv := by rw [hm]; rfl
  rw [← hm] at hr hv
  rw [← hn] at h0 hl ⊢
  obtain ⟨v, hve⟩ : ∃ v, v = L.getD m zv := ⟨_, rfl⟩
  rw [← hve] at hr hv
  rw [hnw, ← hve]
  have hmn : (n : Int) - 1 = (m : Int) := by omega
  have g1 : (0 : Int) ≤ (m : Int) := by omega
  have g2 : (m : Int) < (n : Int) := by omega
  have HR := Lib.hid hr
  have HV := Lib.hid hv
  have HG := Lib.hid hgl
  clear h hV hc hm hn hnw hve hr hv hgl
  go_enter Try.func35, Try.ntmps35
  go_wp2_with (first | (refine load_ver rfl (.tmp 7) rfl g (o + m * 41) rfl v HV.out (range_alloc HR.out _) ?_) | (refine store_ver rfl (.tmp 2) (.tmp 8) rfl v HV.out w _ rfl rfl rfl rfl ?_))
  refine bodyPost_ret (results_ver rfl _ _ w.heap.size v rfl HV.out (heap_alloc_new _ _)) rfl ⟨rfl, ?_⟩
  exact (Below.refl _ _).alloc (Nat.le_refl _) _

theorem vc_zero : (vc zv).toArray = #[.int .i64 0, .int .u8 0, .int .u8 0, .int .u8 0, .int .u8 0, .int .u8 0, .int .u8 0, .int .u8 0, .int .u8 0, .int .u8 0, .int .u8 0, .int .u8 0, .int .u8 0, .int .u8 0, .int .u8 0, .int .u8 0, .int .u8 0, .int .u8 0, .int .u8 0, .int .u8 0, .int .u8 0, .int .u8 0, .int .u8 0, .int .u8 0, .int .u8 0, .int .u8 0, .int .u8 0, .int .u8 0, .int .u8 0, .int .u8 0, .int .u8 0, .int .u8 0, .int .u8 0, .int .u8 0, .int .u8 0, .int .u8 0, .int .u8 0, .int .u8 0, .int .u8 0, .int .u8 0, .int .u8 0] := rfl
set_option maxHeartbeats 1000000 in
set_option maxRecDepth 100000 in
/-- What is read of a block's versions at a time. -/
theorem read_any {w : World} {A : Option Addr} {L : List Ver} (h : VV w A L) (hV : AllV L) (hl : L.length ≤ 100000) (c : Nat) (t : Int) :
    Calls Try.prog 28 #[.slice A L.length c, .int .i64 t] w (Gives (.agg (vc (rdv L t)).toArray) w) := by
  have HRD := Lib.hid (fun W (hW : VV W A L) => readable_any hW hl c t)
  have hle := rk_le L t
  by_cases h0 : rk L t = 0
  · have hrd : rdv L t = zv := by unfold rdv; rw [if_pos h0]
    rw [hrd]
    have hz : (rk L t : Int) - 1 = -1 := by rw [h0]; rfl
    rw [hz] at HRD
    have HV := Lib.hid h
    obtain ⟨n, hn⟩ : ∃ n, n = L.length := ⟨_, rfl⟩
    rw [← hn] at HRD ⊢
    clear h h0 hrd hz hn hle hl
    go_enter Try.func28, Try.ntmps28
    go_wp2_with (first | (go_at_call 32; refine (HRD.out _ (HV.out.on ((At.start w).alloc _))).mono ?_; rintro e w' ⟨rfl, rfl⟩) | (refine store_ver rfl (.tmp 4) (.tmp 11) rfl zv zv_len w _ rfl rfl rfl (congrArg Value.agg vc_zero.symm) ?_))
    refine bodyPost_ret (results_ver rfl _ _ w.heap.size zv rfl zv_len (heap_alloc_new _ _)) rfl ⟨rfl, ?_⟩
    exact (Below.refl _ _).alloc (Nat.le_refl _) _
  · obtain ⟨m, hm⟩ : ∃ m, m = rk L t - 1 := ⟨_, rfl⟩
    have hrd : rdv L t = L.getD m zv := by unfold rdv; rw [if_neg h0, hm]
    have hz : (rk L t : Int) - 1 = (m : Int) := by omega
    rw [hz] at HRD
    have hmn : m < L.length := by omega
    obtain ⟨g, o, rfl, hgl, hc⟩ := h.pos (by omega)
    have hr := hc m hmn
    have hv := hV.at m
    obtain ⟨v, hve⟩ : ∃ v, v = L.getD m zv := ⟨_, rfl⟩
    rw [hrd]
    rw [← hve] at hr hv ⊢
    obtain ⟨n, hn⟩ : ∃ n, n = L.length := ⟨_, rfl⟩
    rw [← hn] at HRD hmn ⊢
    have g1 : (0 : Int) ≤ (m : Int) := by omega
    have g2 : (m : Int) < (n : Int) := by omega
    have HR := Lib.hid hr
    have HL := Lib.hid hv
    have HV := Lib.hid h
    clear h h0 hrd hz hn hle hl hc hm hve hr hv hgl
    go_enter Try.func28, Try.ntmps28
    go_wp2_with (first | (go_at_call 32; refine (HRD.out _ (HV.out.on ((At.start w).alloc _))).mono ?_; rintro e w' ⟨rfl, rfl⟩) | (refine load_ver rfl (.tmp 14) rfl g (o + m * 41) rfl v HL.out (range_alloc HR.out _) ?_) | (refine store_ver rfl (.tmp 4) (.tmp 15) rfl v HL.out w _ rfl rfl rfl rfl ?_))
    refine bodyPost_ret (results_ver rfl _ _ w.heap.size v rfl HL.out (heap_alloc_new _ _)) rfl ⟨rfl, ?_⟩
    exact (Below.refl _ _).alloc (Nat.le_refl _) _

end Go.Proofs.Ytjpoiijifnfjhaa
