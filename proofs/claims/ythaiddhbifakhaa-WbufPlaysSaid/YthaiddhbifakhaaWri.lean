/- Proved: why a vector of writes is refused, of a buffer and of none; a vector that is not refused is taken in block by block. -/
import Derived.Test.YthaiddhbifakhaaTog
namespace Go.Proofs.Ythaiddhbifakhaa
open Go.RowKit

theorem rf_each2 {S : St} {P : List Pt} (h0 : P ≠ []) (h : fz (S.n : Int) P ≠ 0) : rf S P = fz (S.n : Int) P := by
  by_cases h2 : ∃ p ∈ P, ¬ (0 ≤ p.1 ∧ p.1 < (S.n : Int))
  · rw [rf_range h0 h2]; unfold fz; rw [if_pos h2]
  · have e : fz (S.n : Int) P = lz P := if_neg h2
    rw [e] at h ⊢
    by_cases h3 : ∃ p ∈ P, p.2.length ≠ 40
    · rw [rf_len h0 h2 h3]; unfold lz; rw [if_pos h3]
    · exact absurd (if_neg h3) h
theorem each_fz {S : St} {P : List Pt} (h0 : P ≠ []) (h : fz (S.n : Int) P = 0) : Each S P := by
  have h2 : ¬ ∃ p ∈ P, ¬ (0 ≤ p.1 ∧ p.1 < (S.n : Int)) := fun h2 => by
    have : fz (S.n : Int) P = 2 := if_pos h2
    omega
  have e : fz (S.n : Int) P = lz P := if_neg h2
  have h3 : ¬ ∃ p ∈ P, p.2.length ≠ 40 := fun h3 => by
    have : lz P = 3 := if_pos h3
    omega
  exact each_of h0 h2 h3
theorem rf_tz {S : St} {P : List Pt} (h : Each S P) : rf S P = tz S P := by
  unfold tz
  by_cases hu : Un P
  · rw [if_neg (not_not_intro hu), ← us_fr P h.rng h.ne2 hu]
    by_cases hc : S.most < ((us (upS S P)).length : Int)
    · rw [if_pos hc]; exact rf_big h hu hc
    · rw [if_neg hc]; exact Fine.rf ⟨h, hu, by omega⟩
  · rw [if_pos hu]; exact rf_over h hu

set_option maxHeartbeats 1000000 in
theorem refuses_any {w : World} {b mb : Nat} {S : St} (h : Bf w b mb S) (A : Option Addr) (P : List Pt) (n c : Nat) (hn : P.length = n) (hl : n ≤ 1000000) (hP : PV w A P) :
    Calls Try.prog 30 #[.pointer (some ⟨b, 0, none⟩), .slice A n c] w (Gives (.int .i64 (rf S P)) w) := by
  by_cases h0 : n = 0
  · subst h0
    have hp : P = [] := List.eq_nil_of_length_eq_zero hn
    subst hp
    have HZ := Lib.hid (rf_none S)
    clear h hP hn
    go_enter Try.func30, Try.ntmps30
    go_wp2
    go_ret
    exact ⟨by rw [HZ.out]; rfl, At.start _⟩
  · have hp : P ≠ [] := fun e => by rw [e] at hn; exact h0 hn.symm
    have q0 : ((n : Int) == 0) = false := by simp; omega
    have HE := Lib.hid (each_any (w := w) (some ⟨b, 0, none⟩) (S.n : Int) (fun W hW => size_bf (h.on hW)) A P n c hn hl hP)
    by_cases hz : fz (S.n : Int) P = 0
    · have he := each_fz hp hz
      have HT := Lib.hid (fun W (hW : At w W) => together_any (h.on hW) A P n c hn hl (hP.on hW) he)
      rw [← rf_tz he] at HT
      rw [hz] at HE
      clear h hP hn hp hz he h0
      go_enter Try.func30, Try.ntmps30
      go_wp2_with fail
      refine HE.out.mono ?_
      rintro e w1 ⟨rfl, hA⟩
      have HA : Hid (At w w1) := Lib.hid hA
      clear hA
      go_wp2_with fail
      refine (HT.out _ HA.out).mono ?_
      rintro e w2 ⟨rfl, hA⟩
      have HA2 : Hid (At w w2) := Lib.hid (HA.out.next hA)
      clear hA
      go_wp2
      go_ret
      exact ⟨rfl, HA2.out⟩
    · have hr := rf_each2 hp hz
      rw [← hr] at HE hz
      have q1 : (rf S P != 0) = true := by simp; exact hz
      clear h hP hn hp h0 hr
      generalize rf S P = z at HE hz q1 ⊢
      go_enter Try.func30, Try.ntmps30
      go_wp2_with fail
      refine HE.out.mono ?_
      rintro e w1 ⟨rfl, hA⟩
      have HA : Hid (At w w1) := Lib.hid hA
      clear hA
      go_wp2
      go_ret
      exact ⟨rfl, HA.out⟩

set_option maxHeartbeats 1000000 in
/-- Of no buffer. -/
theorem refuses_nil {w : World} (A : Option Addr) (P : List Pt) (n c : Nat) (hn : P.length = n) (hl : n ≤ 1000000) (hP : PV w A P) :
    Calls Try.prog 30 #[.pointer none, .slice A n c] w (Gives (.int .i64 (if n = 0 then 1 else 2)) w) := by
  by_cases h0 : n = 0
  · subst h0
    clear hP hn
    go_enter Try.func30, Try.ntmps30
    go_wp2
    go_ret
    exact ⟨rfl, At.start _⟩
  · have q0 : ((n : Int) == 0) = false := by simp; omega
    have HE := Lib.hid (each_any (w := w) none 0 (fun W _ => (size_nil W).mono fun _ _ h => h) A P n c hn hl hP)
    rw [fz_bad (p := P.getD 0 pz) (pt_mem (by omega)) (by omega)] at HE
    rw [if_neg h0]
    clear hP hn h0
    go_enter Try.func30, Try.ntmps30
    go_wp2_with fail
    refine HE.out.mono ?_
    rintro e w1 ⟨rfl, hA⟩
    have HA : Hid (At w w1) := Lib.hid hA
    clear hA
    go_wp2
    go_ret
    exact ⟨rfl, HA.out⟩
set_option maxHeartbeats 1000000 in
theorem write_nil {w : World} (A : Option Addr) (P : List Pt) (n c : Nat) (hn : P.length = n) (hl : n ≤ 1000000) (hP : PV w A P) :
    Calls Try.prog 12 #[.pointer none, .slice A n c] w (Gives (.int .i64 (if n = 0 then 1 else 2)) w) := by
  have HR := Lib.hid (refuses_nil A P n c hn hl hP)
  have hz : (((if n = 0 then 1 else 2 : Int)) != 0) = true := by split <;> rfl
  generalize (if n = 0 then 1 else 2 : Int) = z at HR hz ⊢
  clear hn hP
  go_enter Try.func12, Try.ntmps12
  go_wp2_with fail
  refine HR.out.mono ?_
  rintro e w1 ⟨rfl, hA⟩
  have HA : Hid (At w w1) := Lib.hid hA
  clear hA
  go_wp2
  go_ret
  exact ⟨rfl, HA.out⟩

/-- What a call told, and what it left of the buffer. -/
def Wrote (z : Int) (b mb : Nat) (S' : St) (w : World) (e : Ending) (w' : World) : Prop := e = .returned (.int .i64 z) ∧ Bf w' b mb S' ∧ Mv (fun g => g = mb) w w'
set_option maxHeartbeats 1000000 in
theorem write_no {w : World} {b mb : Nat} {S : St} (h : Bf w b mb S) (A : Option Addr) (P : List Pt) (n c : Nat) (hn : P.length = n) (hl : n ≤ 1000000) (hP : PV w A P) (hz : rf S P ≠ 0) :
    Calls Try.prog 12 #[.pointer (some ⟨b, 0, none⟩), .slice A n c] w (Wrote (rf S P) b mb S w) := by
  have HR := Lib.hid (refuses_any h A P n c hn hl hP)
  have H := Lib.hid h
  have q1 : (rf S P != 0) = true := by simp; exact hz
  clear hn hP h
  generalize rf S P = z at HR hz q1 ⊢
  go_enter Try.func12, Try.ntmps12
  go_wp2_with fail
  refine HR.out.mono ?_
  rintro e w1 ⟨rfl, hA⟩
  have HA : Hid (At w w1) := Lib.hid hA
  clear hA
  go_wp2
  go_ret
  exact ⟨rfl, H.out.on HA.out, Mv.of_below _ HA.out⟩

/-- A cell lies in no block of entries. -/
theorem cell_far {w : World} {mb : Nat} {es : Array MapEntry} {clock : Nat} (hb : w.heap[mb]? = some (.map es clock)) {p : Addr} {v : Value} (hc : w.cell? p = some v) : p.block ≠ mb := fun e => by
  unfold World.cell? at hc
  rw [e, hb] at hc
  simp at hc
theorem cell_mv {w w' : World} {mb : Nat} {es : Array MapEntry} {clock : Nat} (hb : w.heap[mb]? = some (.map es clock)) (hm : Mv (fun g => g = mb) w w') {p : Addr} {v : Value} (hc : w.cell? p = some v) : w'.cell? p = some v :=
  (World.cell?_of_block (a := p) (hm.block _ (World.block_lt_of_cell? w _ hc) (cell_far hb hc))).trans hc
theorem BV.mvm {w w' : World} {mb : Nat} {es : Array MapEntry} {clock : Nat} (hb : w.heap[mb]? = some (.map es clock)) (hm : Mv (fun g => g = mb) w w') {A : Option Addr} {L : List Nat} (h : BV w A L) : BV w' A L := by
  rcases h with h | ⟨b, o, rfl, hlt, hc⟩
  · exact Or.inl h
  · exact Or.inr ⟨b, o, rfl, Nat.lt_of_lt_of_le hlt hm.size, fun j hj => cell_mv hb hm (hc j hj)⟩
theorem PV.mvm {w w' : World} {mb : Nat} {es : Array MapEntry} {clock : Nat} (hb : w.heap[mb]? = some (.map es clock)) (hm : Mv (fun g => g = mb) w w') {A : Option Addr} {P : List Pt} (h : PV w A P) : PV w' A P := by
  rcases h with h | ⟨g, o, rfl, hlt, hc⟩
  · exact Or.inl h
  · refine Or.inr ⟨g, o, rfl, Nat.lt_of_lt_of_le hlt hm.size, fun j hj => ?_⟩
    obtain ⟨h1, B, c, h2, h3⟩ := hc j hj
    exact ⟨cell_mv hb hm h1, B, c, cell_mv hb hm h2, h3.mvm hb hm⟩
theorem Bf.map {w : World} {b mb : Nat} {S : St} (h : Bf w b mb S) : ∃ es clock, w.heap[mb]? = some (.map es clock) := by obtain ⟨D, h⟩ := h; exact h.map
theorem Bf.store {w : World} {b mb : Nat} {S : St} (h : Bf w b mb S) {k : Nat} (hk : k < S.n) {d : List Nat} (hd : d.length = 40) (hok : Ok (upS S [((k : Int), d)])) :
    ∃ w2, (Instr.mapUpdate 65 (.map (some mb)) (.int .i64 (k : Int)) (dv d)).run Try.prog w = .ok () w2 ∧ Bf w2 b mb (upS S [((k : Int), d)]) ∧ Mv (fun g => g = mb) w w2 := by obtain ⟨D, h⟩ := h; exact h.store hk hd hok
theorem Fine.okm {S : St} {P : List Pt} (h : Fine S P) (hS : Ok S) (hb : AllBy P) (j : Nat) : Ok (upS S (P.take j)) := by
  refine up_ok' hS (fun p hp => h.rng p (List.mem_of_mem_take hp)) (fun p hp => h.len p (List.mem_of_mem_take hp)) (fun p hp => hb p (List.mem_of_mem_take hp)) ?_
  have h1 : (us (upS S (P.take j))).length ≤ (us (upS S P)).length := us_mono rfl fun k hk => by
    have ne := h.toEach.ne2
    show ups S.g P k ≠ []
    have hk' : ups S.g (P.take j) k ≠ [] := hk
    rw [ups_ne fun p hp => ne p (List.mem_of_mem_take hp)] at hk'
    rw [ups_ne ne]
    rcases hk' with h | ⟨p, hp, e⟩
    · exact Or.inl h
    · exact Or.inr ⟨p, List.mem_of_mem_take hp, e⟩
  have := h.c
  omega
theorem upS_step (S : St) (P : List Pt) (j : Nat) (h : j < P.length) : upS S (P.take (j + 1)) = upS (upS S (P.take j)) [P.getD j pz] := by
  unfold upS
  rw [ups_take _ _ _ h]; rfl
theorem run_at (g : Option Addr) (c : Nat) (w : World) : (Instr.arrayAt 68 (.slice g 40 c)).run Try.prog w = .ok (.pointer g) w := run_arrayAt w _ _ 40 _ 40 c Try.underlying68 (Nat.le_refl _)
theorem range_alloc {w : World} {b o : Nat} {cs : List Value} (h : w.rangeAt b o cs) (ob : Obj) : (w.alloc ob).rangeAt b o cs := fun j v hv => by
  have := h j v hv
  rw [World.cell?_alloc_lt _ _ _ (World.block_lt_of_cell? w _ this)]; exact this
theorem wp_update {o : Oper} {a : Act} {w : World} {K : Act → World → Prop} {Q : Exit → Act → World → Prop} (m x y : Operand) (ho : o.op = .mapUpdate 65 m x y) (mv key v : Value) (w' : World) (hm : a.eval m = mv) (hx : a.eval x = key) (hy : a.eval y = v) (hrun : (Instr.mapUpdate 65 mv key v).run Try.prog w = .ok () w') (h : K (a.put o.dst undef) w') : o.wp Try.prog a w K Q := by
  unfold Oper.wp execOp
  simp only [ho, hm, hx, hy, Sem.run_bind, hrun, Result.andThen_ok]
  exact h

set_option maxHeartbeats 4000000 in
set_option maxRecDepth 100000 in
theorem write_ok {w : World} {b mb : Nat} {S : St} (h : Bf w b mb S) (A : Option Addr) (P : List Pt) (n c : Nat) (hn : P.length = n) (hl : n ≤ 1000000) (hP : PV w A P) (hB : AllBy P) (hz : rf S P = 0) :
    Calls Try.prog 12 #[.pointer (some ⟨b, 0, none⟩), .slice A n c] w (Wrote 0 b mb (upS S P) w) := by
  have HR := Lib.hid (refuses_any h A P n c hn hl hP)
  rw [hz] at HR
  have hf := fine_of hz
  have hn2 := h.ok.n2
  obtain ⟨es, clock, hmap⟩ := h.map
  have HOK := Lib.hid (fun m => hf.okm h.ok hB m)
  have HPM := Lib.hid (fun W (hW : Mv (fun g => g = mb) w W) => PV.mvm hmap hW hP)
  have H := Lib.hid h
  have HF := Lib.hid hf
  have HN := Lib.hid hn
  clear h hn hP hB hf hz hmap
  go_enter Try.func12, Try.ntmps12
  go_wp2_with fail
  refine HR.out.mono ?_
  rintro e w1 ⟨rfl, hA⟩
  have HA : Hid (At w w1) := Lib.hid hA
  clear hA HR
  go_wp2
  go_loopw [16] (fun c16 wr => ∃ k : Nat, k ≤ n ∧ c16 = .int .i64 (k : Int) ∧ Hid (Bf wr b mb (upS S (P.take k))) ∧ Hid (Mv (fun g => g = mb) w wr)) (fun c16 _ => n - (RowKit.intOf c16).toNat)
  case atStart => exact ⟨0, Nat.zero_le _, rfl, Lib.hid (H.out.on HA.out), Lib.hid (Mv.of_below _ HA.out)⟩
  case round =>
    obtain ⟨k, hk, rfl, HBF, HM⟩ := hrel
    by_cases hlt : k < n
    · have hkP : k < P.length := by rw [HN.out]; exact hlt
      obtain ⟨g, o, rfl, hg, hc⟩ := (HPM.out wr HM.out).pos (by omega)
      obtain ⟨e1, B, cb, e2, hbv⟩ := hc k hkP
      have hmem := pt_mem hkP
      have hr1 := HF.out.rng _ hmem
      have hlen := HF.out.len _ hmem
      have hst := upS_step S P k hkP
      obtain ⟨p, hp⟩ : ∃ p, P.getD k pz = p := ⟨_, rfl⟩
      rw [hp] at e1 e2 hbv hr1 hlen hst
      obtain ⟨a, d⟩ := p
      simp only at e1 e2 hbv hr1 hlen
      obtain ⟨x, rfl⟩ : ∃ x : Nat, a = (x : Int) := ⟨a.toNat, by omega⟩
      have hxn : x < S.n := by omega
      rw [hlen] at e2
      obtain ⟨pb, po, rfl, -, -⟩ := hbv.pos (by omega)
      have hrg : wr.rangeAt pb po (d.map bt) := fun i u hu => by
        obtain ⟨ad, he, _, hcc⟩ := hbv.cells (by omega)
        injection he with he
        subst he
        have := hcc i u hu
        rwa [Go.WideShapes.add_plain] at this
      obtain ⟨q, hq⟩ : ∃ q, wr.heap.size = q := ⟨_, rfl⟩
      obtain ⟨wb, hwb⟩ : ∃ wb, wr.alloc (.cells #[.int .i64 (x : Int), .slice (some ⟨pb, po, none⟩) 40 cb] 56) = wb := ⟨_, rfl⟩
      have HB : Hid (At wr wb) := Lib.hid (by rw [← hwb]; exact (At.start wr).alloc _)
      have HC : Hid (wb.heap[q]? = some (.cells #[.int .i64 (x : Int), .slice (some ⟨pb, po, none⟩) 40 cb] 56 (0, 0))) := Lib.hid (by rw [← hwb, ← hq]; exact heap_alloc_new wr _)
      have HRG : Hid (wb.rangeAt pb po (d.map bt)) := Lib.hid (by rw [← hwb]; exact range_alloc hrg _)
      have HBB := Lib.hid (HBF.out.on HB.out)
      have HST := Lib.hid hst
      have HLN := Lib.hid hlen
      have g1 : (0 : Int) ≤ (k : Int) := by omega
      have g2 : (k : Int) < (n : Int) := by omega
      have HSTO : Hid (∀ W, At wb W → ∃ w2, (Instr.mapUpdate 65 (.map (some mb)) (.int .i64 (x : Int)) (dv d)).run Try.prog W = .ok () w2 ∧ Bf w2 b mb (upS S (P.take (k + 1))) ∧ Mv (fun g => g = mb) W w2) := Lib.hid fun W hW => by
        have := (HBB.out.on hW).store (k := x) hxn (d := d) HLN.out (by rw [← HST.out]; exact HOK.out (k + 1))
        rwa [← HST.out] at this
      have HMW : Hid (∀ W w2, At wb W → Mv (fun g => g = mb) W w2 → Mv (fun g => g = mb) w w2) := Lib.hid fun W w2 hW h2 => ((HM.out.next HB.out).next hW).trans h2 fun g hg => Or.inl hg
      clear hc hmem hr1 hlen hst hp hbv hrg hg hkP
      go_wp2_with fail
      have HKEEP : Hid (∀ W, At wb W → (fun W => W.cell? ⟨b, 2, none⟩ = some (.map (some mb)) ∧ W.cell? ⟨q, 0, none⟩ = some (.int .i64 (x : Int)) ∧ W.cell? ⟨q, 1, none⟩ = some (.slice (some ⟨pb, po, none⟩) 40 cb) ∧ W.rangeAt pb po (d.map bt)) W) := Lib.hid fun W hW => ⟨(HBB.out.on hW).cells.2.2, (cell_at (hW.keep HC.out) 0).trans rfl, (cell_at (hW.keep HC.out) 1).trans rfl, fun i u hu => (Below.cell hW (World.block_lt_of_cell? wb _ (HRG.out i u hu))).trans (HRG.out i u hu)⟩
      clear e1 e2 hwb hq
      refine wp_region_held_drew (S := (fun W => W.cell? ⟨b, 2, none⟩ = some (.map (some mb)) ∧ W.cell? ⟨q, 0, none⟩ = some (.int .i64 (x : Int)) ∧ W.cell? ⟨q, 1, none⟩ = some (.slice (some ⟨pb, po, none⟩) 40 cb) ∧ W.rangeAt pb po (d.map bt))) (by kernel_rfl) (HKEEP.out _ ((At.start wb).drewN 1)) (fun hHeld => ?_)
      refine wpAnyH_take (i := 0) (v := .pointer (some ⟨b, 0, none⟩)) rfl (by kernel_rfl) (by kernel_rfl) (by kernel_rfl) (fun _ _ _ h => h) (Or.inl ⟨by kernel_rfl, fun w _ => by kernel_rfl⟩) hHeld ?_
      simp only [List.getElem_toArray, List.getElem_cons_zero, Act.put, List.setIfInBounds_toArray, List.set_cons_zero, List.set_cons_succ]
      refine wpAnyH_take (i := 1) (v := .pointer (some ⟨b, 0, none⟩)) rfl (by kernel_rfl) (by kernel_rfl) (by kernel_rfl) (fun _ _ _ h => h) (Or.inl ⟨by kernel_rfl, fun w _ => by kernel_rfl⟩) hHeld ?_
      simp only [List.getElem_toArray, List.getElem_cons_zero, List.getElem_cons_succ, Act.put, List.setIfInBounds_toArray, List.set_cons_zero, List.set_cons_succ]
      refine wpAnyH_take (i := 2) (v := .pointer (some ⟨b, 2, none⟩)) rfl (by kernel_rfl) (by kernel_rfl) (by kernel_rfl) (fun _ _ _ h => h) (Or.inl ⟨by kernel_rfl, fun w _ => by kernel_rfl⟩) hHeld ?_
      simp only [List.getElem_toArray, List.getElem_cons_zero, List.getElem_cons_succ, Act.put, List.setIfInBounds_toArray, List.set_cons_zero, List.set_cons_succ]
      refine wpAnyH_take (i := 3) (v := .map (some mb)) rfl (by kernel_rfl) (by kernel_rfl) (by kernel_rfl) (fun _ _ _ h => h) (Or.inl ⟨by kernel_rfl, fun w hw => by have h1 := hw.1; go_simp⟩) hHeld ?_
      simp only [List.getElem_toArray, List.getElem_cons_zero, List.getElem_cons_succ, Act.put, List.setIfInBounds_toArray, List.set_cons_zero, List.set_cons_succ]
      refine wpAnyH_take (i := 4) (v := .pointer (some ⟨q, 0, none⟩)) rfl (by kernel_rfl) (by kernel_rfl) (by kernel_rfl) (fun _ _ _ h => h) (Or.inl ⟨by kernel_rfl, fun w _ => by kernel_rfl⟩) hHeld ?_
      simp only [List.getElem_toArray, List.getElem_cons_zero, List.getElem_cons_succ, Act.put, List.setIfInBounds_toArray, List.set_cons_zero, List.set_cons_succ]
      refine wpAnyH_take (i := 5) (v := .int .i64 (x : Int)) rfl (by kernel_rfl) (by kernel_rfl) (by kernel_rfl) (fun _ _ _ h => h) (Or.inl ⟨by kernel_rfl, fun w hw => by have h1 := hw.2.1; go_simp⟩) hHeld ?_
      simp only [List.getElem_toArray, List.getElem_cons_zero, List.getElem_cons_succ, Act.put, List.setIfInBounds_toArray, List.set_cons_zero, List.set_cons_succ]
      refine wpAnyH_take (i := 6) (v := .pointer (some ⟨q, 1, none⟩)) rfl (by kernel_rfl) (by kernel_rfl) (by kernel_rfl) (fun _ _ _ h => h) (Or.inl ⟨by kernel_rfl, fun w _ => by kernel_rfl⟩) hHeld ?_
      simp only [List.getElem_toArray, List.getElem_cons_zero, List.getElem_cons_succ, Act.put, List.setIfInBounds_toArray, List.set_cons_zero, List.set_cons_succ]
      refine wpAnyH_take (i := 7) (v := .slice (some ⟨pb, po, none⟩) 40 cb) rfl (by kernel_rfl) (by kernel_rfl) (by kernel_rfl) (fun _ _ _ h => h) (Or.inl ⟨by kernel_rfl, fun w hw => by have h1 := hw.2.2.1; go_simp⟩) hHeld ?_
      simp only [List.getElem_toArray, List.getElem_cons_zero, List.getElem_cons_succ, Act.put, List.setIfInBounds_toArray, List.set_cons_zero, List.set_cons_succ]
      refine wpAnyH_take (i := 8) (v := .pointer (some ⟨pb, po, none⟩)) rfl (by kernel_rfl) (by kernel_rfl) (by kernel_rfl) (fun _ _ _ h => h) (Or.inl ⟨by kernel_rfl, fun w _ => by kernel_rfl⟩) hHeld ?_
      simp only [List.getElem_toArray, List.getElem_cons_zero, List.getElem_cons_succ, Act.put, List.setIfInBounds_toArray, List.set_cons_zero, List.set_cons_succ]
      refine wpAnyH_take (i := 9) (v := .agg (d.map bt).toArray) rfl (by kernel_rfl) (by kernel_rfl) (by kernel_rfl) (fun _ _ _ h => h) (yieldsIf_load_mid (by kernel_rfl) 68 (.tmp 28) (by kernel_rfl) pb po (by kernel_rfl) (d.map bt) _ (fun w hw => hw.2.2.2) Try.underlying68 rfl (by rw [size_data, List.length_map, HLN.out])) hHeld ?_
      simp only [List.getElem_toArray, List.getElem_cons_zero, List.getElem_cons_succ, Act.put, List.setIfInBounds_toArray, List.set_cons_zero, List.set_cons_succ]
      clear hHeld
      obtain ⟨w2, hrun, hb2, hm2⟩ := HSTO.out _ ((At.start wb).drewN 1)
      have HRUN := Lib.hid hrun
      have HB2 := Lib.hid hb2
      have HM2 : Hid (Mv (fun g => g = mb) w w2) := Lib.hid (HMW.out _ _ ((At.start wb).drewN 1) hm2)
      have HKE : Hid ((fun W => W.cell? ⟨b, 2, none⟩ = some (.map (some mb)) ∧ W.cell? ⟨q, 0, none⟩ = some (.int .i64 (x : Int)) ∧ W.cell? ⟨q, 1, none⟩ = some (.slice (some ⟨pb, po, none⟩) 40 cb) ∧ W.rangeAt pb po (d.map bt)) w2) := Lib.hid (by
        have h0 := HKEEP.out _ ((At.start wb).drewN 1)
        obtain ⟨es, clock, hmap⟩ := (HBB.out.on ((At.start wb).drewN 1)).map
        exact ⟨cell_mv hmap hm2 h0.1, cell_mv hmap hm2 h0.2.1, cell_mv hmap hm2 h0.2.2.1, fun i u hu => cell_mv hmap hm2 (h0.2.2.2 i u hu)⟩)
      clear hrun hb2 hm2
      refine wpAnyH_ready (rs := [10]) (by kernel_rfl) (by simp) ?_
      refine AllReadyH.cons rfl (fun K hK => ?_) AllReadyH.nil
      rw [if_pos (by kernel_rfl)]
      refine wp_update (.tmp 23) (.tmp 25) (.tmp 29) (by kernel_rfl) (.map (some mb)) (.int .i64 (x : Int)) (dv d) w2 (by kernel_rfl) (by kernel_rfl) (by kernel_rfl) HRUN.out ?_
      refine hK.out _ _ HKE.out (fun hHeld => ?_)
      clear hK K hHeld
      simp only [List.getElem_toArray, List.getElem_cons_zero, List.getElem_cons_succ, Act.put]
      refine wpAnyH_done (by kernel_rfl) ?_ _
      clear HRUN HKE HKEEP HMW HSTO HBB HC HRG HB HBF HM
      go_wp2
      go_roundw
      case rel => exact ⟨k + 1, by omega, by go_num, HB2, HM2⟩
      case measure => simp [RowKit.intOf]; omega
    · have hkn : k = n := by omega
      have ht : P.take k = P := List.take_of_length_le (by rw [HN.out]; omega)
      rw [ht] at HBF
      have HE : Hid (Wrote 0 b mb (upS S P) w (.returned (.int .i64 0)) wr) := Lib.hid ⟨rfl, HBF.out, HM.out⟩
      subst hkn
      clear ht
      go_wp2
      go_ret
      exact HE.out
theorem write_any {w : World} {b mb : Nat} {S : St} (h : Bf w b mb S) (A : Option Addr) (P : List Pt) (n c : Nat) (hn : P.length = n) (hl : n ≤ 1000000) (hP : PV w A P) (hB : AllBy P) :
    Calls Try.prog 12 #[.pointer (some ⟨b, 0, none⟩), .slice A n c] w (Wrote (rf S P) b mb (wr S P) w) := by
  by_cases hz : rf S P = 0
  · rw [wr_yes hz, hz]; exact write_ok h A P n c hn hl hP hB hz
  · rw [wr_no hz]; exact write_no h A P n c hn hl hP hz

end Go.Proofs.Ythaiddhbifakhaa
