/- Proved: words for a book in memory: its box and its handles' entries; one looked up, one laid in, one taken out; the handles as the map's keys. -/
import Derived.Test.YtjgmgkglpfcihaaMem
namespace Go.Proofs.Ytjgmgkglpfcihaa
open Go.RowKit

/-- A handle as a key. -/
def ky (h : Int) : Lit := .int .i64 h
theorem ky_inj {j k : Int} (h : ky j = ky k) : j = k := by unfold ky at h; injection h
theorem own_isKey (k : Int) : WideAt.IsKeyLit (ky k) := by unfold ky; simp [WideAt.IsKeyLit]
theorem int_key : Maps.Keyed Try.prog 3 := Maps.int_keyed Try.underlying3
theorem key_of {h : Int} (hw : (ky h).wf = true) : keyOf Try.prog 3 (.int .i64 h) = some (ky h) := Maps.keyOf_int_mk Try.underlying3 hw
theorem zero_int (w : World) : (zeroValue 3).run Try.prog w = .ok (.int .i64 0) w := by kernel_rfl
theorem ky_wf {h : Int} (h0 : 0 ≤ h) (h1 : h ≤ 2000000) : (ky h).wf = true := WalkArith.wf_i64 (by omega)
theorem tm_wf {x : Int} (h0 : 0 ≤ x) (h1 : x ≤ 1099511627776) : (Lit.int .i64 x).wf = true := WalkArith.wf_i64 (by omega)
/-- How an element reads. -/
noncomputable def pe : Value → Option (DataW Value × List MemPlace) := plainElem Try.prog 3
theorem pe_int {x : Int} (hw : (Lit.int .i64 x).wf = true) : pe (.int .i64 x) = some (.lit (.int .i64 x), []) := plainElem_int Try.underlying3 hw
theorem pe_inv {v : Value} {y : DataW Value × List MemPlace} (h : pe v = some y) : ∃ c : Int, v = .int .i64 c ∧ y = (.lit (.int .i64 c), []) := by
  obtain ⟨c, e1, e2, _⟩ := plainElem_int_inv Try.underlying3 h
  exact ⟨c, e1, e2⟩

/-- The book at b with its entries in block mb that read as D is in the state S. -/
structure Mq (w : World) (b : Nat) (S : St) (mb : Nat) (D : DataW Value) : Prop where
  ok : Ok S
  own : w.ownsMap Try.prog 3 pe mb (Maps.size D) D
  at_ : ∀ k, D.atKey (ky k) (.lit (.int .i64 0)) = .lit (.int .i64 (tm S k))
  has : ∀ k, Maps.has D (ky k) = true ↔ k ∈ S.H
  only : ∀ l, Maps.has D l = true → ∃ k, l = ky k
  box : w.heap[b]? = some (.cells #[.int .i64 S.most, .int .i64 (S.g : Int), .map (some mb)] 50 (0, 0))
def Bk (w : World) (b mb : Nat) (S : St) : Prop := ∃ D, Mq w b S mb D

theorem own_tight {H : Type} {P : Program} {k : TypeId} {R : Value → Option (DataW H × List MemPlace)} {w : World} {b n : Nat} {D : DataW H} (h : w.ownsMap P k R b n D) : w.ownsMap P k R b (Maps.size D) D := by
  obtain ⟨es, clock, hb, F, hs, rfl⟩ := h
  exact ⟨es, clock, hb, F, by simp [Maps.size, length_sorted], rfl⟩
theorem own_mv {G : Nat → Prop} {w w' : World} {mb n : Nat} {D : DataW Value} {k : TypeId} {R : Value → Option (DataW Value × List MemPlace)} (h : w.ownsMap Try.prog k R mb n D) (hm : Mv G w w') (hG : ¬ G mb) : w'.ownsMap Try.prog k R mb n D := by
  obtain ⟨es, clock, hb, r⟩ := h
  exact ⟨es, clock, hm.keep hb hG, r⟩

section
variable {w w' : World} {b mb : Nat} {S : St} {D : DataW Value}
theorem Mq.map (h : Mq w b S mb D) : ∃ es clock, w.heap[mb]? = some (.map es clock) := by
  obtain ⟨es, clock, hb, _⟩ := h.own
  exact ⟨es, clock, hb⟩
theorem Mq.ne (h : Mq w b S mb D) : b ≠ mb := by
  rintro rfl
  obtain ⟨es, clock, hb⟩ := h.map
  rw [h.box] at hb; cases hb
/-- A block of cells is no block of entries. -/
theorem Mq.far (h : Mq w b S mb D) {g : Nat} {cs : Array Value} {t : TypeId} {m : Nat × Nat} (hg : w.heap[g]? = some (.cells cs t m)) : g ≠ mb := by
  rintro rfl
  obtain ⟨es, clock, hb⟩ := h.map
  rw [hg] at hb; cases hb
theorem Mq.lt (h : Mq w b S mb D) : b < w.heap.size ∧ mb < w.heap.size := by
  obtain ⟨es, clock, hb⟩ := h.map
  exact ⟨lt_heap h.box, lt_heap hb⟩
theorem Mq.mv {G : Nat → Prop} (h : Mq w b S mb D) (hm : Mv G w w') (hb : ¬ G b) (hG : ¬ G mb) : Mq w' b S mb D :=
  ⟨h.ok, own_mv h.own hm hG, h.at_, h.has, h.only, hm.keep h.box hb⟩
theorem Mq.on (h : Mq w b S mb D) (hm : At w w') : Mq w' b S mb D := h.mv (Mv.of_below (fun _ => False) hm) id id
theorem Mq.cells (h : Mq w b S mb D) : w.cell? ⟨b, 0, none⟩ = some (.int .i64 S.most) ∧ w.cell? ⟨b, 1, none⟩ = some (.int .i64 (S.g : Int)) ∧ w.cell? ⟨b, 2, none⟩ = some (.map (some mb)) :=
  ⟨(cell_at h.box 0).trans rfl, (cell_at h.box 1).trans rfl, (cell_at h.box 2).trans rfl⟩
theorem Mq.free (h : Mq w b S mb D) (i : Nat) : w.frozen? ⟨b, i, none⟩ = false := free_at h.box i
theorem Mq.keys (h : Mq w b S mb D) : S.H.Perm (intKeys D) := by
  obtain ⟨es, he, hp, hk⟩ := h.own.entries int_key
  subst he
  refine perm_intKeys hp (fun p hpm => ?_) h.ok.nodup fun x => (h.has x).symm
  exact h.only _ (List.any_eq_true.2 ⟨p, hpm, WideAt.sameKey_self (hk p hpm)⟩)
theorem Mq.size (h : Mq w b S mb D) : Maps.size D = S.H.length := by
  have hl := h.keys.length_eq
  obtain ⟨es, he, _, _⟩ := h.own.entries int_key
  subst he
  rw [hl]
  simp [intKeys, Maps.size]
theorem up_len : ∀ {H : List Int} {a : Int} {g : Nat}, H.Pairwise (· < ·) → (∀ h ∈ H, a < h ∧ h ≤ a + (g : Int)) → H.length ≤ g
  | [], _, _, _, _ => Nat.zero_le _
  | x :: H, a, g, hp, hr => by
    have h1 := List.pairwise_cons.1 hp
    have hx := hr x (List.mem_cons_self ..)
    obtain ⟨q, hq⟩ : ∃ q : Nat, (q : Int) = a + (g : Int) - x := ⟨(a + (g : Int) - x).toNat, by omega⟩
    have := up_len (a := x) (g := q) h1.2 fun h hh => ⟨h1.1 h hh, by have := (hr h (List.mem_cons_of_mem _ hh)).2; omega⟩
    show H.length + 1 ≤ g
    omega
theorem ok_len (h : Ok S) : S.H.length ≤ S.g := up_len (a := 0) h.up fun x hx => by have := h.rng x hx; omega
/-- An entry is looked up. -/
theorem Mq.look (h : Mq w b S mb D) {k : Int} (hk : (ky k).wf = true) : (Instr.lookup 48 (.map (some mb)) (.int .i64 k) true).run Try.prog w = .ok (.tuple #[.int .i64 (tm S k), .bool (decide (k ∈ S.H))]) w := by
  obtain ⟨v, ps, hrun, hv⟩ := h.own.look_ok int_key Try.underlying48 (zero_int w) (zd := .lit (.int .i64 0)) (zp := []) (pe_int (by decide)) (key_of hk)
  rw [h.at_ k] at hv
  obtain ⟨c, rfl, hc⟩ := pe_inv hv
  injection hc with hc _
  injection hc with hc
  injection hc with _ hc
  rw [hrun, ← hc]
  have : Maps.has D (ky k) = decide (k ∈ S.H) := by
    by_cases e : k ∈ S.H
    · rw [(h.has k).2 e, decide_eq_true e]
    · rw [decide_eq_false e]
      cases hh : Maps.has D (ky k)
      · rfl
      · exact absurd ((h.has k).1 hh) e
  rw [this]
/-- One entry is laid in, behind a turn of the box. -/
theorem Mq.store (h : Mq w b S mb D) {w1 : World} (hm : Mv (fun g => g = b) w w1) (hbox : w1.heap[b]? = some (.cells #[.int .i64 S.most, .int .i64 ((S.g : Int) + 1), .map (some mb)] 50 (0, 0))) {x : Int} (h0 : 0 ≤ x) (h1 : x ≤ 1099511627776) (hg : S.g < 1000000) :
    ∃ w2, (Instr.mapUpdate 48 (.map (some mb)) (.int .i64 ((S.g : Int) + 1)) (.int .i64 x)).run Try.prog w1 = .ok () w2 ∧ Bk w2 b mb (op S x) ∧ Mv (fun g => g = b ∨ g = mb) w w2 := by
  have hown1 := own_mv h.own hm (fun e => h.ne e.symm)
  have hsz : Maps.size D < maxLen := by have := ok_len h.ok; rw [h.size]; unfold maxLen; omega
  have hk : (ky ((S.g : Int) + 1)).wf = true := ky_wf (by omega) (by omega)
  obtain ⟨w2, hrun, hown2, hturn⟩ := hown1.store int_key Try.underlying48 hsz (key_of hk) (pe_int (tm_wf h0 h1))
  have hm2 : Mv (fun g => g = mb) w1 w2 := (Mv.refl _ w1).grown hturn.grown fun g hg => by injection hg with hg; exact Or.inl hg.symm
  have hmap := h.own.isMap
  have hcast : ((S.g + 1 : Nat) : Int) = (S.g : Int) + 1 := by omega
  refine ⟨w2, hrun, ⟨_, op_ok h.ok h0 h1 hg, own_tight hown2, fun j => ?_, fun j => ?_, fun l hl => ?_, ?_⟩, ?_⟩
  · rw [tm_op]
    by_cases e : j = (S.g : Int) + 1
    · subst e; rw [if_pos rfl]; exact Maps.atKey_put_same hmap (own_isKey _) _ _
    · rw [if_neg e, Maps.atKey_put_other (fun x => e (ky_inj x))]; exact h.at_ j
  · show _ ↔ j ∈ S.H ++ [(S.g : Int) + 1]
    rw [List.mem_append, List.mem_singleton]
    by_cases e : j = (S.g : Int) + 1
    · subst e; rw [Maps.has_put_same hmap (own_isKey _)]; simp
    · rw [Maps.has_put_other (fun x => e (ky_inj x)), h.has j]; simp [e]
  · by_cases e : l = ky ((S.g : Int) + 1)
    · exact ⟨_, e⟩
    · rw [Maps.has_put_other e] at hl; exact h.only l hl
  · have hb2 := hm2.keep hbox h.ne
    rw [← hcast] at hb2
    exact hb2
  · exact (hm.more fun g hg => Or.inl (Or.inl hg)).trans (hm2.more fun g hg => Or.inl (Or.inr hg)) fun g hg => Or.inl hg
/-- One entry is taken out. -/
theorem Mq.drop (h : Mq w b S mb D) {k : Int} (hk : (ky k).wf = true) (ty : TypeId) :
    ∃ w2, (Builtin.delete_ #[48, 3] ty #[.map (some mb), .int .i64 k]).run Try.prog w = .ok (.tuple #[]) w2 ∧ Bk w2 b mb (cl S k) ∧ Mv (fun g => g = b ∨ g = mb) w w2 := by
  obtain ⟨w2, hrun, hown2, hturn⟩ := h.own.drop int_key Try.underlying48 (key_of hk) ty
  have hm2 : Mv (fun g => g = mb) w w2 := (Mv.refl _ w).grown hturn.grown fun g hg => by injection hg with hg; exact Or.inl hg.symm
  refine ⟨w2, hrun, ⟨_, cl_ok h.ok k, own_tight hown2, fun j => ?_, fun j => ?_, fun l hl => ?_, hm2.keep h.box h.ne⟩, hm2.more fun g hg => Or.inl (Or.inr hg)⟩
  · rw [tm_cl]
    by_cases e : j = k
    · subst e; rw [if_pos rfl]; exact Maps.atKey_del_same _
    · rw [if_neg e, Maps.atKey_del_other (fun x => e (ky_inj x))]; exact h.at_ j
  · show _ ↔ j ∈ dl S.H k
    rw [mem_dl]
    by_cases e : j = k
    · subst e; rw [Maps.has_del_same]; simp
    · rw [Maps.has_del_other (fun x => e (ky_inj x)), h.has j]; simp [e]
  · by_cases e : l = ky k
    · exact ⟨_, e⟩
    · rw [Maps.has_del_other e] at hl; exact h.only l hl
end

section
variable {w w' : World} {b mb : Nat} {S : St}
theorem Bk.on (h : Bk w b mb S) (hm : At w w') : Bk w' b mb S := by obtain ⟨D, h⟩ := h; exact ⟨D, h.on hm⟩
theorem Bk.mv {G : Nat → Prop} (h : Bk w b mb S) (hm : Mv G w w') (hb : ¬ G b) (hG : ¬ G mb) : Bk w' b mb S := by obtain ⟨D, h⟩ := h; exact ⟨D, h.mv hm hb hG⟩
theorem Bk.ok (h : Bk w b mb S) : Ok S := by obtain ⟨D, h⟩ := h; exact h.ok
theorem Bk.box (h : Bk w b mb S) : w.heap[b]? = some (.cells #[.int .i64 S.most, .int .i64 (S.g : Int), .map (some mb)] 50 (0, 0)) := by obtain ⟨D, h⟩ := h; exact h.box
theorem Bk.far (h : Bk w b mb S) {g : Nat} {cs : Array Value} {t : TypeId} {m : Nat × Nat} (hg : w.heap[g]? = some (.cells cs t m)) : g ≠ mb := by obtain ⟨D, h⟩ := h; exact h.far hg
end

end Go.Proofs.Ytjgmgkglpfcihaa
