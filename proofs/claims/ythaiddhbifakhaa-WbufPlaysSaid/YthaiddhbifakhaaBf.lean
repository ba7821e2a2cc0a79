/- Proved: words for a buffer in memory: its box and its entries, forty bytes each; an entry looked up, laid in; the written blocks are its keys. -/
import Derived.Test.YthaiddhbifakhaaClo
import Derived.Maps.OwnSet
import Derived.Maps.Range
import Derived.Lib.SlKeysI
import Derived.IntWalk
namespace Go.Proofs.Ythaiddhbifakhaa
open Go.RowKit

/-- Forty bytes as a value. -/
def dv (L : List Nat) : Value := .agg (L.map bt).toArray
/-- What is there of a block, and what its entry reads as: noughts, if there is none. -/
def gi (S : St) (k : Int) : List Nat := if 0 ≤ k then S.g k.toNat else []
def gz (S : St) (k : Int) : List Nat := if gi S k = [] then zr 40 else gi S k
theorem gi_nat (S : St) (k : Nat) : gi S (k : Int) = S.g k := by unfold gi; rw [if_pos (by omega), Int.toNat_natCast]
theorem gi_neg (S : St) {k : Int} (h : k < 0) : gi S k = [] := if_neg (by omega)
theorem gi_pos (S : St) {k : Int} (h : gi S k ≠ []) : ∃ x : Nat, k = (x : Int) ∧ S.g x ≠ [] := by
  unfold gi at h
  by_cases h0 : 0 ≤ k
  · rw [if_pos h0] at h; exact ⟨k.toNat, by omega, h⟩
  · rw [if_neg h0] at h; exact absurd rfl h
theorem gz_yes {S : St} {k : Int} (h : gi S k ≠ []) : gz S k = gi S k := if_neg h
theorem gz_no {S : St} {k : Int} (h : gi S k = []) : gz S k = zr 40 := if_pos h
theorem gi_len {S : St} (hS : Ok S) {k : Int} (h : gi S k ≠ []) : (gi S k).length = 40 := by
  obtain ⟨x, rfl, hx⟩ := gi_pos S h
  rw [gi_nat]; exact (hS.v x hx).1
theorem gi_by {S : St} (hS : Ok S) (k : Int) : AllB (gi S k) := by
  by_cases h : gi S k = []
  · rw [h]; intro c hc; cases hc
  · obtain ⟨x, rfl, hx⟩ := gi_pos S h
    rw [gi_nat]; exact (hS.v x hx).2
theorem gz_len {S : St} (hS : Ok S) (k : Int) : (gz S k).length = 40 := by
  by_cases h : gi S k = []
  · rw [gz_no h]; exact zr_len 40
  · rw [gz_yes h]; exact gi_len hS h
theorem gi_up (S : St) (x : Nat) (d : List Nat) (k : Int) : gi (upS S [((x : Int), d)]) k = if k = (x : Int) then d else gi S k := by
  unfold gi
  by_cases h0 : 0 ≤ k
  · rw [if_pos h0, if_pos h0]
    show (if ((k.toNat : Nat) : Int) = (x : Int) then d else S.g k.toNat) = _
    by_cases e : k = (x : Int)
    · rw [if_pos e, if_pos (by omega)]
    · rw [if_neg e, if_neg (by omega)]
  · rw [if_neg h0, if_neg h0, if_neg (by omega)]

/-- An element of the map stands for itself. -/
def raw (v : Value) : Option (DataW Value × List MemPlace) := some (.held v, [])
def ky (k : Int) : Lit := .int .i64 k
theorem ky_inj {j k : Int} (h : ky j = ky k) : j = k := by unfold ky at h; injection h
theorem ky_wf {k : Int} (h1 : -9223372036854775808 ≤ k) (h2 : k ≤ 9223372036854775807) : (ky k).wf = true := WalkArith.wf_i64 (by omega)
theorem int_key : Maps.Keyed Try.prog 3 := Maps.int_keyed Try.underlying3
theorem key_of {k : Int} (h : (ky k).wf = true) : keyOf Try.prog 3 (.int .i64 k) = some (ky k) := Maps.keyOf_int_mk Try.underlying3 h
theorem zr_cells : (zr 40).map bt = [.int .u8 0, .int .u8 0, .int .u8 0, .int .u8 0, .int .u8 0, .int .u8 0, .int .u8 0, .int .u8 0, .int .u8 0, .int .u8 0, .int .u8 0, .int .u8 0, .int .u8 0, .int .u8 0, .int .u8 0, .int .u8 0, .int .u8 0, .int .u8 0, .int .u8 0, .int .u8 0, .int .u8 0, .int .u8 0, .int .u8 0, .int .u8 0, .int .u8 0, .int .u8 0, .int .u8 0, .int .u8 0, .int .u8 0, .int .u8 0, .int .u8 0, .int .u8 0, .int .u8 0, .int .u8 0, .int .u8 0, .int .u8 0, .int .u8 0, .int .u8 0, .int .u8 0, .int .u8 0] := rfl
theorem zero_data (w : World) : (zeroValue 68).run Try.prog w = .ok (dv (zr 40)) w := by kernel_rfl
theorem own_tight {H : Type} {P : Program} {k : TypeId} {R : Value → Option (DataW H × List MemPlace)} {w : World} {b n : Nat} {D : DataW H} (h : w.ownsMap P k R b n D) : w.ownsMap P k R b (Maps.size D) D := by
  obtain ⟨es, clock, hb, F, hs, rfl⟩ := h
  exact ⟨es, clock, hb, F, by simp [Maps.size, length_sorted], rfl⟩
theorem own_isKey (k : Int) : WideAt.IsKeyLit (ky k) := by unfold ky; simp [WideAt.IsKeyLit]
theorem own_mv {H : Type} {G : Nat → Prop} {w w' : World} {mb n : Nat} {D : DataW H} {k : TypeId} {R : Value → Option (DataW H × List MemPlace)} (h : w.ownsMap Try.prog k R mb n D) (hm : Mv G w w') (hG : ¬ G mb) : w'.ownsMap Try.prog k R mb n D := by
  obtain ⟨es, clock, hb, r⟩ := h
  exact ⟨es, clock, hm.keep hb hG, r⟩

/-- The buffer at b with its entries in block mb that read as D is in the state S. -/
structure Mq (w : World) (b : Nat) (S : St) (mb : Nat) (D : DataW Value) : Prop where
  ok : Ok S
  own : w.ownsMap Try.prog 3 raw mb (Maps.size D) D
  at_ : ∀ k, D.atKey (ky k) (.held (dv (zr 40))) = .held (dv (gz S k))
  has : ∀ k, Maps.has D (ky k) = true ↔ gi S k ≠ []
  only : ∀ l, Maps.has D l = true → ∃ k : Nat, l = ky (k : Int)
  box : w.heap[b]? = some (.cells #[.int .i64 (S.n : Int), .int .i64 S.most, .map (some mb)] 67 (0, 0))
def Bf (w : World) (b mb : Nat) (S : St) : Prop := ∃ D, Mq w b S mb D

section
variable {w w' : World} {b mb : Nat} {S : St} {D : DataW Value}
theorem Mq.map (h : Mq w b S mb D) : ∃ es clock, w.heap[mb]? = some (.map es clock) := by
  obtain ⟨es, clock, hb, _⟩ := h.own
  exact ⟨es, clock, hb⟩
/-- A block of cells is no block of entries. -/
theorem Mq.far (h : Mq w b S mb D) {g : Nat} {cs : Array Value} {t : TypeId} {m : Nat × Nat} (hg : w.heap[g]? = some (.cells cs t m)) : g ≠ mb := by
  rintro rfl
  obtain ⟨es, clock, hb⟩ := h.map
  rw [hg] at hb; cases hb
theorem Mq.ne (h : Mq w b S mb D) : b ≠ mb := h.far h.box
theorem Mq.lt (h : Mq w b S mb D) : b < w.heap.size ∧ mb < w.heap.size := by
  obtain ⟨es, clock, hb⟩ := h.map
  exact ⟨lt_heap h.box, lt_heap hb⟩
theorem Mq.mv {G : Nat → Prop} (h : Mq w b S mb D) (hm : Mv G w w') (hb : ¬ G b) (hG : ¬ G mb) : Mq w' b S mb D :=
  ⟨h.ok, own_mv h.own hm hG, h.at_, h.has, h.only, hm.keep h.box hb⟩
theorem Mq.on (h : Mq w b S mb D) (hm : At w w') : Mq w' b S mb D := h.mv (Mv.of_below (fun _ => False) hm) id id
theorem Mq.cells (h : Mq w b S mb D) : w.cell? ⟨b, 0, none⟩ = some (.int .i64 (S.n : Int)) ∧ w.cell? ⟨b, 1, none⟩ = some (.int .i64 S.most) ∧ w.cell? ⟨b, 2, none⟩ = some (.map (some mb)) :=
  ⟨(cell_at h.box 0).trans rfl, (cell_at h.box 1).trans rfl, (cell_at h.box 2).trans rfl⟩
theorem Mq.free (h : Mq w b S mb D) (i : Nat) : w.frozen? ⟨b, i, none⟩ = false := free_at h.box i
theorem us_int (S : St) : ((us S).map (fun k : Nat => (k : Int))).Nodup := List.Pairwise.map _ (fun a b hab e => hab (by omega)) (us_nodup S)
theorem Mq.mem (h : Mq w b S mb D) {k : Nat} : k ∈ us S ↔ Maps.has D (ky (k : Int)) = true := by
  rw [mem_us, h.has, gi_nat]
  refine ⟨fun h => h.2, fun hk => ⟨?_, hk⟩⟩
  rcases Nat.lt_or_ge k S.n with h1 | h1
  · exact h1
  · exact absurd (h.ok.e k h1) hk
theorem Mq.keys (h : Mq w b S mb D) : ((us S).map (fun k : Nat => (k : Int))).Perm (intKeys D) := by
  obtain ⟨es, he, hp, hk⟩ := h.own.entries int_key
  subst he
  refine perm_intKeys hp (fun p hpm => ?_) (us_int S) fun x => ?_
  · obtain ⟨k, e⟩ := h.only _ (List.any_eq_true.2 ⟨p, hpm, WideAt.sameKey_self (hk p hpm)⟩)
    exact ⟨_, e⟩
  · rw [List.mem_map]
    constructor
    · rintro ⟨k, hk, rfl⟩; exact h.mem.1 hk
    · intro hx
      obtain ⟨k, e⟩ := h.only _ hx
      unfold ky at e
      injection e with _ e
      subst e
      exact ⟨k, h.mem.2 hx, rfl⟩
theorem Mq.size (h : Mq w b S mb D) : Maps.size D = (us S).length := by
  have hl := h.keys.length_eq
  obtain ⟨es, he, _, _⟩ := h.own.entries int_key
  subst he
  rw [List.length_map] at hl
  rw [hl]
  simp [intKeys, Maps.size]
/-- An entry is looked up. -/
theorem Mq.look (h : Mq w b S mb D) {k : Int} (hk : (ky k).wf = true) : (Instr.lookup 65 (.map (some mb)) (.int .i64 k) true).run Try.prog w = .ok (.tuple #[dv (gz S k), .bool (!(gi S k).isEmpty)]) w := by
  obtain ⟨v, ps, hrun, hv⟩ := h.own.look_ok int_key Try.underlying65 (zero_data w) (R := raw) (zd := .held (dv (zr 40))) (zp := []) rfl (key_of hk)
  rw [h.at_ k] at hv
  simp only [raw, Option.some.injEq, Prod.mk.injEq] at hv
  have hv1 : v = dv (gz S k) := by have := hv.1; injection this
  have hh : Maps.has D (ky k) = !(gi S k).isEmpty := by
    by_cases e : gi S k = []
    · rw [e]
      cases hh : Maps.has D (ky k)
      · rfl
      · exact absurd e ((h.has k).1 hh)
    · rw [(h.has k).2 e]; simp [e]
  rw [hrun, hv1, hh]
theorem Mq.look1 (h : Mq w b S mb D) {k : Int} (hk : (ky k).wf = true) : (Instr.lookup 65 (.map (some mb)) (.int .i64 k) false).run Try.prog w = .ok (dv (gz S k)) w := by
  obtain ⟨v, ps, hrun, hv⟩ := h.own.lookup int_key Try.underlying65 (zero_data w) (R := raw) (zd := .held (dv (zr 40))) (zp := []) rfl (key_of hk)
  rw [h.at_ k] at hv
  simp only [raw, Option.some.injEq, Prod.mk.injEq] at hv
  have hv1 : v = dv (gz S k) := by have := hv.1; injection this
  rw [hrun, hv1]
/-- One entry is laid in. -/
theorem Mq.store (h : Mq w b S mb D) {k : Nat} (hk : k < S.n) {d : List Nat} (hd : d.length = 40) (hok : Ok (upS S [((k : Int), d)])) :
    ∃ w2, (Instr.mapUpdate 65 (.map (some mb)) (.int .i64 (k : Int)) (dv d)).run Try.prog w = .ok () w2 ∧ Bf w2 b mb (upS S [((k : Int), d)]) ∧ Mv (fun g => g = mb) w w2 := by
  have hsz : Maps.size D < maxLen := by have h1 := us_len S; have h2 := h.ok.n2; rw [h.size]; unfold maxLen; omega
  have hwf : (ky (k : Int)).wf = true := by have h2 := h.ok.n2; exact ky_wf (by omega) (by omega)
  have hne : d ≠ [] := fun e => by rw [e] at hd; cases hd
  obtain ⟨w2, hrun, hown2, hturn⟩ := h.own.store int_key Try.underlying65 hsz (key_of hwf) (show raw (dv d) = some (.held (dv d), []) from rfl)
  have hm2 : Mv (fun g => g = mb) w w2 := (Mv.refl _ w).grown hturn.grown fun g hg => by injection hg with hg; exact Or.inl hg.symm
  have hmap := h.own.isMap
  refine ⟨w2, hrun, ⟨_, hok, own_tight hown2, fun j => ?_, fun j => ?_, fun l hl => ?_, hm2.keep h.box h.ne⟩, hm2⟩
  · by_cases e : j = (k : Int)
    · subst e
      rw [gz_yes (by rw [gi_up, if_pos rfl]; exact hne), gi_up, if_pos rfl]
      exact Maps.atKey_put_same hmap (own_isKey _) _ _
    · have : gz (upS S [((k : Int), d)]) j = gz S j := by unfold gz; rw [gi_up, if_neg e]
      rw [this, Maps.atKey_put_other (fun x => e (ky_inj x))]; exact h.at_ j
  · rw [gi_up]
    by_cases e : j = (k : Int)
    · subst e; rw [if_pos rfl, Maps.has_put_same hmap (own_isKey _)]; simp [hne]
    · rw [if_neg e, Maps.has_put_other (fun x => e (ky_inj x))]; exact h.has j
  · by_cases e : l = ky (k : Int)
    · exact ⟨k, e⟩
    · rw [Maps.has_put_other e] at hl; exact h.only l hl
end

section
variable {w w' : World} {b mb : Nat} {S : St}
theorem Bf.on (h : Bf w b mb S) (hm : At w w') : Bf w' b mb S := by obtain ⟨D, h⟩ := h; exact ⟨D, h.on hm⟩
theorem Bf.mv {G : Nat → Prop} (h : Bf w b mb S) (hm : Mv G w w') (hb : ¬ G b) (hG : ¬ G mb) : Bf w' b mb S := by obtain ⟨D, h⟩ := h; exact ⟨D, h.mv hm hb hG⟩
theorem Bf.ok (h : Bf w b mb S) : Ok S := by obtain ⟨D, h⟩ := h; exact h.ok
theorem Bf.box (h : Bf w b mb S) : w.heap[b]? = some (.cells #[.int .i64 (S.n : Int), .int .i64 S.most, .map (some mb)] 67 (0, 0)) := by obtain ⟨D, h⟩ := h; exact h.box
theorem Bf.far (h : Bf w b mb S) {g : Nat} {cs : Array Value} {t : TypeId} {m : Nat × Nat} (hg : w.heap[g]? = some (.cells cs t m)) : g ≠ mb := by obtain ⟨D, h⟩ := h; exact h.far hg
theorem Bf.look (h : Bf w b mb S) {k : Int} (hk : (ky k).wf = true) : (Instr.lookup 65 (.map (some mb)) (.int .i64 k) true).run Try.prog w = .ok (.tuple #[dv (gz S k), .bool (!(gi S k).isEmpty)]) w := by obtain ⟨D, h⟩ := h; exact h.look hk
theorem Bf.look1 (h : Bf w b mb S) {k : Int} (hk : (ky k).wf = true) : (Instr.lookup 65 (.map (some mb)) (.int .i64 k) false).run Try.prog w = .ok (dv (gz S k)) w := by obtain ⟨D, h⟩ := h; exact h.look1 hk
theorem Bf.cells (h : Bf w b mb S) : w.cell? ⟨b, 0, none⟩ = some (.int .i64 (S.n : Int)) ∧ w.cell? ⟨b, 1, none⟩ = some (.int .i64 S.most) ∧ w.cell? ⟨b, 2, none⟩ = some (.map (some mb)) := by obtain ⟨D, h⟩ := h; exact h.cells
theorem Bf.lt (h : Bf w b mb S) : b < w.heap.size ∧ mb < w.heap.size := by obtain ⟨D, h⟩ := h; exact h.lt
theorem Bf.ne (h : Bf w b mb S) : b ≠ mb := by obtain ⟨D, h⟩ := h; exact h.ne
end

end Go.Proofs.Ythaiddhbifakhaa
