/- Proved: words for a buffer in memory: its box and its entries, forty bytes each; an entry looked up, laid in; the written blocks are its keys.
a buffer's plain calls: size, all, Len; New.
a block is read: the bytes that were written last, in memory of its own, or none.
words for a list of blocks to be written; a call that leaves the world alone, met in a region that draws. -/
import Derived.Test.YtgjlklladbcmcaaMem
import Derived.Maps.OwnSet
import Derived.Maps.Range
import Derived.Lib.SlKeysI
import Derived.IntWalk
import Derived.Laws.ResultCell
import Derived.Laws.Rows
import Derived.Laws.Tables
import Derived.Deep.MidRow
import Derived.Deep.WholeRow
namespace Go.Proofs.Ytgjlklladbcmcaa
open Go.RowKit

/-- Forty bytes as a value. -/
def dv (L : List Nat) : Value := .agg (L.map bt).toArray
/-- What is there of a block, and what its entry reads as: noughts, if there is none. -/
def gi (S : St) (k : Int) : List Nat := if 0 ≤ k then S.g k.toNat else []
def gz (S : St) (k : Int) : List Nat := if gi S k = [] then zr 40 else gi S k
theorem gi_nat (S : St) (k : Nat) : gi S (k : Int) = S.g k := by unfold gi; rw [if_pos (by omega), Int.toNat_natCast]
theorem gi_neg (S : St) {k : Int} (h : k < 0) : gi S k = [] := if_neg (by omega)
theorem gi_pos (S : St) {k : Int} (h : gi S k ≠ []) : ∃ x : Nat, k = (x : Int) ∧ S.g x ≠ [] := by
  unfold gi at h
  by_cases h0 : 0 ≤ k
  · rw [if_pos h0] at h; exact ⟨k.toNat, by omega, h⟩
  · rw [if_neg h0] at h; exact absurd rfl h
theorem gz_yes {S : St} {k : Int} (h : gi S k ≠ []) : gz S k = gi S k := if_neg h
theorem gz_no {S : St} {k : Int} (h : gi S k = []) : gz S k = zr 40 := if_pos h
theorem gi_len {S : St} (hS : Ok S) {k : Int} (h : gi S k ≠ []) : (gi S k).length = 40 := by
  obtain ⟨x, rfl, hx⟩ := gi_pos S h
  rw [gi_nat]; exact (hS.v x hx).1
theorem gi_by {S : St} (hS : Ok S) (k : Int) : AllB (gi S k) := by
  by_cases h : gi S k = []
  · rw [h]; intro c hc; cases hc
  · obtain ⟨x, rfl, hx⟩ := gi_pos S h
    rw [gi_nat]; exact (hS.v x hx).2
theorem gz_len {S : St} (hS : Ok S) (k : Int) : (gz S k).length = 40 := by
  by_cases h : gi S k = []
  · rw [gz_no h]; exact zr_len 40
  · rw [gz_yes h]; exact gi_len hS h
theorem gi_up (S : St) (x : Nat) (d : List Nat) (k : Int) : gi (upS S [((x : Int), d)]) k = if k = (x : Int) then d else gi S k := by
  unfold gi
  by_cases h0 : 0 ≤ k
  · rw [if_pos h0, if_pos h0]
    show (if ((k.toNat : Nat) : Int) = (x : Int) then d else S.g k.toNat) = _
    by_cases e : k = (x : Int)
    · rw [if_pos e, if_pos (by omega)]
    · rw [if_neg e, if_neg (by omega)]
  · rw [if_neg h0, if_neg h0, if_neg (by omega)]

/-- An element of the map stands for itself. -/
def raw (v : Value) : Option (DataW Value × List MemPlace) := some (.held v, [])
def ky (k : Int) : Lit := .int .i64 k
theorem ky_inj {j k : Int} (h : ky j = ky k) : j = k := by unfold ky at h; injection h
theorem ky_wf {k : Int} (h1 : -9223372036854775808 ≤ k) (h2 : k ≤ 9223372036854775807) : (ky k).wf = true := WalkArith.wf_i64 (by omega)
theorem int_key : Maps.Keyed Try.prog 3 := Maps.int_keyed Try.underlying3
theorem key_of {k : Int} (h : (ky k).wf = true) : keyOf Try.prog 3 (.int .i64 k) = some (ky k) := Maps.keyOf_int_mk Try.underlying3 h
theorem zr_cells : (zr 40).map bt = [.int .u8 0, .int .u8 0, .int .u8 0, .int .u8 0, .int .u8 0, .int .u8 0, .int .u8 0, .int .u8 0, .int .u8 0, .int .u8 0, .int .u8 0, .int .u8 0, .int .u8 0, .int .u8 0, .int .u8 0, .int .u8 0, .int .u8 0, .int .u8 0, .int .u8 0, .int .u8 0, .int .u8 0, .int .u8 0, .int .u8 0, .int .u8 0, .int .u8 0, .int .u8 0, .int .u8 0, .int .u8 0, .int .u8 0, .int .u8 0, .int .u8 0, .int .u8 0, .int .u8 0, .int .u8 0, .int .u8 0, .int .u8 0, .int .u8 0, .int .u8 0, .int .u8 0, .int .u8 0] := rfl
theorem zero_data (w : World) : (zeroValue 97).run Try.prog w = .ok (dv (zr 40)) w := by kernel_rfl
theorem own_tight {H : Type} {P : Program} {k : TypeId} {R : Value → Option (DataW H × List MemPlace)} {w : World} {b n : Nat} {D : DataW H} (h : w.ownsMap P k R b n D) : w.ownsMap P k R b (Maps.size D) D := by
  obtain ⟨es, clock, hb, F, hs, rfl⟩ := h
  exact ⟨es, clock, hb, F, by simp [Maps.size, length_sorted], rfl⟩
theorem own_isKey (k : Int) : WideAt.IsKeyLit (ky k) := by unfold ky; simp [WideAt.IsKeyLit]
theorem own_mv {H : Type} {G : Nat → Prop} {w w' : World} {mb n : Nat} {D : DataW H} {k : TypeId} {R : Value → Option (DataW H × List MemPlace)} (h : w.ownsMap Try.prog k R mb n D) (hm : Mv G w w') (hG : ¬ G mb) : w'.ownsMap Try.prog k R mb n D := by
  obtain ⟨es, clock, hb, r⟩ := h
  exact ⟨es, clock, hm.keep hb hG, r⟩

/-- The buffer at b with its entries in block mb that read as D is in the state S. -/
structure Mq (w : World) (b : Nat) (S : St) (mb : Nat) (D : DataW Value) : Prop where
  ok : Ok S
  own : w.ownsMap Try.prog 3 raw mb (Maps.size D) D
  at_ : ∀ k, D.atKey (ky k) (.held (dv (zr 40))) = .held (dv (gz S k))
  has : ∀ k, Maps.has D (ky k) = true ↔ gi S k ≠ []
  only : ∀ l, Maps.has D l = true → ∃ k : Nat, l = ky (k : Int)
  box : w.heap[b]? = some (.cells #[.int .i64 (S.n : Int), .int .i64 S.most, .map (some mb)] 100 (0, 0))
def Bf (w : World) (b mb : Nat) (S : St) : Prop := ∃ D, Mq w b S mb D

section
variable {w w' : World} {b mb : Nat} {S : St} {D : DataW Value}
theorem Mq.map (h : Mq w b S mb D) : ∃ es clock, w.heap[mb]? = some (.map es clock) := by
  obtain ⟨es, clock, hb, _⟩ := h.own
  exact ⟨es, clock, hb⟩
/-- A block of cells is no block of entries. -/
theorem Mq.far (h : Mq w b S mb D) {g : Nat} {cs : Array Value} {t : TypeId} {m : Nat × Nat} (hg : w.heap[g]? = some (.cells cs t m)) : g ≠ mb := by
  rintro rfl
  obtain ⟨es, clock, hb⟩ := h.map
  rw [hg] at hb; cases hb
theorem Mq.ne (h : Mq w b S mb D) : b ≠ mb := h.far h.box
theorem Mq.lt (h : Mq w b S mb D) : b < w.heap.size ∧ mb < w.heap.size := by
  obtain ⟨es, clock, hb⟩ := h.map
  exact ⟨lt_heap h.box, lt_heap hb⟩
theorem Mq.mv {G : Nat → Prop} (h : Mq w b S mb D) (hm : Mv G w w') (hb : ¬ G b) (hG : ¬ G mb) : Mq w' b S mb D :=
  ⟨h.ok, own_mv h.own hm hG, h.at_, h.has, h.only, hm.keep h.box hb⟩
theorem Mq.on (h : Mq w b S mb D) (hm : At w w') : Mq w' b S mb D := h.mv (Mv.of_below (fun _ => False) hm) id id
theorem Mq.cells (h : Mq w b S mb D) : w.cell? ⟨b, 0, none⟩ = some (.int .i64 (S.n : Int)) ∧ w.cell? ⟨b, 1, none⟩ = some (.int .i64 S.most) ∧ w.cell? ⟨b, 2, none⟩ = some (.map (some mb)) :=
  ⟨(cell_at h.box 0).trans rfl, (cell_at h.box 1).trans rfl, (cell_at h.box 2).trans rfl⟩
theorem Mq.free (h : Mq w b S mb D) (i : Nat) : w.frozen? ⟨b, i, none⟩ = false := free_at h.box i
theorem us_int (S : St) : ((us S).map (fun k : Nat => (k : Int))).Nodup := List.Pairwise.map _ (fun a b hab e => hab (by omega)) (us_nodup S)
theorem Mq.mem (h : Mq w b S mb D) {k : Nat} : k ∈ us S ↔ Maps.has D (ky (k : Int)) = true := by
  rw [mem_us, h.has, gi_nat]
  refine ⟨fun h => h.2, fun hk => ⟨?_, hk⟩⟩
  rcases Nat.lt_or_ge k S.n with h1 | h1
  · exact h1
  · exact absurd (h.ok.e k h1) hk
theorem Mq.keys (h : Mq w b S mb D) : ((us S).map (fun k : Nat => (k : Int))).Perm (intKeys D) := by
  obtain ⟨es, he, hp, hk⟩ := h.own.entries int_key
  subst he
  refine perm_intKeys hp (fun p hpm => ?_) (us_int S) fun x => ?_
  · obtain ⟨k, e⟩ := h.only _ (List.any_eq_true.2 ⟨p, hpm, WideAt.sameKey_self (hk p hpm)⟩)
    exact ⟨_, e⟩
  · rw [List.mem_map]
    constructor
    · rintro ⟨k, hk, rfl⟩; exact h.mem.1 hk
    · intro hx
      obtain ⟨k, e⟩ := h.only _ hx
      unfold ky at e
      injection e with _ e
      subst e
      exact ⟨k, h.mem.2 hx, rfl⟩
theorem Mq.size (h : Mq w b S mb D) : Maps.size D = (us S).length := by
  have hl := h.keys.length_eq
  obtain ⟨es, he, _, _⟩ := h.own.entries int_key
  subst he
  rw [List.length_map] at hl
  rw [hl]
  simp [intKeys, Maps.size]
/-- An entry is looked up. -/
theorem Mq.look (h : Mq w b S mb D) {k : Int} (hk : (ky k).wf = true) : (Instr.lookup 98 (.map (some mb)) (.int .i64 k) true).run Try.prog w = .ok (.tuple #[dv (gz S k), .bool (!(gi S k).isEmpty)]) w := by
  obtain ⟨v, ps, hrun, hv⟩ := h.own.look_ok int_key Try.underlying98 (zero_data w) (R := raw) (zd := .held (dv (zr 40))) (zp := []) rfl (key_of hk)
  rw [h.at_ k] at hv
  simp only [raw, Option.some.injEq, Prod.mk.injEq] at hv
  have hv1 : v = dv (gz S k) := by have := hv.1; injection this
  have hh : Maps.has D (ky k) = !(gi S k).isEmpty := by
    by_cases e : gi S k = []
    · rw [e]
      cases hh : Maps.has D (ky k)
      · rfl
      · exact absurd e ((h.has k).1 hh)
    · rw [(h.has k).2 e]; simp [e]
  rw [hrun, hv1, hh]
theorem Mq.look1 (h : Mq w b S mb D) {k : Int} (hk : (ky k).wf = true) : (Instr.lookup 98 (.map (some mb)) (.int .i64 k) false).run Try.prog w = .ok (dv (gz S k)) w := by
  obtain ⟨v, ps, hrun, hv⟩ := h.own.lookup int_key Try.underlying98 (zero_data w) (R := raw) (zd := .held (dv (zr 40))) (zp := []) rfl (key_of hk)
  rw [h.at_ k] at hv
  simp only [raw, Option.some.injEq, Prod.mk.injEq] at hv
  have hv1 : v = dv (gz S k) := by have := hv.1; injection this
  rw [hrun, hv1]
/-- One entry is laid in. -/
theorem Mq.store (h : Mq w b S mb D) {k : Nat} (hk : k < S.n) {d : List Nat} (hd : d.length = 40) (hok : Ok (upS S [((k : Int), d)])) :
    ∃ w2, (Instr.mapUpdate 98 (.map (some mb)) (.int .i64 (k : Int)) (dv d)).run Try.prog w = .ok () w2 ∧ Bf w2 b mb (upS S [((k : Int), d)]) ∧ Mv (fun g => g = mb) w w2 := by
  have hsz : Maps.size D < maxLen := by have h1 := us_len S; have h2 := h.ok.n2; rw [h.size]; unfold maxLen; omega
  have hwf : (ky (k : Int)).wf = true := by have h2 := h.ok.n2; exact ky_wf (by omega) (by omega)
  have hne : d ≠ [] := fun e => by rw [e] at hd; cases hd
  obtain ⟨w2, hrun, hown2, hturn⟩ := h.own.store int_key Try.underlying98 hsz (key_of hwf) (show raw (dv d) = some (.held (dv d), []) from rfl)
  have hm2 : Mv (fun g => g = mb) w w2 := (Mv.refl _ w).grown hturn.grown fun g hg => by injection hg with hg; exact Or.inl hg.symm
  have hmap := h.own.isMap
  refine ⟨w2, hrun, ⟨_, hok, own_tight hown2, fun j => ?_, fun j => ?_, fun l hl => ?_, hm2.keep h.box h.ne⟩, hm2⟩
  · by_cases e : j = (k : Int)
    · subst e
      rw [gz_yes (by rw [gi_up, if_pos rfl]; exact hne), gi_up, if_pos rfl]
      exact Maps.atKey_put_same hmap (own_isKey _) _ _
    · have : gz (upS S [((k : Int), d)]) j = gz S j := by unfold gz; rw [gi_up, if_neg e]
      rw [this, Maps.atKey_put_other (fun x => e (ky_inj x))]; exact h.at_ j
  · rw [gi_up]
    by_cases e : j = (k : Int)
    · subst e; rw [if_pos rfl, Maps.has_put_same hmap (own_isKey _)]; simp [hne]
    · rw [if_neg e, Maps.has_put_other (fun x => e (ky_inj x))]; exact h.has j
  · by_cases e : l = ky (k : Int)
    · exact ⟨k, e⟩
    · rw [Maps.has_put_other e] at hl; exact h.only l hl
end

section
variable {w w' : World} {b mb : Nat} {S : St}
theorem Bf.on (h : Bf w b mb S) (hm : At w w') : Bf w' b mb S := by obtain ⟨D, h⟩ := h; exact ⟨D, h.on hm⟩
theorem Bf.mv {G : Nat → Prop} (h : Bf w b mb S) (hm : Mv G w w') (hb : ¬ G b) (hG : ¬ G mb) : Bf w' b mb S := by obtain ⟨D, h⟩ := h; exact ⟨D, h.mv hm hb hG⟩
theorem Bf.ok (h : Bf w b mb S) : Ok S := by obtain ⟨D, h⟩ := h; exact h.ok
theorem Bf.box (h : Bf w b mb S) : w.heap[b]? = some (.cells #[.int .i64 (S.n : Int), .int .i64 S.most, .map (some mb)] 100 (0, 0)) := by obtain ⟨D, h⟩ := h; exact h.box
theorem Bf.far (h : Bf w b mb S) {g : Nat} {cs : Array Value} {t : TypeId} {m : Nat × Nat} (hg : w.heap[g]? = some (.cells cs t m)) : g ≠ mb := by obtain ⟨D, h⟩ := h; exact h.far hg
theorem Bf.look (h : Bf w b mb S) {k : Int} (hk : (ky k).wf = true) : (Instr.lookup 98 (.map (some mb)) (.int .i64 k) true).run Try.prog w = .ok (.tuple #[dv (gz S k), .bool (!(gi S k).isEmpty)]) w := by obtain ⟨D, h⟩ := h; exact h.look hk
theorem Bf.look1 (h : Bf w b mb S) {k : Int} (hk : (ky k).wf = true) : (Instr.lookup 98 (.map (some mb)) (.int .i64 k) false).run Try.prog w = .ok (dv (gz S k)) w := by obtain ⟨D, h⟩ := h; exact h.look1 hk
theorem Bf.cells (h : Bf w b mb S) : w.cell? ⟨b, 0, none⟩ = some (.int .i64 (S.n : Int)) ∧ w.cell? ⟨b, 1, none⟩ = some (.int .i64 S.most) ∧ w.cell? ⟨b, 2, none⟩ = some (.map (some mb)) := by obtain ⟨D, h⟩ := h; exact h.cells
theorem Bf.lt (h : Bf w b mb S) : b < w.heap.size ∧ mb < w.heap.size := by obtain ⟨D, h⟩ := h; exact h.lt
theorem Bf.ne (h : Bf w b mb S) : b ≠ mb := by obtain ⟨D, h⟩ := h; exact h.ne
end

end Go.Proofs.Ytgjlklladbcmcaa

namespace Go.Proofs.Ytgjlklladbcmcaa
open Go.RowKit

section
variable {w : World} {b mb : Nat} {S : St}
set_option maxHeartbeats 400000 in
theorem all_bf (h : Bf w b mb S) : Calls Try.prog 76 #[.pointer (some ⟨b, 0, none⟩)] w fun e w' => e = .returned (.map (some mb)) ∧ w = w' := by
  obtain ⟨-, -, c0⟩ := h.cells
  clear h
  go_enter Try.func76, Try.ntmps76
  go_wp2
  go_ret
  exact ⟨rfl, rfl⟩
set_option maxHeartbeats 400000 in
theorem all_nil (w : World) : Calls Try.prog 76 #[.pointer none] w fun e w' => e = .returned (.map none) ∧ w = w' := by
  go_enter Try.func76, Try.ntmps76
  go_wp2
  go_ret
  exact ⟨rfl, rfl⟩
set_option maxHeartbeats 400000 in
theorem size_bf (h : Bf w b mb S) : Calls Try.prog 79 #[.pointer (some ⟨b, 0, none⟩)] w fun e w' => e = .returned (.int .i64 (S.n : Int)) ∧ w = w' := by
  obtain ⟨c0, -, -⟩ := h.cells
  clear h
  go_enter Try.func79, Try.ntmps79
  go_wp2
  go_ret
  exact ⟨rfl, rfl⟩
set_option maxHeartbeats 400000 in
theorem size_nil (w : World) : Calls Try.prog 79 #[.pointer none] w fun e w' => e = .returned (.int .i64 0) ∧ w = w' := by
  go_enter Try.func79, Try.ntmps79
  go_wp2
  go_ret
  exact ⟨rfl, rfl⟩
set_option maxHeartbeats 400000 in
theorem len_bf (h : Bf w b mb S) : Calls Try.prog 80 #[.pointer (some ⟨b, 0, none⟩)] w fun e w' => e = .returned (.int .i64 ((us S).length : Int)) ∧ w = w' := by
  have HA := Lib.hid (all_bf h)
  obtain ⟨D, h⟩ := h
  have hlen := h.own.len Try.underlying98 3
  rw [h.size] at hlen
  clear h
  go_enter Try.func80, Try.ntmps80
  go_wp2_with fail
  refine HA.out.mono ?_
  rintro e w' ⟨rfl, rfl⟩
  go_wp2
  go_ret
  exact ⟨rfl, rfl⟩
set_option maxHeartbeats 400000 in
theorem len_nil (w : World) : Calls Try.prog 80 #[.pointer none] w fun e w' => e = .returned (.int .i64 0) ∧ w = w' := by
  have HA := Lib.hid (all_nil w)
  have hlen := Maps.len_nil (P := Try.prog) (w := w) Try.underlying98 3
  go_enter Try.func80, Try.ntmps80
  go_wp2_with fail
  refine HA.out.mono ?_
  rintro e w' ⟨rfl, rfl⟩
  go_wp2
  go_ret
  exact ⟨rfl, rfl⟩
end

/-- A new buffer. -/
def News (n : Nat) (m : Int) (w : World) (e : Ending) (w' : World) : Prop := ∃ b mb, e = .returned (.tuple #[.pointer (some ⟨b, 0, none⟩), .int .i64 0]) ∧ Bf w' b mb (st0 n m) ∧ w.heap.size ≤ b ∧ w.heap.size ≤ mb ∧ At w w'
set_option maxHeartbeats 1000000 in
theorem new_ok (n : Nat) (m : Int) (h1 : 1 ≤ n) (h2 : n ≤ 1048576) (h3 : 0 ≤ m) (w : World) : Calls Try.prog 30 #[.int .i64 (n : Int), .int .i64 m] w (News n m w) := by
  have HO := Lib.hid (st0_ok h1 h2 h3)
  have hmm := @run_makeMap Try.prog
  have g1 : decide ((n : Int) < 1) = false := decide_eq_false (by omega)
  have g2 : decide ((1048576 : Int) < (n : Int)) = false := decide_eq_false (by omega)
  have g3 : decide (m < 0) = false := decide_eq_false (by omega)
  clear h1 h2 h3
  go_enter Try.func30, Try.ntmps30
  go_wp2
  go_ret2
  refine ⟨w.heap.size + 1, w.heap.size, rfl, ⟨.map [], HO.out, ?_, fun k => ?_, fun k => ?_, fun l hl => ?_, ?_⟩, by omega, Nat.le_refl _, ?_⟩
  · exact (World.ownsMap_made w Try.prog 3 raw).alloc _
  · rw [gz_no (by unfold gi; split <;> rfl)]; rfl
  · exact ⟨fun h => (nomatch h), fun h => absurd (by unfold gi; split <;> rfl) h⟩
  · cases hl
  · have := heap_alloc_new (w.alloc (.map #[] 0)) (.cells #[.int .i64 (n : Int), .int .i64 m, .map (some w.heap.size)] 100)
    rw [World.size_alloc] at this
    exact this
  · exact ((At.start w).alloc _).alloc _
/-- What may be no buffer. -/
def May (n m : Int) : Prop := 1 ≤ n ∧ n ≤ 1048576 ∧ 0 ≤ m
set_option maxHeartbeats 1000000 in
theorem new_bad (n m : Int) (h : ¬ May n m) (w : World) : Calls Try.prog 30 #[.int .i64 n, .int .i64 m] w fun e w' => e = .returned (.tuple #[.pointer none, .int .i64 1]) ∧ w = w' := by
  by_cases h1 : 1 ≤ n
  · have g1 : decide (n < 1) = false := decide_eq_false (by omega)
    by_cases h2 : n ≤ 1048576
    · have g2 : decide ((1048576 : Int) < n) = false := decide_eq_false (by omega)
      have h3 : m < 0 := by
        have : ¬ 0 ≤ m := fun h3 => h ⟨h1, h2, h3⟩
        omega
      clear h h1 h2
      go_enter Try.func30, Try.ntmps30
      go_wp2
      go_ret2
      exact ⟨rfl, rfl⟩
    · have h2' : (1048576 : Int) < n := by omega
      clear h h1 h2
      go_enter Try.func30, Try.ntmps30
      go_wp2
      go_ret2
      exact ⟨rfl, rfl⟩
  · have h1' : n < 1 := by omega
    clear h h1
    go_enter Try.func30, Try.ntmps30
    go_wp2
    go_ret2
    exact ⟨rfl, rfl⟩

end Go.Proofs.Ytgjlklladbcmcaa

namespace Go.Proofs.Ytgjlklladbcmcaa
open Go.RowKit

theorem size_data : (Try.prog.info? 97).map (·.size) = some 40 := by kernel_rfl
/-- Forty bytes in a block of their own. -/
def Blk40 (w : World) (g : Nat) (L : List Nat) : Prop := w.heap[g]? = some (.cells (L.map bt).toArray 97 (0, 0))
theorem Blk40.bv {w : World} {g : Nat} {L : List Nat} (h : Blk40 w g L) : BV w (some ⟨g, 0, none⟩) L :=
  Or.inr ⟨g, 0, rfl, lt_heap h, fun j hj => by
    rw [cell_at h, Nat.zero_add, List.getElem?_toArray, List.getElem?_map, List.getElem?_eq_getElem hj, List.getD_eq_getElem?_getD, List.getElem?_eq_getElem hj]; rfl⟩
theorem bt_all (L : List Nat) : (L.map bt).toArray.all (·.oneCell') = true := all_oneCell_toArray (bt_one L)
section
variable {ops : Array Oper} {rest : List Oper} {op : Oper} {a : Act} {w : World} {Q : Exit → Act → World → Prop}
/-- Forty bytes are stored whole into a block that was made last. -/
theorem store_data (hgd : op.guard = none) (x y : Operand) (ho : op.op = .store 97 x y) (L : List Nat) (hl : L.length = 40) (W : World) (zs : Array Value) (hw : w = W.alloc (.cells zs 97)) (hz : zs.size = 40)
    (hx : a.eval x = .pointer (some ⟨W.heap.size, 0, none⟩)) (hy : a.eval y = dv L) (h : wpList Try.prog ops Q rest (a.put op.dst undef) (W.alloc (.cells (L.map bt).toArray 97))) : wpList Try.prog ops Q (op :: rest) a w := by
  subst hw
  refine wpList_store_row hgd _ x y ho W.heap.size _ hx hy _ zs (heap_alloc_new _ _) (by rw [size_data, List.size_toArray, List.length_map, hl]) (by rw [hz, List.size_toArray, List.length_map, hl]) (bt_all L) ?_
  rw [World.setRow_alloc_new]
  exact h
end
theorem new_data (w : World) (L : List Nat) : Blk40 (w.alloc (.cells (L.map bt).toArray 97)) w.heap.size L := heap_alloc_new w _

/-- The call hands back a copy of forty bytes and true. -/
def Reads (L : List Nat) (w : World) (e : Ending) (w' : World) : Prop := ∃ g c, e = .returned (.tuple #[.slice (some ⟨g, 0, none⟩) 40 c, .bool true]) ∧ w.heap.size ≤ g ∧ BV w' (some ⟨g, 0, none⟩) L ∧ At w w'

set_option maxHeartbeats 1000000 in
set_option maxRecDepth 100000 in
theorem get_yes {w : World} {b mb : Nat} {S : St} (h : Bf w b mb S) (k : Int) (hk : (ky k).wf = true) (hg : gi S k ≠ []) :
    Calls Try.prog 56 #[.pointer (some ⟨b, 0, none⟩), .int .i64 k] w (Reads (gi S k) w) := by
  have HA := Lib.hid (all_bf h)
  have hlk := h.look hk
  have hL := gi_len h.ok hg
  rw [gz_yes hg, show (!(gi S k).isEmpty) = true by simp [hg]] at hlk
  obtain ⟨L, hLe⟩ : ∃ L, L = gi S k := ⟨_, rfl⟩
  rw [← hLe] at hlk hL ⊢
  have HL := Lib.hid hL
  clear h hk hg hLe hL
  go_enter Try.func56, Try.ntmps56
  go_wp2_with fail
  refine HA.out.mono ?_
  rintro e w' ⟨rfl, rfl⟩
  go_wp2_with (refine store_data rfl (.tmp 6) (.tmp 13) rfl L HL.out w _ rfl rfl rfl rfl ?_)
  have HB := Lib.hid (new_data w L).bv
  refine (clone_bytes HL.out HB.out).mono ?_
  rintro e w3 ⟨g, cap, rfl, hg, hb, hA⟩
  have HE : Hid (Reads L w (.returned (.tuple #[.slice (some ⟨g, 0, none⟩) 40 cap, .bool true])) w3) := Lib.hid ⟨g, cap, rfl, by simp at hg; omega, hb, ((At.start w).alloc _).next hA⟩
  clear hg hb hA hlk
  go_wp2
  go_ret2
  exact HE.out

set_option maxHeartbeats 1000000 in
set_option maxRecDepth 100000 in
/-- Nothing was written there. -/
theorem get_no {w : World} {b mb : Nat} {S : St} (h : Bf w b mb S) (k : Int) (hk : (ky k).wf = true) (hg : gi S k = []) :
    Calls Try.prog 56 #[.pointer (some ⟨b, 0, none⟩), .int .i64 k] w (Gives (.tuple #[.slice none 0 0, .bool false]) w) := by
  have HA := Lib.hid (all_bf h)
  have hlk := h.look hk
  rw [gz_no hg, show (!(gi S k).isEmpty) = false by simp [hg]] at hlk
  have HE : Hid (At w (w.alloc (.cells ((zr 40).map bt).toArray 97))) := Lib.hid ((At.start w).alloc _)
  clear h hk hg
  go_enter Try.func56, Try.ntmps56
  go_wp2_with fail
  refine HA.out.mono ?_
  rintro e w' ⟨rfl, rfl⟩
  go_wp2_with (refine store_data rfl (.tmp 6) (.tmp 13) rfl (zr 40) (zr_len 40) w _ rfl rfl rfl rfl ?_)
  go_ret2
  exact ⟨rfl, HE.out⟩

set_option maxHeartbeats 1000000 in
set_option maxRecDepth 100000 in
theorem get_nil (k : Int) (hk : (ky k).wf = true) (w : World) : Calls Try.prog 56 #[.pointer none, .int .i64 k] w (Gives (.tuple #[.slice none 0 0, .bool false]) w) := by
  have HA := Lib.hid (all_nil w)
  have hlk := Maps.look_nil (P := Try.prog) (w := w) true int_key Try.underlying98 (zero_data w) (key_of hk)
  rw [if_pos rfl] at hlk
  have HE : Hid (At w (w.alloc (.cells ((zr 40).map bt).toArray 97))) := Lib.hid ((At.start w).alloc _)
  clear hk
  go_enter Try.func56, Try.ntmps56
  go_wp2_with fail
  refine HA.out.mono ?_
  rintro e w' ⟨rfl, rfl⟩
  go_wp2_with (refine store_data rfl (.tmp 6) (.tmp 13) rfl (zr 40) (zr_len 40) w _ rfl rfl rfl rfl ?_)
  go_ret2
  exact ⟨rfl, HE.out⟩

end Go.Proofs.Ytgjlklladbcmcaa

namespace Go.Proofs.Ytgjlklladbcmcaa
open Go.RowKit

/-- The slice at A reads as the list P of blocks to be written. -/
def PV (w : World) (A : Option Addr) (P : List Pt) : Prop :=
  P = [] ∨ ∃ g o, A = some ⟨g, o, none⟩ ∧ g < w.heap.size ∧ ∀ j, j < P.length → w.cell? ⟨g, o + j * 2, none⟩ = some (.int .i64 (P.getD j pz).1) ∧ ∃ B c, w.cell? ⟨g, o + j * 2 + 1, none⟩ = some (.slice B (P.getD j pz).2.length c) ∧ BV w B (P.getD j pz).2
theorem PV.pos {w : World} {A : Option Addr} {P : List Pt} (h : PV w A P) (h0 : 0 < P.length) : ∃ g o, A = some ⟨g, o, none⟩ ∧ g < w.heap.size ∧ ∀ j, j < P.length → w.cell? ⟨g, o + j * 2, none⟩ = some (.int .i64 (P.getD j pz).1) ∧ ∃ B c, w.cell? ⟨g, o + j * 2 + 1, none⟩ = some (.slice B (P.getD j pz).2.length c) ∧ BV w B (P.getD j pz).2 := by
  rcases h with rfl | h
  · simp at h0
  · exact h
theorem PV.on {w w' : World} {A : Option Addr} {P : List Pt} (h : PV w A P) (hb : At w w') : PV w' A P := by
  rcases h with h | ⟨g, o, rfl, hlt, hc⟩
  · exact Or.inl h
  · refine Or.inr ⟨g, o, rfl, Nat.lt_of_lt_of_le hlt hb.size, fun j hj => ?_⟩
    obtain ⟨h1, B, c, h2, h3⟩ := hc j hj
    exact ⟨(Below.cell hb (p := ⟨g, o + j * 2, none⟩) hlt).trans h1, B, c, (Below.cell hb (p := ⟨g, o + j * 2 + 1, none⟩) hlt).trans h2, h3.below hb⟩
theorem PV.nil (w : World) (A : Option Addr) : PV w A [] := Or.inl rfl
theorem PV.take {w : World} {A : Option Addr} {P : List Pt} (h : PV w A P) (k : Nat) : PV w A (P.take k) := by
  rcases h with rfl | ⟨g, o, rfl, hlt, hc⟩
  · exact Or.inl (by simp)
  · refine Or.inr ⟨g, o, rfl, hlt, fun j hj => ?_⟩
    rw [List.length_take] at hj
    have e : (P.take k).getD j pz = P.getD j pz := by simp only [List.getD_eq_getElem?_getD, List.getElem?_take, if_pos (show j < k by omega)]
    rw [e]; exact hc j (by omega)
theorem PV.drop {w : World} {g o : Nat} {P : List Pt} (h : PV w (some ⟨g, o, none⟩) P) (k : Nat) : PV w (some ⟨g, o + k * 2, none⟩) (P.drop k) := by
  rcases h with rfl | ⟨g', o', he, hlt, hc⟩
  · exact Or.inl (by simp)
  · injection he with he
    injection he with h1 h2
    subst h1 h2
    refine Or.inr ⟨_, _, rfl, hlt, fun j hj => ?_⟩
    rw [List.length_drop] at hj
    have e : (P.drop k).getD j pz = P.getD (k + j) pz := by simp only [List.getD_eq_getElem?_getD, List.getElem?_drop]
    have := hc (k + j) (by omega)
    rw [e, show o + k * 2 + j * 2 = o + (k + j) * 2 by omega]; exact this

theorem same_first {P : Program} {f : FuncId} {args : Array Value} {w : World} {n : Nat} {v : Value} (h : Calls P f args (w.drewN n) fun e w' => e = .returned v ∧ w.drewN n = w') :
    Calls P f args (w.drewN n) fun e w'' => e = .returned v ∧ ∃ m, w'' = w.drewN m :=
  h.mono fun _ _ hr => ⟨hr.1, n, hr.2.symm⟩

end Go.Proofs.Ytgjlklladbcmcaa
