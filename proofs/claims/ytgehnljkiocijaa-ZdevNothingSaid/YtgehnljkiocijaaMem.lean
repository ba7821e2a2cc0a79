/- Proved: words for memory: a slice that reads as a list of bytes, kept over draws, new blocks and calls that write only what is new; a row of bytes of a call's own. -/
import Derived.Test.YtgehnljkiocijaaRows
import Derived.Test.YtgehnljkiocijaaPure
import Derived.WalkKit
import Derived.WalkSpells
import Derived.WalkLawsBesides
import Derived.Lib.Hide
import Derived.Deep.QuietTactic
import Derived.BigQuiet
import Derived.LoopN
import Derived.Handy
import Derived.Deep.Draws
import Derived.Deep.AppendLies
namespace Go.Proofs.Ytgehnljkiocijaa
open Go.RowKit

/-- A byte's cell. -/
def bt (c : Nat) : Value := .int .u8 (c : Int)
/-- The slice at A reads as the list L of bytes. -/
def BV (w : World) (A : Option Addr) (L : List Nat) : Prop :=
  L = [] ∨ ∃ b o, A = some ⟨b, o, none⟩ ∧ b < w.heap.size ∧ ∀ j, j < L.length → w.cell? ⟨b, o + j, none⟩ = some (bt (L.getD j 0))
def AllB (L : List Nat) : Prop := ∀ c ∈ L, c < 256

theorem allB_at {L : List Nat} (h : AllB L) (j : Nat) : L.getD j 0 < 256 := by
  rw [List.getD_eq_getElem?_getD]
  by_cases hj : j < L.length
  · rw [List.getElem?_eq_getElem hj]; exact h _ (List.getElem_mem hj)
  · rw [List.getElem?_eq_none (by omega)]; show 0 < 256; omega
theorem allB_take {L : List Nat} (h : AllB L) (k : Nat) : AllB (L.take k) := fun c hc => h c (List.mem_of_mem_take hc)
theorem allB_drop {L : List Nat} (h : AllB L) (k : Nat) : AllB (L.drop k) := fun c hc => h c (List.mem_of_mem_drop hc)
theorem allB_app {L R : List Nat} (h : AllB L) (k : AllB R) : AllB (L ++ R) := fun c hc => (List.mem_append.1 hc).elim (h c) (k c)

theorem BV.nil (w : World) (A : Option Addr) : BV w A [] := Or.inl rfl
theorem BV.pos {w : World} {A : Option Addr} {L : List Nat} (h : BV w A L) (h0 : 0 < L.length) :
    ∃ b o, A = some ⟨b, o, none⟩ ∧ b < w.heap.size ∧ ∀ j, j < L.length → w.cell? ⟨b, o + j, none⟩ = some (.int .u8 ((L.getD j 0 : Nat) : Int)) := by
  rcases h with rfl | h
  · simp at h0
  · exact h
theorem BV.below {w w' : World} {A : Option Addr} {L : List Nat} (h : BV w A L) (hb : Below w.heap.size w w') : BV w' A L := by
  rcases h with h | ⟨b, o, rfl, hlt, hc⟩
  · exact Or.inl h
  · exact Or.inr ⟨b, o, rfl, Nat.lt_of_lt_of_le hlt hb.size, fun j hj => (hb.cell (p := ⟨b, o + j, none⟩) hlt).trans (hc j hj)⟩
theorem BV.drewN {w : World} {A : Option Addr} {L : List Nat} (h : BV w A L) (n : Nat) : BV (w.drewN n) A L := h
theorem BV.take {w : World} {A : Option Addr} {L : List Nat} (h : BV w A L) (k : Nat) : BV w A (L.take k) := by
  rcases h with rfl | ⟨b, o, rfl, hlt, hc⟩
  · exact Or.inl (by simp)
  · refine Or.inr ⟨b, o, rfl, hlt, fun j hj => ?_⟩
    rw [List.length_take] at hj
    rw [hc j (by omega)]
    simp only [List.getD_eq_getElem?_getD, List.getElem?_take, if_pos (show j < k by omega)]
theorem BV.drop {w : World} {b o : Nat} {L : List Nat} (h : BV w (some ⟨b, o, none⟩) L) (k : Nat) : BV w (some ⟨b, o + k, none⟩) (L.drop k) := by
  rcases h with rfl | ⟨b', o', he, hlt, hc⟩
  · exact Or.inl (by simp)
  · injection he with he
    injection he with h1 h2
    subst h1 h2
    refine Or.inr ⟨_, _, rfl, hlt, fun j hj => ?_⟩
    rw [List.length_drop] at hj
    rw [Nat.add_assoc, hc (k + j) (by omega)]
    simp only [List.getD_eq_getElem?_getD, List.getElem?_drop]
theorem BV.cells {w : World} {A : Option Addr} {L : List Nat} (h : BV w A L) (h0 : 0 < L.length) :
    ∃ ad, A = some ad ∧ ad.block < w.heap.size ∧ ∀ j u, (L.map bt)[j]? = some u → w.cell? (ad.add j) = some u := by
  obtain ⟨b, o, rfl, hlt, hc⟩ := h.pos h0
  refine ⟨_, rfl, hlt, fun j u hu => ?_⟩
  rw [List.getElem?_map] at hu
  by_cases hj : j < L.length
  · rw [List.getElem?_eq_getElem hj] at hu
    have := hc j hj
    rw [List.getD_eq_getElem?_getD, List.getElem?_eq_getElem hj] at this
    rw [Go.WideShapes.add_plain]
    simp only [Option.map_some, Option.some.injEq] at hu
    rw [← hu]; exact this
  · rw [List.getElem?_eq_none (by omega)] at hu; cases hu
theorem bt_one (L : List Nat) : ∀ u ∈ L.map bt, u.oneCell' = true := by
  intro u hu; obtain ⟨x, _, rfl⟩ := List.mem_map.1 hu; rfl

/-- A row of bytes of a call's own reads as its list. -/
theorem own_bv {w : World} {B n : Nat} {A : Option Addr} {c : Nat} {L : List Nat} (h : w.ownsRow B 5 1 (.slice A n c) n (L.map bt)) : L.length = n ∧ BV w A L := by
  have hl : L.length = n := by have := h.1; simpa using this
  refine ⟨hl, ?_⟩
  by_cases h0 : L = []
  · exact Or.inl h0
  · have hp : 0 < n := by rw [← hl]; exact List.length_pos_iff.2 h0
    obtain ⟨g, cap, hv, _, hlt⟩ := h.form hp
    injection hv with e1 e2 e3
    subst e1
    refine Or.inr ⟨g, 0, rfl, hlt, fun j hj => ?_⟩
    have := h.cells (g := g) rfl j (bt (L.getD j 0)) (by rw [List.getElem?_map, List.getElem?_eq_getElem hj, List.getD_eq_getElem?_getD, List.getElem?_eq_getElem hj]; rfl)
    rw [Go.WideShapes.add_plain] at this
    exact this

/-- A call hands back the row L of bytes, in memory of its own. -/
def Lays (L : List Nat) (w : World) (e : Ending) (w' : World) : Prop :=
  ∃ g c, e = .returned (.slice (some ⟨g, 0, none⟩) L.length c) ∧ L.length ≤ c ∧ BV w' (some ⟨g, 0, none⟩) L ∧ Below w.heap.size w w'
theorem own_cap {w : World} {B n c : Nat} {A : Option Addr} {xs : List Value} (h : w.ownsRow B 5 1 (.slice A n c) n xs) : n ≤ c := by
  rcases h.2 with ⟨he, hn⟩ | ⟨g, cap, cur, he, _, _, hc, _⟩
  · omega
  · injection he with _ _ e3
    omega
theorem lays_own {L : List Nat} {w w' : World} {v : Value} (h : w'.ownsRow w.heap.size 5 1 v L.length (L.map bt)) (h0 : 0 < L.length) (hb : Below w.heap.size w w') : Lays L w (.returned v) w' := by
  obtain ⟨g, cap, rfl, _, _⟩ := h.form h0
  exact ⟨g, cap, rfl, own_cap h, (own_bv h).2, hb⟩

theorem own_view {w : World} {B n : Nat} {v : Value} {L : List Nat} (h : w.ownsRow B 5 1 v n (L.map bt)) : ∃ A c, v = .slice A n c ∧ L.length = n ∧ BV w A L := by
  have h0 := h
  rcases h.2 with ⟨he, hn⟩ | ⟨g, cap, cur, he, _, _, _, _⟩
  · subst he hn
    exact ⟨none, 0, rfl, (own_bv h0).1, (own_bv h0).2⟩
  · subst he
    exact ⟨_, cap, rfl, (own_bv h0).1, (own_bv h0).2⟩
theorem own_drew {B T n : Nat} {w : World} {v : Value} {xs : List Value} (h : w.ownsRow B T 1 v n xs) : w.drew.ownsRow B T 1 v n xs := h
theorem own_at {w w' : World} {B n : Nat} {e : TypeId} {v : Value} {xs : List Value} (h : w.ownsRow B e 1 v n xs) (hb : Below w.heap.size w w') : w'.ownsRow B e 1 v n xs := by
  refine ⟨h.1, ?_⟩
  rcases h.2 with h | ⟨g, cap, cur, hv, hB, hh, hr⟩
  · exact Or.inl h
  · refine Or.inr ⟨g, cap, cur, hv, hB, ?_, hr⟩
    have hg : g < w.heap.size := by
      rcases Nat.lt_or_ge g w.heap.size with h | h
      · exact h
      · rw [Array.getElem?_eq_none h] at hh; cases hh
    rw [hb.block g hg]; exact hh
theorem one_cell (w : World) (c : Nat) (e : TypeId) : ∀ j u, [bt c][j]? = some u → (w.alloc (.cells #[.int .u8 (c : Int)] e)).cell? ((⟨w.heap.size, 0, none⟩ : Addr).add j) = some u := by
  intro j u hj
  match j, hj with
  | 0, hj => simp at hj; subst hj; simp [Addr.add, bt]

theorem info_u8 : (Try.prog.info? 5).map (fun i => (i.zero, i.size, i.bytes)) = some (some (.int .u8 0), 1, 1) := by kernel_rfl

/-- What stood at w0 stands. -/
def At (w0 w : World) : Prop := Below w0.heap.size w0 w
theorem At.start (w : World) : At w w := Below.refl _ _
theorem At.next {w0 w w' : World} (h : At w0 w) (h' : Below w.heap.size w w') : At w0 w' := h.trans (h'.mono h.size)
theorem At.drewN {w0 w : World} (h : At w0 w) (n : Nat) : At w0 (w.drewN n) := ⟨h.os, h.tape, h.output, h.size, h.block⟩
theorem At.alloc {w0 w : World} (h : At w0 w) (o : Obj) : At w0 (w.alloc o) := Below.alloc h h.size o
theorem At.bv {w0 w : World} (h : At w0 w) {A : Option Addr} {L : List Nat} (hv : BV w0 A L) : BV w A L := hv.below h

set_option maxHeartbeats 1000000 in
/-- Two rows of one length are held against each other. -/
theorem bytes_any (A1 A2 : Option Addr) (n c1 c2 : Nat) (L M : List Nat) (w : World) (hn : n ≤ 1000000) (hl : L.length = n) (hm : M.length = n) (hL : AllB L) (hM : AllB M) (hx : BV w A1 L) (hy : BV w A2 M) :
    Calls Try.prog 23 #[.slice A1 n c1, .slice A2 n c2] w fun e w' => e = .returned (.bool (decide (L = M))) ∧ ∃ k, w' = w.drewN k := by
  have HL := Lib.hid hl
  have HM := Lib.hid hm
  have HAL := Lib.hid hL
  have HAM := Lib.hid hM
  have HX := Lib.hid hx
  have HY := Lib.hid hy
  clear hl hm hL hM hx hy
  go_enter Try.func23, Try.ntmps23
  go_wp2
  go_loopw [5] (fun i wr => ∃ k : Nat, k ≤ n ∧ i = .int .i64 k ∧ Hid (L.take k = M.take k) ∧ ∃ m, wr = w.drewN m) (fun i _ => n - (intOf i).toNat)
  case atStart => exact ⟨0, Nat.zero_le _, rfl, rfl, 0, rfl⟩
  case round =>
    obtain ⟨k, hk, rfl, HT, m, rfl⟩ := hrel
    by_cases hlt : k < n
    · have t1 := take_more L k (by rw [HL.out]; exact hlt)
      have t2 := take_more M k (by rw [HM.out]; exact hlt)
      have T1 := Lib.hid t1
      have T2 := Lib.hid t2
      have d1 := allB_at HAL.out k
      have d2 := allB_at HAM.out k
      obtain ⟨b1, o1, rfl, _, q1⟩ := HX.out.pos (by rw [HL.out]; omega)
      obtain ⟨b2, o2, rfl, _, q2⟩ := HY.out.pos (by rw [HM.out]; omega)
      have e1 := q1 k (by rw [HL.out]; exact hlt)
      have e2 := q2 k (by rw [HM.out]; exact hlt)
      clear t1 t2 q1 q2
      obtain ⟨x, hxe⟩ : ∃ x, x = L.getD k 0 := ⟨_, rfl⟩
      obtain ⟨y, hye⟩ : ∃ y, y = M.getD k 0 := ⟨_, rfl⟩
      rw [← hxe] at e1 d1 T1
      rw [← hye] at e2 d2 T2
      have HXE := Lib.hid hxe
      have HYE := Lib.hid hye
      clear hxe hye
      have g1 : (0 : Int) ≤ (k : Int) := by omega
      have g2 : (k : Int) < (n : Int) := by omega
      by_cases hxy : x = y
      · have nb : ((x : Int) != (y : Int)) = false := by rw [hxy]; simp
        have HXY := Lib.hid hxy
        clear hxy
        go_wp2
        go_quiet (fail)
        go_wp2
        go_roundw
        case rel => exact ⟨k + 1, by omega, by go_num, Lib.hid (by rw [T1.out, T2.out, HT.out, HXY.out]), _, rfl⟩
        case measure => simp [intOf]; omega
      · have nb : ((x : Int) != (y : Int)) = true := by simp; omega
        have hne : decide (L = M) = false := decide_eq_false (fun e => hxy (by rw [HXE.out, HYE.out, e]))
        have HNE := Lib.hid hne
        have HXY := Lib.hid hxy
        clear hxy hne
        go_wp2
        go_quiet (fail)
        go_wp2
        go_ret
        exact ⟨by rw [HNE.out]; rfl, _, World.drewN_drewN _ _ _⟩
    · have he : decide (L = M) = true := decide_eq_true (by
        have := HT.out
        rw [List.take_of_length_le (by rw [HL.out]; omega), List.take_of_length_le (by rw [HM.out]; omega)] at this
        exact this)
      have HE := Lib.hid he
      have hkn : k = n := by omega
      subst hkn
      clear he
      go_wp2
      go_ret
      exact ⟨by rw [HE.out]; rfl, _, rfl⟩

end Go.Proofs.Ytgehnljkiocijaa
