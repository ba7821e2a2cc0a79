/- Proved: plain words for batches that come back: rows that came in, as they lie; rows of bytes in memory of their own, each apart from the others; one bit turned in one of them; a batch's blocks with a bit turned are none, its first blocks are data. -/
import Derived.Test.YtgmekkenodiclaaRrw
import Derived.Test.YtgmekkenodiclaaRs
import Derived.Test.YtgmekkenodiclaaTot
namespace Go.Proofs.Ytgmekkenodiclaa
open Go.RowKit

/-- Rows that came in, as they lie. -/
theorem rv_rl {w : World} {A : Option Addr} {P : List (List Nat)} (h : RV w A P) : ∃ l : List Rl, l.map (·.1) = P ∧ (∀ x ∈ l, BV w x.2.1 x.1 ∧ x.1.length ≤ x.2.2) ∧ ∀ W, At w W → ∀ a, A = some a → ∀ j u, (l.flatMap rcs)[j]? = some u → W.cell? (a.add j) = some u := by
  rcases h with rfl | ⟨g, o, rfl, hg, hc⟩
  · exact ⟨[], rfl, (fun x hx => by cases hx), fun W _ a _ j u hj => by simp at hj⟩
  · have each : ∀ j, ∃ (B : Option Addr) (c : Nat), j < P.length → w.cell? ⟨g, o + j, none⟩ = some (.slice B (P.getD j []).length c) ∧ (P.getD j []).length ≤ c ∧ BV w B (P.getD j []) := fun j => by
      by_cases hj : j < P.length
      · obtain ⟨B, c, h1⟩ := hc j hj; exact ⟨B, c, fun _ => h1⟩
      · exact ⟨none, 0, fun h => absurd h hj⟩
    obtain ⟨F, hF⟩ : ∃ F : Nat → Option Addr × Nat, ∀ j, j < P.length → w.cell? ⟨g, o + j, none⟩ = some (.slice (F j).1 (P.getD j []).length (F j).2) ∧ (P.getD j []).length ≤ (F j).2 ∧ BV w (F j).1 (P.getD j []) :=
      ⟨fun j => ((each j).choose, (each j).choose_spec.choose), fun j hj => (each j).choose_spec.choose_spec hj⟩
    have hget : ∀ j, j < P.length → ((List.range P.length).map fun j => ((P.getD j [], F j) : Rl))[j]? = some (P.getD j [], F j) := fun j hj => by rw [List.getElem?_map, List.getElem?_range hj]; rfl
    refine ⟨(List.range P.length).map fun j => (P.getD j [], F j), ?_, fun x hx => ?_, fun W hW a ha j u hj => ?_⟩
    · apply List.ext_getElem (by simp)
      intro j h1 h2
      simp only [List.getElem_map, List.getElem_range]
      rw [List.getD_eq_getElem?_getD, List.getElem?_eq_getElem h2]; rfl
    · obtain ⟨j, hj, rfl⟩ := List.mem_map.1 hx
      have := hF j (List.mem_range.1 hj)
      exact ⟨this.2.2, this.2.1⟩
    · injection ha with ha
      subst ha
      have hl : (((List.range P.length).map fun j => ((P.getD j [], F j) : Rl)).flatMap rcs).length = P.length * 1 := by
        rw [flat_len (s := 1) (fun _ => rfl)]; simp
      have hjl : j < P.length := by have := (List.getElem?_eq_some_iff.1 hj).1; rw [hl] at this; omega
      have h1 := flat_at (cs := rcs) (s := 1) (fun _ => rfl) _ j 0 _ (hget j hjl) (by omega)
      rw [Nat.mul_one, Nat.add_zero] at h1
      rw [h1] at hj
      have hj : some (Value.slice (F j).1 (P.getD j []).length (F j).2) = some u := hj
      rw [← hj, Go.WideShapes.add_plain]
      exact (Below.cell hW (p := ⟨g, o + j, none⟩) hg).trans (hF j hjl).1

/-- A row of bytes in memory of its own. -/
def ogd (F : Nat → Prop) (w : World) (x : Rl) : Prop := ∃ g cur, x.2.1 = some ⟨g, 0, none⟩ ∧ ¬ F g ∧ w.heap[g]? = some (.cells cur 5 (0, 0)) ∧ x.1.length ≤ x.2.2 ∧ ∀ j, j < x.1.length → w.cell? ⟨g, j, none⟩ = some (bt (x.1.getD j 0))
theorem kO : Kn 22 39 1 24 rcs ogd := ⟨Try.underlying22, info_of info_row rfl, by omega, by omega, fun _ => rfl, fun _ u hu => by rw [List.mem_singleton.1 hu]; rfl, fun F w w' x h hm => by
    obtain ⟨g, cur, h1, h2, h3, h4, h5⟩ := h
    exact ⟨g, cur, h1, h2, hm.keep h3 h2, h4, fun j hj => (World.cell?_of_block (a := ⟨g, j, none⟩) (hm.block g (lt_heap h3) h2)).trans (h5 j hj)⟩, fun F G w x h hG => by
    obtain ⟨g, cur, h1, h2, h3, h4⟩ := h
    exact ⟨g, cur, h1, fun hg => h2 (hG g (lt_heap h3) hg), h3, h4⟩⟩
abbrev OO := @Ow Rl 39 1 rcs ogd
/-- The first i blocks, each in memory of its own. -/
structure Tn (w wr : World) (v : Value) (E : List (List Nat)) (i : Nat) (l : List Rl) : Prop where
  o : OO w wr v l
  len : l.length = i
  rows : l.map (·.1) = E.take i
  apart : ∀ (a b : Nat) (x y : Rl), l[a]? = some x → l[b]? = some y → x.2.1 = y.2.1 → a = b
  news : ∀ x ∈ l, ∀ ad : Addr, x.2.1 = some ad → w.heap.size ≤ ad.block
theorem Tn.nil {w wr : World} (h : At w wr) (E : List (List Nat)) : Tn w wr (.slice none 0 0) E 0 [] := ⟨Ow.nil' h, rfl, rfl, (fun a b x y hx => by simp at hx), fun x hx => by cases hx⟩
/-- A new one lies beside the row. -/
theorem own_ogd {w0 wr w1 wy : World} {v : Value} {l : List Rl} {B n c : Nat} {A : Option Addr} {P : List Nat} (h : OO w0 wr v l) (hP : P.length = n) (h0 : 0 < n) (ho : w1.ownsRow B 5 1 (.slice A n c) n (P.map bt)) (hB : wr.heap.size ≤ B) (hA : At w1 wy) : ogd (ob v) wy (P, A, c) ∧ ∃ g, A = some ⟨g, 0, none⟩ ∧ wr.heap.size ≤ g := by
  rcases ho.2 with ⟨_, hn⟩ | ⟨g, cap, cur, he, hg, hh, hc, _⟩
  · omega
  · injection he with e1 e2 e3
    subst e1 e3
    refine ⟨⟨g, cur, rfl, fun hob => ?_, hA.keep hh, by show P.length ≤ c; omega, fun j hj => ?_⟩, g, rfl, by omega⟩
    · have := (h.row.lt g hob).2; omega
    · have := own_cell ho j (by rw [← hP]; exact hj)
      exact (Below.cell hA (p := ⟨g, j, none⟩) (lt_heap hh)).trans this
theorem Tn.more {w wr wy w' : World} {v v' : Value} {E : List (List Nat)} {i g : Nat} {l : List Rl} {x : Rl} (h : Tn w wr v E i l) (hi : E[i]? = some x.1) (hg : x.2.1 = some ⟨g, 0, none⟩) (hlt : wr.heap.size ≤ g) (hG : Gr 39 1 rcs ogd w wy v w' v' (l ++ [x])) : Tn w w' v' E (i + 1) (l ++ [x]) := by
  have hold : ∀ (a : Nat) (y : Rl), l[a]? = some y → y.2.1 ≠ x.2.1 := fun a y hy e => by
    obtain ⟨g', cur, h1, _, h3, _⟩ := h.o.gd y (List.mem_of_getElem? hy)
    have := lt_heap h3
    rw [h1, hg] at e
    injection e with e
    injection e with e
    omega
  refine ⟨hG.ow, by rw [List.length_append, h.len]; rfl, by rw [List.map_append, h.rows, take_at hi]; rfl, fun a b y z hy hz e => ?_, fun y hy ad ha => (List.mem_append.1 hy).elim (fun h1 => h.news y h1 ad ha) fun h1 => ?_⟩
  rotate_left
  · rw [List.mem_singleton.1 h1, hg] at ha
    injection ha with ha
    rw [← ha]
    exact Nat.le_trans h.o.at_.size hlt
  have ha : a < l.length + 1 := by have := (List.getElem?_eq_some_iff.1 hy).1; simpa using this
  have hb : b < l.length + 1 := by have := (List.getElem?_eq_some_iff.1 hz).1; simpa using this
  by_cases e1 : a < l.length
  · rw [List.getElem?_append_left e1] at hy
    by_cases e2 : b < l.length
    · rw [List.getElem?_append_left e2] at hz
      exact h.apart a b y z hy hz e
    · obtain rfl : b = l.length := by omega
      rw [List.getElem?_append_right (Nat.le_refl _), Nat.sub_self] at hz
      have hz : some x = some z := hz
      injection hz with hz
      subst hz
      exact absurd e (hold a y hy)
  · obtain rfl : a = l.length := by omega
    rw [List.getElem?_append_right (Nat.le_refl _), Nat.sub_self] at hy
    have hy : some x = some y := hy
    injection hy with hy
    subst hy
    by_cases e2 : b < l.length
    · rw [List.getElem?_append_left e2] at hz
      exact absurd e.symm (hold b z hz)
    · omega
/-- The j-th of them, and its cells. -/
theorem Tn.at_ {w wr : World} {E : List (List Nat)} {i d g2 n : Nat} {l : List Rl} (h : Tn w wr (.slice (some ⟨g2, 0, none⟩) n d) E i l) {j : Nat} (hj : j < i) : ∃ (g c : Nat) (cur : Array Value), wr.cell? ⟨g2, j, none⟩ = some (.slice (some ⟨g, 0, none⟩) (E.getD j rz).length c) ∧ wr.heap[g]? = some (.cells cur 5 (0, 0)) ∧ (E.getD j rz).length ≤ c ∧ (∀ q, q < (E.getD j rz).length → wr.cell? ⟨g, q, none⟩ = some (bt ((E.getD j rz).getD q 0))) ∧ l[j]? = some (E.getD j rz, some ⟨g, 0, none⟩, c) := by
  have hjl : j < l.length := by rw [h.len]; exact hj
  obtain ⟨g, cur, h1, _, h3, h4, h5⟩ := h.o.gd _ (List.getElem_mem hjl)
  have e : (l[j]).1 = E.getD j rz := by
    have this : (l.map (·.1)).getD j rz = (E.take i).getD j rz := by rw [h.rows]
    rw [row_take hj, List.getD_eq_getElem?_getD, List.getElem?_map, List.getElem?_eq_getElem hjl] at this
    exact this
  have k1 := h.o.cell kO (List.getElem?_eq_getElem hjl) (i := 0) (u := .slice (l[j]).2.1 (l[j]).1.length (l[j]).2.2) rfl
  rw [Nat.mul_one, Nat.add_zero, h1, e] at k1
  rw [e] at h4 h5
  refine ⟨g, (l[j]).2.2, cur, k1, h3, h4, h5, ?_⟩
  rw [List.getElem?_eq_getElem hjl, ← e, ← h1]
/-- One byte set in one of them: what is read then. -/
theorem Tn.set {w wr : World} {E : List (List Nat)} {t d g2 n : Nat} {l : List Rl} (h : Tn w wr (.slice (some ⟨g2, 0, none⟩) n d) E t l) (ht : t = E.length) {b g c : Nat} (hb : b < t) (hl : l[b]? = some (E.getD b rz, some ⟨g, 0, none⟩, c)) {m y : Nat} (hm : m < (E.getD b rz).length) :
    RV (wr.setCell ⟨g, m, none⟩ (bt y)) (some ⟨g2, 0, none⟩) (E.set b ((E.getD b rz).set m y)) ∧ At w (wr.setCell ⟨g, m, none⟩ (bt y)) := by
  obtain ⟨g', cur, h1, _, h3, h4, h5⟩ := h.o.gd _ (List.mem_of_getElem? hl)
  have h1 : some (⟨g, 0, none⟩ : Addr) = some ⟨g', 0, none⟩ := h1
  injection h1 with h1
  injection h1 with h1
  subst h1
  have hne : g ≠ g2 := fun e => own_far h.o.row h3 (by decide) (by rw [e]; rfl)
  have hg2 := (h.o.row.lt g2 rfl).2
  have hsz : (wr.setCell ⟨g, m, none⟩ (bt y)).heap.size = wr.heap.size := by simp [World.setCell]
  have hwg : w.heap.size ≤ g := h.news _ (List.mem_of_getElem? hl) _ rfl
  refine ⟨Or.inr ⟨g2, 0, rfl, by rw [hsz]; exact hg2, fun j hj => ?_⟩, Below.setCell (p := ⟨g, m, none⟩) h.o.at_ hwg _⟩
  rw [List.length_set] at hj
  obtain ⟨gj, cj, curj, k1, k2, k3, k4, k5⟩ := h.at_ (j := j) (by omega)
  have f1 : (wr.setCell ⟨g, m, none⟩ (bt y)).cell? ⟨g2, 0 + j, none⟩ = wr.cell? ⟨g2, j, none⟩ := by
    rw [Nat.zero_add]; exact World.cell?_setCell_far _ _ _ _ hne
  by_cases e : j = b
  · subst e
    have e2 : (E.set j ((E.getD j rz).set m y)).getD j [] = (E.getD j rz).set m y := by
      rw [List.getD_eq_getElem?_getD, List.getElem?_set_self hj]; rfl
    rw [hl] at k5
    injection k5 with k5
    injection k5 with _ k5
    injection k5 with k5 k6
    injection k5 with k5
    injection k5 with k5
    subst k5 k6
    rw [e2, List.length_set]
    refine ⟨_, _, f1.trans k1, k3, Or.inr ⟨g, 0, rfl, by rw [hsz]; exact lt_heap h3, fun q hq => ?_⟩⟩
    rw [List.length_set] at hq
    rw [Nat.zero_add, set_at _ _ _ _ hm]
    by_cases e3 : q = m
    · subst e3
      rw [if_pos rfl]
      exact World.cell?_setCell_same _ _ _ (k4 q hq)
    · rw [if_neg e3, World.cell?_setCell_other _ _ _ _ (fun h => e3 (by injection h with _ h; exact h.symm))]
      exact k4 q hq
  · have e2 : (E.set b ((E.getD b rz).set m y)).getD j [] = E.getD j rz := by
      rw [List.getD_eq_getElem?_getD, List.getElem?_set_ne (fun h => e h.symm), ← List.getD_eq_getElem?_getD]; rfl
    have hgj : g ≠ gj := fun e3 => e (h.apart j b _ _ k5 hl (by rw [e3]))
    rw [e2]
    exact ⟨_, _, f1.trans k1, k3, Or.inr ⟨gj, 0, rfl, by rw [hsz]; exact lt_heap k2, fun q hq => by
      rw [Nat.zero_add, World.cell?_setCell_far _ _ _ _ hgj]; exact k4 q hq⟩⟩

/-- The first k blocks of a batch are data. -/
theorem first_dk {e s k : Nat} {L : List Tx} (hb : Bk s L) (hp : Pb (fla L)) (he : e < 4294967296) (hk : k < tot L + 1) : Dk ((eb e s L).take k) ((eb e s L).take k).length := by
  have hw : Rok (eb e s L) e s L := ⟨hb, hp, he, by rw [eb_len]; omega, by rw [← eb_len e s L, List.take_length]⟩
  intro j hj
  rw [List.length_take, eb_len, Nat.min_eq_left (by omega)] at hj
  rw [row_take hj, row_take (show 0 < k by omega)]
  have h2 := hw.rows.1 j (by omega)
  have h3 := hw.head
  rw [h3.1, h3.2]; exact h2
theorem front_rok {e s : Nat} {L : List Tx} (hb : Bk s L) (hp : Pb (fla L)) (he : e < 4294967296) (R : List (List Nat)) : Rok (eb e s L ++ R) e s L :=
  ⟨hb, hp, he, by rw [List.length_append, eb_len]; omega, List.take_left' (eb_len _ _ _)⟩
/-- With one block that is none it is no batch, and no data alone. -/
theorem turned_bad {e s b : Nat} {L : List Tx} (hb : Bk s L) (hp : Pb (fla L)) (he : e < 4294967296) (hlt : b < tot L + 1) {Q : List Nat} (hQ : ¬ Good Q) : (∀ e' s' L', ¬ Rok ((eb e s L).set b Q) e' s' L') ∧ ¬ Dk ((eb e s L).set b Q) ((eb e s L).set b Q).length := by
  have hw : Rok (eb e s L) e s L := ⟨hb, hp, he, by rw [eb_len]; omega, by rw [← eb_len e s L, List.take_length]⟩
  have hl : ((eb e s L).set b Q).length = tot L + 1 := by rw [List.length_set, eb_len]
  have hat : ((eb e s L).set b Q).getD b rz = Q := by
    rw [List.getD_eq_getElem?_getD, List.getElem?_set_self (by rw [eb_len]; exact hlt)]; rfl
  have hoth : ∀ j, j ≠ b → ((eb e s L).set b Q).getD j rz = (eb e s L).getD j rz := fun j hj => by
    rw [List.getD_eq_getElem?_getD, List.getElem?_set_ne (fun h => hj h.symm), ← List.getD_eq_getElem?_getD]
  refine ⟨fun e' s' L' hr => ?_, fun hd => ?_⟩
  · have hn := hr.n
    rw [hl] at hn
    rcases Nat.lt_trichotomy b (tot L') with h | h | h
    · have := (hr.rows.1 b h).g
      rw [hat] at this; exact hQ this
    · have := hr.last.1.g
      rw [← h, hat] at this; exact hQ this
    · have h1 := hr.last.1.k
      rw [hoth _ (by omega)] at h1
      have h2 := (hw.rows.1 (tot L') (by omega)).k
      omega
  · have := (hd b (by rw [hl]; exact hlt)).g
    rw [hat] at this; exact hQ this

/-- A place in rows of 64 bytes: the row, the byte and the bit in it. -/
theorem place2 (a t : Nat) (h : a < t * 512) : ∃ b i m z : Nat, b < t ∧ i < 512 ∧ m < 64 ∧ z < 8 ∧ (a : Int) / 512 = (b : Int) ∧ (a : Int) % 512 = (i : Int) ∧ (i : Int) / 8 = (m : Int) ∧ (a : Int) % 8 = (z : Int) ∧ ∀ S, tn S i = S.set m (S.getD m 0 ^^^ 2 ^ z) :=
  ⟨a / 512, a % 512, a % 512 / 8, a % 512 % 8, by omega, by omega, by omega, by omega, by omega, by omega, by omega, by omega, fun _ => rfl⟩
theorem two_byte {t : Nat} (h : t < 8) : 2 ^ t < 256 := Nat.lt_of_le_of_lt (Nat.pow_le_pow_right (by omega) (show t ≤ 7 by omega)) (by omega)
theorem two_mod {t : Nat} (h : t < 8) : (2 : Int) ^ t % 256 = (2 : Int) ^ t := by
  have h1 := two_byte h
  rw [show (2 : Int) ^ t = ((2 ^ t : Nat) : Int) from (Int.natCast_pow 2 t).symm]
  generalize 2 ^ t = n at h1 ⊢
  omega
theorem two_u8 (t : Nat) : ((2 ^ t : Nat) : Int) = (2 : Int) ^ t := Int.natCast_pow 2 t
/-- Rows behind, beside a row of the call's own. -/
theorem behind_gd {w w4 : World} {v : Value} {l lb : List Rl} (h : OR w w4 v l) (hlb : ∀ x ∈ lb, BV w x.2.1 x.1 ∧ x.1.length ≤ x.2.2) : ∀ x ∈ lb, rgd (ob v) w4 x := fun x hx =>
  ⟨(BV.out (hlb x hx).1 fun g hg ho => by have := h.new g ho; omega).mv (Mv.of_below _ h.at_), (hlb x hx).2⟩
/-- Rows of an own row, beside a row that is made behind it. -/
theorem made_gd {w w2 : World} {v : Value} {l : List Rl} (h : OR w w2 v l) (e : TypeId) : ∀ x ∈ l, rgd (ob (.slice (some ⟨w2.heap.size, 0, none⟩) 0 0)) (w2.alloc (.cells #[] e)) x := fun x hx =>
  kR.mv _ _ _ _ (kR.re _ _ _ _ (h.gd x hx) fun g hg ho => by
    have ho : some w2.heap.size = some g := ho
    injection ho with ho
    omega) (Mv.of_below _ ((At.start w2).alloc _))
/-- What is read of a batch's blocks, whatever stands behind. -/
theorem back_dec {s ep : Int} {L : List Tx} {n t : Nat} (hb : Bk s L) (h0 : 0 ≤ ep) (h1 : ep ≤ 4294967295) (hp : Pb (fla L)) (hn : L.length = n) (ht : tot L + 1 = t) {R : List (List Nat)} {w w' : World} {x : Ending} (hd : DecP (eb ep.toNat s.toNat L ++ R) w x w') :
    ∃ (A : Option Addr) (c : Nat), At w w' ∧ TV w' A L ∧ x = .returned (.tuple #[.agg #[.int .i64 s, .slice A n c], .int .i64 ep, .int .i64 (t : Int), .int .i64 0]) := by
  subst hn ht
  have hs := hb.s1
  have hb' : Bk ((s.toNat : Nat) : Int) L := by rw [Int.toNat_of_nonneg (by omega)]; exact hb
  have hr := front_rok hb' hp (e := ep.toNat) (by omega) R
  obtain ⟨hA, ⟨e, s', L', A, d, g1, g2, g3, rfl⟩ | ⟨g1, _⟩ | ⟨g1, _⟩⟩ := hd
  · obtain rfl := g2 _ _ _ hr
    obtain ⟨rfl, rfl⟩ := rok_same g1 hr
    exact ⟨A, d, hA, g3, by rw [Int.toNat_of_nonneg (by omega), Int.toNat_of_nonneg h0]⟩
  · exact absurd hr (dk_no g1 _ _ _)
  · exact absurd hr (g1 _ _ _)
theorem back_cut {s ep : Int} {L : List Tx} {k : Nat} (hb : Bk s L) (h1 : ep ≤ 4294967295) (hp : Pb (fla L)) (hk : k < tot L + 1) {w w' : World} {x : Ending} (hd : DecP ((eb ep.toNat s.toNat L).take k) w x w') :
    At w w' ∧ x = .returned (.tuple #[.agg #[.int .i64 0, .slice none 0 0], .int .i64 0, .int .i64 0, .int .i64 14]) := by
  have hs := hb.s1
  have hb' : Bk ((s.toNat : Nat) : Int) L := by rw [Int.toNat_of_nonneg (by omega)]; exact hb
  have hr := first_dk hb' hp (e := ep.toNat) (by omega) hk
  obtain ⟨hA, ⟨e, s', L', A, d, g1, _⟩ | ⟨_, rfl⟩ | ⟨_, g1, _⟩⟩ := hd
  · exact absurd g1 (dk_no hr _ _ _)
  · exact ⟨hA, rfl⟩
  · exact absurd hr g1
theorem back_turned {s ep : Int} {L : List Tx} {b : Nat} (hb : Bk s L) (h1 : ep ≤ 4294967295) (hp : Pb (fla L)) (hlt : b < tot L + 1) {Q : List Nat} (hQ : ¬ Good Q) {w w' : World} {x : Ending} (hd : DecP ((eb ep.toNat s.toNat L).set b Q) w x w') :
    At w w' ∧ x = .returned (.tuple #[.agg #[.int .i64 0, .slice none 0 0], .int .i64 0, .int .i64 0, .int .i64 13]) := by
  have hs := hb.s1
  have hb' : Bk ((s.toNat : Nat) : Int) L := by rw [Int.toNat_of_nonneg (by omega)]; exact hb
  obtain ⟨hr, hk⟩ := turned_bad hb' hp (e := ep.toNat) (by omega) hlt hQ
  obtain ⟨hA, ⟨e, s', L', A, d, g1, _⟩ | ⟨g1, _⟩ | ⟨_, _, rfl⟩⟩ := hd
  · exact absurd g1 (hr _ _ _)
  · exact absurd g1 hk
  · exact ⟨hA, rfl⟩
/-- The b-th block of a batch. -/
theorem eb_at {s ep : Int} {L : List Tx} {b : Nat} (hb : Bk s L) (h1 : ep ≤ 4294967295) (hp : Pb (fla L)) (hlt : b < tot L + 1) : ((eb ep.toNat s.toNat L).getD b rz).length = 64 ∧ AllB ((eb ep.toNat s.toNat L).getD b rz) ∧ Good ((eb ep.toNat s.toNat L).getD b rz) := by
  have hs := hb.s1
  have hb' : Bk ((s.toNat : Nat) : Int) L := by rw [Int.toNat_of_nonneg (by omega)]; exact hb
  have hr := front_rok hb' hp (e := ep.toNat) (by omega) []
  rw [List.append_nil] at hr
  have h2 := eb_row hb' hp (e := ep.toNat) (by omega) _ (row_mem (R := eb ep.toNat s.toNat L) (j := b) (by rw [eb_len]; exact hlt))
  refine ⟨h2.1, h2.2, ?_⟩
  by_cases h : b < tot L
  · exact (hr.rows.1 b h).g
  · obtain rfl : b = tot L := by omega
    exact hr.last.1.g
theorem eb_bytes {s ep : Int} {L : List Tx} (hb : Bk s L) (h1 : ep ≤ 4294967295) (hp : Pb (fla L)) : ∀ r ∈ eb ep.toNat s.toNat L, AllB r := fun r hr => by
  have hs := hb.s1
  have hb' : Bk ((s.toNat : Nat) : Int) L := by rw [Int.toNat_of_nonneg (by omega)]; exact hb
  exact (eb_row hb' hp (e := ep.toNat) (by omega) r hr).2

end Go.Proofs.Ytgmekkenodiclaa
