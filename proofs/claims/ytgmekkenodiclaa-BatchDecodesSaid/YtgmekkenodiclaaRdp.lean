/- Proved: words for the document's own reading of a batch: the blocks read so far, in a row of the call's own; what is no batch's, and what is. -/
import Derived.Test.YtgmekkenodiclaaRms
import Derived.Test.YtgmekkenodiclaaDe
import Derived.Test.YtgmekkenodiclaaRdc
namespace Go.Proofs.Ytgmekkenodiclaa
open Go.RowKit

theorem rrow_any (A : Option Addr) (P : List Nat) (m c : Nat) (hm : P.length = m) (hB : AllB P) (hc : m ≤ c) (w : World) (hv : BV w A P) : Calls Try.prog 23 #[.slice A m c] w (RowP P w) := by
  by_cases h : m = 64
  · subst h
    refine (rdecode_row2 A c P hm hB w hv hc).mono ?_
    rintro x w' (⟨h1, A', n, c', rfl, h2, h3, h6, h4, h5⟩ | ⟨h1, rfl, h5⟩)
    · exact ⟨_, _, _, _, A', n, c', 0, rfl, h5, Or.inl ⟨rfl, hm, h1, rfl, rfl, rfl, rfl, h2, h3, h6, h4⟩⟩
    · exact ⟨0, 0, 0, 0, none, 0, 0, 13, rfl, h5, Or.inr ⟨by decide, fun hh => h1 hh.2⟩⟩
  · refine (rdecode_len A m c w h).mono ?_
    rintro x w' ⟨rfl, h5⟩
    exact ⟨0, 0, 0, 0, none, 0, 0, 3, rfl, h5, Or.inr ⟨by decide, fun hh => h (hm.symm.trans hh.1)⟩⟩

/-- What a block with a head tells: its LBA, its body. -/
def bsv (x : Bl) : Pt := (x.1.2.2.2, x.2.1)
theorem OS.dv {w0 w : World} {v : Value} {l : List Bl} (h : OS w0 w v l) : ∃ A c, v = .slice A l.length c ∧ l.length ≤ c ∧ DV w A (l.map bsv) := by
  obtain ⟨A, c, rfl, hc, hn, hs⟩ := h.form
  refine ⟨A, c, rfl, hc, ?_⟩
  cases A with
  | none => left; rw [List.eq_nil_of_length_eq_zero (hn rfl).1]; rfl
  | some a =>
    obtain ⟨h1, h2, g, rfl⟩ := hs a rfl
    refine Or.inr ⟨g, 0, rfl, h1, fun j hj => ?_⟩
    rw [List.length_map] at hj
    have e : (l.map bsv).getD j pz = bsv (l[j]) := by rw [List.getD_eq_getElem?_getD, List.getElem?_map, List.getElem?_eq_getElem hj]; rfl
    have k3 := h.cell kS (List.getElem?_eq_getElem hj) (i := 3) (u := .int .i64 (l[j]).1.2.2.2) rfl
    have k4 := h.cell kS (List.getElem?_eq_getElem hj) (i := 4) (u := .slice (l[j]).2.2.1 (l[j]).2.1.length (l[j]).2.2.2) rfl
    rw [e, Nat.zero_add]
    exact ⟨k3, _, _, k4, BVf.bv (h.gd _ (List.getElem_mem hj))⟩
/-- The blocks read so far. -/
structure Dr (w wr : World) (r : Nat) (R : List (List Nat)) (i : Nat) (B : Option Addr) (d : Nat) (l : List Bl) : Prop where
  dk : Dk R i
  bb : Bb wr r 0 (.slice none 0 0)
  op : OS w wr (.slice B i d) l
  ps : l.map bsv = pts (R.take i)
  hd : ∀ x ∈ l, x.1.2.1 = (fe (R.getD 0 rz) : Int) ∧ x.1.2.2.1 = (fs (R.getD 0 rz) : Int)
theorem Dr.new {w wr : World} {r : Nat} (R : List (List Nat)) (hb : Bb wr r 0 (.slice none 0 0)) (hA : At w wr) : Dr w wr r R 0 none 0 [] :=
  ⟨Dk.zero R, hb, Ow.nil' hA, by simp [pts], fun x hx => by cases hx⟩
theorem Dr.on {w wr wx : World} {r : Nat} {R : List (List Nat)} {i d : Nat} {B : Option Addr} {l : List Bl} (h : Dr w wr r R i B d l) (hA : At wr wx) : Dr w wx r R i B d l :=
  ⟨h.dk, h.bb.on hA, h.op.on kS hA, h.ps, h.hd⟩
theorem Dr.len {w wr : World} {r : Nat} {R : List (List Nat)} {i d : Nat} {B : Option Addr} {l : List Bl} (h : Dr w wr r R i B d l) : l.length = i ∧ i ≤ d ∧ DV wr B (pts (R.take i)) := by
  obtain ⟨A, c, e, hc, hv⟩ := OS.dv h.op
  injection e with e1 e2 e3
  subst e1 e2 e3
  rw [h.ps] at hv
  exact ⟨rfl, hc, hv⟩
theorem Dr.first {w wr : World} {r : Nat} {R : List (List Nat)} {i d : Nat} {B : Option Addr} {l : List Bl} (h : Dr w wr r R i B d l) (h0 : 0 < i) : ∃ g, B = some ⟨g, 0, none⟩ ∧ ∀ W, At wr W → W.cell? ⟨g, 1, none⟩ = some (.int .i64 (fe (R.getD 0 rz) : Int)) ∧ W.cell? ⟨g, 2, none⟩ = some (.int .i64 (fs (R.getD 0 rz) : Int)) := by
  have hl := h.len.1
  have h0' : 0 < l.length := by omega
  obtain ⟨g, c, e, _, hg, _⟩ := h.op.pos h0'
  injection e with e1 e2 e3
  subst e1
  refine ⟨g, rfl, fun W hW => ?_⟩
  have h1 := h.hd _ (List.getElem_mem h0')
  have k1 := h.op.cell kS (List.getElem?_eq_getElem h0') (i := 1) (u := .int .i64 (l[0]).1.2.1) rfl
  have k2 := h.op.cell kS (List.getElem?_eq_getElem h0') (i := 2) (u := .int .i64 (l[0]).1.2.2.1) rfl
  rw [h1.1] at k1
  rw [h1.2] at k2
  simp only [Nat.zero_mul, Nat.zero_add] at k1 k2
  exact ⟨(Below.cell hW (p := ⟨g, 1, none⟩) hg).trans k1, (Below.cell hW (p := ⟨g, 2, none⟩) hg).trans k2⟩
theorem Dr.step {w wr wy w' : World} {r : Nat} {R : List (List Nat)} {i d c' cD : Nat} {B A' AD : Option Addr} {l : List Bl} {kd e s lb : Int} {P : List Nat} (h : Dr w wr r R i B d l) (hA : At wr wy)
    (hG : Gr 63 5 bcs bgd w wy (.slice B i d) w' (.slice A' (i + 1) c') (l ++ [((kd, e, s, lb), fb P, AD, cD)])) (hi : i < R.length) (hP : P = R.getD i rz) (hdt : Dt 1 (fe (R.getD 0 rz)) (fs (R.getD 0 rz)) P) (he : e = (fe P : Int)) (hs : s = (fs P : Int)) (hl : lb = (fl P : Int)) :
    Dr w w' r R (i + 1) A' c' (l ++ [((kd, e, s, lb), fb P, AD, cD)]) := by
  refine ⟨h.dk.more (by rw [← hP]; exact hdt), hG.mv.keep (hA.keep h.bb) (ob_far (h.op.on kS hA).row (hA.keep h.bb) (by decide)), hG.ow, ?_, fun x hx => ?_⟩
  · rw [List.map_append, h.ps, pts_more hi, ← hP]
    show _ ++ [(lb, fb P)] = _ ++ [((fl P : Int), fb P)]
    rw [hl]
  · rcases List.mem_append.1 hx with hx | hx
    · exact h.hd x hx
    · rw [List.mem_singleton.1 hx]
      exact ⟨by rw [he, hdt.e], by rw [hs, hdt.s]⟩

/-- What stands in a row that begins with a batch, where the first block is that is no data block. -/
theorem rok_here {R : List (List Nat)} {i e s : Nat} {L : List Tx} (h : Rok R e s L) (hd : Dk R i) (hi : i < R.length) (h2 : fk (R.getD i rz) = 2) : tot L = i ∧ e = fe (R.getD 0 rz) ∧ s = fs (R.getD 0 rz) ∧ bd L = fb (R.getD i rz) ∧ fla L = pts (R.take i) := by
  have k := h.ends hd (Nat.le_of_lt hi) fun _ hx => by have := hx.k; omega
  have h3 := h.head
  have h4 := h.last.2.2
  have h5 := h.pts
  rw [← k] at h4 h5
  exact ⟨k.symm, h3.1.symm, h3.2.symm, h4.symm, h5.symm⟩
theorem rok_eb {R : List (List Nat)} {e s : Nat} {T : List Tx} (hb : Bk (s : Int) T) (hpb : Pb (fla T)) (he : e < 4294967296) (ht : tot T + 1 ≤ R.length) (h : ∀ j, j < tot T + 1 → R.getD j rz = (eb e s T).getD j rz) : Rok R e s T := by
  refine ⟨hb, hpb, he, ht, ?_⟩
  refine List.ext_getElem (by rw [List.length_take, eb_len]; omega) fun j h1 h2 => ?_
  rw [List.length_take] at h1
  have h3 := h j (by omega)
  rw [List.getD_eq_getElem?_getD, List.getD_eq_getElem?_getD, List.getElem?_eq_getElem (by omega), List.getElem?_eq_getElem h2] at h3
  rw [List.getElem_take]
  exact h3
theorem rok_each {R : List (List Nat)} {e s : Nat} {T : List Tx} (h : Rok R e s T) {j : Nat} (hj : j < tot T + 1) : R.getD j rz = (eb e s T).getD j rz := by
  rw [← h.tk, row_take hj]
theorem pb_take {R : List (List Nat)} (hB : ∀ r ∈ R, ∀ c ∈ r, c < 256) {i n : Nat} {T : List Tx} (h : fla T = (pts (R.take i)).take n) : Pb (fla T) := by
  rw [h]
  intro p hp
  obtain ⟨r, hr, rfl⟩ := List.mem_map.1 (List.mem_of_mem_take hp)
  exact part_byte (hB r (List.mem_of_mem_take hr)) _ _
/-- What the document's own Decode tells. -/
def RecP (R : List (List Nat)) (w : World) (x : Ending) (w' : World) : Prop :=
  At w w' ∧ ((∃ (e s : Nat) (L : List Tx) (A : Option Addr) (c : Nat), Rok R e s L ∧ TV w' A L ∧ x = .returned (.tuple #[.agg #[.int .i64 (s : Int), .slice A L.length c], .int .i64 (e : Int), .int .i64 ((tot L + 1 : Nat) : Int), .int .i64 0])) ∨
    (Dk R R.length ∧ x = .returned (.tuple #[.agg #[.int .i64 0, .slice none 0 0], .int .i64 0, .int .i64 0, .int .i64 14])) ∨
    ((∀ e s L, ¬ Rok R e s L) ∧ ¬ Dk R R.length ∧ x = .returned (.tuple #[.agg #[.int .i64 0, .slice none 0 0], .int .i64 0, .int .i64 0, .int .i64 13])))

end Go.Proofs.Ytgmekkenodiclaa
