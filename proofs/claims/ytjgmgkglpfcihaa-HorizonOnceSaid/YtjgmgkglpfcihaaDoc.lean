/- Proved: words for the document's own book; its calls that only read: place, At, Low. -/
import Derived.Test.YtjgmgkglpfcihaaHs
namespace Go.Proofs.Ytjgmgkglpfcihaa
open Go.RowKit

/-- The slice A, n, c reads as the list R of ints; it is no slice at all, or stands at the beginning of a row of ints. -/
structure IR (w : World) (A : Option Addr) (n c : Nat) (R : List Int) : Prop where
  len : R.length = n
  iv : IV w A R
  form : (A = none ∧ n = 0 ∧ c = 0) ∨ ∃ g cs m, A = some ⟨g, 0, none⟩ ∧ w.heap[g]? = some (.cells cs 3 m) ∧ n ≤ c
theorem IR.nil (w : World) : IR w none 0 0 [] := ⟨rfl, IV.nil _ _, Or.inl ⟨rfl, rfl, rfl⟩⟩
theorem IR.mv {w w' : World} {F : Nat → Prop} {A : Option Addr} {n c : Nat} {R : List Int} (h : IR w A n c R) (hm : Mv F w w') (hF : ∀ g cs m, w.heap[g]? = some (.cells cs 3 m) → ¬ F g) : IR w' A n c R := by
  refine ⟨h.len, h.iv.mv hm fun b o e => ?_, ?_⟩
  · rcases h.form with ⟨e0, _⟩ | ⟨g, cs, m, e0, hg, _⟩
    · rw [e0] at e; cases e
    · rw [e0] at e; injection e with e; injection e with e1; subst e1; exact hF _ _ _ hg
  · rcases h.form with h | ⟨g, cs, m, e, hg, hc⟩
    · exact Or.inl h
    · exact Or.inr ⟨g, cs, m, e, hm.keep hg (hF _ _ _ hg), hc⟩
theorem IR.on {w w' : World} {A : Option Addr} {n c : Nat} {R : List Int} (h : IR w A n c R) (ha : At w w') : IR w' A n c R := h.mv (Mv.of_below (fun _ => False) ha) fun _ _ _ _ => id
theorem own_ir {w : World} {B n : Nat} {v : Value} {R : List Int} (h : w.ownsRow B 3 1 v n (R.map encZ)) : ∃ A c, v = .slice A n c ∧ IR w A n c R := by
  obtain ⟨A, c, hv, hl, hc, hi, _⟩ := own_iv h
  refine ⟨A, c, hv, hl, hi, ?_⟩
  rcases h.2 with ⟨he, hn⟩ | ⟨g, cap, cur, he, hB, hh, _⟩
  · rw [hv] at he; injection he with e1 e2 e3; exact Or.inl ⟨e1, hn, e3⟩
  · rw [hv] at he; injection he with e1 e2 e3; exact Or.inr ⟨g, cur, _, e1, hh, hc⟩
theorem IR.pos {w : World} {A : Option Addr} {n c : Nat} {R : List Int} (h : IR w A n c R) (h0 : 0 < n) : ∃ g cs m, A = some ⟨g, 0, none⟩ ∧ w.heap[g]? = some (.cells cs 3 m) ∧ n ≤ c := by
  rcases h.form with ⟨_, e, _⟩ | h
  · omega
  · exact h

/-- The document's book at d is in the state S; its rows are A and B. -/
structure Rq (w : World) (d : Nat) (S : St) (A : Option Addr) (c : Nat) (B : Option Addr) (e : Nat) : Prop where
  ok : Ok S
  box : w.heap[d]? = some (.cells #[.int .i64 S.most, .slice A S.H.length c, .slice B S.H.length e, .int .i64 (S.g : Int)] 29 (0, 0))
  hs : IR w A S.H.length c S.H
  ts : IR w B S.H.length e (S.H.map S.t)
def Rb (w : World) (d : Nat) (S : St) : Prop := ∃ A c B e, Rq w d S A c B e
section
variable {w w' : World} {d : Nat} {S : St} {A B : Option Addr} {c e : Nat}
theorem Rq.cells (h : Rq w d S A c B e) : w.cell? ⟨d, 0, none⟩ = some (.int .i64 S.most) ∧ w.cell? ⟨d, 1, none⟩ = some (.slice A S.H.length c) ∧ w.cell? ⟨d, 2, none⟩ = some (.slice B S.H.length e) ∧ w.cell? ⟨d, 3, none⟩ = some (.int .i64 (S.g : Int)) :=
  ⟨(cell_at h.box 0).trans rfl, (cell_at h.box 1).trans rfl, (cell_at h.box 2).trans rfl, (cell_at h.box 3).trans rfl⟩
theorem Rq.free (h : Rq w d S A c B e) (i : Nat) : w.frozen? ⟨d, i, none⟩ = false := free_at h.box i
/-- What is no block of ints, and no box of such a book, may turn. -/
theorem Rq.mv {F : Nat → Prop} (h : Rq w d S A c B e) (hm : Mv F w w') (hF : ∀ g cs m, w.heap[g]? = some (.cells cs 3 m) → ¬ F g) (hd : ¬ F d) : Rq w' d S A c B e := ⟨h.ok, hm.keep h.box hd, h.hs.mv hm hF, h.ts.mv hm hF⟩
theorem Rb.mv {F : Nat → Prop} (h : Rb w d S) (hm : Mv F w w') (hF : ∀ g cs m, w.heap[g]? = some (.cells cs 3 m) → ¬ F g) (hd : ¬ F d) : Rb w' d S := by
  obtain ⟨A, c, B, e, h⟩ := h; exact ⟨A, c, B, e, h.mv hm hF hd⟩
theorem Rb.on (h : Rb w d S) (ha : At w w') : Rb w' d S := h.mv (Mv.of_below (fun _ => False) ha) (fun _ _ _ _ => id) id
theorem Rb.box (h : Rb w d S) : ∃ cs, w.heap[d]? = some (.cells cs 29 (0, 0)) := by obtain ⟨A, c, B, e, h⟩ := h; exact ⟨_, h.box⟩
theorem Rb.ok (h : Rb w d S) : Ok S := by obtain ⟨A, c, B, e, h⟩ := h; exact h.ok

/-- What place tells. -/
def Plc (H : List Int) (k : Int) (w : World) (e : Ending) (w' : World) : Prop := w = w' ∧ ((∃ j : Nat, H[j]? = some k ∧ e = .returned (.int .i64 (j : Int))) ∨ (¬ k ∈ H ∧ e = .returned (.int .i64 (-1))))
set_option maxHeartbeats 1000000 in
set_option maxRecDepth 100000 in
theorem place_rq (h : Rq w d S A c B e) (k : Int) : Calls Try.prog 22 #[.pointer (some ⟨d, 0, none⟩), .int .i64 k] w (Plc S.H k w) := by
  obtain ⟨-, c1, -, -⟩ := h.cells
  have hn := ok_len h.ok
  have hg := h.ok.g1
  have HI := Lib.hid h.hs
  clear h
  obtain ⟨H, hH⟩ : ∃ H, H = S.H := ⟨_, rfl⟩
  rw [← hH] at c1 HI hn ⊢
  obtain ⟨n, hl⟩ : ∃ n, n = H.length := ⟨_, rfl⟩
  rw [← hl] at c1 HI hn
  have HL := Lib.hid hl
  clear hl hH
  go_enter Try.func22, Try.ntmps22
  go_wp2
  go_loopw [5] (fun c5 wr => ∃ i : Nat, i ≤ n ∧ c5 = .int .i64 (i : Int) ∧ Hid (∀ j, j < i → H.getD j 0 ≠ k) ∧ wr = w) (fun c5 _ => n - (RowKit.intOf c5).toNat)
  case atStart => exact ⟨0, Nat.zero_le _, rfl, Lib.hid fun j h => absurd h (Nat.not_lt_zero j), rfl⟩
  case round =>
    obtain ⟨i, hi, rfl, HN, rfl⟩ := hrel
    by_cases hlt : i < n
    · obtain ⟨g, o, rfl, _, hx⟩ := HI.out.iv.pos (by rw [HI.out.len]; omega)
      have hc := hx i (by rw [HI.out.len]; exact hlt)
      have HX : Hid (H[i]? = some (H.getD i 0)) := Lib.hid (by
        have h1 : i < H.length := by rw [← HL.out]; exact hlt
        rw [List.getD_eq_getElem?_getD, List.getElem?_eq_getElem h1]; rfl)
      obtain ⟨x, hxe⟩ : ∃ x, x = H.getD i 0 := ⟨_, rfl⟩
      rw [← hxe] at hc HX
      have HXE := Lib.hid hxe
      have g1 : (0 : Int) ≤ (i : Int) := by omega
      have g2 : (i : Int) < (n : Int) := by omega
      clear hx hxe
      by_cases hxk : x = k
      · have HR : Hid (Plc H k wr (.returned (.int .i64 (i : Int))) wr) := Lib.hid ⟨rfl, Or.inl ⟨i, by rw [HX.out, hxk], rfl⟩⟩
        have q : (x == k) = true := by rw [hxk]; simp
        clear hxk
        go_wp2
        go_ret
        exact HR.out
      · have q : (x == k) = false := by simpa using hxk
        have HK := Lib.hid hxk
        clear hxk
        go_wp2
        go_roundw
        case rel => exact ⟨i + 1, by omega, by go_num, Lib.hid (fun j hj => by
          by_cases e : j = i
          · subst e; rw [← HXE.out]; exact HK.out
          · exact HN.out j (by omega)), by first | rfl | trivial⟩
        case measure => simp [RowKit.intOf]; omega
    · have HR : Hid (Plc H k wr (.returned (.int .i64 (-1))) wr) := Lib.hid ⟨rfl, Or.inr ⟨fun hm => by
        obtain ⟨j, hj, e⟩ := List.mem_iff_getElem.1 hm
        refine HN.out j (by rw [← HL.out] at hj; omega) ?_
        rw [List.getD_eq_getElem?_getD, List.getElem?_eq_getElem hj, e]; rfl, rfl⟩⟩
      have hin : i = n := by omega
      subst hin
      go_wp2
      go_ret
      exact HR.out
set_option maxHeartbeats 1000000 in
theorem at_rb (h : Rb w d S) (k : Int) : Calls Try.prog 15 #[.pointer (some ⟨d, 0, none⟩), .int .i64 k] w fun x w' => x = .returned (.tuple #[.int .i64 (tm S k), .int .i64 (cd S k)]) ∧ w = w' := by
  obtain ⟨A, c, B, e, h⟩ := h
  have HP := Lib.hid (place_rq h k)
  obtain ⟨-, -, c2, -⟩ := h.cells
  have hn := ok_len h.ok
  have hg := h.ok.g1
  have HT := Lib.hid h.ts
  clear h
  go_enter Try.func15, Try.ntmps15
  go_wp2_with fail
  refine HP.out.mono ?_
  rintro x w' ⟨rfl, ⟨j, hj, rfl⟩ | ⟨hno, rfl⟩⟩
  · have hm := List.mem_of_getElem? hj
    have HTM := Lib.hid (And.intro (tm_in hm) (cd_in hm))
    have hjl : j < S.H.length := by
      rcases Nat.lt_or_ge j S.H.length with h | h
      · exact h
      · rw [List.getElem?_eq_none h] at hj; cases hj
    obtain ⟨g, o, rfl, _, hx⟩ := HT.out.iv.pos (by rw [HT.out.len]; omega)
    have hc := hx j (by rw [HT.out.len]; exact hjl)
    have hv : (S.H.map S.t).getD j 0 = S.t k := by rw [List.getD_eq_getElem?_getD, List.getElem?_map, hj]; rfl
    rw [hv] at hc
    have g1 : (0 : Int) ≤ (j : Int) := by omega
    have g2 : (j : Int) < (S.H.length : Int) := by omega
    have g3 : decide ((j : Int) < 0) = false := decide_eq_false (by omega)
    clear hx hv hj hm
    go_wp2
    go_ret2
    exact ⟨by rw [HTM.out.1, HTM.out.2]; rfl, rfl⟩
  · have HTM := Lib.hid (And.intro (tm_out hno) (cd_out hno))
    clear hno
    go_wp2
    go_ret2
    exact ⟨by rw [HTM.out.1, HTM.out.2]; rfl, rfl⟩
set_option maxHeartbeats 1000000 in
set_option maxRecDepth 100000 in
theorem low_rb (h : Rb w d S) (now : Int) : Calls Try.prog 17 #[.pointer (some ⟨d, 0, none⟩), .int .i64 now] w fun x w' => x = .returned (.int .i64 (lo S now)) ∧ w = w' := by
  obtain ⟨A, c, B, e, h⟩ := h
  obtain ⟨-, -, c1, -⟩ := h.cells
  have hn := ok_len h.ok
  have hg := h.ok.g1
  have HI := Lib.hid h.ts
  clear h
  obtain ⟨T, hT⟩ : ∃ T, T = S.H.map S.t := ⟨_, rfl⟩
  have HLO : Hid (lo S now = T.foldl min now) := Lib.hid (by rw [hT]; rfl)
  rw [← hT] at HI
  obtain ⟨n, hl⟩ : ∃ n, n = S.H.length := ⟨_, rfl⟩
  rw [← hl] at c1 HI hn
  have HL : Hid (n = T.length) := Lib.hid HI.out.len.symm
  clear hl hT
  go_enter Try.func17, Try.ntmps17
  go_wp2
  go_loopw [1, 5] (fun v1 c5 wr => ∃ (i : Nat) (v : Int), i ≤ n ∧ v1 = .int .i64 v ∧ c5 = .int .i64 (i : Int) ∧ Hid (v = (T.take i).foldl min now) ∧ wr = w) (fun _ c5 _ => n - (RowKit.intOf c5).toNat)
  case atStart => exact ⟨0, now, Nat.zero_le _, rfl, rfl, Lib.hid rfl, rfl⟩
  case round =>
    obtain ⟨i, v, hi, rfl, rfl, HV, rfl⟩ := hrel
    by_cases hlt : i < n
    · obtain ⟨g, o, rfl, _, hx⟩ := HI.out.iv.pos (by rw [HI.out.len]; omega)
      have hc := hx i (by rw [HI.out.len]; exact hlt)
      have HT := Lib.hid (take_one T i (by rw [← HL.out]; exact hlt))
      obtain ⟨x, hxe⟩ : ∃ x, x = T.getD i 0 := ⟨_, rfl⟩
      rw [← hxe] at hc HT
      have HN : Hid (min v x = (T.take (i + 1)).foldl min now) := Lib.hid (by
        rw [HT.out, List.foldl_append, ← HV.out]; rfl)
      have g1 : (0 : Int) ≤ (i : Int) := by omega
      have g2 : (i : Int) < (n : Int) := by omega
      clear hx hxe
      go_wp2
      go_roundw
      case rel => exact ⟨i + 1, min v x, by omega, rfl, by go_num, HN, by first | rfl | trivial⟩
      case measure => simp [RowKit.intOf]; omega
    · have hin : i = n := by omega
      have HE : Hid (v = lo S now) := Lib.hid (by rw [HLO.out, HV.out, List.take_of_length_le (by rw [← HL.out]; omega)])
      subst hin
      go_wp2
      go_ret
      exact ⟨by rw [HE.out]; rfl, rfl⟩
end

end Go.Proofs.Ytjgmgkglpfcihaa
