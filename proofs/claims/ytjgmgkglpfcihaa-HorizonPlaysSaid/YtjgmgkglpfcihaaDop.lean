/- Proved: the document's own book: Close. -/
import Derived.Test.YtjgmgkglpfcihaaApn
namespace Go.Proofs.Ytjgmgkglpfcihaa
open Go.RowKit

section
variable {w w' : World} {d : Nat} {S : St}
/-- What the document's book is behind a call that laid two rows anew. -/
theorem Rb.rows {w2 : World} {A B : Option Addr} {n c e : Nat} (ho : Ok S) (hb : w2.heap[d]? = some (.cells #[.int .i64 S.most, .slice A n c, .slice B n e, .int .i64 (S.g : Int)] 29 (0, 0))) (h1 : IR w2 A n c S.H) (h2 : IR w2 B n e (S.H.map S.t)) : Rb w2 d S := by
  have hl := h1.len
  subst hl
  exact ⟨A, c, B, e, ho, hb, h1, h2⟩
/-- A store into a box leaves rows of ints as they are. -/
theorem set_mv (w : World) (d i : Nat) (u : Value) : Mv (fun g => g = d) w (w.setCell ⟨d, i, none⟩ u) := (Mv.refl (fun g => g = d) w).set (p := ⟨d, i, none⟩) (Or.inl rfl) u
section
variable {w5 w6 w7 : World} {v5 v6 v7 : Value} {q5 q6 q7 B : Nat} {X X' Z : List Int}
theorem apd_own (h : Apd w B (.slice none 0 0) v5 q5 ([] ++ X) w5) (ha : At w5 w6) : OI w6 B v5 q5 X := h.own.on ha
theorem q5_le {n j p : Nat} (h : OI w5 B v5 q5 ([] ++ X)) (hp : p = n - (j + 1)) (hx : X.length = j) (hj : j + n ≤ 3000000) : q5 + p ≤ 3000000 := by
  have h1 := h.len
  rw [List.nil_append, hx] at h1
  omega
theorem apd_base {v : Value} (ha : At w5 w6) (h : Apd w6 B v5 v7 q7 Z w7) : w5.heap.size ≤ (w7.setCell ⟨d, 1, none⟩ v).heap.size := by
  have h1 := ha.size
  have h2 := h.mv.size
  have h3 := (set_mv w7 d 1 v).size
  omega
/-- The second row beside the first one's growth, and a store in the box. -/
theorem apd_two {v : Value} (h5 : Apd w w.heap.size (.slice none 0 0) v5 q5 ([] ++ X) w5) (h6 : Apd w5 w5.heap.size (.slice none 0 0) v6 q6 ([] ++ X') w6) (h7 : Apd w6 w.heap.size v5 v7 q7 Z w7) (ha : At w w5) (hd : d < w.heap.size) : OI (w7.setCell ⟨d, 1, none⟩ v) w5.heap.size v6 q6 X' := by
  have h1 : OI w7 w5.heap.size v6 q6 X' := h6.own.mv h7.mv fun g hg hg5 => by
    have a := (h6.own.lt hg).1
    have b := (h5.own.lt hg5).2
    omega
  refine h1.mv (set_mv w7 d 1 v) fun g hg e => ?_
  have a := (h6.own.lt hg).1
  have b := ha.size
  omega
end
set_option maxHeartbeats 2000000 in
set_option maxRecDepth 100000 in
theorem close_rb (h : Rb w d S) (k : Int) : Calls Try.prog 13 #[.pointer (some ⟨d, 0, none⟩), .int .i64 k] w fun x w' => x = .returned (.int .i64 (cd S k)) ∧ Rb w' d (cl S k) ∧ Mv (fun g => g = d) w w' := by
  have HRB := Lib.hid h
  obtain ⟨A, c, B, e, h⟩ := h
  have HP := Lib.hid (place_rq h k)
  have hn := ok_len h.ok
  have hg := h.ok.g1
  have q0 := h
  clear h
  go_enter Try.func13, Try.ntmps13
  go_wp2_with fail
  refine HP.out.mono ?_
  rintro x w' ⟨rfl, ⟨j, hj, rfl⟩ | ⟨hno, rfl⟩⟩
  · have hm := List.mem_of_getElem? hj
    have HCD := Lib.hid (cd_in hm)
    have hjl : j < S.H.length := by
      rcases Nat.lt_or_ge j S.H.length with h | h
      · exact h
      · rw [List.getElem?_eq_none h] at hj; cases hj
    have HOK := Lib.hid q0.ok
    have HD1 := Lib.hid (dl_at q0.ok.nodup hj)
    have HD2 := Lib.hid (map_dl (t := S.t) q0.ok.nodup hj)
    obtain ⟨g, gs, gm, rfl, hgh, hgc⟩ := q0.hs.pos (by omega)
    obtain ⟨f, fs, fm, rfl, hfh, hfc⟩ := q0.ts.pos (by omega)
    obtain ⟨-, c1, c2, -⟩ := q0.cells
    have HFD : Hid (w.heap[d]? = some (.cells #[.int .i64 S.most, .slice (some ⟨g, 0, none⟩) S.H.length c, .slice (some ⟨f, 0, none⟩) S.H.length e, .int .i64 (S.g : Int)] 29 (0, 0))) := Lib.hid q0.box
    have HI : Hid (∀ W, Mv (fun g => g = d) w W → IV W (some ⟨g, 0, none⟩) S.H ∧ IV W (some ⟨f, 0, none⟩) (S.H.map S.t)) := Lib.hid fun W hW =>
      ⟨(q0.hs.mv hW fun x cs m hx e => by subst e; rw [q0.box] at hx; injection hx with hx; injection hx with _ hx; cases hx).iv, (q0.ts.mv hW fun x cs m hx e => by subst e; rw [q0.box] at hx; injection hx with hx; injection hx with _ hx; cases hx).iv⟩
    have HLT : Hid ((S.H.take j).length = j ∧ ((S.H.map S.t).take j).length = j) := Lib.hid ⟨by rw [List.length_take]; omega, by rw [List.length_take, List.length_map]; omega⟩
    obtain ⟨n, hnn⟩ : ∃ n, n = S.H.length := ⟨_, rfl⟩
    rw [← hnn] at hn hjl hgc hfc c1 c2 HFD
    have HNN := Lib.hid hnn
    clear hgh hfh hm hj q0 hnn HP
    have g1 : (0 : Int) ≤ (j : Int) := by omega
    have g2 : decide ((j : Int) < 0) = false := decide_eq_false (by omega)
    have g3 : (j : Int) ≤ (c : Int) := by omega
    have g4 : (j : Int) ≤ (e : Int) := by omega
    have g5 : (j : Int) + 1 ≤ (c : Int) := by omega
    have g6 : (j : Int) + 1 ≤ (e : Int) := by omega
    have g7 : (j : Int) + 1 ≤ (n : Int) := by omega
    have g8 : j ≤ n := by omega
    go_wp2_with (first
      | (at_builtin; refine ints_append rfl (.tmp 13) (.tmp 19) rfl w.heap.size (.slice none 0 0) 0 [] rfl (OI.nil _ _) (some ⟨g, 0, none⟩) j c (S.H.take j) rfl (fun h => by cases h) ((HI.out _ (Mv.refl _ _)).1.take j) HLT.out.1 (by omega) (Nat.le_refl _) ?_; intro A5 c5 q5 w5 P5; have HA5 : Hid (At w w5) := Lib.hid (At.mv (P5.out.mv.more fun x hx => by cases hx)); have c1 := (cell_at (HA5.out.keep HFD.out) 1).trans rfl; have c2 := (cell_at (HA5.out.keep HFD.out) 2).trans rfl)
      | (at_builtin; refine ints_append rfl (.tmp 21) (.tmp 27) rfl w5.heap.size (.slice none 0 0) 0 [] rfl (OI.nil _ _) (some ⟨f, 0, none⟩) j e ((S.H.map S.t).take j) rfl (fun h => by cases h) ((HI.out _ (Mv.of_below _ HA5.out)).2.take j) HLT.out.2 (by omega) (Nat.le_refl _) ?_; intro A6 c6 q6 w6 P6; have HA6 : Hid (At w5 w6) := Lib.hid (At.mv (P6.out.mv.more fun x hx => by cases hx)); have c1 := (cell_at ((HA5.out.next HA6.out).keep HFD.out) 1).trans rfl; have c2 := (cell_at ((HA5.out.next HA6.out).keep HFD.out) 2).trans rfl)
      | (refine slice_from rfl (.tmp 34) (.tmp 36) rfl g n c ((j : Int) + 1) (j + 1) rfl rfl (by omega) (by omega) hgc ?_; intro X7 p7 r7 HX7)
      | (at_builtin; refine ints_append rfl (.tmp 30) (.tmp 37) rfl w.heap.size (.slice A5 q5 c5) q5 (S.H.take j) rfl (apd_own P5.out HA6.out) X7 p7 r7 (S.H.drop (j + 1)) rfl (fun h => absurd h HX7.out.ne) (HX7.out.iv w6 _ (HI.out _ (Mv.of_below _ (HA5.out.next HA6.out))).1 HNN.out.symm) (by rw [List.length_drop, ← HNN.out, HX7.out.len]) (q5_le P5.out.own HX7.out.len HLT.out.1 (by omega)) (HA5.out.next HA6.out).size ?_; intro A7 c7 q7 w7 P7; have HA7 : Hid (At w w7) := Lib.hid (P7.out.mv.at_ (HA5.out.next HA6.out) (fun g hg => (P5.out.own.lt hg).1)); have c1 := (cell_at (HA7.out.keep HFD.out) 1).trans rfl; have c2 := (cell_at (HA7.out.keep HFD.out) 2).trans rfl; have f1 := free_at (HA7.out.keep HFD.out) 1; have HM8 : Hid (Mv (fun g => g = d) w (w7.setCell ⟨d, 1, none⟩ (.slice A7 q7 c7))) := Lib.hid ((Mv.of_below (fun g => g = d) HA7.out).trans (set_mv w7 d 1 (.slice A7 q7 c7)) fun _ => Or.inl); have HB8 := Lib.hid (heap_set (HA7.out.keep HFD.out) 1 (.slice A7 q7 c7)))
      | (refine slice_from rfl (.tmp 46) (.tmp 48) rfl f n e ((j : Int) + 1) (j + 1) rfl rfl (by omega) (by omega) hfc ?_; intro X8 p8 r8 HX8)
      | (at_builtin; refine ints_append rfl (.tmp 42) (.tmp 49) rfl w5.heap.size (.slice A6 q6 c6) q6 ((S.H.map S.t).take j) rfl (apd_two P5.out P6.out P7.out HA5.out (lt_heap HFD.out)) X8 p8 r8 ((S.H.map S.t).drop (j + 1)) rfl (fun h => absurd h HX8.out.ne) (HX8.out.iv _ _ (HI.out _ HM8.out).2 (by rw [List.length_map]; exact HNN.out.symm)) (by rw [List.length_drop, List.length_map, ← HNN.out, HX8.out.len]) (q5_le P6.out.own HX8.out.len HLT.out.2 (by omega)) (apd_base HA6.out P7.out) ?_; intro A8 c8 q8 w8 P8; have hb8 := P8.out.mv.keep HB8.out (fun hg => absurd (P6.out.own.lt hg).1 (by have := lt_heap HFD.out; have := HA5.out.size; omega)); have HB9 := Lib.hid hb8; have c1 := (cell_at hb8 1).trans rfl; have c2 := (cell_at hb8 2).trans rfl; have f1 := free_at hb8 1; have f2 := free_at hb8 2; clear hb8)
      | (at_builtin; fail))
    go_ret
    have hd := lt_heap HFD.out
    have h5s := HA5.out.size
    have o7 : OI w7 w.heap.size (.slice A7 q7 c7) q7 (dl S.H k) := by rw [← HD1.out]; exact P7.out.own
    have o8 : OI w8 w5.heap.size (.slice A8 q8 c8) q8 ((dl S.H k).map S.t) := by rw [← HD2.out]; exact P8.out.own
    have hq : q8 = q7 := by have h1 := o7.len; have h2 := o8.len; rw [List.length_map] at h2; omega
    subst hq
    refine ⟨by rw [HCD.out]; rfl, Rb.rows (S := cl S k) (cl_ok HOK.out k) (heap_set HB9.out 2 (.slice A8 q8 c8)) (((o7.mv (set_mv w7 d 1 _) fun x hx e => ?_).mv P8.out.mv fun x hx h6 => ?_).mv (set_mv w8 d 2 _) fun x hx e => ?_).ir (o8.mv (set_mv w8 d 2 _) fun x hx e => ?_).ir, (HM8.out.trans P8.out.mv fun x hx => Or.inr ?_).trans (set_mv w8 d 2 _) fun _ => Or.inl⟩
    · have := (o7.lt hx).1; omega
    · have a := (P6.out.own.lt h6)
      rcases P7.out.at_ with e | e
      · rw [e] at hx; have b := (P5.out.own.lt hx).2; omega
      · rw [e] at hx; injection hx with hx; omega
    · have := (o7.lt hx).1; omega
    · have := (o8.lt hx).1; omega
    · have := (P6.out.own.lt hx).1; omega
  · have HCD := Lib.hid (cd_out hno)
    have HCL := Lib.hid (cl_not hno)
    clear hno
    go_wp2
    go_ret
    exact ⟨by rw [HCD.out]; rfl, by rw [HCL.out]; exact HRB.out, Mv.refl _ _⟩
end

end Go.Proofs.Ytjgmgkglpfcihaa
