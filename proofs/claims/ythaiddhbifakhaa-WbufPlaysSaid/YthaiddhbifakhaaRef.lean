/- Proved: why each Put for itself is refused. -/
import Derived.Test.YthaiddhbifakhaaPv
namespace Go.Proofs.Ythaiddhbifakhaa
open Go.RowKit

/-- A length that is none: of the first ones. -/
noncomputable def lz (P : List Pt) : Int := open Classical in if ∃ p ∈ P, p.2.length ≠ 40 then 3 else 0
noncomputable def fz (N : Int) (P : List Pt) : Int := open Classical in if ∃ p ∈ P, ¬ (0 ≤ p.1 ∧ p.1 < N) then 2 else lz P
theorem lz_bad {P : List Pt} {p : Pt} (hp : p ∈ P) (h : p.2.length ≠ 40) : lz P = 3 := if_pos ⟨p, hp, h⟩
theorem lz_same {P : List Pt} {p : Pt} (h : p.2.length = 40) : lz (P ++ [p]) = lz P := by
  unfold lz
  by_cases e : ∃ p ∈ P, p.2.length ≠ 40
  · obtain ⟨q, hq, hl⟩ := e
    rw [if_pos (show ∃ p ∈ P, p.2.length ≠ 40 from ⟨q, hq, hl⟩), if_pos (show ∃ r ∈ P ++ [p], r.2.length ≠ 40 from ⟨q, List.mem_append_left _ hq, hl⟩)]
  · rw [if_neg e, if_neg fun ⟨q, hq, hl⟩ => (List.mem_append.1 hq).elim (fun h => e ⟨q, h, hl⟩) fun h1 => hl (by rw [List.mem_singleton.1 h1]; exact h)]
theorem fz_bad {N : Int} {P : List Pt} {p : Pt} (hp : p ∈ P) (h : ¬ (0 ≤ p.1 ∧ p.1 < N)) : fz N P = 2 := if_pos ⟨p, hp, h⟩
theorem fz_all {N : Int} {P : List Pt} (h : ∀ j, j < P.length → 0 ≤ (P.getD j pz).1 ∧ (P.getD j pz).1 < N) : fz N P = lz P := if_neg fun ⟨p, hp, hb⟩ => by
  obtain ⟨j, hj, rfl⟩ := List.mem_iff_getElem.1 hp
  have := h j hj
  rw [List.getD_eq_getElem?_getD, List.getElem?_eq_getElem hj] at this
  exact hb this

set_option maxHeartbeats 2000000 in
set_option maxRecDepth 100000 in
theorem each_any {w : World} (p : Option Addr) (N : Int) (hs : ∀ W, At w W → Calls Try.prog 51 #[.pointer p] W fun e w' => e = .returned (.int .i64 N) ∧ W = w') (A : Option Addr) (P : List Pt) (n c : Nat) (hn : P.length = n) (hl : n ≤ 1000000) (hP : PV w A P) :
    Calls Try.prog 39 #[.pointer p, .slice A n c] w (Gives (.int .i64 (fz N P)) w) := by
  have HS := Lib.hid hs
  have HN := Lib.hid hn
  have HP := Lib.hid hP
  clear hs hn hP
  go_enter Try.func39, Try.ntmps39
  go_wp2
  go_step3
  go_wp2
  go_step3
  go_wp2
  go_loopw [5, 10] (fun c5 c10 wr => ∃ (k : Nat) (z : Int), k ≤ n ∧ c10 = .int .i64 (k : Int) ∧ c5 = .int .i64 z ∧ Hid (z = lz (P.take k)) ∧ Hid (∀ j, j < k → 0 ≤ (P.getD j pz).1 ∧ (P.getD j pz).1 < N) ∧ Hid (At w wr)) (fun _ c10 _ => n - (RowKit.intOf c10).toNat)
  case atStart => exact ⟨0, 0, Nat.zero_le _, rfl, rfl, Lib.hid (by unfold lz; rw [if_neg fun ⟨_, h, _⟩ => by cases h]), Lib.hid (fun j h => absurd h (Nat.not_lt_zero j)), Lib.hid (At.start w)⟩
  case round =>
    obtain ⟨k, z, hk, rfl, rfl, HZ, HR, HA⟩ := hrel
    by_cases hlt : k < n
    · have hkP : k < P.length := by rw [HN.out]; exact hlt
      obtain ⟨g, o, rfl, hg, hc⟩ := (HP.out.on HA.out).pos (by omega)
      obtain ⟨e1, B, cb, e2, -⟩ := hc k hkP
      have ht := take_one P k hkP
      have hm := pt_mem hkP
      obtain ⟨x, hx⟩ : ∃ x, x = P.getD k pz := ⟨_, rfl⟩
      rw [← hx] at e1 e2 ht hm
      obtain ⟨a, L⟩ := x
      simp only at e1 e2
      obtain ⟨m, hmL⟩ : ∃ m, m = L.length := ⟨_, rfl⟩
      rw [← hmL] at e2
      have HX := Lib.hid hx
      have HT := Lib.hid ht
      have HM := Lib.hid hm
      have HML := Lib.hid hmL
      have g1 : (0 : Int) ≤ (k : Int) := by omega
      have g2 : (k : Int) < (n : Int) := by omega
      have HB : Hid (At wr (wr.alloc (.cells #[.int .i64 a, .slice B m cb] 56))) := Lib.hid ((At.start wr).alloc _)
      have HC := Lib.hid (heap_alloc_new wr (.cells #[.int .i64 a, .slice B m cb] 56))
      clear hc hx ht hm hmL hg hkP
      go_wp2_with fail
      generalize wr.alloc (.cells #[.int .i64 a, .slice B m cb] 56) = wb at HB HC ⊢
      have c1 : wb.cell? ⟨wr.heap.size, 0, none⟩ = some (.int .i64 a) := (cell_at HC.out 0).trans rfl
      have c2 : wb.cell? ⟨wr.heap.size, 1, none⟩ = some (.slice B m cb) := (cell_at HC.out 1).trans rfl
      have HAB := Lib.hid (HA.out.next HB.out)
      clear HC e1 e2
      by_cases h0 : a < 0
      · have HF : Hid (fz N P = 2) := Lib.hid (fz_bad HM.out fun h => by have := h.1; simp only at this; omega)
        have q0 : decide (a < 0) = true := decide_eq_true h0
        go_quiet (fail)
        go_wp2
        try rw [Exit.noGoto_ret]
        go_ret
        exact ⟨by rw [HF.out]; rfl, HAB.out.drewN _⟩
      · have q0 : decide (a < 0) = false := decide_eq_false h0
        by_cases h1 : N ≤ a
        · have HF : Hid (fz N P = 2) := Lib.hid (fz_bad HM.out fun h => by have := h.2; simp only at this; omega)
          have q1 : decide (N ≤ a) = true := decide_eq_true h1
          go_quiet ((go_at_call 51; exact same_first (HS.out _ (HAB.out.drewN _))))
          go_wp2
          try rw [Exit.noGoto_ret]
          go_ret
          exact ⟨by rw [HF.out]; rfl, HAB.out.drewN _⟩
        · have q1 : decide (N ≤ a) = false := decide_eq_false h1
          have HRR : Hid (∀ j, j < k + 1 → 0 ≤ (P.getD j pz).1 ∧ (P.getD j pz).1 < N) := Lib.hid fun j hj => by
            by_cases e : j = k
            · rw [e, ← HX.out]; exact ⟨by simp only; omega, by simp only; omega⟩
            · exact HR.out j (by omega)
          by_cases h2 : m = 40
          · have HZZ : Hid (z = lz (P.take (k + 1))) := Lib.hid (by rw [HT.out, lz_same (by simp only; rw [← HML.out]; exact h2)]; exact HZ.out)
            have q2 : ((m : Int) != 40) = false := by simp; omega
            go_quiet ((go_at_call 51; exact same_first (HS.out _ (HAB.out.drewN _))))
            go_wp2
            go_roundw
            case rel => exact ⟨k + 1, z, by omega, by go_num, rfl, HZZ, HRR, Lib.hid (HAB.out.drewN _)⟩
            case measure => simp [RowKit.intOf]; omega
          · have HZZ : Hid ((3 : Int) = lz (P.take (k + 1))) := Lib.hid (by rw [HT.out]; exact (lz_bad (List.mem_append_right _ (List.mem_singleton.2 rfl)) (by simp only; rw [← HML.out]; exact h2)).symm)
            have q2 : ((m : Int) != 40) = true := by simp; omega
            go_quiet ((go_at_call 51; exact same_first (HS.out _ (HAB.out.drewN _))))
            go_wp2
            go_roundw
            case rel => exact ⟨k + 1, 3, by omega, by go_num, rfl, HZZ, HRR, Lib.hid (HAB.out.drewN _)⟩
            case measure => simp [RowKit.intOf]; omega
    · have HE : Hid (fz N P = z) := Lib.hid (by
        rw [fz_all fun j hj => HR.out j (by rw [HN.out] at hj; omega), HZ.out, List.take_of_length_le (by rw [HN.out]; omega)])
      have hkn : k = n := by omega
      subst hkn
      go_wp2
      try rw [Exit.noGoto_ret]
      go_ret
      exact ⟨by rw [HE.out]; rfl, HA.out⟩

end Go.Proofs.Ythaiddhbifakhaa
