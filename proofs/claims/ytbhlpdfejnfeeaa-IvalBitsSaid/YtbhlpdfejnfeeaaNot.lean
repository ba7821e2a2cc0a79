/- Proved: the law IvalNothing answers true for any extent and any number: nothing is no set, and takes nothing in. -/
import Derived.Test.YtbhlpdfejnfeeaaAwk
namespace Go.Proofs.Ytbhlpdfejnfeeaa
open Go.RowKit

theorem ev_one (w : World) (a n : Int) : EV (w.alloc (.cells #[.int .i64 a, .int .i64 n] 28)) (some ⟨w.heap.size, 0, none⟩) [(a, n)] := by
  refine Or.inr ⟨_, _, rfl, by simp, fun j hj => ?_⟩
  obtain rfl : j = 0 := by simpa using hj
  have h := heap_alloc_new w (.cells #[.int .i64 a, .int .i64 n] 28)
  exact ⟨by rw [cell_at h]; rfl, by rw [cell_at h]; rfl⟩
theorem allB_one (a n : Int) : allB [(a, n)] = vaB a n := by
  unfold allB vaB; exact decide_eq_decide.2 (by simp)
theorem allB_nil : allB [] = true := by decide
/-- What a set that takes nothing in answers. -/
theorem zero_add {b : Nat} {v : Value} {a n : Int} {w w' : World} {e : Ending} (h : Adds b v 0 [] [(a, n)] w e w') :
    ∃ v' : Value, e = .returned (.int .i64 (if vaB a n then 7 else 1)) ∧ Sv w' b v' 0 [] ∧ Did w b v v' w' := by
  cases hv : vaB a n with
  | true =>
    have hva := of_decide_eq_true hv
    obtain ⟨v', hd, ⟨h, _⟩ | ⟨_, rfl, hs⟩⟩ := h.known (by rw [allB_one]; exact hv) (M := [(a, n)]) (by rw [List.nil_append]; exact Is.self (Nm.one hva.vm)) (by simp)
    · exact absurd h (by simp)
    · exact ⟨v', rfl, hs, hd⟩
  | false =>
    obtain ⟨c, v', L', rfl, hs, hd, ⟨rfl, rfl, _⟩ | ⟨_, h, _⟩ | ⟨_, _, h, _⟩⟩ := h
    · exact ⟨v', rfl, hs, hd⟩
    · rw [allB_one, hv] at h; cases h
    · rw [allB_one, hv] at h; cases h

set_option maxHeartbeats 2000000 in
set_option maxRecDepth 100000 in
theorem nothing_any (a n k : Int) (w : World) : Calls Try.prog 6 #[.agg #[.int .i64 a, .int .i64 n], .int .i64 k] w (Gives (.bool true) w) := by
  have HC := Lib.hid (heap_alloc_new w (.cells #[.int .i64 a, .int .i64 n] 28))
  have HZ : Hid (∀ W : World, Sv (W.alloc (.cells #[.slice none 0 0, .int .i64 0] 42)) W.heap.size (.slice none 0 0) 0 []) := Lib.hid (fun W => ⟨heap_alloc_new W _, Ow.nil _, Nm.nil⟩)
  have HAN : Hid (∀ W : World, Calls Try.prog 9 #[.pointer none, .slice none 0 0] W (Gives (.int .i64 0) W)) := Lib.hid (fun W => by
    have := add_nil none 0 0 [] W (by omega) rfl (EV.nil _ _)
    rw [allB_nil, if_pos rfl, if_pos rfl] at this; exact this)
  obtain ⟨r, hr⟩ : ∃ r, vaB a n = r := ⟨_, rfl⟩
  have HMY := Lib.hid (may_any a n)
  have HAO : Hid (∀ W : World, Calls Try.prog 9 #[.pointer none, .slice (some ⟨W.heap.size, 0, none⟩) 1 1] (W.alloc (.cells #[.int .i64 a, .int .i64 n] 28)) (Gives (.int .i64 (if r then 7 else 1)) (W.alloc (.cells #[.int .i64 a, .int .i64 n] 28)))) := Lib.hid (fun W => by
    have := add_nil (some ⟨W.heap.size, 0, none⟩) 1 1 [(a, n)] _ (by omega) rfl (ev_one W a n)
    rw [allB_one, hr] at this; cases r <;> exact this)
  rw [hr] at HMY
  have HR := Lib.hid hr
  have HW : Hid (At w (w.alloc (.cells #[.int .i64 a, .int .i64 n] 28)) ∧ (w.alloc (.cells #[.int .i64 a, .int .i64 n] 28)).heap.size = w.heap.size + 1) := Lib.hid ⟨(At.start w).alloc _, by simp⟩
  clear hr
  have HQ : Hid (∀ W, At ((w.alloc (.cells #[.int .i64 a, .int .i64 n] 28)).alloc (.cells #[.slice none 0 0, .int .i64 0] 42)) W → W.heap[w.heap.size]? = some (.cells #[.int .i64 a, .int .i64 n] 28 (0, 0)) ∧ Sv W (w.heap.size + 1) (.slice none 0 0) 0 [] ∧ At w W) := Lib.hid (fun W hW => by
    have h := (HZ.out (w.alloc (.cells #[.int .i64 a, .int .i64 n] 28))).on hW
    rw [HW.out.2] at h
    exact ⟨At.keep hW (At.keep ((At.start _).alloc _) HC.out), h, (HW.out.1.alloc _).next hW⟩)
  have HZA : Hid (∀ W, Sv W (w.heap.size + 1) (.slice none 0 0) 0 [] → Calls Try.prog 9 #[.pointer (some ⟨w.heap.size + 1, 0, none⟩), .slice (some ⟨W.heap.size, 0, none⟩) 1 1] (W.alloc (.cells #[.int .i64 a, .int .i64 n] 28)) (fun e w' => ∃ v' : Value, e = .returned (.int .i64 (if r then 7 else 1)) ∧ Sv w' (w.heap.size + 1) v' 0 [] ∧ Did (W.alloc (.cells #[.int .i64 a, .int .i64 n] 28)) (w.heap.size + 1) (.slice none 0 0) v' w')) := Lib.hid (fun W hs => by
    refine (add_any (some ⟨W.heap.size, 0, none⟩) 1 1 [(a, n)] (hs.on ((At.start W).alloc _)) (by omega) (fun h => by cases h) rfl (ev_one W a n)).mono fun e w' h => ?_
    have := zero_add h
    rwa [HR.out] at this)
  clear HZ HC HR HW
  cases r
  all_goals
    go_enter Try.func6, Try.ntmps6
    go_wp2_with fail
    generalize (w.alloc (.cells #[.int .i64 a, .int .i64 n] 28)).alloc (.cells #[.slice none 0 0, .int .i64 0] 42) = wz at HQ ⊢
    refine (HMY.out _).mono ?_
    rintro e w1 ⟨rfl, hA⟩
    have HA1 : Hid (At wz w1) := Lib.hid hA
    clear hA
    have c1 : w1.cell? ⟨w.heap.size, 0, none⟩ = some (.int .i64 a) := (cell_at (HQ.out _ HA1.out).1 0).trans rfl
    have c2 : w1.cell? ⟨w.heap.size, 1, none⟩ = some (.int .i64 n) := (cell_at (HQ.out _ HA1.out).1 1).trans rfl
    go_wp2_with fail
    refine (HAO.out _).mono ?_
    rintro e w2 ⟨rfl, hA⟩
    have HA2 : Hid (At wz w2) := Lib.hid ((HA1.out.alloc _).next hA)
    clear hA c1 c2
    have c1 : w2.cell? ⟨w.heap.size, 0, none⟩ = some (.int .i64 a) := (cell_at (HQ.out _ HA2.out).1 0).trans rfl
    have c2 : w2.cell? ⟨w.heap.size, 1, none⟩ = some (.int .i64 n) := (cell_at (HQ.out _ HA2.out).1 1).trans rfl
    go_wp2_with fail
    refine (HZA.out _ (HQ.out _ HA2.out).2.1).mono ?_
    rintro e w3 ⟨v3, rfl, hs3, hd3⟩
    have HS3 := Lib.hid hs3
    have HE3 : Hid (w3.heap[w.heap.size]? = some (.cells #[.int .i64 a, .int .i64 n] 28 (0, 0))) := Lib.hid (hd3.mv.keep (At.keep ((At.start w2).alloc _) (HQ.out _ HA2.out).1) (by
      rintro (h | h)
      · omega
      · cases h))
    have HA3 : Hid (At w w3) := Lib.hid (hd3.mv.at_ ((HQ.out _ HA2.out).2.2.alloc _) (by
      rintro g (h | h)
      · omega
      · cases h))
    clear hs3 hd3 c1 c2
    go_wp2_with fail
    refine (HAN.out _).mono ?_
    rintro e w4 ⟨rfl, hA⟩
    have HA4 : Hid (At w3 w4) := Lib.hid hA
    clear hA
    go_wp2_with fail
    refine (has_nil _ _).mono ?_
    rintro e w5 ⟨rfl, hA⟩
    have HA5 : Hid (At w3 w5) := Lib.hid (HA4.out.next hA)
    clear hA
    have c1 : w5.cell? ⟨w.heap.size, 0, none⟩ = some (.int .i64 a) := (cell_at (HA5.out.keep HE3.out) 0).trans rfl
    have c2 : w5.cell? ⟨w.heap.size, 1, none⟩ = some (.int .i64 n) := (cell_at (HA5.out.keep HE3.out) 1).trans rfl
    go_wp2_with fail
    refine (meets_nil _ _ _).mono ?_
    rintro e w6 ⟨rfl, hA⟩
    have HA6 : Hid (At w3 w6) := Lib.hid (HA5.out.next hA)
    clear hA c1 c2
    go_wp2_with fail
    refine (crosses_nil (HS3.out.on HA6.out)).mono ?_
    rintro e w7 ⟨rfl, hA⟩
    have HA7 : Hid (At w3 w7) := Lib.hid (HA6.out.next hA)
    clear hA
    go_wp2_with fail
    refine (count_nil _).mono ?_
    rintro e w8 ⟨rfl, hA⟩
    have HA8 : Hid (At w3 w8) := Lib.hid (HA7.out.next hA)
    clear hA
    go_wp2_with fail
    refine (extents_any (HS3.out.on HA8.out) (by simp)).mono ?_
    rintro e w9 ⟨v9, rfl, ho, ha, _⟩
    have HA9 : Hid (At w3 w9) := Lib.hid (HA8.out.next ha)
    obtain ⟨A9, c9, rfl, _, _, _⟩ := ho.ev
    clear ho ha
    go_wp2_with fail
    refine (awake_any _).mono ?_
    rintro e wX ⟨rfl, hA⟩
    have HAX : Hid (At w wX) := Lib.hid (HA3.out.next (HA9.out.next hA))
    clear hA
    go_wp2
    go_ret
    exact ⟨rfl, HAX.out⟩

end Go.Proofs.Ytbhlpdfejnfeeaa
