/- Proved: scarpalike.Extents tells whether two lists are one; awake answers true and writes only what is new. -/
import Derived.Test.YthaiddhbifakhaaIAd
import Derived.Test.YthaiddhbifakhaaIEx
namespace Go.Proofs.Ythaiddhbifakhaa.Iv
open Go.RowKit

/-- Whether two lists are one. -/
def esB (L M : List (Int × Int)) : Bool := decide (L = M)
set_option maxHeartbeats 1000000 in
set_option maxRecDepth 100000 in
theorem same_any (A B : Option Addr) (n c m d : Nat) (L M : List (Int × Int)) (w : World) (hn : n ≤ 1000000) (hm : m ≤ 1000000) (hl : L.length = n) (hl' : M.length = m) (hx : EV w A L) (hy : EV w B M) :
    Calls Try.prog 21 #[.slice A n c, .slice B m d] w (Gives (.bool (esB L M)) w) := by
  have HL := Lib.hid hl
  have HM := Lib.hid hl'
  have HX := Lib.hid hx
  have HY := Lib.hid hy
  clear hl hl' hx hy
  by_cases hnm : n = m
  · subst hnm
    go_enter Try.func21, Try.ntmps21
    go_wp2
    go_loopw [5] (fun i wr => ∃ k : Nat, k ≤ n ∧ i = .int .i64 (k : Int) ∧ Hid (At w wr) ∧ Hid (∀ j, j < k → L.getD j (0, 0) = M.getD j (0, 0))) (fun i _ => n - (intOf i).toNat)
    case atStart => exact ⟨0, by omega, rfl, Lib.hid (At.start w), Lib.hid (fun j hj => absurd hj (by omega))⟩
    case round =>
      obtain ⟨k, hk, rfl, HA, HF⟩ := hrel
      by_cases hlt : k < n
      · obtain ⟨g, o, rfl, hg, hc⟩ := HX.out.pos (by rw [HL.out]; omega)
        obtain ⟨g', o', rfl, hg', hc'⟩ := HY.out.pos (by rw [HM.out]; omega)
        have h1 := hc k (by rw [HL.out]; exact hlt)
        have h2 := hc' k (by rw [HM.out]; exact hlt)
        have c1 : wr.cell? ⟨g, o + k * 2, none⟩ = some (.int .i64 (L.getD k (0, 0)).1) := (Below.cell HA.out (p := ⟨g, o + k * 2, none⟩) hg).trans h1.1
        have c2 : wr.cell? ⟨g, o + k * 2 + 1, none⟩ = some (.int .i64 (L.getD k (0, 0)).2) := (Below.cell HA.out (p := ⟨g, o + k * 2 + 1, none⟩) hg).trans h1.2
        have c3 : wr.cell? ⟨g', o' + k * 2, none⟩ = some (.int .i64 (M.getD k (0, 0)).1) := (Below.cell HA.out (p := ⟨g', o' + k * 2, none⟩) hg').trans h2.1
        have c4 : wr.cell? ⟨g', o' + k * 2 + 1, none⟩ = some (.int .i64 (M.getD k (0, 0)).2) := (Below.cell HA.out (p := ⟨g', o' + k * 2 + 1, none⟩) hg').trans h2.2
        obtain ⟨p, hp⟩ : ∃ p, L.getD k (0, 0) = p := ⟨_, rfl⟩
        obtain ⟨q, hq⟩ : ∃ q, M.getD k (0, 0) = q := ⟨_, rfl⟩
        rw [hp] at c1 c2
        rw [hq] at c3 c4
        obtain ⟨x, y⟩ := p
        obtain ⟨x', y'⟩ := q
        simp only at c1 c2 c3 c4
        have HP := Lib.hid hp
        have HQ := Lib.hid hq
        have q1 : (0 : Int) ≤ (k : Int) := by omega
        have q2 : (k : Int) < (n : Int) := by omega
        have HN : Hid (∀ z, At w (wr.drewN z)) := Lib.hid (fun z => HA.out.drewN z)
        clear hc hc' h1 h2 hp hq
        by_cases he : x = x' ∧ y = y'
        · obtain ⟨rfl, rfl⟩ := he
          go_wp2
          go_quiet (fail)
          go_wp2
          go_roundw
          case rel => exact ⟨k + 1, by omega, by go_num, Lib.hid (HN.out _), Lib.hid (fun j hj => by
            by_cases e : j = k
            · subst e; rw [HP.out, HQ.out]
            · exact HF.out j (by omega))⟩
          case measure => simp [intOf]; omega
        · have hes : esB L M = false := decide_eq_false (fun e => he (by
            have := HP.out; rw [e, HQ.out] at this
            injection this with e1 e2; exact ⟨e1.symm, e2.symm⟩))
          have HES := Lib.hid hes
          clear hes
          by_cases hx1 : x = x'
          · subst hx1
            have hy1 : (y == y') = false := by simp; exact fun e => he ⟨rfl, e⟩
            go_wp2
            go_quiet (fail)
            go_wp2
            go_ret
            exact ⟨by rw [HES.out]; rfl, HN.out _⟩
          · have hx2 : (x == x') = false := by simp [hx1]
            go_wp2
            go_quiet (fail)
            go_wp2
            go_ret
            exact ⟨by rw [HES.out]; rfl, HN.out _⟩
      · have hes : esB L M = true := decide_eq_true (List.ext_getElem (by rw [HL.out, HM.out]) fun j h1 h2 => by
          have := HF.out j (by rw [HL.out] at h1; omega)
          rwa [List.getD_eq_getElem?_getD, List.getD_eq_getElem?_getD, List.getElem?_eq_getElem h1, List.getElem?_eq_getElem h2] at this)
        have HES := Lib.hid hes
        clear hes
        go_wp2
        go_ret
        exact ⟨by rw [HES.out]; rfl, HA.out⟩
  · have hes : esB L M = false := decide_eq_false (fun e => hnm (by rw [← HL.out, ← HM.out, e]))
    have hne : ((n : Int) == (m : Int)) = false := by simp; omega
    have HES := Lib.hid hes
    clear hes
    go_enter Try.func21, Try.ntmps21
    go_wp2
    go_ret
    exact ⟨by rw [HES.out]; rfl, At.start _⟩

theorem awk_is : Is ([] ++ [(1, 2), (3, 1)]) [(1, 3)] := by
  refine ⟨Nm.one (by unfold Vm; simp), fun x => ?_⟩
  rw [List.nil_append, in_one, in_cons, in_one]; simp only; omega
theorem awk_ok : allB [(1, 2), (3, 1)] = true := by decide
theorem awk_cells (w : World) : EV (w.alloc (.cells #[.int .i64 1, .int .i64 2, .int .i64 3, .int .i64 1] 75)) (some ⟨w.heap.size, 0, none⟩) [(1, 2), (3, 1)] := by
  refine Or.inr ⟨_, _, rfl, by simp, fun j hj => ?_⟩
  have hj : j < 2 := hj
  have h := heap_alloc_new w (.cells #[.int .i64 1, .int .i64 2, .int .i64 3, .int .i64 1] 75)
  match j, hj with
  | 0, _ => exact ⟨by rw [cell_at h]; rfl, by rw [cell_at h]; rfl⟩
  | 1, _ => exact ⟨by rw [cell_at h]; rfl, by rw [cell_at h]; rfl⟩

end Go.Proofs.Ythaiddhbifakhaa.Iv
