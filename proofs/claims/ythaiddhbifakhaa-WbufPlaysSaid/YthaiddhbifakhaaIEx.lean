/- Proved: Extents, Count and Crosses of a set. -/
import Derived.Test.YthaiddhbifakhaaISt
namespace Go.Proofs.Ythaiddhbifakhaa.Iv
open Go.RowKit

theorem extents_any {w : World} {b : Nat} {v : Value} {most : Int} {L : List (Int × Int)} (h : Sv w b v most L) (hl : L.length ≤ 1000000) :
    Calls Try.prog 22 #[.pointer (some ⟨b, 0, none⟩)] w (Makes L w) := by
  have HL := Lib.hid (list_any h)
  obtain ⟨A, c, rfl, hnc, hcm, hev⟩ := h.row.ev
  have hz : A = none → L.length = 0 ∧ c = 0 := fun e => by
    subst e
    rcases h.row.form with ⟨h1, h2⟩ | ⟨g, c', T, h1, _⟩
    · injection h1 with _ e2 e3; exact ⟨e2, e3⟩
    · injection h1 with e1 _ _; cases e1
  have HC := Lib.hid (clone_any A L.length c L w hl hz rfl hev)
  generalize L.length = n at *
  clear h hev hz
  go_enter Try.func22, Try.ntmps22
  go_wp2_with fail
  refine HL.out.mono ?_
  rintro e w' ⟨rfl, rfl⟩
  go_wp2_with fail
  refine HC.out.mono ?_
  rintro e w' ⟨v, rfl, hm⟩
  have HM := Lib.hid hm
  clear hm
  go_wp2
  go_ret
  exact ⟨v, rfl, HM.out⟩
theorem extents_nil (w : World) : Calls Try.prog 22 #[.pointer none] w (Makes [] w) := by
  have HC := Lib.hid (clone_any none 0 0 [] w (by omega) (fun _ => ⟨rfl, rfl⟩) rfl (EV.nil _ _))
  go_enter Try.func22, Try.ntmps22
  go_wp2_with fail
  refine (list_nil _).mono ?_
  rintro e w' ⟨rfl, rfl⟩
  go_wp2_with fail
  refine HC.out.mono ?_
  rintro e w' ⟨v, rfl, hm⟩
  have HM := Lib.hid hm
  clear hm
  go_wp2
  go_ret
  exact ⟨v, rfl, HM.out⟩

theorem count_nil (w : World) : Calls Try.prog 26 #[.pointer none] w (Gives (.int .i64 0) w) := by
  go_enter Try.func26, Try.ntmps26
  go_wp2_with fail
  refine (list_nil _).mono ?_
  rintro e w' ⟨rfl, rfl⟩
  go_wp2
  refine wp_loop_rounds 1 ?_
  rw [rounds_succ]
  go_wp2
  go_ret
  exact ⟨rfl, At.start _⟩

set_option maxHeartbeats 1000000 in
set_option maxRecDepth 100000 in
theorem count_any {w : World} {b : Nat} {v : Value} {most : Int} {L : List (Int × Int)} (h : Sv w b v most L) (hl : L.length ≤ 1000000) :
    Calls Try.prog 26 #[.pointer (some ⟨b, 0, none⟩)] w (Gives (.int .i64 (sm L)) w) := by
  have HL := Lib.hid (list_any h)
  obtain ⟨A, c, rfl, hnc, hcm, hev⟩ := h.row.ev
  obtain ⟨n, hn⟩ : ∃ n, n = L.length := ⟨_, rfl⟩
  rw [← hn] at HL hl hnc
  have HN := Lib.hid hn
  have HNM := Lib.hid h.nm
  have HEV := Lib.hid hev
  have HSM : Hid (∀ k, 0 ≤ sm (L.take k) ∧ sm (L.take k) ≤ 1048577) := Lib.hid (fun k => sm_le (nm_take h.nm k))
  clear h hev hn
  go_enter Try.func26, Try.ntmps26
  go_wp2_with fail
  refine HL.out.mono ?_
  rintro e w' ⟨rfl, rfl⟩
  go_wp2
  go_loopw [3, 9] (fun s i wr => ∃ (k : Nat) (z : Int), k ≤ n ∧ i = .int .i64 (k : Int) ∧ s = .int .i64 z ∧ Hid (z = sm (L.take k)) ∧ Hid (At w wr)) (fun _ i _ => n - (intOf i).toNat)
  case atStart => exact ⟨0, 0, by omega, rfl, rfl, Lib.hid rfl, Lib.hid (At.start w)⟩
  case round =>
    obtain ⟨k, z, hk, rfl, rfl, HZ, HA⟩ := hrel
    by_cases hlt : k < n
    · obtain ⟨g, o, rfl, hg, hc⟩ := HEV.out.pos (by rw [← HN.out]; omega)
      have hck := hc k (by rw [← HN.out]; exact hlt)
      have c1 : wr.cell? ⟨g, o + k * 2, none⟩ = some (.int .i64 (L.getD k (0, 0)).1) := (Below.cell HA.out (p := ⟨g, o + k * 2, none⟩) hg).trans hck.1
      have c2 : wr.cell? ⟨g, o + k * 2 + 1, none⟩ = some (.int .i64 (L.getD k (0, 0)).2) := (Below.cell HA.out (p := ⟨g, o + k * 2 + 1, none⟩) hg).trans hck.2
      have hst := sm_take L k (by rw [← HN.out]; exact hlt)
      have hb1 := HSM.out k
      have hb2 := HSM.out (k + 1)
      obtain ⟨p, hp⟩ : ∃ p, L.getD k (0, 0) = p := ⟨_, rfl⟩
      rw [hp] at c1 c2 hst
      obtain ⟨x, y⟩ := p
      simp only at c1 c2 hst
      rw [hst, ← HZ.out] at hb2
      rw [← HZ.out] at hb1 hst
      have q1 : (0 : Int) ≤ (k : Int) := by omega
      have q2 : (k : Int) < (n : Int) := by omega
      have q3 : IntKind.i64.wrap (z + y) = z + y := IntWalk.i64_in _ (by omega)
      have HST := Lib.hid hst
      clear hst hc hck hp
      go_wp2
      go_roundw
      case rel => exact ⟨k + 1, z + y, by omega, by go_num, rfl, Lib.hid HST.out.symm, Lib.hid (HA.out.alloc _)⟩
      case measure => simp [intOf]; omega
    · obtain rfl : k = n := by omega
      go_wp2
      go_ret
      have : L.take k = L := List.take_of_length_le (by rw [← HN.out]; exact Nat.le_refl _)
      rw [this] at HZ
      exact ⟨by rw [HZ.out]; rfl, HA.out⟩

/-- Whether one of L's extents has a block of K. -/
def crB (K L : List (Int × Int)) : Bool := L.any fun e => shB K e.1 e.2
theorem cr_iff {K L : List (Int × Int)} (hK : ∀ e ∈ K, Vm e) (hL : ∀ e ∈ L, Vm e) : crB K L = true ↔ ∃ x, In L x ∧ In K x := by
  unfold crB
  rw [List.any_eq_true]
  constructor
  · rintro ⟨e, he, h⟩
    have v := hL e he
    obtain ⟨x, h1, h2⟩ := (sh_iff hK v.2.1).1 h
    exact ⟨x, ⟨e, he, (in_one _ _).1 h1⟩, h2⟩
  · rintro ⟨x, ⟨e, he, h1⟩, h2⟩
    exact ⟨e, he, (sh_iff hK (hL e he).2.1).2 ⟨x, (in_one _ _).2 h1, h2⟩⟩

/-- The place that IndexFunc tells. -/
def Idx (K L : List (Int × Int)) (w : World) (e : Ending) (w' : World) : Prop := ∃ z : Int, e = .returned (.int .i64 z) ∧ -1 ≤ z ∧ z ≤ 1000000 ∧ (0 ≤ z ↔ crB K L = true) ∧ At w w'
end Go.Proofs.Ythaiddhbifakhaa.Iv
