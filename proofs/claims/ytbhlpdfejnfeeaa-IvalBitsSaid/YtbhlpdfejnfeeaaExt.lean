/- Proved: Extents, Count and Crosses of a set. -/
import Derived.Test.YtbhlpdfejnfeeaaMee
namespace Go.Proofs.Ytbhlpdfejnfeeaa
open Go.RowKit

theorem extents_any {w : World} {b : Nat} {v : Value} {most : Int} {L : List (Int × Int)} (h : Sv w b v most L) (hl : L.length ≤ 1000000) :
    Calls Try.prog 11 #[.pointer (some ⟨b, 0, none⟩)] w (Makes L w) := by
  have HL := Lib.hid (list_any h)
  obtain ⟨A, c, rfl, hnc, hcm, hev⟩ := h.row.ev
  have hz : A = none → L.length = 0 ∧ c = 0 := fun e => by
    subst e
    rcases h.row.form with ⟨h1, h2⟩ | ⟨g, c', T, h1, _⟩
    · injection h1 with _ e2 e3; exact ⟨e2, e3⟩
    · injection h1 with e1 _ _; cases e1
  have HC := Lib.hid (clone_any A L.length c L w hl hz rfl hev)
  generalize L.length = n at *
  clear h hev hz
  go_enter Try.func11, Try.ntmps11
  go_wp2_with fail
  refine HL.out.mono ?_
  rintro e w' ⟨rfl, rfl⟩
  go_wp2_with fail
  refine HC.out.mono ?_
  rintro e w' ⟨v, rfl, hm⟩
  have HM := Lib.hid hm
  clear hm
  go_wp2
  go_ret
  exact ⟨v, rfl, HM.out⟩
theorem extents_nil (w : World) : Calls Try.prog 11 #[.pointer none] w (Makes [] w) := by
  have HC := Lib.hid (clone_any none 0 0 [] w (by omega) (fun _ => ⟨rfl, rfl⟩) rfl (EV.nil _ _))
  go_enter Try.func11, Try.ntmps11
  go_wp2_with fail
  refine (list_nil _).mono ?_
  rintro e w' ⟨rfl, rfl⟩
  go_wp2_with fail
  refine HC.out.mono ?_
  rintro e w' ⟨v, rfl, hm⟩
  have HM := Lib.hid hm
  clear hm
  go_wp2
  go_ret
  exact ⟨v, rfl, HM.out⟩

theorem count_nil (w : World) : Calls Try.prog 12 #[.pointer none] w (Gives (.int .i64 0) w) := by
  go_enter Try.func12, Try.ntmps12
  go_wp2_with fail
  refine (list_nil _).mono ?_
  rintro e w' ⟨rfl, rfl⟩
  go_wp2
  refine wp_loop_rounds 1 ?_
  rw [rounds_succ]
  go_wp2
  go_ret
  exact ⟨rfl, At.start _⟩

set_option maxHeartbeats 1000000 in
set_option maxRecDepth 100000 in
theorem count_any {w : World} {b : Nat} {v : Value} {most : Int} {L : List (Int × Int)} (h : Sv w b v most L) (hl : L.length ≤ 1000000) :
    Calls Try.prog 12 #[.pointer (some ⟨b, 0, none⟩)] w (Gives (.int .i64 (sm L)) w) := by
  have HL := Lib.hid (list_any h)
  obtain ⟨A, c, rfl, hnc, hcm, hev⟩ := h.row.ev
  obtain ⟨n, hn⟩ : ∃ n, n = L.length := ⟨_, rfl⟩
  rw [← hn] at HL hl hnc
  have HN := Lib.hid hn
  have HNM := Lib.hid h.nm
  have HEV := Lib.hid hev
  have HSM : Hid (∀ k, 0 ≤ sm (L.take k) ∧ sm (L.take k) ≤ 1048577) := Lib.hid (fun k => sm_le (nm_take h.nm k))
  clear h hev hn
  go_enter Try.func12, Try.ntmps12
  go_wp2_with fail
  refine HL.out.mono ?_
  rintro e w' ⟨rfl, rfl⟩
  go_wp2
  go_loopw [3, 9] (fun s i wr => ∃ (k : Nat) (z : Int), k ≤ n ∧ i = .int .i64 (k : Int) ∧ s = .int .i64 z ∧ Hid (z = sm (L.take k)) ∧ Hid (At w wr)) (fun _ i _ => n - (intOf i).toNat)
  case atStart => exact ⟨0, 0, by omega, rfl, rfl, Lib.hid rfl, Lib.hid (At.start w)⟩
  case round =>
    obtain ⟨k, z, hk, rfl, rfl, HZ, HA⟩ := hrel
    by_cases hlt : k < n
    · obtain ⟨g, o, rfl, hg, hc⟩ := HEV.out.pos (by rw [← HN.out]; omega)
      have hck := hc k (by rw [← HN.out]; exact hlt)
      have c1 : wr.cell? ⟨g, o + k * 2, none⟩ = some (.int .i64 (L.getD k (0, 0)).1) := (Below.cell HA.out (p := ⟨g, o + k * 2, none⟩) hg).trans hck.1
      have c2 : wr.cell? ⟨g, o + k * 2 + 1, none⟩ = some (.int .i64 (L.getD k (0, 0)).2) := (Below.cell HA.out (p := ⟨g, o + k * 2 + 1, none⟩) hg).trans hck.2
      have hst := sm_take L k (by rw [← HN.out]; exact hlt)
      have hb1 := HSM.out k
      have hb2 := HSM.out (k + 1)
      obtain ⟨p, hp⟩ : ∃ p, L.getD k (0, 0) = p := ⟨_, rfl⟩
      rw [hp] at c1 c2 hst
      obtain ⟨x, y⟩ := p
      simp only at c1 c2 hst
      rw [hst, ← HZ.out] at hb2
      rw [← HZ.out] at hb1 hst
      have q1 : (0 : Int) ≤ (k : Int) := by omega
      have q2 : (k : Int) < (n : Int) := by omega
      have q3 : IntKind.i64.wrap (z + y) = z + y := IntWalk.i64_in _ (by omega)
      have HST := Lib.hid hst
      clear hst hc hck hp
      go_wp2
      go_roundw
      case rel => exact ⟨k + 1, z + y, by omega, by go_num, rfl, Lib.hid HST.out.symm, Lib.hid (HA.out.alloc _)⟩
      case measure => simp [intOf]; omega
    · obtain rfl : k = n := by omega
      go_wp2
      go_ret
      have : L.take k = L := List.take_of_length_le (by rw [← HN.out]; exact Nat.le_refl _)
      rw [this] at HZ
      exact ⟨by rw [HZ.out]; rfl, HA.out⟩

/-- Whether one of L's extents has a block of K. -/
def crB (K L : List (Int × Int)) : Bool := L.any fun e => shB K e.1 e.2
theorem cr_iff {K L : List (Int × Int)} (hK : ∀ e ∈ K, Vm e) (hL : ∀ e ∈ L, Vm e) : crB K L = true ↔ ∃ x, In L x ∧ In K x := by
  unfold crB
  rw [List.any_eq_true]
  constructor
  · rintro ⟨e, he, h⟩
    have v := hL e he
    obtain ⟨x, h1, h2⟩ := (sh_iff hK v.2.1).1 h
    exact ⟨x, ⟨e, he, (in_one _ _).1 h1⟩, h2⟩
  · rintro ⟨x, ⟨e, he, h1⟩, h2⟩
    exact ⟨e, he, (sh_iff hK (hL e he).2.1).2 ⟨x, (in_one _ _).2 h1, h2⟩⟩

/-- The place that IndexFunc tells. -/
def Idx (K L : List (Int × Int)) (w : World) (e : Ending) (w' : World) : Prop := ∃ z : Int, e = .returned (.int .i64 z) ∧ -1 ≤ z ∧ z ≤ 1000000 ∧ (0 ≤ z ↔ crB K L = true) ∧ At w w'
set_option maxHeartbeats 1000000 in
set_option maxRecDepth 100000 in
theorem index_any {w : World} {b : Nat} {v : Value} {most : Int} {K : List (Int × Int)} (h : Sv w b v most K) (hk : K.length ≤ 1000000) (A : Option Addr) (n c : Nat) (L : List (Int × Int)) (hn : n ≤ 1000000) (hl : L.length = n) (hx : EV w A L) (hv : ∀ e ∈ L, Vm e) :
    Calls Try.prog 43 #[.slice A n c, .func (.func 30) #[.pointer (some ⟨b, 0, none⟩)] #[]] w (Idx K L w) := by
  have HS := Lib.hid h
  have HV := Lib.hid hv
  have HL := Lib.hid hl
  have HX := Lib.hid hx
  clear h hv hl hx
  go_enter Try.func43, Try.ntmps43
  go_wp2
  go_loopw [8] (fun i wr => ∃ k : Nat, k ≤ n ∧ i = .int .i64 (k : Int) ∧ Hid (At w wr) ∧ Hid (∀ j, j < k → shB K (L.getD j (0, 0)).1 (L.getD j (0, 0)).2 = false)) (fun i _ => n - (intOf i).toNat)
  case atStart => exact ⟨0, by omega, rfl, Lib.hid (At.start w), Lib.hid (fun j hj => absurd hj (by omega))⟩
  case round =>
    obtain ⟨k, hkn, rfl, HA, HF⟩ := hrel
    by_cases hlt : k < n
    · obtain ⟨g, o, rfl, hg, hc⟩ := HX.out.pos (by rw [HL.out]; omega)
      have hck := hc k (by rw [HL.out]; exact hlt)
      have c1 : wr.cell? ⟨g, o + k * 2, none⟩ = some (.int .i64 (L.getD k (0, 0)).1) := (Below.cell HA.out (p := ⟨g, o + k * 2, none⟩) hg).trans hck.1
      have c2 : wr.cell? ⟨g, o + k * 2 + 1, none⟩ = some (.int .i64 (L.getD k (0, 0)).2) := (Below.cell HA.out (p := ⟨g, o + k * 2 + 1, none⟩) hg).trans hck.2
      have hve := HV.out _ (getD_mem (show k < L.length by rw [HL.out]; exact hlt))
      have hmem := getD_mem (show k < L.length by rw [HL.out]; exact hlt)
      obtain ⟨p, hp⟩ : ∃ p, L.getD k (0, 0) = p := ⟨_, rfl⟩
      rw [hp] at c1 c2 hve hmem
      obtain ⟨x, y⟩ := p
      simp only at c1 c2
      have HSH := Lib.hid (shares_any (HS.out.on HA.out) hk x y hve)
      have HP := Lib.hid hp
      have HME := Lib.hid hmem
      have q1 : (0 : Int) ≤ (k : Int) := by omega
      have q2 : (k : Int) < (n : Int) := by omega
      clear hc hck hp hve hmem
      cases hb : shB K x y with
      | true =>
        have HB := Lib.hid hb
        rw [hb] at HSH
        clear hb
        go_wp2_with fail
        refine HSH.out.mono ?_
        rintro e w' ⟨rfl, hA⟩
        have HA2 := Lib.hid (HA.out.next hA)
        clear hA
        go_wp2
        go_ret
        exact ⟨(k : Int), rfl, by omega, by omega, ⟨fun _ => List.any_eq_true.2 ⟨_, HME.out, HB.out⟩, fun _ => by omega⟩, HA2.out⟩
      | false =>
        have HB := Lib.hid hb
        rw [hb] at HSH
        clear hb
        go_wp2_with fail
        refine HSH.out.mono ?_
        rintro e w' ⟨rfl, hA⟩
        have HA2 := Lib.hid (HA.out.next hA)
        clear hA
        go_wp2
        go_roundw
        case rel => exact ⟨k + 1, by omega, by go_num, Lib.hid HA2.out, Lib.hid (fun j hj => by
          by_cases e : j = k
          · subst e; rw [HP.out]; exact HB.out
          · exact HF.out j (by omega))⟩
        case measure => simp [intOf]; omega
    · go_wp2
      go_ret
      refine ⟨-1, rfl, by omega, by omega, ⟨fun h => absurd h (by omega), fun h => ?_⟩, HA.out⟩
      obtain ⟨e, he, h⟩ := List.any_eq_true.1 h
      obtain ⟨j, hj, rfl⟩ := List.mem_iff_getElem.1 he
      have := HF.out j (by rw [HL.out] at hj; omega)
      rw [List.getD_eq_getElem?_getD, List.getElem?_eq_getElem hj] at this
      rw [Option.getD_some, h] at this; cases this

set_option maxHeartbeats 1000000 in
set_option maxRecDepth 100000 in
theorem contains_any {w : World} (g : Nat) (bs : Array Value) (A : Option Addr) (n c : Nat) (K L : List (Int × Int))
    (h : Calls Try.prog 43 #[.slice A n c, .func (.func g) bs #[]] w (Idx K L w)) :
    Calls Try.prog 29 #[.slice A n c, .func (.func g) bs #[]] w (Gives (.bool (crB K L)) w) := by
  have HI := Lib.hid h
  clear h
  go_enter Try.func29, Try.ntmps29
  go_wp2_with fail
  refine HI.out.mono ?_
  rintro e w1 ⟨z, rfl, z1, z2, hz, hA⟩
  have HA := Lib.hid hA
  clear hA
  cases hc : crB K L with
  | true =>
    have hz0 : (0 : Int) ≤ z := hz.2 hc
    have HC := Lib.hid hc
    clear hz hc
    go_wp2
    go_ret
    exact ⟨by rw [HC.out]; rfl, HA.out⟩
  | false =>
    have hz0 : decide ((0 : Int) ≤ z) = false := decide_eq_false (fun h => by rw [hz.1 h] at hc; cases hc)
    have HC := Lib.hid hc
    clear hz hc
    go_wp2
    go_ret
    exact ⟨by rw [HC.out]; rfl, HA.out⟩

set_option maxHeartbeats 1000000 in
set_option maxRecDepth 100000 in
theorem crosses_any {w : World} {b : Nat} {v : Value} {most : Int} {K : List (Int × Int)} (h : Sv w b v most K) (hk : K.length ≤ 1000000) {b' : Nat} {v' : Value} {most' : Int} {L : List (Int × Int)} (h' : Sv w b' v' most' L) (hl : L.length ≤ 1000000) :
    Calls Try.prog 13 #[.pointer (some ⟨b, 0, none⟩), .pointer (some ⟨b', 0, none⟩)] w (Gives (.bool (crB K L)) w) := by
  have HL := Lib.hid (list_any h')
  obtain ⟨A, c, rfl, hnc, hcm, hev⟩ := h'.row.ev
  have HI := Lib.hid (contains_any _ _ A L.length c K L (index_any h hk A L.length c L hl rfl hev h'.nm.1))
  generalize L.length = n at *
  clear h h' hev
  go_enter Try.func13, Try.ntmps13
  go_wp2_with fail
  refine HL.out.mono ?_
  rintro e w' ⟨rfl, rfl⟩
  go_wp2_with fail
  refine HI.out.mono ?_
  rintro e w1 ⟨rfl, hA⟩
  have HA := Lib.hid hA
  clear hA
  go_wp2
  go_ret
  exact ⟨rfl, HA.out⟩

/-- Nothing crosses no extents. -/
theorem index_none (A : Option Addr) (c g : Nat) (bs : Array Value) (K : List (Int × Int)) (w : World) :
    Calls Try.prog 43 #[.slice A 0 c, .func (.func g) bs #[]] w (Idx K [] w) := by
  go_enter Try.func43, Try.ntmps43
  go_wp2
  refine wp_loop_rounds 1 ?_
  rw [rounds_succ]
  go_wp2
  go_ret
  exact ⟨-1, rfl, by omega, by omega, ⟨fun h => absurd h (by omega), fun h => by cases h⟩, At.start _⟩
set_option maxHeartbeats 1000000 in
set_option maxRecDepth 100000 in
theorem crosses_nil {w : World} {b' : Nat} {v' : Value} {most' : Int} (h' : Sv w b' v' most' []) :
    Calls Try.prog 13 #[.pointer none, .pointer (some ⟨b', 0, none⟩)] w (Gives (.bool false) w) := by
  have HL := Lib.hid (list_any h')
  obtain ⟨A, c, rfl, _, _, _⟩ := h'.row.ev
  rw [List.length_nil] at HL
  have HI : Hid (Calls Try.prog 29 #[.slice A 0 c, .func (.func 30) #[.pointer none] #[]] w (Gives (.bool false) w)) := Lib.hid (contains_any _ _ A 0 c [] [] (index_none A c _ _ _ w))
  clear h'
  go_enter Try.func13, Try.ntmps13
  go_wp2_with fail
  refine HL.out.mono ?_
  rintro e w' ⟨rfl, rfl⟩
  go_wp2_with fail
  refine HI.out.mono ?_
  rintro e w1 ⟨rfl, hA⟩
  have HA := Lib.hid hA
  clear hA
  go_wp2
  go_ret
  exact ⟨rfl, HA.out⟩

end Go.Proofs.Ytbhlpdfejnfeeaa
