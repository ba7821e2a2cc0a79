/- Proved: Set hands back a new set of the written blocks; of no buffer an empty one. -/
import Derived.Test.YthaiddhbifakhaaPut
import Derived.Test.YthaiddhbifakhaaIAd
namespace Go.Proofs.Ythaiddhbifakhaa
open Go.RowKit

/-- A block alone as an extent. -/
def sx (u : Nat) : Int × Int := ((u : Int), 1)
def sl (L : List Nat) : List (Int × Int) := L.map sx
theorem sl_len (L : List Nat) : (sl L).length = L.length := List.length_map _
theorem sl_app (L : List Nat) (u : Nat) : sl (L ++ [u]) = sl L ++ [((u : Int), 1)] := by unfold sl; rw [List.map_append]; rfl
/-- A set that a call has made, and what it lies in: all of it is new. -/
structure Se (w w' : World) (b : Nat) (v : Value) (most : Int) (L : List (Int × Int)) : Prop where
  sv : Iv.Sv w' b v most L
  at_ : At w w'
  ft : ∀ g, Iv.Ft b v g → w.heap.size ≤ g
theorem Se.did {w wx w' : World} {b : Nat} {v v' : Value} {most : Int} {L L' : List (Int × Int)} (h : Se w wx b v most L) (hs : Iv.Sv w' b v' most L') (hd : Iv.Did wx b v v' w') : Se w w' b v' most L' :=
  ⟨hs, hd.mv.at_ h.at_ h.ft, fun g hg => (hd.ft g hg).elim (h.ft g) (fun h1 => Nat.le_trans h.at_.size h1)⟩
theorem Se.on {w w1 w2 : World} {b : Nat} {v : Value} {most : Int} {L : List (Int × Int)} (h : Se w w1 b v most L) (ha : At w1 w2) : Se w w2 b v most L := ⟨h.sv.on ha, h.at_.next ha, h.ft⟩
theorem Se.back {w0 w w1 : World} {b : Nat} {v : Value} {most : Int} {L : List (Int × Int)} (h : Se w w1 b v most L) (ha : At w0 w) : Se w0 w1 b v most L := ⟨h.sv, ha.next h.at_, fun g hg => Nat.le_trans ha.size (h.ft g hg)⟩
theorem se_new {most : Int} {w w' : World} {e : Ending} (h : Iv.News most w e w') : e = .returned (.pointer (some ⟨w.heap.size, 0, none⟩)) ∧ Se w w' w.heap.size (.slice none 0 0) most [] := by
  obtain ⟨rfl, hs, ha⟩ := h
  exact ⟨rfl, hs, ha, fun g hg => hg.elim (fun h => Nat.le_of_eq h.symm) (fun h => by cases h)⟩
/-- The call hands back a new set of the blocks L. -/
def Sets (L : List (Int × Int)) (w : World) (e : Ending) (w' : World) : Prop := ∃ b v M, e = .returned (.pointer (some ⟨b, 0, none⟩)) ∧ Se w w' b v 1048576 M ∧ Iv.Is L M
/-- Add of blocks that may be, to a new set of so many at most, takes them in. -/
theorem adds_all {w0 w w' : World} {b : Nat} {v : Value} {l : List (Int × Int)} {e : Ending} (h : Iv.Adds b v 1048576 [] l w e w') (hl : ∀ x ∈ l, Iv.Va x) (hs : Se w0 w b v 1048576 []) : ∃ v' M, e = .returned (.int .i64 0) ∧ Se w0 w' b v' 1048576 M ∧ Iv.Is l M := by
  obtain ⟨c, v', L', rfl, hsv, hd, h1⟩ := h
  rcases h1 with ⟨_, _, h2⟩ | ⟨rfl, _, h2, _⟩ | ⟨_, _, _, M, h2, h3⟩
  · rw [Iv.allB_yes hl] at h2; cases h2
  · rw [List.nil_append] at h2
    exact ⟨v', L', rfl, hs.did hsv hd, h2⟩
  · have := Iv.nm_len h2.1
    omega

set_option maxHeartbeats 2000000 in
set_option maxRecDepth 100000 in
theorem set_bf {w : World} {b mb : Nat} {S : St} (h : Bf w b mb S) (hcount : (us S).length ≤ 400000) :
    Calls Try.prog 17 #[.pointer (some ⟨b, 0, none⟩)] w (Sets (sl (us S)) w) := by
  obtain ⟨i0, hi0, hz0, hz1, hz2⟩ := info_parts Iv.info_ext
  have HL := Lib.hid (lbas_mq h.choose_spec)
  have hn2 := h.ok.n2
  have HU : Hid ((sus S).length = (us S).length) := Lib.hid (by unfold sus; simp)
  have HVA : Hid (∀ x ∈ sl (us S), Iv.Va x) := Lib.hid fun x hx => by
    obtain ⟨k, hk, rfl⟩ := List.mem_map.1 hx
    have := (mem_us.1 hk).1
    unfold sx Iv.Va; simp only; omega
  have HZ := Lib.hid (And.intro hi0 (And.intro hz0 (And.intro hz1 hz2)))
  clear h hi0 hz0 hz1 hz2
  go_enter Try.func17, Try.ntmps17
  go_wp2_with fail
  refine HL.out.mono ?_
  rintro e w1 ⟨v, rfl, hrow, hA⟩
  rw [HU.out] at hrow
  obtain ⟨N, hN⟩ : ∃ N, N = (us S).length := ⟨_, rfl⟩
  rw [← hN] at hrow hcount
  have HN := Lib.hid hN
  obtain ⟨VA, vcap, hvv⟩ : ∃ A c, v = .slice A N c := by
    rcases Joins.ownsRow_forms hrow with ⟨rfl, h0⟩ | ⟨g, cap, rfl⟩
    · exact ⟨none, 0, by rw [h0]⟩
    · exact ⟨_, cap, rfl⟩
  subst hvv
  have HROW := Lib.hid hrow
  have HA1 := Lib.hid hA
  clear hrow hA hN HL
  go_wp2
  go_loopw [3, 10] (fun c3 c10 wr => ∃ (k : Nat) (B : Option Addr) (cb : Nat), k ≤ N ∧ c10 = .int .i64 (k : Int) ∧ c3 = .slice B k cb ∧ Hid (At w1 wr) ∧ Hid (Iv.Ow wr (.slice B k cb) (sl ((us S).take k))) ∧ Hid (∀ g, (Value.slice B k cb).ownBlock = some g → w1.heap.size ≤ g)) (fun _ c10 _ => N - (RowKit.intOf c10).toNat)
  case atStart => exact ⟨0, none, 0, Nat.zero_le _, rfl, rfl, Lib.hid (At.start w1), Lib.hid (Iv.Ow.nil _), Lib.hid fun g hg => by cases hg⟩
  case round =>
    obtain ⟨k, B, cb, hk, rfl, rfl, HA, HO, HG⟩ := hrel
    by_cases hlt : k < N
    · obtain ⟨g, cap, he⟩ := Joins.ownsRow_form HROW.out (by omega)
      injection he with he1 _ he3
      subst he1
      subst he3
      obtain ⟨u, hu⟩ : ∃ u, u = (us S).getD k 0 := ⟨_, rfl⟩
      have hkl : k < (us S).length := by rw [← HN.out]; exact hlt
      have hug : (us S)[k]? = some u := by rw [hu, List.getD_eq_getElem?_getD, List.getElem?_eq_getElem hkl]; rfl
      have hcell := HROW.out.cells (g := g) rfl k (.int .i64 (u : Int)) (by unfold sus; rw [List.map_map, List.getElem?_map, hug]; rfl)
      rw [Go.WideShapes.add_plain, Nat.zero_add] at hcell
      have hc1 : wr.cell? ⟨g, k, none⟩ = some (.int .i64 (u : Int)) := (Below.cell HA.out (p := ⟨g, k, none⟩) (World.block_lt_of_cell? w1 _ hcell)).trans hcell
      have HUG := Lib.hid hug
      have g1 : (0 : Int) ≤ (k : Int) := by omega
      have g2 : (k : Int) < (N : Int) := by omega
      have HTL : Hid (k = (sl ((us S).take k)).length) := Lib.hid (by rw [sl_len, List.length_take]; omega)
      have HAY : Hid (At w1 (wr.alloc (.cells #[.int .i64 (u : Int), .int .i64 1] 75))) := Lib.hid (HA.out.alloc _)
      have HOX : Hid ((wr.alloc (.cells #[.int .i64 (u : Int), .int .i64 1] 75)).ownsRow 0 75 2 (.slice B k cb) k (Iv.fl (sl ((us S).take k)))) := Lib.hid (by have := HO.out.on ((At.start wr).alloc (.cells #[.int .i64 (u : Int), .int .i64 1] 75)); unfold Iv.Ow at this; rw [← HTL.out] at this; exact this)
      clear hu hcell hkl hug
      go_wp2_with (at_builtin; refine wpList_append_own_at _ rfl (.tmp 14) (.tmp 17) 47 rfl 0 75 i0 _ 2 16 Try.underlying47 HZ.out.1 HZ.out.2.1 HZ.out.2.2.1 HZ.out.2.2.2 rfl (by omega) _ k (Iv.fl (sl ((us S).take k))) rfl HOX.out ⟨wr.heap.size, 0, none⟩ 1 1 (Iv.ec ((u : Int), 1)) rfl rfl (Iv.new_ec wr (u : Int) 1) (fun v hu => Iv.fl_cells v [((u : Int), 1)] hu) (by unfold maxLen; omega) (by omega) (Nat.zero_le _) ?_; intro v' w9 hown hgrow hnn hat; obtain ⟨g5, c5, rfl, ha5, hm5, ho5, hb5⟩ := Iv.part_grown HTL.out hown hgrow hat HAY.out HG.out; have HNN := Lib.hid (And.intro ha5 (And.intro ho5 hb5)); clear hown hgrow hnn hat ha5 hm5 ho5 hb5)
      go_roundw
      case rel => exact ⟨k + 1, _, _, by omega, by go_num, rfl, Lib.hid HNN.out.1, Lib.hid (by
        have := HNN.out.2.1
        rw [← sl_app] at this
        have e : (us S).take (k + 1) = (us S).take k ++ [u] := by rw [List.take_add_one, HUG.out]; rfl
        rw [e]; exact this), Lib.hid HNN.out.2.2⟩
      case measure => simp [RowKit.intOf]; omega
    · have hkn : k = N := by omega
      have ht : (us S).take k = us S := List.take_of_length_le (by rw [← HN.out]; omega)
      rw [ht] at HO
      have hz : B = none → k = 0 ∧ cb = 0 := fun e => by
        rcases HO.out.form with ⟨h1, h2⟩ | ⟨g, c', T, h1, _⟩
        · injection h1 with _ e2 e3; exact ⟨e2, e3⟩
        · injection h1 with h2 _ _; rw [h2] at e; cases e
      have hHL : (sl (us S)).length = k := by rw [sl_len, ← HN.out]; omega
      have HEV : Hid (∀ W, At wr W → Iv.EV W B (sl (us S))) := Lib.hid fun W hW => by
        obtain ⟨A', c', e, _, _, hev⟩ := (HO.out.on hW).ev
        injection e with e1 _ _
        rw [e1]; exact hev
      have HZZ := Lib.hid (And.intro hz hHL)
      have HK : Hid (k ≤ 400000) := Lib.hid (by omega)
      clear hz hHL ht hkn
      go_wp2_with fail
      refine (Iv.new_any 1048576 wr).mono ?_
      rintro e w2 hnew
      obtain ⟨rfl, hse⟩ := se_new hnew
      have HSE := Lib.hid hse
      have HAD := Lib.hid (Iv.add_any B k cb (sl (us S)) hse.sv HK.out HZZ.out.1 HZZ.out.2 (HEV.out _ hse.at_))
      clear hnew hse
      go_wp2_with fail
      refine HAD.out.mono ?_
      rintro e w3 hadd
      obtain ⟨v', M, rfl, hs3, his⟩ := adds_all hadd HVA.out HSE.out
      have HE : Hid (Sets (sl (us S)) w (.returned (.pointer (some ⟨wr.heap.size, 0, none⟩))) w3) := Lib.hid ⟨_, v', M, rfl, hs3.back (HA1.out.next HA.out), his⟩
      clear hadd hs3 his
      go_wp2
      go_ret
      exact HE.out

set_option maxHeartbeats 2000000 in
theorem set_nil (w : World) : Calls Try.prog 17 #[.pointer none] w (Sets [] w) := by
  have HL := Lib.hid (lbas_nil w)
  go_enter Try.func17, Try.ntmps17
  go_wp2_with fail
  refine HL.out.mono ?_
  rintro e w1 ⟨rfl, hA⟩
  have HA1 : Hid (At w w1) := Lib.hid hA
  clear hA
  go_wp2
  refine wp_loop_rounds 1 ?_
  rw [rounds_succ]
  go_wp2_with fail
  refine (Iv.new_any 1048576 w1).mono ?_
  rintro e w2 hnew
  obtain ⟨rfl, hse⟩ := se_new hnew
  have HSE := Lib.hid hse
  have HAD := Lib.hid (Iv.add_any none 0 0 [] hse.sv (by omega) (fun _ => ⟨rfl, rfl⟩) rfl (Iv.EV.nil _ _))
  clear hnew hse
  go_wp2_with fail
  refine HAD.out.mono ?_
  rintro e w3 hadd
  obtain ⟨v', M, rfl, hs3, his⟩ := adds_all hadd (fun x hx => by cases hx) HSE.out
  have HE : Hid (Sets [] w (.returned (.pointer (some ⟨w1.heap.size, 0, none⟩))) w3) := Lib.hid ⟨_, v', M, rfl, hs3.back HA1.out, his⟩
  clear hadd hs3 his
  go_wp2
  go_ret
  exact HE.out

end Go.Proofs.Ythaiddhbifakhaa
