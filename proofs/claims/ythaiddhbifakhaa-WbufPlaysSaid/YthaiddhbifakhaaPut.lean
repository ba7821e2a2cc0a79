/- Proved: Puts tells the written blocks in rising order, in memory of its own; of no buffer none. -/
import Derived.Test.YthaiddhbifakhaaKey
import Derived.Test.YthaiddhbifakhaaDm
namespace Go.Proofs.Ythaiddhbifakhaa
open Go.RowKit

set_option maxHeartbeats 2000000 in
set_option maxRecDepth 100000 in
theorem puts_bf {w : World} {b mb : Nat} {S : St} (h : Bf w b mb S) :
    Calls Try.prog 20 #[.pointer (some ⟨b, 0, none⟩)] w (Dumps (ls S) w) := by
  obtain ⟨i0, z0, hi0, hz0, hz1, hz2, hz3⟩ := put_parts
  have HL := Lib.hid (lbas_mq h.choose_spec)
  have hul := us_len S
  have hn2 := h.ok.n2
  have HU : Hid ((sus S).length = (us S).length) := Lib.hid (by unfold sus; simp)
  have H := Lib.hid h
  clear h
  go_enter Try.func20, Try.ntmps20
  go_wp2_with fail
  refine HL.out.mono ?_
  rintro e w1 ⟨v, rfl, hrow, hA⟩
  rw [HU.out] at hrow
  obtain ⟨N, hN⟩ : ∃ N, N = (us S).length := ⟨_, rfl⟩
  rw [← hN] at hrow hul
  have HN := Lib.hid hN
  obtain ⟨VA, vcap, hvv⟩ : ∃ A c, v = .slice A N c := by
    rcases Joins.ownsRow_forms hrow with ⟨rfl, h0⟩ | ⟨g, cap, rfl⟩
    · exact ⟨none, 0, by rw [h0]⟩
    · exact ⟨_, cap, rfl⟩
  subst hvv
  have HROW := Lib.hid hrow
  have HA1 := Lib.hid hA
  clear hrow hA hN HL
  go_wp2
  go_loopw [3, 10] (fun c3 c10 wr => ∃ (k : Nat) (l : List (Pt × Nat × Nat)), k ≤ N ∧ c10 = .int .i64 (k : Int) ∧ Hid (l.map (·.1) = ((us S).take k).map fun u : Nat => (((u : Int), S.g u) : Pt)) ∧ Hid (l.length = k) ∧ Hid (Dm w1 wr c3 l)) (fun _ c10 _ => N - (RowKit.intOf c10).toNat)
  case atStart => exact ⟨0, [], Nat.zero_le _, rfl, Lib.hid rfl, Lib.hid rfl, Lib.hid ⟨World.ownsRow_nil _ _ _ _, fun x hx => (by cases hx), At.start _⟩⟩
  case round =>
    obtain ⟨k, l, hk, rfl, HLP, HLK, HD⟩ := hrel
    by_cases hlt : k < N
    · obtain ⟨g, cap, he⟩ := Joins.ownsRow_form HROW.out (by omega)
      injection he with he1 _ he3
      subst he1
      subst he3
      obtain ⟨u, hu⟩ : ∃ u, u = (us S).getD k 0 := ⟨_, rfl⟩
      have hkl : k < (us S).length := by rw [← HN.out]; exact hlt
      have hug : (us S)[k]? = some u := by rw [hu, List.getD_eq_getElem?_getD, List.getElem?_eq_getElem hkl]; rfl
      have hcell := HROW.out.cells (g := g) rfl k (.int .i64 (u : Int)) (by unfold sus; rw [List.map_map, List.getElem?_map, hug]; rfl)
      rw [Go.WideShapes.add_plain, Nat.zero_add] at hcell
      have hc1 : wr.cell? ⟨g, k, none⟩ = some (.int .i64 (u : Int)) := (Below.cell HD.out.at_ (p := ⟨g, k, none⟩) (World.block_lt_of_cell? w1 _ hcell)).trans hcell
      have hmem : u ∈ us S := List.mem_of_getElem? hug
      obtain ⟨hun, hne⟩ := mem_us.1 hmem
      have hm := H.out.on (HA1.out.next HD.out.at_)
      have hgi : gi S (u : Int) ≠ [] := by rw [gi_nat]; exact hne
      have hlk := hm.look1 (k := (u : Int)) (ky_wf (by omega) (by omega))
      rw [gz_yes hgi, gi_nat] at hlk
      have hcb := hm.cells.2.2
      have hvl := (hm.ok.v u hne).1
      obtain ⟨x, hx⟩ : ∃ x, x = S.g u := ⟨_, rfl⟩
      rw [← hx] at hlk hvl
      have HVL := Lib.hid hvl
      have HX := Lib.hid hx
      have HUG := Lib.hid hug
      have g1 : (0 : Int) ≤ (k : Int) := by omega
      have g2 : (k : Int) < (N : Int) := by omega
      clear hu hcell hmem hm hx hug hvl hne hgi
      go_wp2_with (refine store_data rfl (.tmp 6) (.tmp 19) rfl x HVL.out wr _ rfl rfl rfl rfl ?_)
      have HB2 := Lib.hid (new_data wr x).bv
      refine (clone_bytes HVL.out HB2.out).mono ?_
      rintro e w3 ⟨gc, cc, rfl, hgc, hbc, hA3⟩
      have HGC : Hid (wr.heap.size ≤ gc) := Lib.hid (by simp at hgc; omega)
      have HGL : Hid (gc < w3.heap.size) := Lib.hid (by
        obtain ⟨b', o', he, hlt', _⟩ := hbc.pos (by rw [HVL.out]; omega)
        injection he with he
        injection he with he1 he2
        rw [he1]; exact hlt')
      have HAW3 : Hid (At wr (w3.alloc (.cells #[.int .i64 (u : Int), .slice (some ⟨gc, 0, none⟩) 40 cc] 56))) := Lib.hid (At.alloc (At.next ((At.start wr).alloc _) hA3) _)
      have HBC : Hid (BV (w3.alloc (.cells #[.int .i64 (u : Int), .slice (some ⟨gc, 0, none⟩) 40 cc] 56)) (some ⟨gc, 0, none⟩) x) := Lib.hid (hbc.below ((At.start w3).alloc _))
      have HD3 := Lib.hid (HD.out.on HAW3.out)
      have HNS : Hid (∀ j v, [Value.int .i64 (u : Int), .slice (some ⟨gc, 0, none⟩) 40 cc][j]? = some v → (w3.alloc (.cells #[.int .i64 (u : Int), .slice (some ⟨gc, 0, none⟩) 40 cc] 56)).cell? ((⟨w3.heap.size, 0, none⟩ : Addr).add j) = some v) := Lib.hid (World.news_of_block (cs := #[Value.int .i64 (u : Int), .slice (some ⟨gc, 0, none⟩) 40 cc]) (t := 56) (fr := (0, 0)) (heap_alloc_new w3 _))
      have HLL : Hid (l.length ≤ 1048576) := Lib.hid (by have := HLK.out; omega)
      have HS3 : Hid ((w3.alloc (.cells #[.int .i64 (u : Int), .slice (some ⟨gc, 0, none⟩) 40 cc] 56)).heap.size = w3.heap.size + 1) := Lib.hid (by simp)
      clear hgc hbc hA3 HB2 hlk hcb hc1
      go_wp2_with (first | (refine wpList_append_lies _ rfl (.tmp 20) (.tmp 25) 33 rfl w1.heap.size 56 i0 z0 2 32 Try.underlying33 hi0 hz0 hz1 hz2 hz3 (by omega) _ l.length (pcs l) rfl HD3.out.row ⟨w3.heap.size, 0, none⟩ 1 1 [.int .i64 (u : Int), .slice (some ⟨gc, 0, none⟩) 40 cc] rfl rfl HNS.out (fun v hv => by simp at hv; rcases hv with rfl | rfl <;> rfl) (by omega) (by have := HLL.out; unfold maxLen; omega) (by have := HLL.out; omega) (Nat.le_trans HD.out.at_.size HAW3.out.size) _ rfl ?_; intro gg cap2 w4 hown hgrow hat hlt4) | fail)
      have HY : Hid (Dm w1 w4 (.slice (some ⟨gg, 0, none⟩) (l.length + 1) cap2) (l ++ [((((u : Int), x) : Pt), gc, cc)])) := Lib.hid (HD.out.more HAW3.out HBC.out (by rw [HS3.out]; exact Nat.lt_succ_of_lt HGL.out) HGC.out (by rw [HVL.out]; exact hown) hgrow hat)
      clear hown hgrow hat hlt4 HNS HLL HAW3 HBC HD3 HD
      go_roundw
      case rel => exact ⟨k + 1, _, by omega, by go_num, Lib.hid (by rw [List.map_append, HLP.out, List.take_add_one, HUG.out, List.map_append, HX.out]; rfl), Lib.hid (by rw [List.length_append, HLK.out]; rfl), HY⟩
      case measure => simp [RowKit.intOf]; omega
    · have hkn : k = N := by omega
      subst hkn
      obtain ⟨A, c, rfl, hpv⟩ := HD.out.pv
      have hdl : l.map (·.1) = ls S := by rw [HLP.out, List.take_of_length_le (Nat.le_of_eq HN.out.symm)]; rfl
      rw [hdl] at hpv
      have hll : l.length = (ls S).length := by rw [← hdl, List.length_map]
      have HE : Hid (Dumps (ls S) w (.returned (.slice A l.length c)) wr) := Lib.hid ⟨A, c, by rw [hll], hpv, HA1.out.next HD.out.at_⟩
      clear hdl hpv hll
      go_wp2
      go_ret
      exact HE.out

set_option maxHeartbeats 1000000 in
theorem puts_nil (w : World) : Calls Try.prog 20 #[.pointer none] w (Gives (.slice none 0 0) w) := by
  have HL := Lib.hid (lbas_nil w)
  go_enter Try.func20, Try.ntmps20
  go_wp2_with fail
  refine HL.out.mono ?_
  rintro e w1 ⟨rfl, hA⟩
  have HA : Hid (At w w1) := Lib.hid hA
  clear hA
  go_wp2
  refine wp_loop_rounds 1 ?_
  rw [rounds_succ]
  go_wp2
  go_ret
  exact ⟨rfl, HA.out⟩

end Go.Proofs.Ythaiddhbifakhaa
