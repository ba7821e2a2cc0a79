/- Proved: Dump tells the newest of each block that has a version, in rising order, in memory of its own. -/
import Derived.Test.YtjpoiijifnfjhaaKey
import Derived.Test.YtjpoiijifnfjhaaPly
import Derived.Lib.SmallJoins
namespace Go.Proofs.Ytjpoiijifnfjhaa
open Go.RowKit

theorem put_parts : ∃ i z, Try.prog.info? 38 = some i ∧ i.zero = some z ∧ i.size = 2 ∧ i.bytes = 32 ∧ z.cells.size = 2 := by
  cases h : Try.prog.info? 38 with
  | none => exact absurd h (by have : (Try.prog.info? 38).isSome = true := by kernel_rfl
                               intro e; rw [e] at this; cases this)
  | some i =>
    have h1 : (Try.prog.info? 38).map (fun i => (i.zero, i.size, i.bytes)) = some (some (.agg #[.int .i64 0, .slice none 0 0]), 2, 32) := by kernel_rfl
    rw [h] at h1
    simp only [Option.map_some, Option.some.injEq, Prod.mk.injEq] at h1
    exact ⟨i, _, rfl, h1.1, h1.2.1, h1.2.2, rfl⟩

/-- What is told of one block. -/
def du (S : St) (u : Nat) : Pt := ((u : Int), (nw (S.V u)).2)
def dl (S : St) : List Pt := (us S).map (du S)
/-- The cells of blocks whose bytes lie at G, with room C. -/
def pcs : List (Pt × Nat × Nat) → List Value
  | [] => []
  | x :: l => .int .i64 x.1.1 :: .slice (some ⟨x.2.1, 0, none⟩) x.1.2.length x.2.2 :: pcs l
theorem pcs_len : ∀ l, (pcs l).length = l.length * 2
  | [] => rfl
  | _ :: l => by simp [pcs, pcs_len l]; omega
theorem pcs_app : ∀ l m, pcs (l ++ m) = pcs l ++ pcs m
  | [], _ => rfl
  | x :: l, m => by simp [pcs, pcs_app l m]
theorem pcs_at : ∀ (l : List (Pt × Nat × Nat)) (j : Nat) (x : Pt × Nat × Nat), l[j]? = some x → (pcs l)[j * 2]? = some (.int .i64 x.1.1) ∧ (pcs l)[j * 2 + 1]? = some (.slice (some ⟨x.2.1, 0, none⟩) x.1.2.length x.2.2)
  | [], _, _, h => by simp at h
  | y :: l, 0, x, h => by simp at h; subst h; exact ⟨rfl, rfl⟩
  | y :: l, j + 1, x, h => by
    simp at h
    have := pcs_at l j x h
    rw [show (j + 1) * 2 = j * 2 + 1 + 1 by omega]
    exact this
/-- v is a row of its own of those blocks, each one's bytes beside it. -/
structure Dm (w0 wr : World) (v : Value) (l : List (Pt × Nat × Nat)) : Prop where
  row : wr.ownsRow w0.heap.size 38 2 v l.length (pcs l)
  bv : ∀ x ∈ l, BV wr (some ⟨x.2.1, 0, none⟩) x.1.2 ∧ v.ownBlock ≠ some x.2.1 ∧ x.2.1 < wr.heap.size
  at_ : At w0 wr
theorem Dm.pv {w0 wr : World} {v : Value} {l : List (Pt × Nat × Nat)} (h : Dm w0 wr v l) : ∃ A c, v = .slice A l.length c ∧ PV wr A (l.map (·.1)) := by
  rcases Joins.ownsRow_forms h.row with ⟨rfl, h0⟩ | ⟨g, cap, rfl⟩
  · obtain rfl : l = [] := List.eq_nil_of_length_eq_zero h0
    exact ⟨none, 0, rfl, Or.inl rfl⟩
  · refine ⟨_, cap, rfl, ?_⟩
    by_cases h0 : l = []
    · subst h0; exact Or.inl rfl
    · have hc := h.row.cells (g := g) rfl
      have hp : 0 < l.length := List.length_pos_iff.2 h0
      refine Or.inr ⟨g, 0, rfl, ?_, fun j hj => ?_⟩
      · obtain ⟨h1, _⟩ := pcs_at l 0 l[0] (List.getElem?_eq_getElem hp)
        exact World.block_lt_of_cell? wr _ (hc 0 _ h1)
      · rw [List.length_map] at hj
        have hx : (l.map (·.1)).getD j pz = l[j].1 := by rw [List.getD_eq_getElem?_getD, List.getElem?_map, List.getElem?_eq_getElem hj]; rfl
        obtain ⟨h1, h2⟩ := pcs_at l j l[j] (List.getElem?_eq_getElem hj)
        have k1 := hc _ _ h1
        have k2 := hc _ _ h2
        rw [Go.WideShapes.add_plain] at k1 k2
        rw [hx]
        exact ⟨k1, _, _, k2, (h.bv _ (List.getElem_mem hj)).1⟩
theorem row_on {w w' : World} {B n s : Nat} {e : TypeId} {v : Value} {xs : List Value} (h : w.ownsRow B e s v n xs) (hb : At w w') : w'.ownsRow B e s v n xs := by
  refine ⟨h.1, ?_⟩
  rcases h.2 with h | ⟨g, cap, cur, hv, hB, hh, hr⟩
  · exact Or.inl h
  · exact Or.inr ⟨g, cap, cur, hv, hB, (hb.block g (lt_heap hh)).trans hh, hr⟩
theorem row_lt {w : World} {B n s : Nat} {e : TypeId} {v : Value} {xs : List Value} (h : w.ownsRow B e s v n xs) {g : Nat} (hg : v.ownBlock = some g) : g < w.heap.size ∧ B ≤ g := by
  rcases h.2 with ⟨h, _⟩ | ⟨g', cap, cur, hv, hB, hh, hr⟩
  · subst h; cases hg
  · subst hv; injection hg with hg; subst hg; exact ⟨lt_heap hh, hB⟩
theorem Dm.on {w0 wr wr' : World} {v : Value} {l : List (Pt × Nat × Nat)} (h : Dm w0 wr v l) (hA : At wr wr') : Dm w0 wr' v l :=
  ⟨row_on h.row hA, fun x hx => ⟨(h.bv x hx).1.below hA, (h.bv x hx).2.1, Nat.lt_of_lt_of_le (h.bv x hx).2.2 hA.size⟩, h.at_.next hA⟩
/-- The call hands back a list of blocks in memory of its own. -/
def Dumps (P : List Pt) (w : World) (e : Ending) (w' : World) : Prop := ∃ A c, e = .returned (.slice A P.length c) ∧ PV w' A P ∧ At w w'

set_option maxHeartbeats 2000000 in
set_option maxRecDepth 100000 in
theorem dump_any {w : World} {b : Nat} {S : St} {F : Nat → Prop} {mb : Nat} {D : DataW Value} {hd : Nat → Value} (h : Mq w b S F mb D hd) (hn : S.n ≤ 1000) :
    Calls Try.prog 19 #[.pointer (some ⟨b, 0, none⟩)] w (Dumps (dl S) w) := by
  obtain ⟨i0, z0, hi0, hz0, hz1, hz2, hz3⟩ := put_parts
  have HL := Lib.hid (lbas_mp h)
  have hul := us_len S
  have HU : Hid ((sus S).length = (us S).length) := Lib.hid (by unfold sus; simp)
  have H := Lib.hid h
  clear h
  go_enter Try.func19, Try.ntmps19
  go_wp2_with fail
  refine HL.out.mono ?_
  rintro e w1 ⟨v, rfl, hrow, hA⟩
  rw [HU.out] at hrow
  obtain ⟨N, hN⟩ : ∃ N, N = (us S).length := ⟨_, rfl⟩
  rw [← hN] at hrow hul
  have HN := Lib.hid hN
  obtain ⟨VA, vcap, hvv⟩ : ∃ A c, v = .slice A N c := by
    rcases Joins.ownsRow_forms hrow with ⟨rfl, h0⟩ | ⟨g, cap, rfl⟩
    · exact ⟨none, 0, by rw [h0]⟩
    · exact ⟨_, cap, rfl⟩
  subst hvv
  have HROW := Lib.hid hrow
  have HA1 := Lib.hid hA
  clear hrow hA hN HL
  go_wp2
  go_loopw [3, 10] (fun c3 c10 wr => ∃ (k : Nat) (l : List (Pt × Nat × Nat)), k ≤ N ∧ c10 = .int .i64 (k : Int) ∧ Hid (l.map (·.1) = ((us S).take k).map (du S)) ∧ Hid (l.length = k) ∧ Hid (Dm w1 wr c3 l)) (fun _ c10 _ => N - (RowKit.intOf c10).toNat)
  case atStart => exact ⟨0, [], Nat.zero_le _, rfl, Lib.hid rfl, Lib.hid rfl, Lib.hid ⟨World.ownsRow_nil _ _ _ _, fun x hx => (by cases hx), At.start _⟩⟩
  case round =>
    obtain ⟨k, l, hk, rfl, HLP, HLK, HD⟩ := hrel
    by_cases hlt : k < N
    · obtain ⟨g, cap, he⟩ := Joins.ownsRow_form HROW.out (by omega)
      injection he with he1 _ he3
      subst he1
      subst he3
      obtain ⟨u, hu⟩ : ∃ u, u = (us S).getD k 0 := ⟨_, rfl⟩
      have hkl : k < (us S).length := by rw [← HN.out]; exact hlt
      have hug : (us S)[k]? = some u := by rw [hu, List.getD_eq_getElem?_getD, List.getElem?_eq_getElem hkl]; rfl
      have hcell := HROW.out.cells (g := g) rfl k (.int .i64 (u : Int)) (by unfold sus; rw [List.map_map, List.getElem?_map, hug]; rfl)
      rw [Go.WideShapes.add_plain, Nat.zero_add] at hcell
      have hc1 : wr.cell? ⟨g, k, none⟩ = some (.int .i64 (u : Int)) := (Below.cell HD.out.at_ (p := ⟨g, k, none⟩) (World.block_lt_of_cell? w1 _ hcell)).trans hcell
      have hmem : u ∈ us S := List.mem_of_getElem? hug
      obtain ⟨hun, hne⟩ := mem_us.1 hmem
      have hm := H.out.on (HA1.out.next HD.out.at_)
      have hlk := hm.look (k := u) (by omega)
      have hcb := hm.cells.2.1
      obtain ⟨A, c, hhd, _, _, hvv⟩ := hm.vv u
      have h0 : 0 < (S.V u).length := List.length_pos_iff.2 hne
      have hav := hm.allV u
      have hlc := hm.ok.b u
      have hc1k := hm.ok.c1
      have HNW := Lib.hid (newest_any hvv hav h0 (by omega) c)
      have hvl := (hm.ok.v u _ (nw_mem _ hne)).2.2.1
      obtain ⟨x, hx⟩ : ∃ x, x = nw (S.V u) := ⟨_, rfl⟩
      rw [← hx] at HNW hvl
      obtain ⟨mm, hmm⟩ : ∃ mm, mm = (S.V u).length := ⟨_, rfl⟩
      rw [← hmm] at hhd HNW
      rw [hhd] at hlk
      have HVL := Lib.hid hvl
      have HX := Lib.hid hx
      have HUG := Lib.hid hug
      have g1 : (0 : Int) ≤ (k : Int) := by omega
      have g2 : (k : Int) < (N : Int) := by omega
      clear hu hcell hmem hm hvv h0 hav hlc hc1k hx hmm hhd hug hvl hne
      go_wp2_with (first | (at_lookup; refine look_law rfl _ _ rfl _ _ _ rfl rfl hlk ?_) | (go_at_call 35; fail))
      refine HNW.out.mono ?_
      rintro e w2 ⟨rfl, hA2⟩
      have HA2 := Lib.hid hA2
      have HB2 : Hid (BV (w2.alloc (.cells (vc x).toArray 65)) (some ⟨w2.heap.size, 1, none⟩) x.2) := Lib.hid (Or.inr ⟨w2.heap.size, 1, rfl, by simp, fun j hj => by
        refine (cell_at (heap_alloc_new w2 _) (1 + j)).trans ?_
        rw [List.getElem?_toArray, Nat.add_comm]
        show (x.2.map bt)[j]? = _
        rw [List.getElem?_map, List.getElem?_eq_getElem hj, List.getD_eq_getElem?_getD, List.getElem?_eq_getElem hj]; rfl⟩)
      clear hA2 hlk hcb hc1
      go_wp2_with (refine store_ver rfl (.tmp 6) (.tmp 20) rfl x HVL.out w2 _ rfl rfl rfl rfl ?_)
      refine (clone_bytes HVL.out HB2.out).mono ?_
      rintro e w3 ⟨gc, cc, rfl, hgc, hbc, hA3⟩
      have HGC : Hid (wr.heap.size ≤ gc) := Lib.hid (by have := HA2.out.size; simp at hgc; omega)
      have HGL : Hid (gc < w3.heap.size) := Lib.hid (by
        obtain ⟨b', o', he, hlt', _⟩ := hbc.pos (by rw [HVL.out]; omega)
        injection he with he
        injection he with he1 he2
        rw [he1]; exact hlt')
      have HAW3 : Hid (At wr (w3.alloc (.cells #[.int .i64 (u : Int), .slice (some ⟨gc, 0, none⟩) 40 cc] 38))) := Lib.hid (At.alloc (At.next (At.alloc HA2.out _) hA3) _)
      have HBC : Hid (BV (w3.alloc (.cells #[.int .i64 (u : Int), .slice (some ⟨gc, 0, none⟩) 40 cc] 38)) (some ⟨gc, 0, none⟩) x.2) := Lib.hid (hbc.below ((At.start w3).alloc _))
      have HD3 := Lib.hid (HD.out.on HAW3.out)
      have HNS : Hid (∀ j v, [Value.int .i64 (u : Int), .slice (some ⟨gc, 0, none⟩) 40 cc][j]? = some v → (w3.alloc (.cells #[.int .i64 (u : Int), .slice (some ⟨gc, 0, none⟩) 40 cc] 38)).cell? ((⟨w3.heap.size, 0, none⟩ : Addr).add j) = some v) := Lib.hid (World.news_of_block (cs := #[Value.int .i64 (u : Int), .slice (some ⟨gc, 0, none⟩) 40 cc]) (t := 38) (fr := (0, 0)) (heap_alloc_new w3 _))
      have HLL : Hid (l.length ≤ 1000) := Lib.hid (by have := HLK.out; omega)
      clear hgc hbc hA3 HB2 HA2
      go_wp2_with (first | (refine wpList_append_lies _ rfl (.tmp 21) (.tmp 27) 30 rfl w1.heap.size 38 i0 z0 2 32 Try.underlying30 hi0 hz0 hz1 hz2 hz3 (by omega) _ l.length (pcs l) rfl HD3.out.row ⟨w3.heap.size, 0, none⟩ 1 1 [.int .i64 (u : Int), .slice (some ⟨gc, 0, none⟩) 40 cc] rfl rfl HNS.out (fun v hv => by simp at hv; rcases hv with rfl | rfl <;> rfl) (by omega) (by have := HLL.out; unfold maxLen; omega) (by have := HLL.out; omega) (Nat.le_trans HD.out.at_.size HAW3.out.size) _ rfl ?_; intro gg cap2 w4 hown hgrow hat hlt4) | fail)
      have HY : Hid (Dm w1 w4 (.slice (some ⟨gg, 0, none⟩) (l.length + 1) cap2) (l ++ [((((u : Int), x.2) : Pt), gc, cc)])) := Lib.hid (by
        have hmv : Mv (fun j => u3.ownBlock = some j) (w3.alloc (.cells #[.int .i64 (u : Int), .slice (some ⟨gc, 0, none⟩) 40 cc] 38)) w4 := (Mv.refl _ _).grown hgrow fun j hj => Or.inl hj
        have hsz := HAW3.out.size
        have hs3 : (w3.alloc (.cells #[.int .i64 (u : Int), .slice (some ⟨gc, 0, none⟩) 40 cc] 38)).heap.size = w3.heap.size + 1 := by simp
        have hgl := HGL.out
        have hgc := HGC.out
        refine ⟨?_, fun y hy => ?_, hmv.at_ HD3.out.at_ fun j hj => (row_lt HD.out.row hj).2⟩
        · rw [pcs_app, List.length_append]
          simp only [pcs, HVL.out]
          exact hown
        · rcases List.mem_append.1 hy with hy | hy
          · obtain ⟨h1, h2, h3⟩ := HD3.out.bv y hy
            have h4 := (HD.out.bv y hy).2.2
            refine ⟨bv_mv h1 hmv h2, fun e => ?_, Nat.lt_of_lt_of_le h3 hmv.size⟩
            injection e with e
            rcases hat with h5 | h5
            · exact h2 ((show u3.ownBlock = some gg from h5).trans (congrArg some e))
            · have h6 : gg = w3.heap.size + 1 := (show gg = _ from h5).trans hs3
              have h7 : gg = y.2.1 := e
              omega
          · rw [List.mem_singleton] at hy
            subst hy
            have hnb : ¬ u3.ownBlock = some gc := fun e => by have := (row_lt HD.out.row e).1; omega
            refine ⟨bv_mv HBC.out hmv hnb, fun e => ?_, Nat.lt_of_lt_of_le (by rw [hs3]; show gc < _; omega) hmv.size⟩
            injection e with e
            rcases hat with h5 | h5
            · exact hnb ((show u3.ownBlock = some gg from h5).trans (congrArg some e))
            · have h6 : gg = w3.heap.size + 1 := (show gg = _ from h5).trans hs3
              have h7 : gg = gc := e
              omega)
      clear hown hgrow hat hlt4 HNS HLL HAW3 HBC HD3 HD
      go_roundw
      case rel => exact ⟨k + 1, _, by omega, by go_num, Lib.hid (by rw [List.map_append, HLP.out, List.take_add_one, HUG.out, List.map_append, HX.out]; rfl), Lib.hid (by rw [List.length_append, HLK.out]; rfl), HY⟩
      case measure => simp [RowKit.intOf]; omega
    · have hkn : k = N := by omega
      subst hkn
      obtain ⟨A, c, rfl, hpv⟩ := HD.out.pv
      have hdl : l.map (·.1) = dl S := by rw [HLP.out, List.take_of_length_le (Nat.le_of_eq HN.out.symm)]; rfl
      rw [hdl] at hpv
      have hll : l.length = (dl S).length := by rw [← hdl, List.length_map]
      have HE : Hid (Dumps (dl S) w (.returned (.slice A l.length c)) wr) := Lib.hid ⟨A, c, by rw [hll], hpv, HA1.out.next HD.out.at_⟩
      clear hdl hpv hll
      go_wp2
      go_ret
      exact HE.out

end Go.Proofs.Ytjpoiijifnfjhaa
