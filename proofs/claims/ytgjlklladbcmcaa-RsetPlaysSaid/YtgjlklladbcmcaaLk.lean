/- Proved: look tells the blocks of an extent as the transaction sees them: its own write, else the map's at the view's time. -/
import Derived.Test.YtgjlklladbcmcaaOb
import Derived.Deep.RegionHeld3
import Derived.StillTailTactics
namespace Go.Proofs.Ytgjlklladbcmcaa
open Go.RowKit

/-- A view's struct. -/
def Vb (w : World) (bv bm bb : Nat) (t : Int) (bs : Nat) (vr : Value) : Prop :=
  w.heap[bv]? = some (.cells #[.pointer (some ⟨bm, 0, none⟩), .pointer (some ⟨bb, 0, none⟩), .int .i64 t, .pointer (some ⟨bs, 0, none⟩), vr] 90 (0, 0))
section
variable {w : World} {bv bm bb bs : Nat} {t : Int} {vr : Value}
theorem Vb.cells (h : Vb w bv bm bb t bs vr) : w.cell? ⟨bv, 0, none⟩ = some (.pointer (some ⟨bm, 0, none⟩)) ∧ w.cell? ⟨bv, 1, none⟩ = some (.pointer (some ⟨bb, 0, none⟩)) ∧ w.cell? ⟨bv, 2, none⟩ = some (.int .i64 t) ∧ w.cell? ⟨bv, 3, none⟩ = some (.pointer (some ⟨bs, 0, none⟩)) ∧ w.cell? ⟨bv, 4, none⟩ = some vr :=
  ⟨(cell_at h 0).trans rfl, (cell_at h 1).trans rfl, (cell_at h 2).trans rfl, (cell_at h 3).trans rfl, (cell_at h 4).trans rfl⟩
end

/-- The call hands back those reads in a row of its own; it and their bytes are new. -/
def Looks (R : List Rd) (w : World) (e : Ending) (w' : World) : Prop :=
  ∃ (v : Value) (l : List Lr), e = .returned v ∧ Rw w' v l ∧ l.map (·.1) = R ∧ At w w' ∧ (∀ g, v.ownBlock = some g → w.heap.size ≤ g) ∧ ∀ x ∈ l, w.heap.size ≤ x.2.1

/-- What an append of one read to a row that is under way leaves. -/
theorem lk_more {w0 wr w3 w4 : World} {v : Value} {l : List Lr} {a : Int} {d : List Nat} {o : Bool} {gc cc gg cap : Nat} (h : Rw wr v l) (h0 : At w0 wr) (hv : ∀ g, v.ownBlock = some g → w0.heap.size ≤ g) (hx : ∀ x ∈ l, w0.heap.size ≤ x.2.1) (hA : At wr w3) (hb : BV w3 (some ⟨gc, 0, none⟩) d) (hgc : wr.heap.size ≤ gc) (hgl : gc < w3.heap.size) (hd : d.length = 40 ∧ AllB d)
    (hown : w4.ownsRow 0 67 3 (.slice (some ⟨gg, 0, none⟩) (l.length + 1) cap) (l.length + 1) (rcs l ++ [.int .i64 a, .slice (some ⟨gc, 0, none⟩) 40 cc, .bool o])) (hgrow : w3.grownBy w4 v.ownBlock) (hat : v.ownBlock = some gg ∨ gg = w3.heap.size) :
    Rw w4 (.slice (some ⟨gg, 0, none⟩) (l.length + 1) cap) (l ++ [((⟨a, d, o⟩ : Rd), gc, cc)]) ∧ At w0 w4 ∧ (∀ g, (Value.slice (some ⟨gg, 0, none⟩) (l.length + 1) cap).ownBlock = some g → w0.heap.size ≤ g) ∧ ∀ x ∈ l ++ [((⟨a, d, o⟩ : Rd), gc, cc)], w0.heap.size ≤ x.2.1 := by
  have hmv : Mv (fun j => v.ownBlock = some j) w3 w4 := (Mv.refl _ _).grown hgrow fun j hj => Or.inl hj
  refine ⟨(h.on hA).more hb hgl hd (fun e => by have := h.lt e; omega) hown hgrow, hmv.at_ (h0.next hA) hv, fun g hg => ?_, fun x hxm => ?_⟩
  · have hg : gg = g := by injection hg
    subst hg
    rcases hat with h1 | h1
    · exact hv _ h1
    · rw [h1]; exact (h0.next hA).size
  · rcases List.mem_append.1 hxm with h1 | h1
    · exact hx x h1
    · rw [List.mem_singleton] at h1
      subst h1
      exact Nat.le_trans h0.size hgc

set_option maxHeartbeats 2000000 in
set_option maxRecDepth 100000 in
theorem look_any {w : World} {bv bm bb mb bs mm : Nat} {t : Int} {vr : Value} {M : Em.St} {B : St} {FM : Nat → Prop} {D : DataW Value} {hd : Nat → Value} (hV : Vb w bv bm bb t bs vr) (hM : Em.Mq w bm M FM mm D hd) (hB : Bf w bb mb B) (a m : Nat) (hm : m ≤ 16) (ha : a + m ≤ M.n) :
    Calls Try.prog 36 #[.pointer (some ⟨bv, 0, none⟩), .agg #[.int .i64 (a : Int), .int .i64 (m : Int)]] w (Looks (sees M B t a m) w) := by
  obtain ⟨i0, z0, hi0, hz0, hz1, hz2, hz3⟩ := read_parts
  have hn2 := hM.ok.n2
  have HV := Lib.hid hV
  have HM := Lib.hid hM
  have HB := Lib.hid hB
  have HZ := Lib.hid (And.intro hi0 (And.intro hz0 (And.intro hz1 (And.intro hz2 hz3))))
  clear hV hM hB hi0 hz0 hz1 hz2 hz3
  obtain ⟨q, hq⟩ : ∃ q, w.heap.size = q := ⟨_, rfl⟩
  obtain ⟨wa, hwa⟩ : ∃ wa, w.alloc (.cells #[.int .i64 (a : Int), .int .i64 (m : Int)] 29) = wa := ⟨_, rfl⟩
  have HA0 : Hid (At w wa) := Lib.hid (by rw [← hwa]; exact (At.start w).alloc _)
  have HQ : Hid (wa.heap[q]? = some (.cells #[.int .i64 (a : Int), .int .i64 (m : Int)] 29 (0, 0))) := Lib.hid (by rw [← hwa, ← hq]; exact heap_alloc_new w _)
  have p0 : wa.cell? ⟨q, 0, none⟩ = some (.int .i64 (a : Int)) := (cell_at HQ.out 0).trans rfl
  go_enter Try.func36, Try.ntmps36
  go_wp2
  go_step3
  go_wp2
  go_step3
  go_wp2
  have HNN := Lib.hid hn2
  clear hwa hq p0
  go_loopw [5, 6] (fun c5 c6 wr => ∃ (k : Nat) (l : List Lr), k ≤ m ∧ c6 = .int .i64 ((a + k : Nat) : Int) ∧ Hid (Rw wr c5 l ∧ l.map (·.1) = sees M B t a k ∧ (∀ g, c5.ownBlock = some g → wa.heap.size ≤ g) ∧ ∀ x ∈ l, wa.heap.size ≤ x.2.1) ∧ Hid (At wa wr)) (fun _ c6 _ => a + m - (RowKit.intOf c6).toNat)
  case atStart => exact ⟨0, [], Nat.zero_le _, rfl, Lib.hid ⟨Rw.nil _, rfl, fun g hg => (by cases hg), fun x hx => (by cases hx)⟩, Lib.hid (At.start wa)⟩
  case round =>
    obtain ⟨k, l, hk, rfl, HL, HA⟩ := hrel
    have p0 : wr.cell? ⟨q, 0, none⟩ = some (.int .i64 (a : Int)) := (cell_at (HA.out.keep HQ.out) 0).trans rfl
    have p1 : wr.cell? ⟨q, 1, none⟩ = some (.int .i64 (m : Int)) := (cell_at (HA.out.keep HQ.out) 1).trans rfl
    obtain ⟨x, hx⟩ : ∃ x, x = a + k := ⟨_, rfl⟩
    rw [← hx]
    obtain ⟨A5, cp5, rfl, -, -⟩ := HL.out.1.form
    have hll : l.length = k := by have := congrArg List.length HL.out.2.1; rwa [List.length_map, sees_len] at this
    rw [hll] at HL
    rw [hll]
    have HLL := Lib.hid hll
    clear hll
    by_cases hlt : k < m
    · have hxn : x < M.n := by omega
      have HAW := Lib.hid (HA0.out.next HA.out)
      have hVr : Vb wr bv bm bb t bs vr := HAW.out.keep HV.out
      obtain ⟨c0, c1, c2, -, -⟩ := hVr.cells
      have HVR := Lib.hid hVr
      have hwf : (ky (x : Int)).wf = true := ky_wf (by omega) (by omega)
      have hby := see_by HM.out.ok HB.out.ok t x
      have hsm := sees_more M B t a k
      rw [← hx] at hsm
      have HSM := Lib.hid hsm
      have HBR := Lib.hid (HB.out.on HAW.out)
      have HMR := Lib.hid (HM.out.on HAW.out)
      have g1 : decide ((x : Int) < (a : Int) + (m : Int)) = true := decide_eq_true (by omega)
      have HKX : Hid (x = a + k) := Lib.hid hx
      clear hVr hsm
      by_cases hg : B.g x = []
      · rw [see_map hg] at hby HSM
        have HBY := Lib.hid hby
        have HG := Lib.hid (get_no HBR.out (x : Int) hwf (by rw [gi_nat]; exact hg))
        have HGM := Lib.hid (fun W (hW : At wr W) => Em.get_any (HMR.out.on hW) x (by omega) t)
        obtain ⟨d, hde⟩ : ∃ d, d = (Em.rdv (M.V x) t).2 := ⟨_, rfl⟩
        obtain ⟨tm, htm⟩ : ∃ tm, tm = (Em.rdv (M.V x) t).1 := ⟨_, rfl⟩
        rw [← hde] at HBY HGM HSM
        rw [← htm] at HGM
        clear hby hwf hg hde htm hx
        go_wp2_with fail
        refine HG.out.mono ?_
        rintro e w3 ⟨rfl, hA3⟩
        have HA3 : Hid (At wr w3) := Lib.hid hA3
        have HVW : Hid (∀ W, At wr W → W.cell? ⟨bv, 0, none⟩ = some (.pointer (some ⟨bm, 0, none⟩)) ∧ W.cell? ⟨bv, 2, none⟩ = some (.int .i64 t)) := Lib.hid fun W hW => by
          have h := Vb.cells (hW.keep HVR.out)
          exact ⟨h.1, h.2.2.1⟩
        obtain ⟨d0, d2⟩ := HVW.out w3 hA3
        clear hA3 c0 c1 c2 HG
        go_wp2_with fail
        have HK : Hid (At wr w3.drew) := Lib.hid (HA3.out.drewN 1)
        go_region_held3 (fun w' => w'.cell? ⟨bv, 0, none⟩ = some (.pointer (some ⟨bm, 0, none⟩)) ∧ w'.cell? ⟨bv, 2, none⟩ = some (.int .i64 t)) (go_keep)
          ((go_at_call 57; refine (HGM.out _ HK.out).mono ?_; rintro e w4 ⟨gc, cc, rfl, hgc, hbc, hA4⟩; obtain ⟨e0, e2⟩ := HVW.out w4 (HK.out.next hA4); have HN4 := Lib.hid (And.intro (HK.out.next hA4) (And.intro (Nat.le_trans HK.out.size hgc) hbc)); clear hA4 hgc hbc))
        obtain ⟨wb, hwb⟩ : ∃ wb, w4.alloc (.cells #[.int .i64 (x : Int), .slice (some ⟨gc, 0, none⟩) 40 cc, .bool false] 67) = wb := ⟨_, rfl⟩
        obtain ⟨q2, hq2⟩ : ∃ q2, w4.heap.size = q2 := ⟨_, rfl⟩
        have hAb : At w4 wb := by rw [← hwb]; exact (At.start _).alloc _
        have hQ2 : wb.heap[q2]? = some (.cells #[.int .i64 (x : Int), .slice (some ⟨gc, 0, none⟩) 40 cc, .bool false] 67 (0, 0)) := by rw [← hwb, ← hq2]; exact heap_alloc_new _ _
        have HNS : Hid (∀ j v, [Value.int .i64 (x : Int), .slice (some ⟨gc, 0, none⟩) 40 cc, .bool false][j]? = some v → wb.cell? ((⟨q2, 0, none⟩ : Addr).add j) = some v) := Lib.hid (World.news_of_block (cs := #[Value.int .i64 (x : Int), .slice (some ⟨gc, 0, none⟩) 40 cc, .bool false]) (t := 67) (fr := (0, 0)) hQ2)
        have HAb : Hid (At wr wb) := Lib.hid (HN4.out.1.next hAb)
        have HBb : Hid (BV wb (some ⟨gc, 0, none⟩) d) := Lib.hid (HN4.out.2.2.below hAb)
        have HGL : Hid (gc < wb.heap.size) := Lib.hid (by
          obtain ⟨b', o', he, hlt', _⟩ := HBb.out.pos (by rw [HBY.out.1]; omega)
          injection he with he
          injection he with he1 he2
          rw [he1]; exact hlt')
        have HRb := Lib.hid (HL.out.1.on HAb.out)
        have HLO : Hid (wb.ownsRow 0 67 3 (.slice A5 k cp5) k (rcs l)) := Lib.hid (by have := HRb.out.row; rwa [HLL.out] at this)
        clear hAb hQ2
        go_wp2_with (at_builtin; refine wpList_append_lies _ rfl (.tmp 51) (.tmp 55) 54 rfl 0 67 i0 z0 3 40 Try.underlying54 HZ.out.1 HZ.out.2.1 HZ.out.2.2.1 HZ.out.2.2.2.1 HZ.out.2.2.2.2 (by omega) _ k (rcs l) rfl HLO.out ⟨q2, 0, none⟩ 1 1 [.int .i64 (x : Int), .slice (some ⟨gc, 0, none⟩) 40 cc, .bool false] rfl rfl HNS.out (fun v hv => by simp at hv; rcases hv with rfl | rfl | rfl <;> rfl) (by omega) (by unfold maxLen; omega) (by omega) (Nat.zero_le _) _ rfl ?_; intro gg cap2 w5 hown hgrow hat hlt5)
        have HY := Lib.hid (lk_more HL.out.1 HA.out HL.out.2.2.1 HL.out.2.2.2 HAb.out HBb.out HN4.out.2.1 HGL.out HBY.out (a := (x : Int)) (o := false) (by rw [HLL.out]; exact hown) hgrow hat)
        clear hown hgrow hat hlt5
        go_roundw
        case rel => exact ⟨k + 1, _, by omega, by rw [HKX.out]; go_num, Lib.hid ⟨by have := HY.out.1; rwa [HLL.out] at this, by rw [List.map_append, HL.out.2.1, HSM.out]; rfl, by have := HY.out.2.2.1; rwa [HLL.out] at this, HY.out.2.2.2⟩, Lib.hid (HY.out.2.1)⟩
        case measure => have := HKX.out; simp [RowKit.intOf]; omega
      · rw [see_own hg] at hby HSM
        have HBY := Lib.hid hby
        have HG := Lib.hid (get_yes HBR.out (x : Int) hwf (by rw [gi_nat]; exact hg))
        rw [gi_nat] at HG
        obtain ⟨d, hde⟩ : ∃ d, d = B.g x := ⟨_, rfl⟩
        rw [← hde] at HBY HG HSM
        clear hby hwf hg hde hx
        go_wp2_with fail
        refine HG.out.mono ?_
        rintro e w4 ⟨gc, cc, rfl, hgc, hbc, hA4⟩
        have HN4 := Lib.hid (And.intro hA4 (And.intro hgc hbc))
        clear hA4 hgc hbc c0 c1 c2 HG
        obtain ⟨wb, hwb⟩ : ∃ wb, w4.alloc (.cells #[.int .i64 (x : Int), .slice (some ⟨gc, 0, none⟩) 40 cc, .bool true] 67) = wb := ⟨_, rfl⟩
        obtain ⟨q2, hq2⟩ : ∃ q2, w4.heap.size = q2 := ⟨_, rfl⟩
        have hAb : At w4 wb := by rw [← hwb]; exact (At.start _).alloc _
        have hQ2 : wb.heap[q2]? = some (.cells #[.int .i64 (x : Int), .slice (some ⟨gc, 0, none⟩) 40 cc, .bool true] 67 (0, 0)) := by rw [← hwb, ← hq2]; exact heap_alloc_new _ _
        have HNS : Hid (∀ j v, [Value.int .i64 (x : Int), .slice (some ⟨gc, 0, none⟩) 40 cc, .bool true][j]? = some v → wb.cell? ((⟨q2, 0, none⟩ : Addr).add j) = some v) := Lib.hid (World.news_of_block (cs := #[Value.int .i64 (x : Int), .slice (some ⟨gc, 0, none⟩) 40 cc, .bool true]) (t := 67) (fr := (0, 0)) hQ2)
        have HAb : Hid (At wr wb) := Lib.hid (HN4.out.1.next hAb)
        have HBb : Hid (BV wb (some ⟨gc, 0, none⟩) d) := Lib.hid (HN4.out.2.2.below hAb)
        have HGL : Hid (gc < wb.heap.size) := Lib.hid (by
          obtain ⟨b', o', he, hlt', _⟩ := HBb.out.pos (by rw [HBY.out.1]; omega)
          injection he with he
          injection he with he1 he2
          rw [he1]; exact hlt')
        have HRb := Lib.hid (HL.out.1.on HAb.out)
        have HLO : Hid (wb.ownsRow 0 67 3 (.slice A5 k cp5) k (rcs l)) := Lib.hid (by have := HRb.out.row; rwa [HLL.out] at this)
        clear hAb hQ2
        go_wp2_with (at_builtin; refine wpList_append_lies _ rfl (.tmp 32) (.tmp 36) 54 rfl 0 67 i0 z0 3 40 Try.underlying54 HZ.out.1 HZ.out.2.1 HZ.out.2.2.1 HZ.out.2.2.2.1 HZ.out.2.2.2.2 (by omega) _ k (rcs l) rfl HLO.out ⟨q2, 0, none⟩ 1 1 [.int .i64 (x : Int), .slice (some ⟨gc, 0, none⟩) 40 cc, .bool true] rfl rfl HNS.out (fun v hv => by simp at hv; rcases hv with rfl | rfl | rfl <;> rfl) (by omega) (by unfold maxLen; omega) (by omega) (Nat.zero_le _) _ rfl ?_; intro gg cap2 w5 hown hgrow hat hlt5)
        have HY := Lib.hid (lk_more HL.out.1 HA.out HL.out.2.2.1 HL.out.2.2.2 HAb.out HBb.out HN4.out.2.1 HGL.out HBY.out (a := (x : Int)) (o := true) (by rw [HLL.out]; exact hown) hgrow hat)
        clear hown hgrow hat hlt5
        go_roundw
        case rel => exact ⟨k + 1, _, by omega, by rw [HKX.out]; go_num, Lib.hid ⟨by have := HY.out.1; rwa [HLL.out] at this, by rw [List.map_append, HL.out.2.1, HSM.out]; rfl, by have := HY.out.2.2.1; rwa [HLL.out] at this, HY.out.2.2.2⟩, Lib.hid (HY.out.2.1)⟩
        case measure => have := HKX.out; simp [RowKit.intOf]; omega
    · have hkm : k = m := by omega
      have g1 : decide ((x : Int) < (a : Int) + (m : Int)) = false := decide_eq_false (by omega)
      have HE : Hid (Looks (sees M B t a m) w (.returned (.slice A5 k cp5)) wr) := Lib.hid ⟨_, l, rfl, HL.out.1, (by rw [← hkm]; exact HL.out.2.1), HA0.out.next HA.out, fun g hg => Nat.le_trans HA0.out.size (HL.out.2.2.1 g hg), fun x hx => Nat.le_trans HA0.out.size (HL.out.2.2.2 x hx)⟩
      clear hx
      go_wp2
      go_ret
      exact HE.out

end Go.Proofs.Ytgjlklladbcmcaa
