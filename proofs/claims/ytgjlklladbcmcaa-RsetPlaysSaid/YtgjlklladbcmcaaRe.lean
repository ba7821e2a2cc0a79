/- Proved: the document's own Read: what it answers and leaves. -/
import Derived.Test.YtgjlklladbcmcaaRz
import Derived.Test.YtgjlklladbcmcaaOps
import Derived.Test.YtgjlklladbcmcaaTl
namespace Go.Proofs.Ytgjlklladbcmcaa
open Go.RowKit
open Iv (In Nm Is Vm Ow)

theorem tells_no {S : St} {Z : Nat → Prop} {x : Int} {w w' : World} {e : Ending} (h : Tells S Z x w e w') (h0 : gi S x = []) : e = .returned (.tuple #[.slice none 0 0, .bool false]) ∧ w = w' := by
  obtain ⟨hw, ⟨_, he⟩ | ⟨hn, _⟩⟩ := h
  · exact ⟨he, hw⟩
  · exact absurd h0 hn
theorem tells_yes {S : St} {Z : Nat → Prop} {x : Int} {w w' : World} {e : Ending} (h : Tells S Z x w e w') (h0 : gi S x ≠ []) : ∃ g c, e = .returned (.tuple #[.slice (some ⟨g, 0, none⟩) 40 c, .bool true]) ∧ BV w (some ⟨g, 0, none⟩) (gi S x) ∧ Z g ∧ w = w' := by
  obtain ⟨hw, ⟨hn, _⟩ | ⟨_, g, c, he, hb, hz⟩⟩ := h
  · exact absurd hn h0
  · exact ⟨g, c, he, hb, hz, hw⟩
/-- What the document's Read answers and leaves. -/
def Rread (z x y : Nat) (t : Int) (M : Em.St) (B : St) (L : List (Int × Int)) (R : List Rd) (P : Nat → Prop) (a m : Int) (w : World) (e : Ending) (w' : World) : Prop :=
  ∃ X c, e = .returned (.tuple #[.slice X (rdB M B t L a m).length c, .int .i64 (rcode M.n L a m)]) ∧ BV w' X (rdB M B t L a m) ∧ Rz w' z x y t (rdL M.n L a m) (rdR M B t L R a m) P ∧ Mv P w w'
section
variable {w : World} {z x y N : Nat} {t : Int} {L : List (Int × Int)} {R : List Rd} {P PM PB : Nat → Prop} {M : Em.St} {B : St}
theorem rread_no {w' : World} (a m z0 : Int) (h0 : rcode M.n L a m = z0) (hz : z0 ≠ 0) (hZ : Rz w' z x y t L R P) (hm : Mv P w w') : Rread z x y t M B L R P a m w (.returned (.tuple #[.slice none 0 0, .int .i64 z0])) w' := by
  have h1 : rcode M.n L a m ≠ 0 := by rw [h0]; exact hz
  refine ⟨none, 0, ?_, ?_, ?_, hm⟩
  · unfold rdB; rw [if_neg h1, h0]; rfl
  · unfold rdB; rw [if_neg h1]; exact BV.nil _ _
  · unfold rdL rdR; rw [if_neg h1, if_neg h1]; exact hZ
theorem rread_ok {w' : World} (a m : Nat) (h0 : rcode M.n L (a : Int) (m : Int) = 0) {X : Option Addr} {c n : Nat} (hn : (byt (sees M B t a m)).length = n) (hb : BV w' X (byt (sees M B t a m))) (hZ : Rz w' z x y t (Iv.nf (L ++ [((a : Int), (m : Int))])) (R ++ sees M B t a m) P) (hm : Mv P w w') : Rread z x y t M B L R P (a : Int) (m : Int) w (.returned (.tuple #[.slice X n c, .int .i64 0])) w' := by
  refine ⟨X, c, ?_, ?_, ?_, hm⟩
  · unfold rdB; rw [if_pos h0, Int.toNat_natCast, Int.toNat_natCast, h0, hn]
  · unfold rdB; rw [if_pos h0, Int.toNat_natCast, Int.toNat_natCast]; exact hb
  · unfold rdL rdR; rw [if_pos h0, if_pos h0, Int.toNat_natCast, Int.toNat_natCast]; exact hZ
set_option maxHeartbeats 1000000 in
set_option maxRecDepth 100000 in
theorem rread_len (hZ : Rz w z x y t L R P) (a m : Int) (h1 : ¬ (1 ≤ m ∧ m ≤ 16)) : Calls Try.prog 12 #[.pointer (some ⟨z, 0, none⟩), .agg #[.int .i64 a, .int .i64 m]] w (Rread z x y t M B L R P a m w) := by
  have HNO : Hid (∀ W, At w W → Rread z x y t M B L R P a m w (.returned (.tuple #[.slice none 0 0, .int .i64 3])) W) := Lib.hid fun W hW => rread_no a m 3 (rcode_len h1) (by decide) (hZ.on hW) (Mv.of_below _ hW)
  have HA0 : Hid (At w (w.alloc (.cells #[.int .i64 a, .int .i64 m] 29))) := Lib.hid ((At.start w).alloc _)
  clear hZ
  by_cases h2 : m < 1
  · have q1 : decide (m < 1) = true := decide_eq_true h2
    clear h1 h2
    go_enter Try.func12, Try.ntmps12
    go_wp2
    go_ret2
    exact HNO.out _ HA0.out
  · have q1 : decide (m < 1) = false := decide_eq_false h2
    have q2 : decide (16 < m) = true := decide_eq_true (by omega)
    clear h1 h2
    go_enter Try.func12, Try.ntmps12
    go_wp2
    go_ret2
    exact HNO.out _ HA0.out
set_option maxHeartbeats 1000000 in
set_option maxRecDepth 100000 in
theorem rread_range (hZ : Rz w z x y t L R P) (hM : Rm w x M N PM) (a m : Int) (h1 : 1 ≤ m ∧ m ≤ 16) (h2 : ¬ (0 ≤ a ∧ a + m ≤ (M.n : Int))) : Calls Try.prog 12 #[.pointer (some ⟨z, 0, none⟩), .agg #[.int .i64 a, .int .i64 m]] w (Rread z x y t M B L R P a m w) := by
  have HNO : Hid (∀ W, At w W → Rread z x y t M B L R P a m w (.returned (.tuple #[.slice none 0 0, .int .i64 2])) W) := Lib.hid fun W hW => rread_no a m 2 (rcode_range h1 h2) (by decide) (hZ.on hW) (Mv.of_below _ hW)
  obtain ⟨v, r, l, hq⟩ := hZ
  obtain ⟨vm, X, hqm, -⟩ := hM
  have HQ := Lib.hid hq
  have HIN : Hid (∀ W, At w W → Calls Try.prog 37 #[.pointer (some ⟨x, 0, none⟩), .agg #[.int .i64 a, .int .i64 m]] W (Gives (.bool false) W)) := Lib.hid fun W hW => by
    have := rin_any (hqm.on hW) a m
    rwa [Em.haB_no fun h => h2 ⟨h.1.1, h.2⟩] at this
  have q1 : decide (m < 1) = false := decide_eq_false (by omega)
  have q2 : decide (16 < m) = false := decide_eq_false (by omega)
  clear hq hqm h1 h2
  obtain ⟨q, hq⟩ : ∃ q, w.heap.size = q := ⟨_, rfl⟩
  obtain ⟨wa, hwa⟩ : ∃ wa, w.alloc (.cells #[.int .i64 a, .int .i64 m] 29) = wa := ⟨_, rfl⟩
  have HA0 : Hid (At w wa) := Lib.hid (by rw [← hwa]; exact (At.start w).alloc _)
  have HB : Hid (wa.heap[q]? = some (.cells #[.int .i64 a, .int .i64 m] 29 (0, 0))) := Lib.hid (by rw [← hwa, ← hq]; exact heap_alloc_new w _)
  have HC : Hid (∀ W, At wa W → W.cell? ⟨z, 0, none⟩ = some (.pointer (some ⟨x, 0, none⟩)) ∧ W.cell? ⟨q, 0, none⟩ = some (.int .i64 a) ∧ W.cell? ⟨q, 1, none⟩ = some (.int .i64 m)) := Lib.hid fun W hW => ⟨(HQ.out.on (HA0.out.next hW)).cells.1, (cell_at (hW.keep HB.out) 0).trans rfl, (cell_at (hW.keep HB.out) 1).trans rfl⟩
  obtain ⟨d0, d1, d2⟩ := HC.out wa (At.start _)
  have HI2 : Hid (∀ W, At wa W → Calls Try.prog 37 #[.pointer (some ⟨x, 0, none⟩), .agg #[.int .i64 a, .int .i64 m]] W (Gives (.bool false) W)) := Lib.hid fun W hW => HIN.out W (HA0.out.next hW)
  clear HQ HIN
  go_enter Try.func12, Try.ntmps12
  go_wp2
  go_region_held3 (fun w' => w'.cell? ⟨z, 0, none⟩ = some (.pointer (some ⟨x, 0, none⟩)) ∧ w'.cell? ⟨q, 0, none⟩ = some (.int .i64 a) ∧ w'.cell? ⟨q, 1, none⟩ = some (.int .i64 m)) (go_keep)
    ((go_at_call 37; refine (HI2.out _ ((At.start wa).drewN 1)).mono ?_; rintro e w2 ⟨rfl, hA2⟩; have HA2 : Hid (At wa w2) := Lib.hid (((At.start wa).drewN 1).next hA2); obtain ⟨e0, e1, e2⟩ := HC.out w2 HA2.out; clear hA2))
  go_wp2
  go_ret2
  exact HNO.out _ (HA0.out.next HA2.out)
set_option maxHeartbeats 4000000 in
set_option maxRecDepth 100000 in
theorem rread_yes (hZ : Rz w z x y t L R P) (hM : Rm w x M N PM) (hB : Rb w y B PB) (hP : ∀ g, w.heap.size ≤ g → P g) (hMP : ∀ g, PM g → ¬ P g) (hBP : ∀ g, PB g → ¬ P g) (hR : R.length ≤ 100000) (hN : N ≤ 100000000) (a m : Nat) (h1 : 1 ≤ m) (h16 : m ≤ 16) (ha : a + m ≤ M.n) :
    Calls Try.prog 12 #[.pointer (some ⟨z, 0, none⟩), .agg #[.int .i64 (a : Int), .int .i64 (m : Int)]] w (Rread z x y t M B L R P (a : Int) (m : Int) w) := by
  obtain ⟨v, r, l, hq⟩ := hZ
  obtain ⟨vm, X, hqm, hX⟩ := hM
  obtain ⟨i0, z0, hi0, hz0, hz1, hz2, hz3⟩ := read_parts
  obtain ⟨u0, hu0, hu1, hu2, hu3⟩ := info_parts info_u8
  have hn2 := hqm.ok.n2
  have HQ := Lib.hid hq
  have HQM := Lib.hid hqm
  have HQB := Lib.hid hB
  have HP := Lib.hid hP
  have HMP := Lib.hid (And.intro hMP hBP)
  have HZ := Lib.hid (And.intro hi0 (And.intro hz0 (And.intro hz1 (And.intro hz2 hz3))))
  have HU := Lib.hid (And.intro hu0 (And.intro hu1 (And.intro hu2 hu3)))
  have hva : Iv.Va ((a : Int), (m : Int)) := by unfold Iv.Va; simp only; omega
  have HVA := Lib.hid hva
  have HIN : Hid (∀ W, At w W → Calls Try.prog 37 #[.pointer (some ⟨x, 0, none⟩), .agg #[.int .i64 (a : Int), .int .i64 (m : Int)]] W (Gives (.bool true) W)) := Lib.hid fun W hW => by
    have := rin_any (hqm.on hW) (a : Int) (m : Int)
    rwa [Em.haB_yes hva (by omega)] at this
  have q1 : decide ((m : Int) < 1) = false := decide_eq_false (by omega)
  have q2 : decide ((16 : Int) < (m : Int)) = false := decide_eq_false (by omega)
  have hNX : X.length ≤ 100000000 := by omega
  have hrc : (1 ≤ (m : Int) ∧ (m : Int) ≤ 16) ∧ (0 ≤ (a : Int) ∧ (a : Int) + (m : Int) ≤ (M.n : Int)) := by omega
  have HRC := Lib.hid hrc
  clear hq hqm hB hP hMP hBP hva hi0 hz0 hz1 hz2 hz3 hu0 hu1 hu2 hu3 hX hN hrc
  obtain ⟨q, hq⟩ : ∃ q, w.heap.size = q := ⟨_, rfl⟩
  obtain ⟨wa, hwa⟩ : ∃ wa, w.alloc (.cells #[.int .i64 (a : Int), .int .i64 (m : Int)] 29) = wa := ⟨_, rfl⟩
  have HA0 : Hid (At w wa) := Lib.hid (by rw [← hwa]; exact (At.start w).alloc _)
  have HBX : Hid (wa.heap[q]? = some (.cells #[.int .i64 (a : Int), .int .i64 (m : Int)] 29 (0, 0))) := Lib.hid (by rw [← hwa, ← hq]; exact heap_alloc_new w _)
  have HQL := Lib.hid hq
  have HC : Hid (∀ W, At wa W → W.cell? ⟨z, 0, none⟩ = some (.pointer (some ⟨x, 0, none⟩)) ∧ W.cell? ⟨q, 0, none⟩ = some (.int .i64 (a : Int)) ∧ W.cell? ⟨q, 1, none⟩ = some (.int .i64 (m : Int))) := Lib.hid fun W hW => ⟨(HQ.out.on (HA0.out.next hW)).cells.1, (cell_at (hW.keep HBX.out) 0).trans rfl, (cell_at (hW.keep HBX.out) 1).trans rfl⟩
  obtain ⟨d0, d1, d2⟩ := HC.out wa (At.start _)
  have HI2 : Hid (∀ W, At wa W → Calls Try.prog 37 #[.pointer (some ⟨x, 0, none⟩), .agg #[.int .i64 (a : Int), .int .i64 (m : Int)]] W (Gives (.bool true) W)) := Lib.hid fun W hW => HIN.out W (HA0.out.next hW)
  clear HIN
  go_enter Try.func12, Try.ntmps12
  go_wp2
  clear hwa hq
  go_region_held3 (fun w' => w'.cell? ⟨z, 0, none⟩ = some (.pointer (some ⟨x, 0, none⟩)) ∧ w'.cell? ⟨q, 0, none⟩ = some (.int .i64 (a : Int)) ∧ w'.cell? ⟨q, 1, none⟩ = some (.int .i64 (m : Int))) (go_keep)
    ((go_at_call 37; refine (HI2.out _ ((At.start wa).drewN 1)).mono ?_; rintro e w2 ⟨rfl, hA2⟩; have HA2 : Hid (At wa w2) := Lib.hid (((At.start wa).drewN 1).next hA2); obtain ⟨e0, e1, e2⟩ := HC.out w2 HA2.out; clear hA2))
  clear d0 d1 d2 q1 q2 HI2
  go_wp2
  have HK : Hid (At w2 (w2.alloc (.cells #[.int .i64 (a : Int), .int .i64 (m : Int)] 29)).drew) := Lib.hid (((At.start w2).alloc _).drewN 1)
  have HA2w : Hid (At w (w2.alloc (.cells #[.int .i64 (a : Int), .int .i64 (m : Int)] 29)).drew) := Lib.hid ((HA0.out.next HA2.out).next HK.out)
  have HQ2 := Lib.hid (HQ.out.on HA2w.out)
  have HADD := Lib.hid (radd_any HQ2.out.box HQ2.out.ow HQ2.out.nm HVA.out HQ2.out.le (heap_alloc_new w2 _))
  go_region_held3 (fun w' => w'.cell? ⟨q, 0, none⟩ = some (.int .i64 (a : Int)) ∧ w'.cell? ⟨q, 1, none⟩ = some (.int .i64 (m : Int))) (go_keep)
    ((go_at_call 38; refine HADD.out.mono ?_; rintro e w3 hadd; obtain ⟨zc, rfl, v3, L3, hq3, hm3, hor3⟩ := zadd HQ2.out HVA.out.vm HA2w.out HP.out hadd; have HQ3 := Lib.hid hq3; have HM3 := Lib.hid hm3; have HOR := Lib.hid hor3; have hbq := hm3.keep (HK.out.keep (HA2.out.keep HBX.out)) (fun hf => by have h1 := lt_heap HQ.out.box; have h2 := HQL.out; omega); have HBQ := Lib.hid hbq; have e1 := (cell_at hbq 0).trans rfl; have e2 := (cell_at hbq 1).trans rfl; clear hadd hq3 hm3 hor3 hbq))
  have HMW : Hid (Mv P w w3) := Lib.hid ((Mv.of_below P HA2w.out).trans (HM3.out.more fun g hg => Or.inl (show P g by rw [hg]; exact HQ.out.pz)) fun g hg => Or.inl hg)
  have HS3 : Hid (w.heap.size ≤ w3.heap.size ∧ q < w3.heap.size) := Lib.hid ⟨HMW.out.size, lt_heap HBQ.out⟩
  clear HADD HQ2 HK HC HBX e0 HA2w
  rcases HOR.out with ⟨rfl, hle, hL3⟩ | ⟨rfl, hgt, hL3⟩
  · have HLE := Lib.hid (And.intro hle hL3)
    clear hle hL3 HOR HM3
    rw [show ((0 : Int) != 0) = false from rfl]
    go_wp2
    go_loopw [6, 7] (fun c6 c7 wr => ∃ (k : Nat) (Ao : Option Addr) (co : Nat) (r' : Value) (l' : List Lr), k ≤ m ∧ c7 = .int .i64 (k : Int) ∧ c6 = .slice Ao (40 * k) co ∧ Hid (wr.ownsRow w3.heap.size 5 1 (.slice Ao (40 * k) co) (40 * k) ((byt (sees M B t a k)).map bt)) ∧ Hid (Zq wr z x y t L3 (R ++ sees M B t a k) P v3 r' l' ∧ ∀ u ∈ l', (Value.slice Ao (40 * k) co).ownBlock ≠ some u.2.1) ∧ Hid (Mv (fun g => g = z ∨ r.ownBlock = some g) w3 wr ∧ ∀ g, r'.ownBlock = some g → r.ownBlock = some g ∨ w3.heap.size ≤ g)) (fun _ c7 _ => m - (RowKit.intOf c7).toNat)
    case atStart =>
      refine ⟨0, none, 0, r, l, Nat.zero_le _, rfl, rfl, Lib.hid (World.ownsRow_nil _ _ _ _), Lib.hid ⟨?_, fun u hu e => by cases e⟩, Lib.hid ⟨Mv.refl _ _, fun g hg => Or.inl hg⟩⟩
      have := HQ3.out
      rwa [show R ++ sees M B t a 0 = R by unfold sees; simp]
    case round =>
      obtain ⟨k, Ao, co, r', l', hk, rfl, rfl, HO, HVK, HMV⟩ := hrel
      have HBQr : Hid (wr.heap[q]? = some (.cells #[.int .i64 (a : Int), .int .i64 (m : Int)] 29 (0, 0))) := Lib.hid (HMV.out.1.keep HBQ.out fun hf => by
        have h2 := HQL.out
        rcases hf with hf | hf
        · have h3 := lt_heap HQ.out.box; omega
        · have h3 := HQ.out.rw.lt hf; omega)
      have HMW2 : Hid (Mv P w wr) := Lib.hid (HMW.out.trans (HMV.out.1.more fun g hg => Or.inl (show P g from hg.elim (fun e => by rw [e]; exact HQ.out.pz) (HQ.out.pr g))) fun g hg => Or.inl hg)
      have d1 : wr.cell? ⟨q, 0, none⟩ = some (.int .i64 (a : Int)) := (cell_at HBQr.out 0).trans rfl
      have d2 : wr.cell? ⟨q, 1, none⟩ = some (.int .i64 (m : Int)) := (cell_at HBQr.out 1).trans rfl
      by_cases hlt : k < m
      · obtain ⟨d3, d4, d5, -, -⟩ := HVK.out.1.cells
        obtain ⟨ar, cr, rfl, -, -⟩ := HVK.out.1.rw.form
        have hll : l'.length = R.length + k := by have := congrArg List.length HVK.out.1.is; rwa [List.length_map, List.length_append, sees_len] at this
        obtain ⟨nr, hnr⟩ : ∃ nr, nr = l'.length := ⟨_, rfl⟩
        rw [← hnr] at HVK HMV hll
        have HNR := Lib.hid hnr
        have hnl : nr ≤ 200000 := by omega
        obtain ⟨xk, hxk⟩ : ∃ xk, xk = a + k := ⟨_, rfl⟩
        have q3 : IntKind.i64.wrap ((a : Int) + (k : Int)) = (xk : Int) := by rw [hxk, show ((a + k : Nat) : Int) = (a : Int) + (k : Int) by omega]; exact IntWalk.i64_in _ (by omega)
        have hxn : xk < M.n := by omega
        have HSM : Hid (sees M B t a (k + 1) = sees M B t a k ++ [see M B t xk]) := Lib.hid (by rw [hxk]; exact sees_more M B t a k)
        have HSB : Hid ((see M B t xk).d.length = 40 ∧ AllB (see M B t xk).d) := Lib.hid (see_by HQM.out.ok HQB.out.ok t xk)
        clear hll hnr hxk
        have HGB : Hid (∀ W, At wr W → Calls Try.prog 39 #[.pointer (some ⟨y, 0, none⟩), .int .i64 (xk : Int)] W (Tells B PB (xk : Int) W)) := Lib.hid fun W hW => rget_rb ((HQB.out.mv HMW2.out HMP.out.2).on hW) (xk : Int)
        have HC5 : Hid (∀ W, At wr W → W.cell? ⟨z, 0, none⟩ = some (.pointer (some ⟨x, 0, none⟩)) ∧ W.cell? ⟨z, 1, none⟩ = some (.pointer (some ⟨y, 0, none⟩)) ∧ W.cell? ⟨z, 2, none⟩ = some (.int .i64 t) ∧ W.cell? ⟨q, 0, none⟩ = some (.int .i64 (a : Int))) := Lib.hid fun W hW => ⟨(HVK.out.1.on hW).cells.1, (HVK.out.1.on hW).cells.2.1, (HVK.out.1.on hW).cells.2.2.1, (cell_at (hW.keep HBQr.out) 0).trans rfl⟩
        have q4 : decide ((k : Int) < (m : Int)) = true := decide_eq_true (by omega)
        go_wp2
        by_cases hg : B.g xk = []
        · have HSEE : Hid (see M B t xk = ⟨(xk : Int), (Em.rdv (M.V xk) t).2, false⟩) := Lib.hid (see_map hg)
          have HG0 : Hid (gi B (xk : Int) = []) := Lib.hid (by rw [gi_nat]; exact hg)
          clear hg
          go_region_held3 (fun w' => w'.cell? ⟨z, 1, none⟩ = some (.pointer (some ⟨y, 0, none⟩)) ∧ w'.cell? ⟨q, 0, none⟩ = some (.int .i64 (a : Int))) (go_keep)
            ((go_at_call 39; refine (HGB.out _ ((At.start wr).drewN 1)).mono ?_; rintro e w4 hte; obtain ⟨rfl, rfl⟩ := tells_no hte HG0.out; clear hte))
          clear d1 d2 d3 d4 d5 HGB
          have hA4 : At wr (wr.drewN 1) := (At.start wr).drewN 1
          generalize wr.drewN 1 = w4 at hA4 ⊢
          have HA4 := Lib.hid hA4
          clear hA4
          obtain ⟨d3, d4, d5, d1⟩ := HC5.out w4 HA4.out
          have HMG : Hid (∀ W, At w4 W → Calls Try.prog 40 #[.pointer (some ⟨x, 0, none⟩), .int .i64 (xk : Int), .int .i64 t] W (Rgets (Em.rdv (M.V xk) t).2 PM W)) := Lib.hid fun W hW => rmget_any ((HQM.out.mv HMW2.out HMP.out.1).on (HA4.out.next hW)) hNX xk hxn t
          go_wp2
          go_region_held3 (fun w' => w'.cell? ⟨z, 0, none⟩ = some (.pointer (some ⟨x, 0, none⟩)) ∧ w'.cell? ⟨z, 2, none⟩ = some (.int .i64 t) ∧ w'.cell? ⟨q, 0, none⟩ = some (.int .i64 (a : Int))) (go_keep)
            ((go_at_call 40; refine (HMG.out _ ((At.start w4).drewN 1)).mono ?_; rintro e w5 ⟨gx, cx, T, rfl, hbv, hA5, hgx⟩; have HA5 : Hid (At wr w5) := Lib.hid (HA4.out.next (((At.start w4).drewN 1).next hA5)); have HGX : Hid (¬ P gx ∨ wr.heap.size ≤ gx) := Lib.hid (hgx.imp (HMP.out.1 gx) (fun h => Nat.le_trans HA4.out.size h)); have HBV := Lib.hid hbv; obtain ⟨e3, e4, e5, e1⟩ := HC5.out w5 HA5.out; clear hbv hA5 hgx))
          clear d1 d3 d4 d5 HMG e1 e3 e4 e5
          obtain ⟨dd, hdd⟩ : ∃ dd, dd = (Em.rdv (M.V xk) t).2 := ⟨_, rfl⟩
          rw [← hdd] at HSEE HBV
          clear hdd HG0
          have HSP : Hid (dd.length = 40 ∧ AllB dd) := Lib.hid (by have := HSB.out; rw [HSEE.out] at this; exact this)
          have HZ5 := Lib.hid (HVK.out.1.on HA5.out)
          have z5 := HZ5.out.cells.2.2.2.2
          have HO5 := Lib.hid (own_at HO.out HA5.out)
          have HQX : Hid (∀ W, At w5 W → W.heap[q]? = some (.cells #[.int .i64 (a : Int), .int .i64 (m : Int)] 29 (0, 0))) := Lib.hid fun W hW => (HA5.out.next hW).keep HBQr.out
          have HRO : Hid (∀ W, At w5 W → W.ownsRow 0 67 3 (.slice ar nr cr) nr (rcs l')) := Lib.hid fun W hW => by
            have := (HZ5.out.on hW).rw.row
            rwa [← HNR.out] at this
          have e1 : w5.cell? ⟨q, 0, none⟩ = some (.int .i64 (a : Int)) := (cell_at (HQX.out w5 (At.start _)) 0).trans rfl
          have M1 : Hid (Ey (w5.alloc (.cells #[] 5)).drew w5.heap.size) := Lib.hid ((em_new w5).on ((At.start _).drewN 1))
          have D1 : Hid (At w5 (w5.alloc (.cells #[] 5)).drew) := Lib.hid (((At.start w5).alloc _).drewN 1)
          have z5a := keep_cell (ob := .cells #[] 5) z5
          have hbz : (Value.slice ar nr cr).ownBlock ≠ some z := fun e => by
            obtain ⟨cs', hc'⟩ := rw_block HZ5.out.rw e
            exact cells_ne hc' HZ5.out.box (by decide) rfl
          have hbq : (Value.slice ar nr cr).ownBlock ≠ some q := fun e => by
            obtain ⟨cs', hc'⟩ := rw_block HZ5.out.rw e
            exact cells_ne hc' (HQX.out w5 (At.start _)) (by decide) rfl
          have hzq : z ≠ q := fun e => cells_ne (HQX.out w5 (At.start _)) HZ5.out.box (by decide) e.symm
          have HBZ := Lib.hid (And.intro hbz (And.intro hbq hzq))
          clear hbz hbq hzq
          go_wp2
          refine wp_till (by kernel_rfl) (fun w' => w'.cell? ⟨z, 5, none⟩ = some (.slice ar nr cr) ∧ w'.cell? ⟨q, 0, none⟩ = some (.int .i64 (a : Int))) 16 ?_
          refine till_take (i := 0) (v := .pointer (some ⟨z, 0, none⟩)) rfl (by kernel_rfl) (by kernel_rfl) (by kernel_rfl) (by kernel_rfl) (fun _ _ _ h => h) ⟨z5, e1⟩ (Or.inl ⟨by rfl, by (intro w hSw; (try dsimp only at hSw); go_simp)⟩) ?_
          try go_simp
          refine till_take (i := 1) (v := .pointer (some ⟨z, 0, none⟩)) rfl (by kernel_rfl) (by kernel_rfl) (by kernel_rfl) (by kernel_rfl) (fun _ _ _ h => h) ⟨z5, e1⟩ (Or.inl ⟨by rfl, by (intro w hSw; (try dsimp only at hSw); go_simp)⟩) ?_
          try go_simp
          refine till_take (i := 2) (v := .pointer (some ⟨z, 0, none⟩)) rfl (by kernel_rfl) (by kernel_rfl) (by kernel_rfl) (by kernel_rfl) (fun _ _ _ h => h) ⟨z5, e1⟩ (Or.inl ⟨by rfl, by (intro w hSw; (try dsimp only at hSw); go_simp)⟩) ?_
          try go_simp
          refine till_take (i := 3) (v := .pointer (some ⟨z, 5, none⟩)) rfl (by kernel_rfl) (by kernel_rfl) (by kernel_rfl) (by kernel_rfl) (fun _ _ _ h => h) ⟨z5, e1⟩ (Or.inl ⟨by rfl, by (intro w hSw; (try dsimp only at hSw); go_simp)⟩) ?_
          try go_simp
          refine till_take (i := 4) (v := .slice ar nr cr) rfl (by kernel_rfl) (by kernel_rfl) (by kernel_rfl) (by kernel_rfl) (fun _ _ _ h => h) ⟨z5, e1⟩ (Or.inl ⟨by rfl, by (intro w hSw; (try dsimp only at hSw); go_simp)⟩) ?_
          try go_simp
          refine till_take (i := 5) (v := .pointer (some ⟨q, 0, none⟩)) rfl (by kernel_rfl) (by kernel_rfl) (by kernel_rfl) (by kernel_rfl) (fun _ _ _ h => h) ⟨z5, e1⟩ (Or.inl ⟨by rfl, by (intro w hSw; (try dsimp only at hSw); go_simp)⟩) ?_
          try go_simp
          refine till_take (i := 6) (v := .int .i64 (a : Int)) rfl (by kernel_rfl) (by kernel_rfl) (by kernel_rfl) (by kernel_rfl) (fun _ _ _ h => h) ⟨z5, e1⟩ (Or.inl ⟨by rfl, by (intro w hSw; (try dsimp only at hSw); go_simp)⟩) ?_
          try go_simp
          refine till_take (i := 7) (v := .int .i64 (k : Int)) rfl (by kernel_rfl) (by kernel_rfl) (by kernel_rfl) (by kernel_rfl) (fun _ _ _ h => h) ⟨z5, e1⟩ (Or.inl ⟨by rfl, by (intro w hSw; (try dsimp only at hSw); go_simp)⟩) ?_
          try go_simp
          refine till_take (i := 8) (v := .int .i64 (xk : Int)) rfl (by kernel_rfl) (by kernel_rfl) (by kernel_rfl) (by kernel_rfl) (fun _ _ _ h => h) ⟨z5, e1⟩ (Or.inl ⟨by rfl, by (intro w hSw; (try dsimp only at hSw); go_simp)⟩) ?_
          try go_simp
          refine till_take (i := 10) (v := .slice (some ⟨gx, 0, none⟩) 40 cx) rfl (by kernel_rfl) (by kernel_rfl) (by kernel_rfl) (by kernel_rfl) (fun _ _ _ h => h) ⟨z5, e1⟩ (Or.inl ⟨by rfl, by (intro w hSw; (try dsimp only at hSw); go_simp)⟩) ?_
          try go_simp
          refine till_take (i := 12) (v := .bool false) rfl (by kernel_rfl) (by kernel_rfl) (by kernel_rfl) (by kernel_rfl) (fun _ _ _ h => h) ⟨z5, e1⟩ (Or.inl ⟨by rfl, by (intro w hSw; (try dsimp only at hSw); go_simp)⟩) ?_
          try go_simp
          refine till_one (j := 9) (by kernel_rfl) rfl (fun K hK => ?_)
          go_simp
          refine hK.out _ _ (fun hp => ⟨z5a, keep_cell e1⟩) ?_
          clear hK K
          try go_simp
          refine till_one (j := 11) (by kernel_rfl) rfl (fun K hK => ?_)
          refine step_forty (by rfl) (.tmp 77) (.tmp 78) (by rfl) _ M1.out (by rfl) gx 0 cx dd (by rfl) (HBV.out.below D1.out) HSP.out.1 ?_
          intro gd cd w7 X7
          have A7 : Hid (At w5 w7) := Lib.hid (X7.out.mv.at_ D1.out (fun j hj => by rw [hj]; exact Nat.le_refl _))
          have S7 : w7.cell? ⟨q, 0, none⟩ = some (.int .i64 (a : Int)) := (cell_at (HQX.out w7 A7.out) 0).trans rfl
          have z7 := (HZ5.out.on A7.out).cells.2.2.2.2
          refine hK.out _ _ (fun hp => ⟨z7, S7⟩) ?_
          clear hK K
          try go_simp
          refine till_take (i := 13) (v := .agg #[.int .i64 (xk : Int), .slice (some ⟨gd, 0, none⟩) 40 cd, .bool false]) rfl (by kernel_rfl) (by kernel_rfl) (by kernel_rfl) (by kernel_rfl) (fun _ _ _ h => h) ⟨z7, S7⟩ (Or.inl ⟨by rfl, by (intro w hSw; (try dsimp only at hSw); go_simp)⟩) ?_
          try go_simp
          refine till_one (j := 14) (by kernel_rfl) rfl (fun K hK => ?_)
          go_simp
          refine hK.out _ _ (fun hp => ⟨(HZ5.out.on (A7.out.alloc _)).cells.2.2.2.2, (cell_at (HQX.out _ (A7.out.alloc _)) 0).trans rfl⟩) ?_
          clear hK K
          try go_simp
          refine till_one (j := 15) (by kernel_rfl) rfl (fun K hK => ?_)
          refine step_append_lies _ (by rfl) (.tmp 72) (.tmp 82) 54 (by rfl) 0 67 i0 z0 3 40 Try.underlying54 HZ.out.1 HZ.out.2.1 HZ.out.2.2.1 HZ.out.2.2.2.1 HZ.out.2.2.2.2 (by omega) (.slice ar nr cr) nr (rcs l') (by rfl) (HRO.out _ (A7.out.alloc _)) ⟨w7.heap.size, 0, none⟩ 1 1 [.int .i64 (xk : Int), .slice (some ⟨gd, 0, none⟩) 40 cd, .bool false] (by rfl) rfl (World.news_of_block (cs := #[.int .i64 (xk : Int), .slice (some ⟨gd, 0, none⟩) 40 cd, .bool false]) (t := 67) (fr := (0, 0)) (heap_alloc_new w7 _)) (fun v hv => by simp at hv; rcases hv with rfl | rfl | rfl <;> rfl) (by omega) (by unfold maxLen; omega) (by omega) (Nat.zero_le _) (w7.heap.size + 1) (by simp) ?_
          intro gg cap w8 hown hgrow hat hlt8
          have hq8 := (Iv.grown_mv hgrow).keep (HQX.out _ (A7.out.alloc _)) HBZ.out.2.1
          have hb8 := (Iv.grown_mv hgrow).keep (HZ5.out.on (A7.out.alloc _)).box HBZ.out.1
          have S8 : w8.cell? ⟨q, 0, none⟩ = some (.int .i64 (a : Int)) := (cell_at hq8 0).trans rfl
          have S9 : ∀ v, (w8.setCell ⟨z, 5, none⟩ v).cell? ⟨q, 0, none⟩ = some (.int .i64 (a : Int)) := fun v => (World.cell?_setCell_far _ _ _ _ HBZ.out.2.2).trans S8
          have z8 := (cell_at hb8 5).trans rfl
          have f8 := free_at hb8 5
          clear hq8 hb8
          refine hK.out _ _ (fun hp => ⟨z8, S8⟩) ?_
          clear hK K
          try go_simp
          refine till_one (j := 16) (by kernel_rfl) rfl (fun K hK => ?_)
          go_simp
          refine hK.out _ _ (fun hp => False.elim (by have h : true = false := hp; cases h)) ?_
          clear hK K
          try go_simp
          refine till_one (j := 17) (by kernel_rfl) rfl (fun K hK => ?_)
          go_simp
          refine hK.out _ _ (fun hp => False.elim (by have h : true = false := hp; cases h)) ?_
          clear hK K
          try go_simp
          refine till_one (j := 18) (by kernel_rfl) rfl (fun K hK => ?_)
          go_simp
          refine hK.out _ _ (fun hp => False.elim (by have h : true = false := hp; cases h)) ?_
          clear hK K
          try go_simp
          refine till_done (by kernel_rfl) ?_
          have hput := (HZ5.out.on (A7.out.alloc (.cells #[.int .i64 (xk : Int), .slice (some ⟨gd, 0, none⟩) 40 cd, .bool false] 67))).put (a := (xk : Int)) (o := false) (gc := gd) (cc := cd) (X7.out.bv.below ((At.start w7).alloc _)) HSP.out (by have := X7.out.lt; simp; omega) (HP.out gd (by have h1 := X7.out.at_; have h2 := D1.out.size; have h3 := HA5.out.size; have h4 := HMW2.out.size; rcases h1 with e | e <;> omega)) ⟨fun e => by have h1 := X7.out.at_; have h2 := D1.out.size; have h3 := lt_heap HZ5.out.box; rcases h1 with e' | e' <;> omega, fun e => by have h1 := X7.out.at_; have h2 := D1.out.size; have h3 := HZ5.out.rw.lt e; rcases h1 with e' | e' <;> omega⟩ (fun g hg => HP.out g (by have h1 := (A7.out.alloc (.cells #[.int .i64 (xk : Int), .slice (some ⟨gd, 0, none⟩) 40 cd, .bool false] 67)).size; have h3 := HA5.out.size; have h4 := HMW2.out.size; omega)) (by rw [← HNR.out]; exact hown) hgrow (hat.imp_right fun e => by rw [e]; simp)
          rw [← HNR.out] at hput
          have HGD : Hid (w5.heap.size ≤ gd) := Lib.hid (by have h1 := X7.out.at_; have h2 := D1.out.size; rcases h1 with e | e <;> omega)
          have hm9 := (Mv.of_below (fun g => (Value.slice ar nr cr).ownBlock = some g ∨ g = z) (A7.out.alloc (.cells #[.int .i64 (xk : Int), .slice (some ⟨gd, 0, none⟩) 40 cd, .bool false] 67))).trans hput.2 (fun _ => Or.inl)
          have hgg : ∀ g, (Value.slice (some ⟨gg, 0, none⟩) (nr + 1) cap).ownBlock = some g → r.ownBlock = some g ∨ w3.heap.size ≤ g := fun g hg => by
            have hg : gg = g := by injection hg
            subst hg
            rcases hat with e | e
            · exact HMV.out.2 _ e
            · right; have h1 := A7.out.size; have h2 := HA5.out.size; have h3 := HMV.out.1.size; omega
          generalize w8.setCell ⟨z, 5, none⟩ (.slice (some ⟨gg, 0, none⟩) (nr + 1) cap) = w9 at hput hm9 ⊢
          have HY := Lib.hid hput.1
          have HM9 := Lib.hid hm9
          have HGG := Lib.hid hgg
          have HO9 : Hid (w9.ownsRow w3.heap.size 5 1 (.slice Ao (40 * k) co) (40 * k) ((byt (sees M B t a k)).map bt)) := Lib.hid (own_turn HO5.out (Nat.le_refl _) hm9 fun g cs hg hf => by
            rcases hf with hf | rfl
            · obtain ⟨cs', hc'⟩ := rw_block HZ5.out.rw hf
              exact cells_ne hg hc' (by decide) rfl
            · exact cells_ne hg HZ5.out.box (by decide) rfl)
          have HX9 : Hid (BV w9 (some ⟨gx, 0, none⟩) dd) := Lib.hid (bv_mv HBV.out hm9 fun hf => by
            rcases hf with hf | hf
            · rcases HGX.out with h1 | h1
              · exact h1 (HVK.out.1.pr _ hf)
              · have := HVK.out.1.rw.lt hf; omega
            · rcases HGX.out with h1 | h1
              · exact h1 (by rw [hf]; exact HVK.out.1.pz)
              · have := lt_heap HVK.out.1.box; omega)
          have HDS : Hid (∀ u ∈ l' ++ [((⟨(xk : Int), dd, false⟩ : Rd), gd, cd)], (Value.slice Ao (40 * k) co).ownBlock ≠ some u.2.1) := Lib.hid fun u hu e => by
            rcases List.mem_append.1 hu with hu | hu
            · exact HVK.out.2 u hu e
            · rw [List.mem_singleton] at hu
              subst hu
              have h1 := (row_lt HO.out e).1
              have h2 := HGD.out
              have h3 := HA5.out.size
              simp only at h1
              omega
          have HXO : Hid ((Value.slice Ao (40 * k) co).ownBlock ≠ some gx) := Lib.hid fun e => by
            have h1 := row_lt HO.out e
            rcases HGX.out with h2 | h2
            · exact h2 (HP.out _ (by have := HS3.out.1; omega))
            · omega
          have HSR : Hid (∀ j u, (dd.map bt)[j]? = some u → w9.cell? ((⟨gx, 0, none⟩ : Addr).add j) = some u) := Lib.hid (by
            obtain ⟨ad, he, _, h9⟩ := HX9.out.cells (by rw [HSP.out.1]; omega)
            injection he with he
            subst he
            exact h9)
          clear hput hm9 hgg hown hgrow hat hlt8 S7 S8 z5 z5a z7 z8 f8 e1 M1 D1 X7
          go_wp2_with (at_builtin; refine wpList_append_lies _ rfl (.tmp 86) (.tmp 87) 33 rfl w3.heap.size 5 u0 (.int .u8 0) 1 1 Try.underlying33 HU.out.1 HU.out.2.1 HU.out.2.2.1 HU.out.2.2.2 rfl (by omega) (.slice Ao (40 * k) co) (40 * k) _ rfl HO9.out ⟨gx, 0, none⟩ 40 cx (dd.map bt) rfl (by rw [List.length_map, HSP.out.1]) HSR.out (bt_one _) (by omega) (by unfold maxLen; omega) (by omega) (Nat.le_trans HMV.out.1.size (Nat.le_trans HA5.out.size HM9.out.size)) _ rfl ?_; intro ga ca w10 hown hgrow hat hlt10)
          have hm10 : Mv (fun j => (Value.slice Ao (40 * k) co).ownBlock = some j) w9 w10 := (Mv.refl _ _).grown hgrow fun j hj => Or.inl hj
          have HY10 : Hid (Zq w10 z x y t L3 (R ++ sees M B t a (k + 1)) P v3 (.slice (some ⟨gg, 0, none⟩) (nr + 1) cap) (l' ++ [((⟨(xk : Int), dd, false⟩ : Rd), gd, cd)])) := Lib.hid (by
            rw [HSM.out, HSEE.out, ← List.append_assoc]
            exact HY.out.bytes HO9.out hm10 HDS.out)
          have HO10 : Hid (w10.ownsRow w3.heap.size 5 1 (.slice (some ⟨ga, 0, none⟩) (40 * k + 40) ca) (40 * k + 40) ((byt (sees M B t a (k + 1))).map bt)) := Lib.hid (by
            rw [HSM.out, byt_app, byt_one, List.map_append, HSEE.out]; exact hown)
          have HD10 : Hid (∀ u ∈ l' ++ [((⟨(xk : Int), dd, false⟩ : Rd), gd, cd)], (Value.slice (some ⟨ga, 0, none⟩) (40 * k + 40) ca).ownBlock ≠ some u.2.1) := Lib.hid fun u hu e => by
            have e : ga = u.2.1 := by injection e
            rcases hat with h1 | h1
            · exact HDS.out u hu (by rw [h1, e])
            · have := (HY.out.rw.bv u hu).2; omega
          have HM10 : Hid (Mv (fun g => g = z ∨ r.ownBlock = some g) w3 w10 ∧ ∀ g, (Value.slice (some ⟨gg, 0, none⟩) (nr + 1) cap).ownBlock = some g → r.ownBlock = some g ∨ w3.heap.size ≤ g) := Lib.hid ⟨((HMV.out.1.next HA5.out).trans HM9.out fun g hg => hg.elim (fun e => (HMV.out.2 g e).imp (fun e => Or.inr e) id) (fun e => Or.inl (Or.inl e))).trans hm10 fun g hg => Or.inr (row_lt HO9.out hg).2, HGG.out⟩
          clear hown hgrow hat hlt10 hm10 HY HO9 HX9 HDS HXO HSR HM9 HGG HGD A7
          go_wp2
          go_roundw
          case rel => exact ⟨k + 1, some ⟨ga, 0, none⟩, ca, .slice (some ⟨gg, 0, none⟩) (nr + 1) cap, _, by omega, by go_num, by rw [show 40 * (k + 1) = 40 * k + 40 by omega], by rw [show 40 * (k + 1) = 40 * k + 40 by omega]; exact HO10, Lib.hid ⟨HY10.out, by rw [show 40 * (k + 1) = 40 * k + 40 by omega]; exact HD10.out⟩, HM10⟩
          case measure => simp [RowKit.intOf]; omega
        · have HSEE : Hid (see M B t xk = ⟨(xk : Int), B.g xk, true⟩) := Lib.hid (see_own hg)
          have HG0 : Hid (gi B (xk : Int) ≠ []) := Lib.hid (by rw [gi_nat]; exact hg)
          clear hg
          go_region_held3 (fun w' => w'.cell? ⟨z, 1, none⟩ = some (.pointer (some ⟨y, 0, none⟩)) ∧ w'.cell? ⟨q, 0, none⟩ = some (.int .i64 (a : Int))) (go_keep)
            ((go_at_call 39; refine (HGB.out _ ((At.start wr).drewN 1)).mono ?_; rintro e w4 hte; obtain ⟨gx, cx, rfl, hbv, hgx, rfl⟩ := tells_yes hte HG0.out; have HBV0 := Lib.hid hbv; have HGX : Hid (¬ P gx ∨ wr.heap.size ≤ gx) := Lib.hid (Or.inl (HMP.out.2 gx hgx)); clear hte hbv hgx))
          clear d1 d2 d3 d4 d5 HGB
          have HBV : Hid (BV (wr.drewN 1) (some ⟨gx, 0, none⟩) (B.g xk)) := Lib.hid (by have := HBV0.out; rw [gi_nat] at this; exact this)
          clear HBV0
          have hA5 : At wr (wr.drewN 1) := (At.start wr).drewN 1
          generalize wr.drewN 1 = w5 at hA5 HBV ⊢
          have HA5 := Lib.hid hA5
          clear hA5
          obtain ⟨dd, hdd⟩ : ∃ dd, dd = B.g xk := ⟨_, rfl⟩
          rw [← hdd] at HSEE HBV
          clear hdd HG0
          have HSP : Hid (dd.length = 40 ∧ AllB dd) := Lib.hid (by have := HSB.out; rw [HSEE.out] at this; exact this)
          have HZ5 := Lib.hid (HVK.out.1.on HA5.out)
          have z5 := HZ5.out.cells.2.2.2.2
          have HO5 := Lib.hid (own_at HO.out HA5.out)
          have HQX : Hid (∀ W, At w5 W → W.heap[q]? = some (.cells #[.int .i64 (a : Int), .int .i64 (m : Int)] 29 (0, 0))) := Lib.hid fun W hW => (HA5.out.next hW).keep HBQr.out
          have HRO : Hid (∀ W, At w5 W → W.ownsRow 0 67 3 (.slice ar nr cr) nr (rcs l')) := Lib.hid fun W hW => by
            have := (HZ5.out.on hW).rw.row
            rwa [← HNR.out] at this
          have e1 : w5.cell? ⟨q, 0, none⟩ = some (.int .i64 (a : Int)) := (cell_at (HQX.out w5 (At.start _)) 0).trans rfl
          have M1 : Hid (Ey (w5.alloc (.cells #[] 5)).drew w5.heap.size) := Lib.hid ((em_new w5).on ((At.start _).drewN 1))
          have D1 : Hid (At w5 (w5.alloc (.cells #[] 5)).drew) := Lib.hid (((At.start w5).alloc _).drewN 1)
          have z5a := keep_cell (ob := .cells #[] 5) z5
          have hbz : (Value.slice ar nr cr).ownBlock ≠ some z := fun e => by
            obtain ⟨cs', hc'⟩ := rw_block HZ5.out.rw e
            exact cells_ne hc' HZ5.out.box (by decide) rfl
          have hbq : (Value.slice ar nr cr).ownBlock ≠ some q := fun e => by
            obtain ⟨cs', hc'⟩ := rw_block HZ5.out.rw e
            exact cells_ne hc' (HQX.out w5 (At.start _)) (by decide) rfl
          have hzq : z ≠ q := fun e => cells_ne (HQX.out w5 (At.start _)) HZ5.out.box (by decide) e.symm
          have HBZ := Lib.hid (And.intro hbz (And.intro hbq hzq))
          clear hbz hbq hzq
          go_wp2
          refine wp_till (by kernel_rfl) (fun w' => w'.cell? ⟨z, 5, none⟩ = some (.slice ar nr cr) ∧ w'.cell? ⟨q, 0, none⟩ = some (.int .i64 (a : Int))) 16 ?_
          refine till_take (i := 0) (v := .pointer (some ⟨z, 0, none⟩)) rfl (by kernel_rfl) (by kernel_rfl) (by kernel_rfl) (by kernel_rfl) (fun _ _ _ h => h) ⟨z5, e1⟩ (Or.inl ⟨by rfl, by (intro w hSw; (try dsimp only at hSw); go_simp)⟩) ?_
          try go_simp
          refine till_take (i := 1) (v := .pointer (some ⟨z, 0, none⟩)) rfl (by kernel_rfl) (by kernel_rfl) (by kernel_rfl) (by kernel_rfl) (fun _ _ _ h => h) ⟨z5, e1⟩ (Or.inl ⟨by rfl, by (intro w hSw; (try dsimp only at hSw); go_simp)⟩) ?_
          try go_simp
          refine till_take (i := 2) (v := .pointer (some ⟨z, 0, none⟩)) rfl (by kernel_rfl) (by kernel_rfl) (by kernel_rfl) (by kernel_rfl) (fun _ _ _ h => h) ⟨z5, e1⟩ (Or.inl ⟨by rfl, by (intro w hSw; (try dsimp only at hSw); go_simp)⟩) ?_
          try go_simp
          refine till_take (i := 3) (v := .pointer (some ⟨z, 5, none⟩)) rfl (by kernel_rfl) (by kernel_rfl) (by kernel_rfl) (by kernel_rfl) (fun _ _ _ h => h) ⟨z5, e1⟩ (Or.inl ⟨by rfl, by (intro w hSw; (try dsimp only at hSw); go_simp)⟩) ?_
          try go_simp
          refine till_take (i := 4) (v := .slice ar nr cr) rfl (by kernel_rfl) (by kernel_rfl) (by kernel_rfl) (by kernel_rfl) (fun _ _ _ h => h) ⟨z5, e1⟩ (Or.inl ⟨by rfl, by (intro w hSw; (try dsimp only at hSw); go_simp)⟩) ?_
          try go_simp
          refine till_take (i := 5) (v := .pointer (some ⟨q, 0, none⟩)) rfl (by kernel_rfl) (by kernel_rfl) (by kernel_rfl) (by kernel_rfl) (fun _ _ _ h => h) ⟨z5, e1⟩ (Or.inl ⟨by rfl, by (intro w hSw; (try dsimp only at hSw); go_simp)⟩) ?_
          try go_simp
          refine till_take (i := 6) (v := .int .i64 (a : Int)) rfl (by kernel_rfl) (by kernel_rfl) (by kernel_rfl) (by kernel_rfl) (fun _ _ _ h => h) ⟨z5, e1⟩ (Or.inl ⟨by rfl, by (intro w hSw; (try dsimp only at hSw); go_simp)⟩) ?_
          try go_simp
          refine till_take (i := 7) (v := .int .i64 (k : Int)) rfl (by kernel_rfl) (by kernel_rfl) (by kernel_rfl) (by kernel_rfl) (fun _ _ _ h => h) ⟨z5, e1⟩ (Or.inl ⟨by rfl, by (intro w hSw; (try dsimp only at hSw); go_simp)⟩) ?_
          try go_simp
          refine till_take (i := 8) (v := .int .i64 (xk : Int)) rfl (by kernel_rfl) (by kernel_rfl) (by kernel_rfl) (by kernel_rfl) (fun _ _ _ h => h) ⟨z5, e1⟩ (Or.inl ⟨by rfl, by (intro w hSw; (try dsimp only at hSw); go_simp)⟩) ?_
          try go_simp
          refine till_take (i := 10) (v := .slice (some ⟨gx, 0, none⟩) 40 cx) rfl (by kernel_rfl) (by kernel_rfl) (by kernel_rfl) (by kernel_rfl) (fun _ _ _ h => h) ⟨z5, e1⟩ (Or.inl ⟨by rfl, by (intro w hSw; (try dsimp only at hSw); go_simp)⟩) ?_
          try go_simp
          refine till_take (i := 12) (v := .bool true) rfl (by kernel_rfl) (by kernel_rfl) (by kernel_rfl) (by kernel_rfl) (fun _ _ _ h => h) ⟨z5, e1⟩ (Or.inl ⟨by rfl, by (intro w hSw; (try dsimp only at hSw); go_simp)⟩) ?_
          try go_simp
          refine till_one (j := 9) (by kernel_rfl) rfl (fun K hK => ?_)
          go_simp
          refine hK.out _ _ (fun hp => ⟨z5a, keep_cell e1⟩) ?_
          clear hK K
          try go_simp
          refine till_one (j := 11) (by kernel_rfl) rfl (fun K hK => ?_)
          refine step_forty (by rfl) (.tmp 77) (.tmp 78) (by rfl) _ M1.out (by rfl) gx 0 cx dd (by rfl) (HBV.out.below D1.out) HSP.out.1 ?_
          intro gd cd w7 X7
          have A7 : Hid (At w5 w7) := Lib.hid (X7.out.mv.at_ D1.out (fun j hj => by rw [hj]; exact Nat.le_refl _))
          have S7 : w7.cell? ⟨q, 0, none⟩ = some (.int .i64 (a : Int)) := (cell_at (HQX.out w7 A7.out) 0).trans rfl
          have z7 := (HZ5.out.on A7.out).cells.2.2.2.2
          refine hK.out _ _ (fun hp => ⟨z7, S7⟩) ?_
          clear hK K
          try go_simp
          refine till_take (i := 13) (v := .agg #[.int .i64 (xk : Int), .slice (some ⟨gd, 0, none⟩) 40 cd, .bool true]) rfl (by kernel_rfl) (by kernel_rfl) (by kernel_rfl) (by kernel_rfl) (fun _ _ _ h => h) ⟨z7, S7⟩ (Or.inl ⟨by rfl, by (intro w hSw; (try dsimp only at hSw); go_simp)⟩) ?_
          try go_simp
          refine till_one (j := 14) (by kernel_rfl) rfl (fun K hK => ?_)
          go_simp
          refine hK.out _ _ (fun hp => ⟨(HZ5.out.on (A7.out.alloc _)).cells.2.2.2.2, (cell_at (HQX.out _ (A7.out.alloc _)) 0).trans rfl⟩) ?_
          clear hK K
          try go_simp
          refine till_one (j := 15) (by kernel_rfl) rfl (fun K hK => ?_)
          refine step_append_lies _ (by rfl) (.tmp 72) (.tmp 82) 54 (by rfl) 0 67 i0 z0 3 40 Try.underlying54 HZ.out.1 HZ.out.2.1 HZ.out.2.2.1 HZ.out.2.2.2.1 HZ.out.2.2.2.2 (by omega) (.slice ar nr cr) nr (rcs l') (by rfl) (HRO.out _ (A7.out.alloc _)) ⟨w7.heap.size, 0, none⟩ 1 1 [.int .i64 (xk : Int), .slice (some ⟨gd, 0, none⟩) 40 cd, .bool true] (by rfl) rfl (World.news_of_block (cs := #[.int .i64 (xk : Int), .slice (some ⟨gd, 0, none⟩) 40 cd, .bool true]) (t := 67) (fr := (0, 0)) (heap_alloc_new w7 _)) (fun v hv => by simp at hv; rcases hv with rfl | rfl | rfl <;> rfl) (by omega) (by unfold maxLen; omega) (by omega) (Nat.zero_le _) (w7.heap.size + 1) (by simp) ?_
          intro gg cap w8 hown hgrow hat hlt8
          have hq8 := (Iv.grown_mv hgrow).keep (HQX.out _ (A7.out.alloc _)) HBZ.out.2.1
          have hb8 := (Iv.grown_mv hgrow).keep (HZ5.out.on (A7.out.alloc _)).box HBZ.out.1
          have S8 : w8.cell? ⟨q, 0, none⟩ = some (.int .i64 (a : Int)) := (cell_at hq8 0).trans rfl
          have S9 : ∀ v, (w8.setCell ⟨z, 5, none⟩ v).cell? ⟨q, 0, none⟩ = some (.int .i64 (a : Int)) := fun v => (World.cell?_setCell_far _ _ _ _ HBZ.out.2.2).trans S8
          have z8 := (cell_at hb8 5).trans rfl
          have f8 := free_at hb8 5
          clear hq8 hb8
          refine hK.out _ _ (fun hp => ⟨z8, S8⟩) ?_
          clear hK K
          try go_simp
          refine till_one (j := 16) (by kernel_rfl) rfl (fun K hK => ?_)
          go_simp
          refine hK.out _ _ (fun hp => False.elim (by have h : true = false := hp; cases h)) ?_
          clear hK K
          try go_simp
          refine till_one (j := 17) (by kernel_rfl) rfl (fun K hK => ?_)
          go_simp
          refine hK.out _ _ (fun hp => False.elim (by have h : true = false := hp; cases h)) ?_
          clear hK K
          try go_simp
          refine till_one (j := 18) (by kernel_rfl) rfl (fun K hK => ?_)
          go_simp
          refine hK.out _ _ (fun hp => False.elim (by have h : true = false := hp; cases h)) ?_
          clear hK K
          try go_simp
          refine till_done (by kernel_rfl) ?_
          have hput := (HZ5.out.on (A7.out.alloc (.cells #[.int .i64 (xk : Int), .slice (some ⟨gd, 0, none⟩) 40 cd, .bool true] 67))).put (a := (xk : Int)) (o := true) (gc := gd) (cc := cd) (X7.out.bv.below ((At.start w7).alloc _)) HSP.out (by have := X7.out.lt; simp; omega) (HP.out gd (by have h1 := X7.out.at_; have h2 := D1.out.size; have h3 := HA5.out.size; have h4 := HMW2.out.size; rcases h1 with e | e <;> omega)) ⟨fun e => by have h1 := X7.out.at_; have h2 := D1.out.size; have h3 := lt_heap HZ5.out.box; rcases h1 with e' | e' <;> omega, fun e => by have h1 := X7.out.at_; have h2 := D1.out.size; have h3 := HZ5.out.rw.lt e; rcases h1 with e' | e' <;> omega⟩ (fun g hg => HP.out g (by have h1 := (A7.out.alloc (.cells #[.int .i64 (xk : Int), .slice (some ⟨gd, 0, none⟩) 40 cd, .bool true] 67)).size; have h3 := HA5.out.size; have h4 := HMW2.out.size; omega)) (by rw [← HNR.out]; exact hown) hgrow (hat.imp_right fun e => by rw [e]; simp)
          rw [← HNR.out] at hput
          have HGD : Hid (w5.heap.size ≤ gd) := Lib.hid (by have h1 := X7.out.at_; have h2 := D1.out.size; rcases h1 with e | e <;> omega)
          have hm9 := (Mv.of_below (fun g => (Value.slice ar nr cr).ownBlock = some g ∨ g = z) (A7.out.alloc (.cells #[.int .i64 (xk : Int), .slice (some ⟨gd, 0, none⟩) 40 cd, .bool true] 67))).trans hput.2 (fun _ => Or.inl)
          have hgg : ∀ g, (Value.slice (some ⟨gg, 0, none⟩) (nr + 1) cap).ownBlock = some g → r.ownBlock = some g ∨ w3.heap.size ≤ g := fun g hg => by
            have hg : gg = g := by injection hg
            subst hg
            rcases hat with e | e
            · exact HMV.out.2 _ e
            · right; have h1 := A7.out.size; have h2 := HA5.out.size; have h3 := HMV.out.1.size; omega
          generalize w8.setCell ⟨z, 5, none⟩ (.slice (some ⟨gg, 0, none⟩) (nr + 1) cap) = w9 at hput hm9 ⊢
          have HY := Lib.hid hput.1
          have HM9 := Lib.hid hm9
          have HGG := Lib.hid hgg
          have HO9 : Hid (w9.ownsRow w3.heap.size 5 1 (.slice Ao (40 * k) co) (40 * k) ((byt (sees M B t a k)).map bt)) := Lib.hid (own_turn HO5.out (Nat.le_refl _) hm9 fun g cs hg hf => by
            rcases hf with hf | rfl
            · obtain ⟨cs', hc'⟩ := rw_block HZ5.out.rw hf
              exact cells_ne hg hc' (by decide) rfl
            · exact cells_ne hg HZ5.out.box (by decide) rfl)
          have HX9 : Hid (BV w9 (some ⟨gx, 0, none⟩) dd) := Lib.hid (bv_mv HBV.out hm9 fun hf => by
            rcases hf with hf | hf
            · rcases HGX.out with h1 | h1
              · exact h1 (HVK.out.1.pr _ hf)
              · have := HVK.out.1.rw.lt hf; omega
            · rcases HGX.out with h1 | h1
              · exact h1 (by rw [hf]; exact HVK.out.1.pz)
              · have := lt_heap HVK.out.1.box; omega)
          have HDS : Hid (∀ u ∈ l' ++ [((⟨(xk : Int), dd, true⟩ : Rd), gd, cd)], (Value.slice Ao (40 * k) co).ownBlock ≠ some u.2.1) := Lib.hid fun u hu e => by
            rcases List.mem_append.1 hu with hu | hu
            · exact HVK.out.2 u hu e
            · rw [List.mem_singleton] at hu
              subst hu
              have h1 := (row_lt HO.out e).1
              have h2 := HGD.out
              have h3 := HA5.out.size
              simp only at h1
              omega
          have HXO : Hid ((Value.slice Ao (40 * k) co).ownBlock ≠ some gx) := Lib.hid fun e => by
            have h1 := row_lt HO.out e
            rcases HGX.out with h2 | h2
            · exact h2 (HP.out _ (by have := HS3.out.1; omega))
            · omega
          have HSR : Hid (∀ j u, (dd.map bt)[j]? = some u → w9.cell? ((⟨gx, 0, none⟩ : Addr).add j) = some u) := Lib.hid (by
            obtain ⟨ad, he, _, h9⟩ := HX9.out.cells (by rw [HSP.out.1]; omega)
            injection he with he
            subst he
            exact h9)
          clear hput hm9 hgg hown hgrow hat hlt8 S7 S8 z5 z5a z7 z8 f8 e1 M1 D1 X7
          go_wp2_with (at_builtin; refine wpList_append_lies _ rfl (.tmp 86) (.tmp 87) 33 rfl w3.heap.size 5 u0 (.int .u8 0) 1 1 Try.underlying33 HU.out.1 HU.out.2.1 HU.out.2.2.1 HU.out.2.2.2 rfl (by omega) (.slice Ao (40 * k) co) (40 * k) _ rfl HO9.out ⟨gx, 0, none⟩ 40 cx (dd.map bt) rfl (by rw [List.length_map, HSP.out.1]) HSR.out (bt_one _) (by omega) (by unfold maxLen; omega) (by omega) (Nat.le_trans HMV.out.1.size (Nat.le_trans HA5.out.size HM9.out.size)) _ rfl ?_; intro ga ca w10 hown hgrow hat hlt10)
          have hm10 : Mv (fun j => (Value.slice Ao (40 * k) co).ownBlock = some j) w9 w10 := (Mv.refl _ _).grown hgrow fun j hj => Or.inl hj
          have HY10 : Hid (Zq w10 z x y t L3 (R ++ sees M B t a (k + 1)) P v3 (.slice (some ⟨gg, 0, none⟩) (nr + 1) cap) (l' ++ [((⟨(xk : Int), dd, true⟩ : Rd), gd, cd)])) := Lib.hid (by
            rw [HSM.out, HSEE.out, ← List.append_assoc]
            exact HY.out.bytes HO9.out hm10 HDS.out)
          have HO10 : Hid (w10.ownsRow w3.heap.size 5 1 (.slice (some ⟨ga, 0, none⟩) (40 * k + 40) ca) (40 * k + 40) ((byt (sees M B t a (k + 1))).map bt)) := Lib.hid (by
            rw [HSM.out, byt_app, byt_one, List.map_append, HSEE.out]; exact hown)
          have HD10 : Hid (∀ u ∈ l' ++ [((⟨(xk : Int), dd, true⟩ : Rd), gd, cd)], (Value.slice (some ⟨ga, 0, none⟩) (40 * k + 40) ca).ownBlock ≠ some u.2.1) := Lib.hid fun u hu e => by
            have e : ga = u.2.1 := by injection e
            rcases hat with h1 | h1
            · exact HDS.out u hu (by rw [h1, e])
            · have := (HY.out.rw.bv u hu).2; omega
          have HM10 : Hid (Mv (fun g => g = z ∨ r.ownBlock = some g) w3 w10 ∧ ∀ g, (Value.slice (some ⟨gg, 0, none⟩) (nr + 1) cap).ownBlock = some g → r.ownBlock = some g ∨ w3.heap.size ≤ g) := Lib.hid ⟨((HMV.out.1.next HA5.out).trans HM9.out fun g hg => hg.elim (fun e => (HMV.out.2 g e).imp (fun e => Or.inr e) id) (fun e => Or.inl (Or.inl e))).trans hm10 fun g hg => Or.inr (row_lt HO9.out hg).2, HGG.out⟩
          clear hown hgrow hat hlt10 hm10 HY HO9 HX9 HDS HXO HSR HM9 HGG HGD A7
          go_wp2
          go_roundw
          case rel => exact ⟨k + 1, some ⟨ga, 0, none⟩, ca, .slice (some ⟨gg, 0, none⟩) (nr + 1) cap, _, by omega, by go_num, by rw [show 40 * (k + 1) = 40 * k + 40 by omega], by rw [show 40 * (k + 1) = 40 * k + 40 by omega]; exact HO10, Lib.hid ⟨HY10.out, by rw [show 40 * (k + 1) = 40 * k + 40 by omega]; exact HD10.out⟩, HM10⟩
          case measure => simp [RowKit.intOf]; omega
      · have hkm : k = m := by omega
        subst hkm
        have hr : BV wr Ao (byt (sees M B t a k)) := (own_bv HO.out).2
        have HE : Hid (Rread z x y t M B L R P (a : Int) (k : Int) w (.returned (.tuple #[.slice Ao (40 * k) co, .int .i64 0])) wr) := Lib.hid (rread_ok a k (rcode_ok HRC.out.1 HRC.out.2 HLE.out.1) (own_bv HO.out).1 hr (by rw [← HLE.out.2]; exact ⟨_, _, _, HVK.out.1⟩) HMW2.out)
        clear hr
        go_wp2
        go_ret2
        exact HE.out
  · subst hL3
    have HE : Hid (Rread z x y t M B L3 R P (a : Int) (m : Int) w (.returned (.tuple #[.slice none 0 0, .int .i64 7])) w3) := Lib.hid (rread_no (a : Int) (m : Int) 7 (rcode_big HRC.out.1 HRC.out.2 hgt) (by decide) ⟨_, _, _, HQ3.out⟩ HMW.out)
    go_wp2
    go_ret2
    exact HE.out
theorem rread_any (hZ : Rz w z x y t L R P) (hM : Rm w x M N PM) (hB : Rb w y B PB) (hP : ∀ g, w.heap.size ≤ g → P g) (hMP : ∀ g, PM g → ¬ P g) (hBP : ∀ g, PB g → ¬ P g) (hR : R.length ≤ 100000) (hN : N ≤ 100000000) (a m : Int) :
    Calls Try.prog 12 #[.pointer (some ⟨z, 0, none⟩), .agg #[.int .i64 a, .int .i64 m]] w (Rread z x y t M B L R P a m w) := by
  by_cases h1 : 1 ≤ m ∧ m ≤ 16
  · by_cases h2 : 0 ≤ a ∧ a + m ≤ (M.n : Int)
    · obtain ⟨a, rfl⟩ : ∃ a' : Nat, a = (a' : Int) := ⟨a.toNat, by omega⟩
      obtain ⟨m, rfl⟩ : ∃ m' : Nat, m = (m' : Int) := ⟨m.toNat, by omega⟩
      exact rread_yes hZ hM hB hP hMP hBP hR hN a m (by omega) (by omega) (by omega)
    · exact rread_range hZ hM a m h1 h2
  · exact rread_len hZ a m h1
end

end Go.Proofs.Ytgjlklladbcmcaa
