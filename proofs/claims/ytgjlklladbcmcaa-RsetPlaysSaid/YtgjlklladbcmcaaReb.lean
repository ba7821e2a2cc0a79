/- Proved: Read of an extent of the map's: the bytes as the transaction sees them, the extent is added to the read set, the blocks to the reads; where the read set would grow too great it is refused. -/
import Derived.Test.YtgjlklladbcmcaaRea
namespace Go.Proofs.Ytgjlklladbcmcaa
open Go.RowKit

/-- What Read of an extent of the map's has done. -/
def Reb (M : Em.St) (B : St) (bv bm bb : Nat) (t : Int) (L : List (Int × Int)) (R : List Rd) (P : Nat → Prop) (a m : Nat) (w : World) (e : Ending) (w' : World) : Prop :=
  Mv P w w' ∧ ((((Iv.nf (L ++ [((a : Int), (m : Int))])).length ≤ 64 ∧ ∃ g c, VP w' bv bm bb t (Iv.nf (L ++ [((a : Int), (m : Int))])) (R ++ sees M B t a m) (fun q => P q ∧ q ≠ g) ∧ e = .returned (.tuple #[.slice (some ⟨g, 0, none⟩) (40 * m) c, .int .i64 0]) ∧ BV w' (some ⟨g, 0, none⟩) (byt (sees M B t a m)) ∧ 40 * m ≤ c ∧ w.heap.size ≤ g)) ∨
    (64 < (Iv.nf (L ++ [((a : Int), (m : Int))])).length ∧ VP w' bv bm bb t L R P ∧ e = .returned (.tuple #[.slice none 0 0, .int .i64 7])))

theorem added_cases {b : Nat} {v : Value} {L l N : List (Int × Int)} {w w' : World} {e : Ending} (h : Iv.Adds b v 64 L l w e w') (hv : Iv.allB l = true) (hN : Iv.Is (L ++ l) N) (h0 : l ≠ []) :
    ∃ (z : Int) (v' : Value) (L2 : List (Int × Int)), e = .returned (.int .i64 z) ∧ Iv.Did w b v v' w' ∧ Iv.Sv w' b v' 64 L2 ∧ ((z = 0 ∧ N.length ≤ 64 ∧ L2 = N) ∨ (z = 7 ∧ 64 < N.length ∧ L2 = L)) := by
  obtain ⟨v', hd, ⟨h1, rfl, h2⟩ | ⟨h1, rfl, h2⟩⟩ := h.known hv hN h0
  · exact ⟨0, v', N, rfl, hd, h2, Or.inl ⟨rfl, by omega, rfl⟩⟩
  · exact ⟨7, v', L, rfl, hd, h2, Or.inr ⟨rfl, by omega, rfl⟩⟩
theorem keep_cell {w : World} {ob : Obj} {a : Addr} {v : Value} (h : w.cell? a = some v) : (w.alloc ob).drew.cell? a = some v := by
  have hb := World.block_lt_of_cell? w _ h
  show (w.alloc ob).cell? a = some v
  rw [World.cell?_alloc_lt _ _ _ hb]; exact h
theorem keep_free {w : World} {ob : Obj} {b o : Nat} {f : Bool} (hb : b < w.heap.size) (h : w.frozen? ⟨b, o, none⟩ = f) : (w.alloc ob).drew.frozen? ⟨b, o, none⟩ = f := by
  show (w.alloc ob).frozen? ⟨b, o, none⟩ = f
  rw [World.frozen?_alloc_past _ _ _ hb]; exact h
theorem ev_one {w : World} {g : Nat} {a m : Int} (h : w.heap[g]? = some (.cells #[.int .i64 a, .int .i64 m] 29 (0, 0))) : Iv.EV w (some ⟨g, 0, none⟩) [(a, m)] :=
  Or.inr ⟨g, 0, rfl, lt_heap h, fun j hj => by
    have hj0 : j = 0 := by simp at hj; omega
    subst hj0
    exact ⟨(cell_at h 0).trans rfl, (cell_at h 1).trans rfl⟩⟩

set_option maxHeartbeats 4000000 in
set_option maxRecDepth 100000 in
theorem read_any {w : World} {bv bm bb mb mm : Nat} {t : Int} {L : List (Int × Int)} {R : List Rd} {P : Nat → Prop} {M : Em.St} {B : St} {FM : Nat → Prop} {D : DataW Value} {hd : Nat → Value} (hV : VP w bv bm bb t L R P) (hM : Em.Mq w bm M FM mm D hd) (hB : Bf w bb mb B)
    (hP : ∀ g, w.heap.size ≤ g → P g) (hMP : ∀ g, FM g → ¬ P g) (hb1 : ¬ P bb) (hb2 : ¬ P mb) (hR : R.length ≤ 100000) (a m : Nat) (h1 : 1 ≤ m) (h16 : m ≤ 16) (ha : a + m ≤ M.n) :
    Calls Try.prog 11 #[.pointer (some ⟨bv, 0, none⟩), .agg #[.int .i64 (a : Int), .int .i64 (m : Int)]] w (Reb M B bv bm bb t L R P a m w) := by
  obtain ⟨i0, z0, hi0, hz0, hz1, hz2, hz3⟩ := read_parts
  obtain ⟨u0, hu0, hu1, hu2, hu3⟩ := info_parts info_u8
  have hn2 := hM.ok.n2
  obtain ⟨bs, vs, vr, l, hV⟩ := hV
  have HV := Lib.hid hV
  have HM := Lib.hid hM
  have HB := Lib.hid hB
  have HP := Lib.hid hP
  have HMP := Lib.hid (And.intro hMP (And.intro hb1 hb2))
  have HZ := Lib.hid (And.intro hi0 (And.intro hz0 (And.intro hz1 (And.intro hz2 hz3))))
  have HU := Lib.hid (And.intro hu0 (And.intro hu1 (And.intro hu2 hu3)))
  have hva : Iv.Va ((a : Int), (m : Int)) := by unfold Iv.Va; simp only; omega
  have hvl : ∀ e ∈ L ++ [((a : Int), (m : Int))], Iv.Vm e := fun e he => by
    rcases List.mem_append.1 he with he | he
    · exact hV.sv.nm.1 e he
    · rw [List.mem_singleton] at he; subst he; exact hva.vm
  have HNF := Lib.hid (Iv.nf_is hvl)
  have HAL : Hid (Iv.allB [((a : Int), (m : Int))] = true) := Lib.hid (Iv.allB_yes fun e he => by rw [List.mem_singleton] at he; subst he; exact hva)
  have HBK : Hid (∀ W, At w W → Calls Try.prog 34 #[.pointer (some ⟨bv, 0, none⟩)] W fun e w' => e = .returned (.int .i64 (M.n : Int)) ∧ W = w') := Lib.hid fun W hW => blocks_any (hW.keep HV.out.box) (HM.out.on hW)
  clear hV hM hB hP hMP hb1 hb2 hi0 hz0 hz1 hz2 hz3 hu0 hu1 hu2 hu3 hva hvl
  obtain ⟨q, hq⟩ : ∃ q, w.heap.size = q := ⟨_, rfl⟩
  obtain ⟨wa, hwa⟩ : ∃ wa, w.alloc (.cells #[.int .i64 (a : Int), .int .i64 (m : Int)] 29) = wa := ⟨_, rfl⟩
  have HA0 : Hid (At w wa) := Lib.hid (by rw [← hwa]; exact (At.start w).alloc _)
  have HQ : Hid (wa.heap[q]? = some (.cells #[.int .i64 (a : Int), .int .i64 (m : Int)] 29 (0, 0))) := Lib.hid (by rw [← hwa, ← hq]; exact heap_alloc_new w _)
  have p0 : wa.cell? ⟨q, 0, none⟩ = some (.int .i64 (a : Int)) := (cell_at HQ.out 0).trans rfl
  have p1 : wa.cell? ⟨q, 1, none⟩ = some (.int .i64 (m : Int)) := (cell_at HQ.out 1).trans rfl
  have q1 : decide ((m : Int) < 1) = false := decide_eq_false (by omega)
  have q2 : decide ((16 : Int) < (m : Int)) = false := decide_eq_false (by omega)
  have q3 : decide ((a : Int) < 0) = false := decide_eq_false (by omega)
  have q4 : IntKind.i64.wrap ((M.n : Int) - (m : Int)) = (M.n : Int) - (m : Int) := IntWalk.i64_in _ (by omega)
  have q5 : decide ((M.n : Int) - (m : Int) < (a : Int)) = false := decide_eq_false (by omega)
  have HBL : Hid (∀ W, At wa W → Calls Try.prog 34 #[.pointer (some ⟨bv, 0, none⟩)] W fun e w' => e = .returned (.int .i64 (M.n : Int)) ∧ W = w') := Lib.hid fun W hW => HBK.out W (HA0.out.next hW)
  have HQL := Lib.hid hq
  go_enter Try.func11, Try.ntmps11
  go_wp2
  go_quiet ((go_at_call 34; exact Calls.quiet_of_same ((HBL.out _ ((At.start _).drewN _)).mono fun _ _ h => ⟨h.1, h.2.symm⟩)))
  clear hwa hq p0 p1 q1 q2 q3 q4 q5 HBL HBK
  have hA1 : At w (wa.drewN nq) := HA0.out.drewN nq
  have hQ1 : (wa.drewN nq).heap[q]? = some (.cells #[.int .i64 (a : Int), .int .i64 (m : Int)] 29 (0, 0)) := HQ.out
  generalize wa.drewN nq = w1 at hA1 hQ1 ⊢
  have HA1 := Lib.hid hA1
  have HQ1 := Lib.hid hQ1
  have HC : Hid (∀ W, At w1 W → W.cell? ⟨bv, 3, none⟩ = some (.pointer (some ⟨bs, 0, none⟩)) ∧ W.cell? ⟨q, 0, none⟩ = some (.int .i64 (a : Int)) ∧ W.cell? ⟨q, 1, none⟩ = some (.int .i64 (m : Int))) := Lib.hid fun W hW =>
    ⟨(Vb.cells ((HA1.out.next hW).keep HV.out.box)).2.2.2.1, (cell_at (hW.keep HQ1.out) 0).trans rfl, (cell_at (hW.keep HQ1.out) 1).trans rfl⟩
  clear hA1 hQ1 HQ
  obtain ⟨d0, d1, d2⟩ := HC.out w1 (At.start _)
  go_wp2
  have HK : Hid (At w1 (w1.alloc (.cells #[.int .i64 (a : Int), .int .i64 (m : Int)] 29)).drew) := Lib.hid (((At.start w1).alloc _).drewN 1)
  have HADD := Lib.hid (Iv.add_any (w := (w1.alloc (.cells #[.int .i64 (a : Int), .int .i64 (m : Int)] 29)).drew) (some ⟨w1.heap.size, 0, none⟩) 1 1 [((a : Int), (m : Int))] (HV.out.sv.on (HA1.out.next HK.out)) (by omega) (fun e => by cases e) rfl (ev_one (heap_alloc_new w1 _)))
  go_region_held3 (fun w' => w'.cell? ⟨bv, 3, none⟩ = some (.pointer (some ⟨bs, 0, none⟩)) ∧ w'.cell? ⟨q, 0, none⟩ = some (.int .i64 (a : Int)) ∧ w'.cell? ⟨q, 1, none⟩ = some (.int .i64 (m : Int))) (go_keep)
    ((go_at_call 35; refine HADD.out.mono ?_; rintro e w3 hadd; obtain ⟨z, vs3, L3, rfl, hd3, hs3, hz3⟩ := added_cases hadd HAL.out HNF.out (by simp); have HD3 := Lib.hid hd3; have HS3 := Lib.hid hs3; have HZ3 := Lib.hid hz3; have hbq := hd3.mv.keep (HK.out.keep HQ1.out) (fun hf => by have := HV.out.sv.lt q hf; have := HQL.out; omega); have e1 := (cell_at hbq 0).trans rfl; have e2 := (cell_at hbq 1).trans rfl; have e0 := (Vb.cells (hd3.mv.keep ((HA1.out.next HK.out).keep HV.out.box) HV.out.far)).2.2.2.1; clear hadd hd3 hs3 hz3 hbq))
  have hA2 : At w (w1.alloc (.cells #[.int .i64 (a : Int), .int .i64 (m : Int)] 29)).drew := HA1.out.next HK.out
  have HV3 := Lib.hid ((HV.out.on hA2).added HD3.out HS3.out (fun g hg => HP.out g (Nat.le_trans hA2.size hg)))
  have HM3 : Hid (Mv P w w3) := Lib.hid ((Mv.of_below P hA2).trans (HD3.out.mv.more fun g hg => Or.inl (HV.out.ps g hg)) fun g hg => Or.inl hg)
  have HMM : Hid (Em.Mq w3 bm M FM mm D hd) := Lib.hid ((HM.out.on hA2).mv HD3.out.mv fun g hg hf => HMP.out.1 g hg (HV.out.ps g hf))
  have HBB : Hid (Bf w3 bb mb B) := Lib.hid ((HB.out.on hA2).mv HD3.out.mv (fun hf => HMP.out.2.1 (HV.out.ps _ hf)) (fun hf => HMP.out.2.2 (HV.out.ps _ hf)))
  have HSZ : Hid (w.heap.size ≤ w3.heap.size) := Lib.hid (Nat.le_trans hA2.size HD3.out.mv.size)
  clear hA2 HD3 HS3 HADD HC d0 d1 d2
  rcases HZ3.out with ⟨rfl, hle, hL3⟩ | ⟨rfl, hgt, hL3⟩
  · have HLE := Lib.hid (And.intro hle hL3)
    have HLK := Lib.hid (look_any HV3.out.box HMM.out HBB.out a m h16 ha)
    clear hle hL3 HZ3
    go_wp2_with fail
    refine HLK.out.mono ?_
    rintro e w4 ⟨v4, l4, rfl, hrw4, hl4, hA4, hnv, hnx⟩
    have hlm : l4.length = m := by have := congrArg List.length hl4; rwa [List.length_map, sees_len] at this
    obtain ⟨A4, c4, rfl, -, -⟩ := hrw4.form
    rw [hlm] at hrw4 hnv
    rw [hlm]
    have HW4 := Lib.hid hrw4
    have HL4 := Lib.hid (And.intro hl4 hlm)
    have HN4 := Lib.hid (And.intro hA4 (And.intro hnv hnx))
    clear hrw4 hl4 hlm hA4 hnv hnx HLK
    have hsl := sees_len M B t a m
    have HMK : Hid (Mv (fun g => g < w3.heap.size ∨ w4.heap.size ≤ g) w4 w4) := Lib.hid (Mv.refl _ _)
    go_wp2
    go_loopw [7, 47] (fun c7 c47 wr => ∃ (k : Nat) (Aa : Option Addr) (ca : Nat) (vr' : Value) (l' : List Lr), k ≤ m ∧ c47 = .int .i64 (k : Int) ∧ c7 = .slice Aa (40 * k) ca ∧ Hid (wr.ownsRow w4.heap.size 5 1 (.slice Aa (40 * k) ca) (40 * k) ((byt (sees M B t a k)).map bt)) ∧ Hid (Vq wr bv bm bb t L3 (R ++ sees M B t a k) P bs vs3 vr' l' ∧ (∀ g, vr'.ownBlock = some g → g < w3.heap.size ∨ w4.heap.size ≤ g) ∧ ∀ x ∈ l', x.2.1 < w4.heap.size) ∧ Hid (Mv P w wr ∧ Mv (fun g => g < w3.heap.size ∨ w4.heap.size ≤ g) w4 wr)) (fun _ c47 _ => m - (RowKit.intOf c47).toNat)
    case atStart =>
      refine ⟨0, none, 0, vr, l, Nat.zero_le _, rfl, rfl, Lib.hid (World.ownsRow_nil _ _ _ _), Lib.hid ⟨?_, fun g hg => ?_, fun x hx => ?_⟩, Lib.hid ⟨HM3.out.next HN4.out.1, Mv.refl _ _⟩⟩
      · have := HV3.out.on HN4.out.1
        rwa [show R ++ sees M B t a 0 = R by unfold sees; simp]
      · exact Or.inl (HV3.out.rw.lt hg)
      · exact Nat.lt_of_lt_of_le (HV3.out.rw.bv x hx).2 HN4.out.1.size
    case round =>
      obtain ⟨k, Aa, ca, vr', l', hk, rfl, rfl, HO, HVK, HMV⟩ := hrel
      by_cases hlt : k < m
      · have hkl : k < l4.length := by rw [HL4.out.2]; exact hlt
        have hrw := HW4.out.mv HMV.out.2 (fun g hg hf => by
          have h1 := HN4.out.2.1 g hg
          have h2 := HW4.out.lt hg
          omega) (fun x hx hf => by
          have h1 := HN4.out.2.2 x hx
          have h2 := (HW4.out.bv x hx).2
          omega)
        have hxb := (HW4.out.bv _ (lr_mem hkl)).2
        have hxn := HN4.out.2.2 _ (lr_mem hkl)
        obtain ⟨hxv, hxl⟩ := hrw.bv _ (lr_mem hkl)
        have hxy := hrw.by_ _ (lr_mem hkl)
        obtain ⟨A', c', he, -, hf⟩ := hrw.form
        injection he with he1 he2 he3
        subst he1
        clear he2 he3
        obtain ⟨g4, rfl, hg4, hc⟩ := hf (by omega)
        obtain ⟨k1, k2, k3⟩ := hc k hkl
        have hsee : (l4.getD k lrz).1 = see M B t (a + k) := by
          have h1 : (l4.map (·.1))[k]? = (sees M B t a m)[k]? := by rw [HL4.out.1]
          unfold sees at h1
          rw [List.getElem?_map, List.getElem?_map, List.getElem?_range hlt, List.getElem?_eq_getElem hkl] at h1
          rw [List.getD_eq_getElem?_getD, List.getElem?_eq_getElem hkl]
          simpa using h1
        have hsm := sees_more M B t a k
        rw [← hsee] at hsm
        obtain ⟨x0, hx0⟩ : ∃ x : Lr, x = l4.getD k lrz := ⟨_, rfl⟩
        obtain ⟨⟨xn, d, o⟩, gc, cc⟩ := x0
        rw [← hx0] at k1 k2 k3 hxb hxn hxv hxl hxy hsm
        simp only at k1 k2 k3 hxb hxn hxv hxl hxy hsm
        obtain ⟨ar, cr, rfl, -, -⟩ := HVK.out.1.rw.form
        have hll : l'.length = R.length + k := by have := congrArg List.length HVK.out.1.is; rwa [List.length_map, List.length_append, sees_len] at this
        obtain ⟨nr, hnr⟩ : ∃ nr, nr = l'.length := ⟨_, rfl⟩
        rw [← hnr] at HVK hll
        have HNR := Lib.hid hnr
        have hnl : nr ≤ 200000 := by omega
        have HLR := Lib.hid hll
        clear hll
        have HXB := Lib.hid (And.intro hxb (And.intro hxn (And.intro hxv (And.intro hxl hxy))))
        have HSM := Lib.hid hsm
        have HRW := Lib.hid hrw
        clear hxb hxn hxv hxl hxy hc hsee hsm hrw hx0 hkl hnr
        obtain ⟨wb, hwb⟩ : ∃ wb, wr.alloc (.cells #[.int .i64 xn, .slice (some ⟨gc, 0, none⟩) 40 cc, .bool o] 67) = wb := ⟨_, rfl⟩
        obtain ⟨q9, hq9⟩ : ∃ q9, wr.heap.size = q9 := ⟨_, rfl⟩
        have hAb : At wr wb := by rw [← hwb]; exact (At.start _).alloc _
        have hQ9 : wb.heap[q9]? = some (.cells #[.int .i64 xn, .slice (some ⟨gc, 0, none⟩) 40 cc, .bool o] 67 (0, 0)) := by rw [← hwb, ← hq9]; exact heap_alloc_new _ _
        have HAB := Lib.hid hAb
        have HQ9 := Lib.hid hQ9
        have HOB := Lib.hid (own_at HO.out hAb)
        have HVB := Lib.hid (HVK.out.1.on hAb)
        have HXV := Lib.hid (HXB.out.2.2.1.below hAb)
        have HXL : Hid (gc < wb.heap.size) := Lib.hid (Nat.lt_of_lt_of_le HXB.out.2.2.2.1 hAb.size)
        have HSR : Hid (∀ j u, (d.map bt)[j]? = some u → wb.cell? ((⟨gc, 0, none⟩ : Addr).add j) = some u) := Lib.hid (by
          obtain ⟨ad, he, _, h9⟩ := HXV.out.cells (by rw [HXB.out.2.2.2.2.1]; omega)
          injection he with he
          subst he
          exact h9)
        have r1 : wb.cell? ⟨q9, 1, none⟩ = some (.slice (some ⟨gc, 0, none⟩) 40 cc) := (cell_at hQ9 1).trans rfl
        have g1 : (0 : Int) ≤ (k : Int) := by omega
        have g2 : (k : Int) < (m : Int) := by omega
        clear hAb hQ9
        go_wp2_with (at_builtin; refine wpList_append_lies _ rfl (.tmp 51) (.tmp 53) 33 rfl w4.heap.size 5 u0 (.int .u8 0) 1 1 Try.underlying33 HU.out.1 HU.out.2.1 HU.out.2.2.1 HU.out.2.2.2 rfl (by omega) _ (40 * k) _ rfl HOB.out ⟨gc, 0, none⟩ 40 cc (d.map bt) rfl (by rw [List.length_map, HXB.out.2.2.2.2.1]) HSR.out (bt_one _) (by omega) (by unfold maxLen; omega) (by omega) (Nat.le_trans HMV.out.2.size HAB.out.size) _ rfl ?_; intro ga ca2 w5 hown hgrow hat hlt5)
        have hmv5 : Mv (fun j => (Value.slice Aa (40 * k) ca).ownBlock = some j) wb w5 := (Mv.refl _ _).grown hgrow fun j hj => Or.inl hj
        have hub : ∀ g, (Value.slice Aa (40 * k) ca).ownBlock = some g → (∃ cs, wb.heap[g]? = some (.cells cs 5 (0, 0))) ∧ w4.heap.size ≤ g := fun g hg => by
          rcases HOB.out.2 with ⟨e, _⟩ | ⟨g', cap, cur, e, hB, hh, _⟩
          · rw [e] at hg; cases hg
          · rw [e] at hg; injection hg with hg; subst hg; exact ⟨⟨cur, hh⟩, hB⟩
        have HV5 := Lib.hid (HVB.out.bytes HOB.out hmv5 (fun x hx e => by have := (hub _ e).2; have := HVK.out.2.2 x hx; omega))
        have HO5 : Hid (w5.ownsRow w4.heap.size 5 1 (.slice (some ⟨ga, 0, none⟩) (40 * k + 40) ca2) (40 * k + 40) ((byt (sees M B t a (k + 1))).map bt)) := Lib.hid (by rw [HSM.out, byt_app, byt_one, List.map_append]; exact hown)
        have hq5 : w5.heap[q9]? = some (.cells #[.int .i64 xn, .slice (some ⟨gc, 0, none⟩) 40 cc, .bool o] 67 (0, 0)) := hmv5.keep HQ9.out fun e => by
          obtain ⟨⟨cs, hcs⟩, _⟩ := hub _ e
          exact cells_ne hcs HQ9.out (by decide) rfl
        have HX5 : Hid (BV w5 (some ⟨gc, 0, none⟩) d) := Lib.hid (bv_mv HXV.out hmv5 fun e => by have := (hub _ e).2; have := HXB.out.1; omega)
        have HM5 : Hid (Mv P w w5 ∧ Mv (fun g => g < w3.heap.size ∨ w4.heap.size ≤ g) w4 w5) := Lib.hid (by
          have hs := HMV.out.2.size
          have hs1 := HN4.out.1.size
          have hs2 := HSZ.out
          exact ⟨(HMV.out.1.next HAB.out).trans hmv5 (fun g hg => Or.inl (HP.out g (by have := (hub _ hg).2; omega))), (HMV.out.2.next HAB.out).trans hmv5 fun g hg => Or.inl (Or.inr (hub _ hg).2)⟩)
        have HZ5 : Hid (w4.heap.size ≤ w5.heap.size ∧ w3.heap.size ≤ w4.heap.size ∧ gc < w5.heap.size) := Lib.hid ⟨HM5.out.2.size, HN4.out.1.size, Nat.lt_of_lt_of_le HXL.out hmv5.size⟩
        have HRO : Hid (w5.ownsRow 0 67 3 (.slice ar nr cr) nr (rcs l')) := Lib.hid (by have := HV5.out.rw.row; rwa [← HNR.out] at this)
        have hbl := lt_heap HV5.out.box
        have hbn : some bv ≠ (Value.slice ar nr cr).ownBlock := fun e => (HV5.out.farr e.symm).2 rfl
        have HBN := Lib.hid hbn
        have HFG : Hid (¬ Iv.Ft bs vs3 gc ∧ gc ≠ bv ∧ (Value.slice ar nr cr).ownBlock ≠ some gc) := Lib.hid ⟨fun hf => by have := HV3.out.sv.lt gc hf; have := HXB.out.2.1; omega, fun e => by have := lt_heap HV3.out.box; have := HXB.out.2.1; omega, fun e => by have := HVK.out.2.1 gc e; have := HXB.out.2.1; have := HXB.out.1; omega⟩
        have v4 := (Vb.cells HV5.out.box).2.2.2.2
        have f4 := free_at HV5.out.box 4
        have b0 := (cell_at hq5 0).trans rfl
        have b1 := (cell_at hq5 1).trans rfl
        have b2 := (cell_at hq5 2).trans rfl
        clear hown hgrow hat hlt5 hmv5 hub hq5 r1 hbn HXV HXL HSR HQ9 HOB HVB hwb hq9
        go_region_law
          ((refine step_append_lies _ (by rfl) (.tmp 59) (.tmp 61) 54 (by rfl) 0 67 i0 z0 3 40 Try.underlying54 HZ.out.1 HZ.out.2.1 HZ.out.2.2.1 HZ.out.2.2.2.1 HZ.out.2.2.2.2 (by omega) (.slice ar nr cr) nr (rcs l') (by rfl) ((HRO.out.alloc _).drew) ⟨w5.heap.size, 0, none⟩ 1 1 [.int .i64 xn, .slice (some ⟨gc, 0, none⟩) 40 cc, .bool o] (by rfl) rfl (World.news_of_block (cs := #[.int .i64 xn, .slice (some ⟨gc, 0, none⟩) 40 cc, .bool o]) (t := 67) (fr := (0, 0)) (heap_alloc_new w5 _)) (fun v hv => by simp at hv; rcases hv with rfl | rfl | rfl <;> rfl) (by omega) (by unfold maxLen; omega) (by omega) (Nat.zero_le _) (w5.heap.size + 1) (by simp) ?_; intro gg cap w6 hown1 hgrow hat2 hlt; have cr6 := (hgrow.cell_far ⟨bv, 4, none⟩ (by simp; omega) HBN.out).trans (keep_cell v4); have fr6 := (hgrow.frozen_far ⟨bv, 4, none⟩ (by simp; omega) HBN.out).trans (keep_free hbl f4)))
        all_goals
          have hA6 : At w5 (w5.alloc (.cells #[.int .i64 xn, .slice (some ⟨gc, 0, none⟩) 40 cc, .bool o] 67)).drew := ((At.start w5).alloc _).drewN 1
          have hput := (HV5.out.on hA6).put (HX5.out.below hA6) HXB.out.2.2.2.2 (Nat.lt_of_lt_of_le HZ5.out.2.2 hA6.size) (HP.out gc (by have := HXB.out.2.1; have := HSZ.out; omega)) ⟨fun hf => HFG.out.1 hf, HFG.out.2.1, HFG.out.2.2⟩ (fun g hg => HP.out g (by have := hA6.size; have := HZ5.out; have := HSZ.out; omega)) (a := xn) (o := o) (by rw [← HNR.out]; exact hown1) hgrow (hat2.imp_right fun e => by rw [e]; simp)
          rw [← HNR.out] at hput
          have mv5 : Mv (fun g => (Value.slice ar nr cr).ownBlock = some g ∨ g = bv) w5 (w6.setCell ⟨bv, 4, none⟩ (.slice (some ⟨gg, 0, none⟩) (nr + 1) cap)) := Mv.set (F := fun g => (Value.slice ar nr cr).ownBlock = some g ∨ g = bv) ((Mv.of_below (fun g => (Value.slice ar nr cr).ownBlock = some g ∨ g = bv) hA6).grown hgrow (fun g hg => Or.inl (Or.inl hg))) (p := ⟨bv, 4, none⟩) (Or.inl (Or.inr rfl)) _
          have HY : Hid (Vq (w6.setCell ⟨bv, 4, none⟩ (.slice (some ⟨gg, 0, none⟩) (nr + 1) cap)) bv bm bb t L3 (R ++ sees M B t a (k + 1)) P bs vs3 (.slice (some ⟨gg, 0, none⟩) (nr + 1) cap) (l' ++ [((⟨xn, d, o⟩ : Rd), gc, cc)])) := Lib.hid (by rw [HSM.out, ← List.append_assoc]; exact hput.1)
          have HY1 : Hid ((w6.setCell ⟨bv, 4, none⟩ (.slice (some ⟨gg, 0, none⟩) (nr + 1) cap)).ownsRow w4.heap.size 5 1 (.slice (some ⟨ga, 0, none⟩) (40 * k + 40) ca2) (40 * k + 40) ((byt (sees M B t a (k + 1))).map bt)) := Lib.hid (own_turn HO5.out (Nat.le_refl _) mv5 fun g cs hg hf => by
            rcases hf with hf | rfl
            · obtain ⟨cs', hc'⟩ := rw_block HV5.out.rw hf
              exact cells_ne hg hc' (by decide) rfl
            · exact cells_ne hg HV5.out.box (by decide) rfl)
          have HY2 : Hid (∀ g, (Value.slice (some ⟨gg, 0, none⟩) (nr + 1) cap).ownBlock = some g → g < w3.heap.size ∨ w4.heap.size ≤ g) := Lib.hid fun g hg => by
            have hg : gg = g := by injection hg
            subst hg
            rcases hat2 with e | e
            · exact HVK.out.2.1 _ e
            · right; have := HZ5.out.1; omega
          have HY3 : Hid (∀ x ∈ l' ++ [((⟨xn, d, o⟩ : Rd), gc, cc)], x.2.1 < w4.heap.size) := Lib.hid fun x hx => by
            rcases List.mem_append.1 hx with hx | hx
            · exact HVK.out.2.2 x hx
            · rw [List.mem_singleton] at hx; subst hx; exact HXB.out.1
          have HY4 : Hid (Mv P w (w6.setCell ⟨bv, 4, none⟩ (.slice (some ⟨gg, 0, none⟩) (nr + 1) cap)) ∧ Mv (fun g => g < w3.heap.size ∨ w4.heap.size ≤ g) w4 (w6.setCell ⟨bv, 4, none⟩ (.slice (some ⟨gg, 0, none⟩) (nr + 1) cap))) := Lib.hid ⟨(HM5.out.1.next hA6).trans hput.2 (fun _ h => Or.inl h), HM5.out.2.trans mv5 fun g hg => Or.inl (by
            rcases hg with hg | rfl
            · exact HVK.out.2.1 g hg
            · exact Or.inl (lt_heap HV3.out.box))⟩
          clear hA6 hput mv5 hown1 hgrow hat2 hlt cr6 fr6
          go_wp2
          go_roundw
          case rel => exact ⟨k + 1, some ⟨ga, 0, none⟩, ca2, .slice (some ⟨gg, 0, none⟩) (nr + 1) cap, _, by omega, by go_num, by rw [show 40 * (k + 1) = 40 * k + 40 by omega], by rw [show 40 * (k + 1) = 40 * k + 40 by omega]; exact HY1, Lib.hid ⟨HY.out, HY2.out, HY3.out⟩, HY4⟩
          case measure => simp [RowKit.intOf]; omega
      · have hkm : k = m := by omega
        subst hkm
        have hr : BV wr Aa (byt (sees M B t a k)) := (own_bv HO.out).2
        have hcc := own_cap HO.out
        obtain ⟨g0, cap0, he0, hb0, -⟩ := HO.out.form (by omega)
        injection he0 with he1 he2 he3
        subst he1
        clear he2 he3
        have hge : w.heap.size ≤ g0 := by
          have h2 := HSZ.out
          have h3 := HN4.out.1.size
          omega
        have hg0 := (row_lt HO.out (show (Value.slice (some ⟨g0, 0, none⟩) (40 * k) ca).ownBlock = some g0 from rfl)).2
        have hbut := HVK.out.1.but (g0 := g0) (fun e => by have h1 := lt_heap HV3.out.box; have h2 := HN4.out.1.size; omega) (fun e => by have h1 := HV3.out.sv.lt g0 e; have h2 := HN4.out.1.size; omega) (fun e => by
          obtain ⟨cs, hc⟩ := rw_block HVK.out.1.rw e
          rcases HO.out.2 with ⟨e', _⟩ | ⟨g', cap, cur, e', _, hh, _⟩
          · cases e'
          · injection e' with e' _ _
            injection e' with e'
            injection e' with e' _
            subst e'
            exact cells_ne hh hc (by decide) rfl) (fun y hy e => by have := HVK.out.2.2 y hy; omega)
        have HE : Hid (Reb M B bv bm bb t L R P a k w (.returned (.tuple #[.slice (some ⟨g0, 0, none⟩) (40 * k) ca, .int .i64 0])) wr) := Lib.hid ⟨HMV.out.1, Or.inl ⟨HLE.out.1, g0, ca, by rw [← HLE.out.2]; exact ⟨_, _, _, _, hbut⟩, rfl, hr, hcc, hge⟩⟩
        clear hcc hb0 hbut
        clear hr hge
        go_wp2
        go_ret2
        exact HE.out
  · subst hL3
    go_wp2
    go_ret2
    exact ⟨HM3.out, Or.inr ⟨hgt, ⟨_, _, _, _, HV3.out⟩, rfl⟩⟩

end Go.Proofs.Ytgjlklladbcmcaa
