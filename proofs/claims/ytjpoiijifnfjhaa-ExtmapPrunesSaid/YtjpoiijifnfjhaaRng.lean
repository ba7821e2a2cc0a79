/- Proved: blocks that are read together are what each one is, one behind the other. -/
import Derived.Test.YtjpoiijifnfjhaaRpl
import Derived.Test.YtjpoiijifnfjhaaWrn
namespace Go.Proofs.Ytjpoiijifnfjhaa
open Go.RowKit Go.Maps Go.Sort Go.Shelf

attribute [local go_sem] Oper.semAt_some

/-- What the call hands back. -/
def Ranged (S : St) (a n : Nat) (t : Int) (w : World) (e : Ending) (w' : World) : Prop :=
  ∃ g L, e = .returned (.tuple #[.slice (some ⟨g, 0, none⟩) (n * 40) (n * 40), .int .i64 0]) ∧ Rg S a n t L ∧ BV w' (some ⟨g, 0, none⟩) L ∧ At w w'

set_option maxHeartbeats 4000000 in
set_option maxRecDepth 100000 in
theorem range_any {w : World} {b : Nat} {S : St} {F : Nat → Prop} {mb : Nat} {D : DataW Value} {hd : Nat → Value} (h : Mq w b S F mb D hd) (a n : Nat) (t : Int) (hn : 1 ≤ n) (hn2 : n ≤ 20) (han : a + n ≤ S.n) :
    Calls Try.prog 18 #[.pointer (some ⟨b, 0, none⟩), .agg #[.int .i64 (a : Int), .int .i64 (n : Int)], .int .i64 t] w (Ranged S a n t w) := by
  refine (callsIn_wide (n := 8)).1 ?_
  have hSn := h.ok.n2
  have hva : Va ((a : Int), (n : Int)) := ⟨by simp only; omega, by simp only; omega, by simp only; omega, by simp only; omega, by simp only; omega⟩
  have HHA : Hid (∀ W, At w W → CallsIn Fence.wide 7 Try.prog 27 #[.pointer (some ⟨b, 0, none⟩), .agg #[.int .i64 (a : Int), .int .i64 (n : Int)]] W (Gives (.bool true) W)) := Lib.hid (fun W hW => by
    have := has_gen (w := W) (some ⟨b, 0, none⟩) S.n (fun V hV => blocks_mp (h.on (hW.next hV))) (a : Int) (n : Int)
    rw [haB_yes hva (by omega)] at this
    exact callsIn_wide.2 this)
  have HWI := Lib.hid (fun W => callsIn_wide (n := 7).2 (within_any (some ⟨b, 0, none⟩) (a : Int) (n : Int) W))
  obtain ⟨m, hm⟩ : ∃ m, m = n * 40 := ⟨_, rfl⟩
  have hm2 : (n : Int) * 40 = (m : Int) := by omega
  have hmk := fun W => make_u8 m (by omega) W
  simp only [made_zn] at hmk
  have HMK := Lib.hid hmk
  have HM := Lib.hid hm
  have hA0 : At w ((w.alloc (.cells #[.int .i64 (a : Int), .int .i64 (n : Int)] 48)).alloc (.cells #[.int .i64 t] 3)) := ((At.start w).alloc _).alloc _
  have HA0 := Lib.hid hA0
  have HBX : Hid (((w.alloc (.cells #[.int .i64 (a : Int), .int .i64 (n : Int)] 48)).alloc (.cells #[.int .i64 t] 3)).heap[w.heap.size]? = some (.cells #[.int .i64 (a : Int), .int .i64 (n : Int)] 48 (0, 0))) := Lib.hid (At.keep ((At.start _).alloc _) (heap_alloc_new w _))
  have HTX : Hid (((w.alloc (.cells #[.int .i64 (a : Int), .int .i64 (n : Int)] 48)).alloc (.cells #[.int .i64 t] 3)).heap[w.heap.size + 1]? = some (.cells #[.int .i64 t] 3 (0, 0))) := Lib.hid (by
    have := heap_alloc_new (w.alloc (.cells #[.int .i64 (a : Int), .int .i64 (n : Int)] 48)) (.cells #[.int .i64 t] 3)
    simpa using this)
  have H := Lib.hid h
  clear hA0 h hmk hm
  have hfV : Fence.wide.fn 27 := trivial
  have hfW : Fence.wide.fn 34 := trivial
  refine callsIn_of_wp_marks Try.func18 rfl trivial ?_ rfl
  simp only [Try.ntmps18, List.size_toArray, List.length_cons, List.length_nil, Nat.reduceAdd, Nat.reduceSub, Array.replicate_succ, Array.replicate_zero, List.push_toArray, List.append_toArray, List.nil_append, List.cons_append]
  gi_wp2_with fail
  generalize ((w.alloc (.cells #[.int .i64 (a : Int), .int .i64 (n : Int)] 48)).alloc (.cells #[.int .i64 t] 3)) = wa at HA0 HBX HTX ⊢
  refine (HHA.out _ HA0.out).mono ?_
  rintro e w1 ⟨rfl, hA⟩
  have HA1 : Hid (At w w1) := Lib.hid (HA0.out.next hA)
  have HBX1 := Lib.hid (At.keep hA HBX.out)
  have HTX1 := Lib.hid (At.keep hA HTX.out)
  clear hA HBX HTX HA0 HHA
  obtain ⟨X, hX⟩ : ∃ X, X = w.heap.size := ⟨_, rfl⟩
  have HX := Lib.hid hX
  rw [← hX] at HBX1 HTX1 ⊢
  clear hX
  have c1 : w1.cell? ⟨X, 0, none⟩ = some (.int .i64 (a : Int)) := (cell_at HBX1.out 0).trans rfl
  have c2 : w1.cell? ⟨X, 1, none⟩ = some (.int .i64 (n : Int)) := (cell_at HBX1.out 1).trans rfl
  have hmk1 := HMK.out w1
  have HR1 := Lib.hid (row_new w1 _ (zr m) rfl)
  have HA2 := Lib.hid ((At.start w1).alloc (.cells ((zr m).map bt).toArray 5))
  obtain ⟨G, hG⟩ : ∃ G, G = w1.heap.size := ⟨_, rfl⟩
  have hGs : (w1.alloc (.cells ((zr m).map bt).toArray 5)).heap.size = G + 1 := by rw [hG]; simp
  rw [← hG] at hmk1 HR1
  obtain ⟨w2, hw2⟩ : ∃ w2, w2 = w1.alloc (.cells ((zr m).map bt).toArray 5) := ⟨_, rfl⟩
  rw [← hw2] at hmk1 HR1 HA2 hGs
  have HGS := Lib.hid hGs
  have HXG : Hid (X + 2 ≤ G) := Lib.hid (by have := lt_heap HTX1.out; omega)
  have HBX2 := Lib.hid (At.keep HA2.out HBX1.out)
  have HTX2 := Lib.hid (At.keep HA2.out HTX1.out)
  have HGX := Lib.hid (heap_alloc_new w2 (.cells #[.slice (some ⟨G, 0, none⟩) m m] 36))
  have HA3 := Lib.hid ((At.start w2).alloc (.cells #[.slice (some ⟨G, 0, none⟩) m m] 36))
  have HM40 : Hid ((n : Int) * 40 = (m : Int)) := Lib.hid hm2
  have c3 : (w2.alloc (.cells #[.slice (some ⟨G, 0, none⟩) m m] 36)).cell? ⟨X, 0, none⟩ = some (.int .i64 (a : Int)) := (cell_at (At.keep HA3.out HBX2.out) 0).trans rfl
  have c4 : (w2.alloc (.cells #[.slice (some ⟨G, 0, none⟩) m m] 36)).cell? ⟨X, 1, none⟩ = some (.int .i64 (n : Int)) := (cell_at (At.keep HA3.out HBX2.out) 1).trans rfl
  rw [HGS.out] at HGX
  clear hw2 hG
  gi_wp2_with fail
  clear hGs
  generalize (w2.alloc (.cells #[.slice (some ⟨G, 0, none⟩) m m] 36)) = w3 at HGX HA3 c3 c4 ⊢
  have HA4 : Hid (At w1 w3) := Lib.hid (HA2.out.next HA3.out)
  refine (HWI.out _).mono ?_
  rintro e w' ⟨rfl, rfl⟩
  have hA5 : At w3 ((w3.alloc (.cells #[.pointer (some ⟨b, 0, none⟩)] 25)).alloc (.cells #[.int .i64 (a : Int), .int .i64 (n : Int)] 48)) := ((At.start w3).alloc _).alloc _
  have hP1 := At.keep ((At.start _).alloc (.cells #[.int .i64 (a : Int), .int .i64 (n : Int)] 48)) (heap_alloc_new w3 (.cells #[.pointer (some ⟨b, 0, none⟩)] 25))
  have hP2 := heap_alloc_new (w3.alloc (.cells #[.pointer (some ⟨b, 0, none⟩)] 25)) (.cells #[.int .i64 (a : Int), .int .i64 (n : Int)] 48)
  rw [World.size_alloc] at hP2
  obtain ⟨B1, hB1⟩ : ∃ B1, B1 = w3.heap.size := ⟨_, rfl⟩
  rw [← hB1] at hP1 hP2 ⊢
  have hsz : ((w3.alloc (.cells #[.pointer (some ⟨b, 0, none⟩)] 25)).alloc (.cells #[.int .i64 (a : Int), .int .i64 (n : Int)] 48)).heap.size = B1 + 2 := by rw [hB1]; simp
  have hBl : G + 2 ≤ B1 := by have := lt_heap HGX.out; omega
  clear hB1
  generalize ((w3.alloc (.cells #[.pointer (some ⟨b, 0, none⟩)] 25)).alloc (.cells #[.int .i64 (a : Int), .int .i64 (n : Int)] 48)) = wv at hA5 hP1 hP2 hsz ⊢
  have HAV : Hid (At w wv) := Lib.hid (HA1.out.next (HA4.out.next hA5))
  have HBX5 := Lib.hid (At.keep (HA4.out.next hA5) HBX1.out)
  have HTX5 := Lib.hid (At.keep (HA4.out.next hA5) HTX1.out)
  have HGX5 := Lib.hid (At.keep hA5 HGX.out)
  have HR5 := Lib.hid (HR1.out.on (HA3.out.next hA5))
  have HP1 := Lib.hid hP1
  have HP2 := Lib.hid hP2
  have HSZ := Lib.hid hsz
  have HBL := Lib.hid hBl
  clear hA5 hP1 hP2 hsz hBl HBX1 HTX1 HGX HR1 c3 c4 HWI HA4 HBX2 HTX2 hmk1 HA3 HA2 HMK hm2 HA1
  gi_wp2_with fail
  refine wpIn_rangeFunc_ownF rfl (by omega) (gf := 43) (lb := #[.pointer (some ⟨B1, 0, none⟩), .pointer (some ⟨B1 + 1, 0, none⟩)]) rfl trivial (enters_of Try.func43 (by kernel_rfl) rfl)
    (within1_in (H.out.on HAV.out) (a : Int) (n : Int) hva.1 hva.2.1 hva.2.2.1 hva.2.2.2.1 B1 (B1 + 1) HP1.out HP2.out) Kw.t (Kw.b (by rw [HSZ.out]; omega)) (Below.refl _ _) (fun _ => rfl)
    (fun pre W => ((∃ Q, Rp S a n t (fun k => ∃ x ∈ pre, x.1 = k) Q ∧ Row W G Q) ∧ W.heap[X]? = some (.cells #[.int .i64 (a : Int), .int .i64 (n : Int)] 48 (0, 0)) ∧ W.heap[X + 1]? = some (.cells #[.int .i64 t] 3 (0, 0)) ∧ W.heap[G + 1]? = some (.cells #[.slice (some ⟨G, 0, none⟩) m m] 36 (0, 0)) ∧ B1 + 1 < W.heap.size) ∧ Below w.heap.size w W)
    (fun c _ W => False ∧ Below w.heap.size w W)
    (OwnFrom.and (Own.from (fun s A B row hs hg hr => ⟨⟨hs.1.choose, hs.1.choose_spec.1, heap_kept hs.1.choose_spec.2 hg hr⟩, heap_kept hs.2.1 hg hr, heap_kept hs.2.2.1 hg hr, heap_kept hs.2.2.2.1 hg hr, Nat.lt_of_lt_of_le hs.2.2.2.2 hg.size⟩) _) (ownFrom_below (Nat.le_refl _) (by have := HAV.out.size; exact this)))
    (fun c => OwnFrom.and (Own.from (fun s A B row hs hg hr => hs.elim) _) (ownFrom_below (Nat.le_refl _) (by have := HAV.out.size; exact this)))
    ⟨⟨⟨zr m, by rw [HM.out]; exact (show (fun k => ∃ x ∈ ([] : List (Bk S (a : Int) (n : Int))), x.1 = k) = fun _ => False from funext fun k => by simp) ▸ Rp.start S a n t, HR5.out⟩, HBX5.out, HTX5.out, HGX5.out, by rw [HSZ.out]; omega⟩, HAV.out⟩
    (fun x => { tmps := #[.pointer (some ⟨b, 0, none⟩), .agg #[.int .i64 (a : Int), .int .i64 (n : Int)], .int .i64 t, undef, .pointer (some ⟨X, 0, none⟩), .pointer (some ⟨X + 1, 0, none⟩), .slice none 0 0, .int .i64 0, .pointer (some ⟨G + 1, 0, none⟩), .int .i64 (x.1 : Int), hd x.1, undef, .pointer (some ⟨b, 0, none⟩), .agg #[.int .i64 (a : Int), .int .i64 (n : Int)], .bool true, .bool false, .pointer (some ⟨X, 1, none⟩), .int .i64 (n : Int), .int .i64 (m : Int), .slice (some ⟨G, 0, none⟩) m m, .pointer (some ⟨b, 0, none⟩), .agg #[.int .i64 (a : Int), .int .i64 (n : Int)], .func (.func 43) #[] #[.pointer (some ⟨B1, 0, none⟩), .pointer (some ⟨B1 + 1, 0, none⟩)], .int .i64 (x.1 : Int), hd x.1, undef, undef, undef, undef, undef, undef, undef, undef, undef, undef, undef, undef, undef, undef], defers := [] }) ?assign ?body ?done ?stop
  case assign =>
    intro l x W K hK
    gi_wp2
    exact hK
  case body =>
    rintro l pre ⟨k, hne, hk1, hk2⟩ W ⟨⟨⟨Q, hrp, hrow⟩, hx1, hx2, hx3, hsz⟩, hB⟩ _
    simp only at hk1 hk2 ⊢
    have hm := H.out.on hB
    obtain ⟨A, c, hhd, _, _, hvv⟩ := hm.vv k
    have hlen := hm.ok.b k
    have hc1 := hm.ok.c1
    have HRD := Lib.hid (fun V (hV : At W V) => CallsIn.inRound l (callsIn_wide (n := 5).2 (read_any (hvv.on hV) (hm.allV k) (by omega) c t)))
    obtain ⟨i, hi⟩ : ∃ i, k = a + i := ⟨k - a, by omega⟩
    have hin : i < n := by omega
    have hvl := hm.ok.rd_len k t
    have HOKS : Hid (Ok S) := Lib.hid hm.ok
    obtain ⟨v, hv⟩ : ∃ v, v = rdv (S.V k) t := ⟨_, rfl⟩
    rw [← hv] at HRD hvl
    have HVL := Lib.hid hvl
    have HV := Lib.hid hv
    have HI := Lib.hid hi
    obtain ⟨mm, hmm⟩ : ∃ mm, mm = (S.V k).length := ⟨_, rfl⟩
    rw [← hmm] at hhd HRD
    rw [hhd]
    have HRP := Lib.hid hrp
    have HRW0 := Lib.hid hrow
    have HX1 := Lib.hid hx1
    have HX2 := Lib.hid hx2
    have HX3 := Lib.hid hx3
    have HB := Lib.hid hB
    have hki : (k : Int) - (a : Int) = (i : Int) := by omega
    obtain ⟨q, hq⟩ : ∃ q, q = i * 40 := ⟨_, rfl⟩
    have hqi : (i : Int) * 40 = (q : Int) := by omega
    have hmn := HM.out
    have hqm : q + 40 ≤ m := by omega
    have HQ := Lib.hid hq
    have HNE := Lib.hid hne
    clear hm hhd hvv hlen hc1 hv hmm hrp hrow hx1 hx2 hx3 hB hi hvl hmn hq
    have t0 : W.cell? ⟨X + 1, 0, none⟩ = some (.int .i64 t) := (cell_at HX2.out 0).trans rfl
    have hmix : Try.prog.follows .mixedOrders = true := by kernel_rfl
    have hfN : Fence.wide.fn 28 := trivial
    gi_wp2_with fail
    refine (HRD.out _ (At.start W)).mono ?_
    rintro e w1 ⟨rfl, hA⟩
    have HA1 : Hid (At W w1) := Lib.hid hA
    clear hA t0
    gi_wp2_with (refine store_ver_in rfl (.tmp 11) (.tmp 27) rfl v HVL.out w1 _ rfl rfl rfl rfl ?_)
    have HA2 : Hid (At W ((w1.alloc (.cells (vc v).toArray 65)).drew)) := Lib.hid ((HA1.out.alloc _).drewN 1)
    have HVX : Hid (((w1.alloc (.cells (vc v).toArray 65)).drew).heap[w1.heap.size]? = some (.cells (vc v).toArray 65 (0, 0))) := Lib.hid (heap_alloc_new w1 _)
    obtain ⟨N, hN⟩ : ∃ N, N = w1.heap.size := ⟨_, rfl⟩
    rw [← hN] at HVX ⊢
    refine wpIn_region_any hmix ?_
    refine any_round l (fun i o ho c hc => by
      have hm := Array.mem_of_getElem? ho
      simp only [List.mem_toArray, List.mem_cons, List.not_mem_nil, or_false] at hm
      rcases hm with rfl | rfl | rfl | rfl | rfl | rfl | rfl | rfl | rfl | rfl <;> cases hc) _ _ _ _ ?_
    change wpAnyIn _ _ _ _ _ _ _ _ _ (World.drew _)
    generalize (w1.alloc (.cells (vc v).toArray 65)).drew = w3 at HA2 HVX ⊢
    clear hN
    have a0 : w3.cell? ⟨X, 0, none⟩ = some (.int .i64 (a : Int)) := (cell_at (At.keep HA2.out HX1.out) 0).trans rfl
    have a1 : w3.cell? ⟨G + 1, 0, none⟩ = some (.slice (some ⟨G, 0, none⟩) m m) := (cell_at (At.keep HA2.out HX3.out) 0).trans rfl
    have HRW : Hid (w3.heap[G]? = some (.cells (Q.map bt).toArray 5 (0, 0))) := Lib.hid (HRW0.out.on HA2.out)
    have HSC : Hid (∀ j u, (v.2.map bt)[j]? = some u → w3.cell? ((⟨N, 1, none⟩ : Addr).add j) = some u) := Lib.hid (fun j u hu => by
      rw [Go.WideShapes.add_plain]
      refine (cell_at HVX.out (1 + j)).trans ?_
      rw [List.getElem?_toArray, Nat.add_comm]
      exact hu)
    have HQM : Hid (40 ≤ m - q) := Lib.hid (by omega)
    have HFT : Hid (q + 40 ≤ Q.length) := Lib.hid (by rw [HRP.out.len, ← HM.out]; exact hqm)
    have hmv : Mv (fun g => g = G) w3 (w3.setRow G ((lay Q q v.2).map bt).toArray) := ⟨rfl, rfl, rfl, by simp [World.setRow], fun j _ hF => setRow_other w3 G j _ hF⟩
    have hko : KeepsOthers W (w3.setRow G ((lay Q q v.2).map bt).toArray) := (at_keeps HA2.out).trans (mv_keeps hmv HRW.out)
    have hbl := HBL.out
    have hxg := HXG.out
    have hrp2 := HRP.out.lay (P' := fun k' => ∃ x ∈ pre ++ [(⟨k, HNE.out, hk1, hk2⟩ : Bk S (a : Int) (n : Int))], x.1 = k') HOKS.out hin (fun k' => by
      constructor
      · rintro ⟨x, hx, rfl⟩
        rcases List.mem_append.1 hx with hx | hx
        · exact Or.inl ⟨x, hx, rfl⟩
        · rw [List.mem_singleton] at hx; rw [hx]; exact Or.inr HI.out
      · rintro (⟨x, hx, rfl⟩ | e)
        · exact ⟨x, List.mem_append_left _ hx, rfl⟩
        · exact ⟨⟨k, HNE.out, hk1, hk2⟩, List.mem_append_right _ (List.mem_singleton.2 rfl), HI.out.trans e.symm⟩)
    rw [← HI.out, ← HV.out, ← HQ.out] at hrp2
    have HEND : Hid (KeepsOthers W (w3.setRow G ((lay Q q v.2).map bt).toArray) ∧ Kw (B1 + 1) W (w3.setRow G ((lay Q q v.2).map bt).toArray) ∧
      ((∃ Q2, Rp S a n t (fun k' => ∃ x ∈ pre ++ [(⟨k, HNE.out, hk1, hk2⟩ : Bk S (a : Int) (n : Int))], x.1 = k') Q2 ∧ Row (w3.setRow G ((lay Q q v.2).map bt).toArray) G Q2) ∧
        (w3.setRow G ((lay Q q v.2).map bt).toArray).heap[X]? = some (.cells #[.int .i64 (a : Int), .int .i64 (n : Int)] 48 (0, 0)) ∧ (w3.setRow G ((lay Q q v.2).map bt).toArray).heap[X + 1]? = some (.cells #[.int .i64 t] 3 (0, 0)) ∧
        (w3.setRow G ((lay Q q v.2).map bt).toArray).heap[G + 1]? = some (.cells #[.slice (some ⟨G, 0, none⟩) m m] 36 (0, 0)) ∧ B1 + 1 < (w3.setRow G ((lay Q q v.2).map bt).toArray).heap.size) ∧ Below w.heap.size w (w3.setRow G ((lay Q q v.2).map bt).toArray)) := Lib.hid
      ⟨hko, ⟨hko.walks, (hmv.block (B1 + 1) (Nat.lt_of_lt_of_le hsz HA2.out.size) (by omega)).trans (HA2.out.block (B1 + 1) hsz)⟩,
        ⟨⟨lay Q q v.2, hrp2, setRow_heap w3 G _ _ _ _ HRW.out⟩, hmv.keep (At.keep HA2.out HX1.out) (by omega), hmv.keep (At.keep HA2.out HX2.out) (by omega), hmv.keep (At.keep HA2.out HX3.out) (by omega), Nat.lt_of_lt_of_le hsz (Nat.le_trans HA2.out.size hmv.size)⟩,
        below_setRow (HB.out.trans (Below.mono HA2.out HB.out.size)) (by have := HX.out; omega) _⟩
    clear hmv hko hbl hxg hrp2
    have hwi : IntKind.i64.wrap (i : Int) = (i : Int) := IntWalk.i64_in _ (by omega)
    have hwq : IntKind.i64.wrap (q : Int) = (q : Int) := IntWalk.i64_in _ (by omega)
    have g1 : (0 : Int) ≤ (q : Int) := by omega
    have g2 : (q : Int) ≤ (m : Int) := by omega
    have g3 : ¬ m = q := by omega
    have g4 : ¬ (m : Int) = (q : Int) := by omega
    have g5 : (m : Int) - (q : Int) = ((m - q : Nat) : Int) := by omega
    refine wpAnyIn_take (i := 1) (v := Value.int .i64 (k : Int)) rfl rfl (by kernel_rfl) (by kernel_rfl) (by kernel_rfl) (fun _ _ _ h => h) ⟨Or.inl ⟨by rfl, fun w => by go_simp⟩, fun _ => rfl⟩ ?_
    simp only [List.getElem_toArray, List.getElem_cons_zero, List.getElem_cons_succ, Act.put, List.setIfInBounds_toArray, List.set_cons_zero, List.set_cons_succ]
    refine wpAnyIn_take (i := 2) (v := Value.pointer (some ⟨X, 0, none⟩)) rfl rfl (by kernel_rfl) (by kernel_rfl) (by kernel_rfl) (fun _ _ _ h => h) ⟨Or.inl ⟨by rfl, fun w => by go_simp⟩, fun _ => rfl⟩ ?_
    simp only [List.getElem_toArray, List.getElem_cons_zero, List.getElem_cons_succ, Act.put, List.setIfInBounds_toArray, List.set_cons_zero, List.set_cons_succ]
    refine wpAnyIn_take (i := 7) (v := Value.pointer (some ⟨N, 1, none⟩)) rfl rfl (by kernel_rfl) (by kernel_rfl) (by kernel_rfl) (fun _ _ _ h => h) ⟨Or.inl ⟨by rfl, fun w => by go_simp⟩, fun _ => rfl⟩ ?_
    simp only [List.getElem_toArray, List.getElem_cons_zero, List.getElem_cons_succ, Act.put, List.setIfInBounds_toArray, List.set_cons_zero, List.set_cons_succ]
    refine wpAnyIn_take (i := 8) (v := Value.slice (some ⟨N, 1, none⟩) 40 40) rfl rfl (by kernel_rfl) (by kernel_rfl) (by kernel_rfl) (fun _ _ _ h => h) ⟨Or.inl ⟨by rfl, fun w => by go_simp⟩, fun _ => rfl⟩ ?_
    simp only [List.getElem_toArray, List.getElem_cons_zero, List.getElem_cons_succ, Act.put, List.setIfInBounds_toArray, List.set_cons_zero, List.set_cons_succ]
    refine wpAnyIn_ready (rs := [0, 3]) (by kernel_rfl) (by simp) ?_
    refine AllReadyIn.cons rfl (fun K hK => ?_) ?_
    · rw [if_pos (by kernel_rfl)]
      go_simp
      refine hK _ _ ?_
      clear hK K
      refine wpAnyIn_ready (rs := [3]) (by kernel_rfl) (by simp) ?_
      refine AllReadyIn.cons rfl (fun K hK => ?_) AllReadyIn.nil
      rw [if_pos (by kernel_rfl)]
      go_simp
      refine hK _ _ ?_
      clear hK K
      refine wpAnyIn_take (i := 4) (v := Value.int .i64 (i : Int)) rfl rfl (by kernel_rfl) (by kernel_rfl) (by kernel_rfl) (fun _ _ _ h => h) ⟨Or.inl ⟨by rfl, fun w => by go_simp⟩, fun _ => rfl⟩ ?_
      simp only [List.getElem_toArray, List.getElem_cons_zero, List.getElem_cons_succ, Act.put, List.setIfInBounds_toArray, List.set_cons_zero, List.set_cons_succ]
      refine wpAnyIn_take (i := 5) (v := Value.int .i64 (q : Int)) rfl rfl (by kernel_rfl) (by kernel_rfl) (by kernel_rfl) (fun _ _ _ h => h) ⟨Or.inl ⟨by rfl, fun w => by go_simp⟩, fun _ => rfl⟩ ?_
      simp only [List.getElem_toArray, List.getElem_cons_zero, List.getElem_cons_succ, Act.put, List.setIfInBounds_toArray, List.set_cons_zero, List.set_cons_succ]
      refine wpAnyIn_take (i := 6) (v := Value.slice (some ⟨G, q, none⟩) (m - q) (m - q)) rfl rfl (by kernel_rfl) (by kernel_rfl) (by kernel_rfl) (fun _ _ _ h => h) ⟨Or.inl ⟨by rfl, fun w => by go_simp⟩, fun _ => rfl⟩ ?_
      simp only [List.getElem_toArray, List.getElem_cons_zero, List.getElem_cons_succ, Act.put, List.setIfInBounds_toArray, List.set_cons_zero, List.set_cons_succ]
      refine wpAnyIn_ready (rs := [9]) (by kernel_rfl) (by simp) ?_
      refine AllReadyIn.cons rfl (fun K hK => ?_) AllReadyIn.nil
      rw [if_pos (by kernel_rfl)]
      refine copy_in (.tmp 34) (.tmp 36) 36 36 rfl 5 Try.underlying36 (by kernel_rfl) G q (m - q) (m - q) ⟨N, 1, none⟩ 40 (by kernel_rfl) (by kernel_rfl) Q v.2 5 HRW.out HVL.out HQM.out HSC.out HFT.out ?_
      refine hK _ _ ?_
      clear hK K
      refine wpAnyIn_done (by kernel_rfl) ?_ _
      gi_wp2
      exact HEND.out
    · refine AllReadyIn.cons rfl (fun K hK => ?_) AllReadyIn.nil
      rw [if_pos (by kernel_rfl)]
      go_simp
      refine hK _ _ ?_
      clear hK K
      refine wpAnyIn_take (i := 4) (v := Value.int .i64 (i : Int)) rfl rfl (by kernel_rfl) (by kernel_rfl) (by kernel_rfl) (fun _ _ _ h => h) ⟨Or.inl ⟨by rfl, fun w => by go_simp⟩, fun _ => rfl⟩ ?_
      simp only [List.getElem_toArray, List.getElem_cons_zero, List.getElem_cons_succ, Act.put, List.setIfInBounds_toArray, List.set_cons_zero, List.set_cons_succ]
      refine wpAnyIn_take (i := 5) (v := Value.int .i64 (q : Int)) rfl rfl (by kernel_rfl) (by kernel_rfl) (by kernel_rfl) (fun _ _ _ h => h) ⟨Or.inl ⟨by rfl, fun w => by go_simp⟩, fun _ => rfl⟩ ?_
      simp only [List.getElem_toArray, List.getElem_cons_zero, List.getElem_cons_succ, Act.put, List.setIfInBounds_toArray, List.set_cons_zero, List.set_cons_succ]
      refine wpAnyIn_ready (rs := [0]) (by kernel_rfl) (by simp) ?_
      refine AllReadyIn.cons rfl (fun K hK => ?_) AllReadyIn.nil
      rw [if_pos (by kernel_rfl)]
      go_simp
      refine hK _ _ ?_
      clear hK K
      refine wpAnyIn_take (i := 6) (v := Value.slice (some ⟨G, q, none⟩) (m - q) (m - q)) rfl rfl (by kernel_rfl) (by kernel_rfl) (by kernel_rfl) (fun _ _ _ h => h) ⟨Or.inl ⟨by rfl, fun w => by go_simp⟩, fun _ => rfl⟩ ?_
      simp only [List.getElem_toArray, List.getElem_cons_zero, List.getElem_cons_succ, Act.put, List.setIfInBounds_toArray, List.set_cons_zero, List.set_cons_succ]
      refine wpAnyIn_ready (rs := [9]) (by kernel_rfl) (by simp) ?_
      refine AllReadyIn.cons rfl (fun K hK => ?_) AllReadyIn.nil
      rw [if_pos (by kernel_rfl)]
      refine copy_in (.tmp 34) (.tmp 36) 36 36 rfl 5 Try.underlying36 (by kernel_rfl) G q (m - q) (m - q) ⟨N, 1, none⟩ 40 (by kernel_rfl) (by kernel_rfl) Q v.2 5 HRW.out HVL.out HQM.out HSC.out HFT.out ?_
      refine hK _ _ ?_
      clear hK K
      refine wpAnyIn_done (by kernel_rfl) ?_ _
      gi_wp2
      exact HEND.out
  case done =>
    rintro Dd ys W hD hall ⟨⟨⟨Q, hrp, hrow⟩, hx1, hx2, hx3, hsz⟩, hB⟩ hK
    have HRG : Hid (Rg S a n t Q) := Lib.hid (hrp.all fun i hi hne => ⟨⟨a + i, hne, by omega, by omega⟩, hall _, rfl⟩)
    have HRW := Lib.hid hrow
    have HB := Lib.hid hB
    have HK := Lib.hid hK
    have hc7 : W.cell? ⟨G + 1, 0, none⟩ = some (.slice (some ⟨G, 0, none⟩) m m) := (cell_at hx3 0).trans rfl
    clear hrp hrow hx1 hx2 hx3 hsz hB hK hall
    gi_wp2
    refine ⟨by simp, .inl ⟨_, _, rfl, run_takeDeferred HK.out, ?_⟩⟩
    have hr2 := heap_kept HRW.out (grownBy_putObj' _ Dd (.deferred none)) (fun r e => by cases e; exact ⟨_, HK.out, rfl⟩)
    refine ⟨.tuple #[.slice (some ⟨G, 0, none⟩) m m, .int .i64 0], ?_, G, Q, by rw [← HM.out], HRG.out, Row.bv hr2, HB.out.trans (belowK_b (w := w) (Nat.le_refl _) W Dd _ _ (by have := HAV.out.size; omega) HK.out rfl rfl)⟩
    simp [results, Try.f18, go_sem]
  case stop =>
    rintro Dd c pre W hD _ ⟨hF, _⟩ _
    exact hF.elim

end Go.Proofs.Ytjpoiijifnfjhaa
