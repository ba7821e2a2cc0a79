/- Proved: why each Put for itself is refused.
words for the set of numbers that a call has seen; how many blocks of a vector are new.
why Puts of which each could be written alone are refused together.
why a vector of writes is refused, of a buffer and of none; a vector that is not refused is taken in block by block. -/
import Derived.Test.YtgjlklladbcmcaaBf
import Derived.Great.BuildSlice
import Derived.Laws.Cover3
import Derived.OrdersHeld
import Derived.Deep.RegionHeld
namespace Go.Proofs.Ytgjlklladbcmcaa
open Go.RowKit

/-- A length that is none: of the first ones. -/
noncomputable def lz (P : List Pt) : Int := open Classical in if ∃ p ∈ P, p.2.length ≠ 40 then 3 else 0
noncomputable def fz (N : Int) (P : List Pt) : Int := open Classical in if ∃ p ∈ P, ¬ (0 ≤ p.1 ∧ p.1 < N) then 2 else lz P
theorem lz_bad {P : List Pt} {p : Pt} (hp : p ∈ P) (h : p.2.length ≠ 40) : lz P = 3 := if_pos ⟨p, hp, h⟩
theorem lz_same {P : List Pt} {p : Pt} (h : p.2.length = 40) : lz (P ++ [p]) = lz P := by
  unfold lz
  by_cases e : ∃ p ∈ P, p.2.length ≠ 40
  · obtain ⟨q, hq, hl⟩ := e
    rw [if_pos (show ∃ p ∈ P, p.2.length ≠ 40 from ⟨q, hq, hl⟩), if_pos (show ∃ r ∈ P ++ [p], r.2.length ≠ 40 from ⟨q, List.mem_append_left _ hq, hl⟩)]
  · rw [if_neg e, if_neg fun ⟨q, hq, hl⟩ => (List.mem_append.1 hq).elim (fun h => e ⟨q, h, hl⟩) fun h1 => hl (by rw [List.mem_singleton.1 h1]; exact h)]
theorem fz_bad {N : Int} {P : List Pt} {p : Pt} (hp : p ∈ P) (h : ¬ (0 ≤ p.1 ∧ p.1 < N)) : fz N P = 2 := if_pos ⟨p, hp, h⟩
theorem fz_all {N : Int} {P : List Pt} (h : ∀ j, j < P.length → 0 ≤ (P.getD j pz).1 ∧ (P.getD j pz).1 < N) : fz N P = lz P := if_neg fun ⟨p, hp, hb⟩ => by
  obtain ⟨j, hj, rfl⟩ := List.mem_iff_getElem.1 hp
  have := h j hj
  rw [List.getD_eq_getElem?_getD, List.getElem?_eq_getElem hj] at this
  exact hb this

set_option maxHeartbeats 2000000 in
set_option maxRecDepth 100000 in
theorem each_any {w : World} (p : Option Addr) (N : Int) (hs : ∀ W, At w W → Calls Try.prog 79 #[.pointer p] W fun e w' => e = .returned (.int .i64 N) ∧ W = w') (A : Option Addr) (P : List Pt) (n c : Nat) (hn : P.length = n) (hl : n ≤ 1000000) (hP : PV w A P) :
    Calls Try.prog 60 #[.pointer p, .slice A n c] w (Gives (.int .i64 (fz N P)) w) := by
  have HS := Lib.hid hs
  have HN := Lib.hid hn
  have HP := Lib.hid hP
  clear hs hn hP
  go_enter Try.func60, Try.ntmps60
  go_wp2
  go_step3
  go_wp2
  go_step3
  go_wp2
  go_loopw [5, 10] (fun c5 c10 wr => ∃ (k : Nat) (z : Int), k ≤ n ∧ c10 = .int .i64 (k : Int) ∧ c5 = .int .i64 z ∧ Hid (z = lz (P.take k)) ∧ Hid (∀ j, j < k → 0 ≤ (P.getD j pz).1 ∧ (P.getD j pz).1 < N) ∧ Hid (At w wr)) (fun _ c10 _ => n - (RowKit.intOf c10).toNat)
  case atStart => exact ⟨0, 0, Nat.zero_le _, rfl, rfl, Lib.hid (by unfold lz; rw [if_neg fun ⟨_, h, _⟩ => by cases h]), Lib.hid (fun j h => absurd h (Nat.not_lt_zero j)), Lib.hid (At.start w)⟩
  case round =>
    obtain ⟨k, z, hk, rfl, rfl, HZ, HR, HA⟩ := hrel
    by_cases hlt : k < n
    · have hkP : k < P.length := by rw [HN.out]; exact hlt
      obtain ⟨g, o, rfl, hg, hc⟩ := (HP.out.on HA.out).pos (by omega)
      obtain ⟨e1, B, cb, e2, -⟩ := hc k hkP
      have ht := take_one P k hkP
      have hm := pt_mem hkP
      obtain ⟨x, hx⟩ : ∃ x, x = P.getD k pz := ⟨_, rfl⟩
      rw [← hx] at e1 e2 ht hm
      obtain ⟨a, L⟩ := x
      simp only at e1 e2
      obtain ⟨m, hmL⟩ : ∃ m, m = L.length := ⟨_, rfl⟩
      rw [← hmL] at e2
      have HX := Lib.hid hx
      have HT := Lib.hid ht
      have HM := Lib.hid hm
      have HML := Lib.hid hmL
      have g1 : (0 : Int) ≤ (k : Int) := by omega
      have g2 : (k : Int) < (n : Int) := by omega
      have HB : Hid (At wr (wr.alloc (.cells #[.int .i64 a, .slice B m cb] 76))) := Lib.hid ((At.start wr).alloc _)
      have HC := Lib.hid (heap_alloc_new wr (.cells #[.int .i64 a, .slice B m cb] 76))
      clear hc hx ht hm hmL hg hkP
      go_wp2_with fail
      generalize wr.alloc (.cells #[.int .i64 a, .slice B m cb] 76) = wb at HB HC ⊢
      have c1 : wb.cell? ⟨wr.heap.size, 0, none⟩ = some (.int .i64 a) := (cell_at HC.out 0).trans rfl
      have c2 : wb.cell? ⟨wr.heap.size, 1, none⟩ = some (.slice B m cb) := (cell_at HC.out 1).trans rfl
      have HAB := Lib.hid (HA.out.next HB.out)
      clear HC e1 e2
      by_cases h0 : a < 0
      · have HF : Hid (fz N P = 2) := Lib.hid (fz_bad HM.out fun h => by have := h.1; simp only at this; omega)
        have q0 : decide (a < 0) = true := decide_eq_true h0
        go_quiet (fail)
        go_wp2
        try rw [Exit.noGoto_ret]
        go_ret
        exact ⟨by rw [HF.out]; rfl, HAB.out.drewN _⟩
      · have q0 : decide (a < 0) = false := decide_eq_false h0
        by_cases h1 : N ≤ a
        · have HF : Hid (fz N P = 2) := Lib.hid (fz_bad HM.out fun h => by have := h.2; simp only at this; omega)
          have q1 : decide (N ≤ a) = true := decide_eq_true h1
          go_quiet ((go_at_call 79; exact same_first (HS.out _ (HAB.out.drewN _))))
          go_wp2
          try rw [Exit.noGoto_ret]
          go_ret
          exact ⟨by rw [HF.out]; rfl, HAB.out.drewN _⟩
        · have q1 : decide (N ≤ a) = false := decide_eq_false h1
          have HRR : Hid (∀ j, j < k + 1 → 0 ≤ (P.getD j pz).1 ∧ (P.getD j pz).1 < N) := Lib.hid fun j hj => by
            by_cases e : j = k
            · rw [e, ← HX.out]; exact ⟨by simp only; omega, by simp only; omega⟩
            · exact HR.out j (by omega)
          by_cases h2 : m = 40
          · have HZZ : Hid (z = lz (P.take (k + 1))) := Lib.hid (by rw [HT.out, lz_same (by simp only; rw [← HML.out]; exact h2)]; exact HZ.out)
            have q2 : ((m : Int) != 40) = false := by simp; omega
            go_quiet ((go_at_call 79; exact same_first (HS.out _ (HAB.out.drewN _))))
            go_wp2
            go_roundw
            case rel => exact ⟨k + 1, z, by omega, by go_num, rfl, HZZ, HRR, Lib.hid (HAB.out.drewN _)⟩
            case measure => simp [RowKit.intOf]; omega
          · have HZZ : Hid ((3 : Int) = lz (P.take (k + 1))) := Lib.hid (by rw [HT.out]; exact (lz_bad (List.mem_append_right _ (List.mem_singleton.2 rfl)) (by simp only; rw [← HML.out]; exact h2)).symm)
            have q2 : ((m : Int) != 40) = true := by simp; omega
            go_quiet ((go_at_call 79; exact same_first (HS.out _ (HAB.out.drewN _))))
            go_wp2
            go_roundw
            case rel => exact ⟨k + 1, 3, by omega, by go_num, rfl, HZZ, HRR, Lib.hid (HAB.out.drewN _)⟩
            case measure => simp [RowKit.intOf]; omega
    · have HE : Hid (fz N P = z) := Lib.hid (by
        rw [fz_all fun j hj => HR.out j (by rw [HN.out] at hj; omega), HZ.out, List.take_of_length_le (by rw [HN.out]; omega)])
      have hkn : k = n := by omega
      subst hkn
      go_wp2
      try rw [Exit.noGoto_ret]
      go_ret
      exact ⟨by rw [HE.out]; rfl, HA.out⟩

end Go.Proofs.Ytgjlklladbcmcaa

namespace Go.Proofs.Ytgjlklladbcmcaa
open Go.RowKit

/-- The block sb holds the set of the numbers L. -/
structure Sn (w : World) (sb : Nat) (L : List Int) (D : DataW Value) : Prop where
  own : w.ownsMap Try.prog 3 unitElem sb L.length D
  has : ∀ x, Maps.has D (ky x) = true ↔ x ∈ L
theorem zero_unit (w : World) : (zeroValue 144).run Try.prog w = .ok (.agg #[]) w := by kernel_rfl
section
variable {w w' : World} {sb : Nat} {L : List Int} {D : DataW Value}
theorem Sn.lt (h : Sn w sb L D) : sb < w.heap.size := by
  obtain ⟨es, clock, hb, _⟩ := h.own
  exact lt_heap hb
theorem Sn.mv {G : Nat → Prop} (h : Sn w sb L D) (hm : Mv G w w') (hG : ¬ G sb) : Sn w' sb L D := ⟨own_mv h.own hm hG, h.has⟩
theorem Sn.on (h : Sn w sb L D) (hm : At w w') : Sn w' sb L D := h.mv (Mv.of_below (fun _ => False) hm) id
theorem Sn.look (h : Sn w sb L D) {k : Int} (hk : (ky k).wf = true) : (Instr.lookup 143 (.map (some sb)) (.int .i64 k) true).run Try.prog w = .ok (.tuple #[.agg #[], .bool (decide (k ∈ L))]) w := by
  obtain ⟨v, ps, hrun, hv⟩ := h.own.look_ok int_key Try.underlying143 (zero_unit w) (zd := .agg []) (zp := []) unitElem_mk (key_of hk)
  obtain ⟨rfl, _⟩ := unitElem_inv hv
  have hh : Maps.has D (ky k) = decide (k ∈ L) := by
    by_cases e : k ∈ L
    · rw [(h.has k).2 e, decide_eq_true e]
    · rw [decide_eq_false e]
      cases hh : Maps.has D (ky k)
      · rfl
      · exact absurd ((h.has k).1 hh) e
  rw [hrun, hh]
theorem Sn.store (h : Sn w sb L D) {k : Int} (hk : (ky k).wf = true) (hl : L.length ≤ 1000000) :
    ∃ w2, (Instr.mapUpdate 143 (.map (some sb)) (.int .i64 k) (.agg #[])).run Try.prog w = .ok () w2 ∧ (∃ D', Sn w2 sb (L ++ [k]) D') ∧ Mv (fun g => g = sb) w w2 := by
  obtain ⟨w2, hrun, hown2, hturn⟩ := h.own.store int_key Try.underlying143 (by unfold maxLen; omega) (key_of hk) (unitElem_mk (H := Value))
  have hm2 : Mv (fun g => g = sb) w w2 := (Mv.refl _ w).grown hturn.grown fun g hg => by injection hg with hg; exact Or.inl hg.symm
  have hmap := h.own.isMap
  refine ⟨w2, hrun, ⟨_, by rw [List.length_append]; exact hown2, fun x => ?_⟩, hm2⟩
  rw [List.mem_append, List.mem_singleton]
  by_cases e : x = k
  · subst e; rw [Maps.has_put_same hmap (own_isKey _)]; simp
  · rw [Maps.has_put_other (fun y => e (ky_inj y)), h.has x]; simp [e]
end
theorem sn_new (w : World) : Sn (w.alloc (.map #[] 0)) w.heap.size [] (.map []) := ⟨World.ownsMap_made w Try.prog 3 unitElem, fun _ => ⟨fun h => (nomatch h), fun h => (nomatch h)⟩⟩

theorem make_hint (n : Int) (w : World) : (Instr.makeMap 143 (some (.int .i64 n))).run Try.prog w = .ok (.map (some w.heap.size)) (w.alloc (.map #[] 0)) := by
  unfold Instr.makeMap
  simp [run_underlying Try.underlying143, asInt]
  rfl

/-- The numbers of the first ones. -/
def kz (P : List Pt) : List Int := P.map fun p : Pt => p.1
/-- Why they are refused together. -/
noncomputable def tz (S : St) (P : List Pt) : Int := open Classical in if ¬ Un P then 4 else if S.most < (((us S).length + fr S P : Nat) : Int) then 7 else 0
theorem un_more {P : List Pt} {k : Nat} (h : k < P.length) (hu : Un (P.take k)) (hx : ¬ (P.getD k pz).1 ∈ kz (P.take k)) : Un (P.take (k + 1)) := by
  unfold Un at hu ⊢
  rw [take_one P k h, List.map_append]
  refine List.nodup_append.2 ⟨hu, by simp, fun a ha b hb e => ?_⟩
  rw [List.map_cons, List.map_nil, List.mem_singleton] at hb
  exact hx (by rw [← hb, ← e]; exact ha)
theorem un_not {P : List Pt} {k : Nat} (h : k < P.length) (hx : (P.getD k pz).1 ∈ kz (P.take k)) : ¬ Un P := fun hu => by
  unfold Un at hu
  rw [← List.take_append_drop k P, List.map_append] at hu
  refine (List.nodup_append.1 hu).2.2 _ hx (P.getD k pz).1 (List.mem_map.2 ⟨_, ?_, rfl⟩) rfl
  rw [List.getD_eq_getElem?_getD, List.getElem?_eq_getElem h, List.drop_eq_getElem_cons h]
  exact List.mem_cons_self
theorem kz_take {P : List Pt} {k : Nat} (h : k < P.length) : kz (P.take (k + 1)) = kz (P.take k) ++ [(P.getD k pz).1] := by
  unfold kz; rw [take_one P k h, List.map_append]; rfl
theorem drew_row (w : World) (c c' : Array Value) (t : TypeId) : ((w.alloc (.cells c t)).drew).setRow w.heap.size c' = (w.alloc (.cells c' t)).drew := by
  show ((w.alloc (.cells c t)).setRow w.heap.size c').drew = _
  rw [World.setRow_alloc_new]

end Go.Proofs.Ytgjlklladbcmcaa

namespace Go.Proofs.Ytgjlklladbcmcaa
open Go.RowKit

theorem not_eq_true {e : Bool} (h : true = !e) : e = false := by cases e <;> simp at h ⊢
theorem not_eq_false {e : Bool} (h : false = !e) : e = true := by cases e <;> simp at h ⊢

set_option maxHeartbeats 4000000 in
set_option maxRecDepth 100000 in
theorem together_any {w : World} {b mb : Nat} {S : St} (h : Bf w b mb S) (A : Option Addr) (P : List Pt) (n c : Nat) (hn : P.length = n) (hl : n ≤ 1000000) (hP : PV w A P) (he : Each S P) :
    Calls Try.prog 61 #[.pointer (some ⟨b, 0, none⟩), .slice A n c] w (Gives (.int .i64 (tz S P)) w) := by
  have hmk := make_hint (n : Int) w
  have hn2 := h.ok.n2
  have hul := us_len S
  have H := Lib.hid h
  have HN := Lib.hid hn
  have HP := Lib.hid hP
  have HE := Lib.hid he
  have HSM : Hid (At w (w.alloc (.map #[] 0)) ∧ Sn (w.alloc (.map #[] 0)) w.heap.size [] (.map [])) := Lib.hid ⟨(At.start w).alloc _, sn_new w⟩
  have HL := Lib.hid (fun W (hW : At w W) => len_bf (h.on hW))
  obtain ⟨sb, hsb⟩ : ∃ sb, sb = w.heap.size := ⟨_, rfl⟩
  have HSB := Lib.hid hsb
  rw [← hsb] at hmk HSM
  obtain ⟨w0, hw0⟩ : ∃ w0, w0 = w.alloc (.map #[] 0) := ⟨_, rfl⟩
  rw [← hw0] at hmk HSM
  obtain ⟨u, hu⟩ : ∃ u, u = (us S).length := ⟨_, rfl⟩
  rw [← hu] at HL hul
  have HU := Lib.hid hu
  obtain ⟨hA0, hS0⟩ := HSM.out
  have HA0 := Lib.hid hA0
  have HS0 := Lib.hid hS0
  clear h hn hP he hsb hu hw0 HSM hA0 hS0
  go_enter Try.func61, Try.ntmps61
  go_wp2
  go_step3
  go_wp2_with fail
  refine (HL.out _ HA0.out).mono ?_
  rintro e w' ⟨rfl, rfl⟩
  clear HL hmk
  go_wp2_with fail
  go_step3
  go_wp2_with fail
  go_loopw [6, 20] (fun c6 c20 wr => ∃ (k f : Nat) (D : DataW Value), k ≤ n ∧ c20 = .int .i64 (k : Int) ∧ c6 = .int .i64 ((u + f : Nat) : Int) ∧ f ≤ k ∧ Hid (f = fr S (P.take k)) ∧ Hid (Un (P.take k)) ∧ Hid (Sn wr sb (kz (P.take k)) D) ∧ Hid (At w wr)) (fun _ c20 _ => n - (RowKit.intOf c20).toNat)
  case atStart => exact ⟨0, 0, _, Nat.zero_le _, rfl, rfl, Nat.le_refl _, Lib.hid rfl, Lib.hid List.nodup_nil, HS0, HA0⟩
  case round =>
    obtain ⟨k, f, D, hk, rfl, rfl, hfk, HF, HUN, HSN, HA⟩ := hrel
    by_cases hlt : k < n
    · have hkP : k < P.length := by rw [HN.out]; exact hlt
      obtain ⟨g, o, rfl, hg, hc⟩ := (HP.out.on HA.out).pos (by omega)
      obtain ⟨e1, B, cb, e2, -⟩ := hc k hkP
      have hm := pt_mem hkP
      have hr1 := (HE.out.rng _ hm)
      have hft := fr_take S P k hkP
      obtain ⟨x, hx⟩ : ∃ x : Nat, (P.getD k pz).1 = (x : Int) := ⟨(P.getD k pz).1.toNat, by omega⟩
      rw [hx] at e1 hft
      rw [Int.toNat_natCast] at hft
      have hxn : x < S.n := by omega
      have HX := Lib.hid hx
      have HFT := Lib.hid hft
      have HKP := Lib.hid hkP
      have g1 : (0 : Int) ≤ (k : Int) := by omega
      have g2 : (k : Int) < (n : Int) := by omega
      obtain ⟨m, hmL⟩ : ∃ m, m = (P.getD k pz).2.length := ⟨_, rfl⟩
      rw [← hmL] at e2
      obtain ⟨q, hq⟩ : ∃ q, wr.heap.size = q := ⟨_, rfl⟩
      obtain ⟨wb, hwb⟩ : ∃ wb, wr.alloc (.cells #[.int .i64 (x : Int), .slice B m cb] 76) = wb := ⟨_, rfl⟩
      have HB : Hid (At wr wb) := Lib.hid (by rw [← hwb]; exact (At.start wr).alloc _)
      have HC : Hid (wb.heap[q]? = some (.cells #[.int .i64 (x : Int), .slice B m cb] 76 (0, 0))) := Lib.hid (by rw [← hwb, ← hq]; exact heap_alloc_new wr _)
      have hkl : (kz (P.take k)).length ≤ 1000000 := by unfold kz; rw [List.length_map, List.length_take]; omega
      have HKL := Lib.hid hkl
      have hwf : (ky (x : Int)).wf = true := ky_wf (by omega) (by omega)
      have HSB2 := Lib.hid (HSN.out.on HB.out)
      have HAB := Lib.hid (HA.out.next HB.out)
      have HQW : Hid (q < wb.heap.size) := Lib.hid (lt_heap HC.out)
      have hlk := HSB2.out.look hwf
      have p0 : wb.cell? ⟨q, 0, none⟩ = some (.int .i64 (x : Int)) := (cell_at HC.out 0).trans rfl
      clear hc hx hm hmL hg hkP hft hr1 hkl
      clear HSN HA HB
      by_cases htw : (x : Int) ∈ kz (P.take k)
      · rw [decide_eq_true htw] at hlk
        have HZ : Hid (tz S P = 4) := Lib.hid (if_pos (un_not HKP.out (by rw [HX.out]; exact htw)))
        have HAC : Hid (At w (wb.alloc (.cells #[] 144))) := Lib.hid (HAB.out.alloc _)
        clear htw
        go_wp2_with fail
        try rw [Exit.noGoto_ret]
        go_ret
        exact ⟨by rw [HZ.out]; rfl, HAC.out⟩
      · rw [decide_eq_false htw] at hlk
        have HTW := Lib.hid htw
        clear htw
        obtain ⟨wc, hwc⟩ : ∃ wc, wb.alloc (.cells #[] 144) = wc := ⟨_, rfl⟩
        have hAC : At wb wc := by rw [← hwc]; exact (At.start wb).alloc _
        have p1 : wc.cell? ⟨q, 0, none⟩ = some (.int .i64 (x : Int)) := (cell_at (hAC.keep HC.out) 0).trans rfl
        obtain ⟨wd, hup, ⟨D', hS'⟩, hmd⟩ := (HSB2.out.on hAC).store hwf HKL.out
        have HMD : Hid (At w wd) := Lib.hid (hmd.at_ (HAB.out.next hAC) fun g hg => by rw [hg, HSB.out]; exact Nat.le_refl _)
        have hqs : q ≠ sb := fun e => by
          obtain ⟨es, clock, hb, _⟩ := HSB2.out.own
          have := HC.out
          rw [e, hb] at this; cases this
        have HPD : Hid (wd.heap[q]? = some (.cells #[.int .i64 (x : Int), .slice B m cb] 76 (0, 0))) := Lib.hid (hmd.keep (hAC.keep HC.out) hqs)
        have HSD : Hid (Sn wd sb (kz (P.take (k + 1))) D') := Lib.hid (by rw [kz_take HKP.out, HX.out]; exact hS')
        have HUD : Hid (Un (P.take (k + 1))) := Lib.hid (un_more HKP.out HUN.out (by rw [HX.out]; exact HTW.out))
        have HLK : Hid (∀ W, At wd W → (Instr.lookup 98 (.map (some mb)) (.int .i64 (x : Int)) true).run Try.prog W = .ok (.tuple #[dv (gz S (x : Int)), .bool (!(S.g x).isEmpty)]) W ∧ W.cell? ⟨b, 2, none⟩ = some (.map (some mb)) ∧ W.cell? ⟨q, 0, none⟩ = some (.int .i64 (x : Int))) := Lib.hid fun W hW =>
          ⟨by have := (H.out.on (HMD.out.next hW)).look hwf; rwa [gi_nat] at this, (H.out.on (HMD.out.next hW)).cells.2.2, (cell_at (hW.keep HPD.out) 0).trans rfl⟩
        have hVL := gz_len H.out.ok (x : Int)
        obtain ⟨V, hV⟩ : ∃ V, V = gz S (x : Int) := ⟨_, rfl⟩
        rw [← hV] at hVL HLK
        obtain ⟨d, hd⟩ : ∃ d, d = !(S.g x).isEmpty := ⟨_, rfl⟩
        rw [← hd] at HLK
        have HD := Lib.hid hd
        have HVL := Lib.hid hVL
        clear hS' hmd hAC hqs hV hVL hd HSB2 HC HTW
        go_wp2_with fail
        have HKEEP : Hid (∀ W, At wd W → (fun W => W.cell? ⟨b, 2, none⟩ = some (.map (some mb)) ∧ W.cell? ⟨q, 0, none⟩ = some (.int .i64 (x : Int)) ∧ (Instr.lookup 98 (.map (some mb)) (.int .i64 (x : Int)) true).run Try.prog W = .ok (.tuple #[dv V, .bool d]) W) W) := Lib.hid fun W hW => ⟨(HLK.out W hW).2.1, (HLK.out W hW).2.2, (HLK.out W hW).1⟩
        clear HLK hlk p0 hup p1 hwb hwc hq
        refine wp_region_held_drew (S := (fun W => W.cell? ⟨b, 2, none⟩ = some (.map (some mb)) ∧ W.cell? ⟨q, 0, none⟩ = some (.int .i64 (x : Int)) ∧ (Instr.lookup 98 (.map (some mb)) (.int .i64 (x : Int)) true).run Try.prog W = .ok (.tuple #[dv V, .bool d]) W)) (by kernel_rfl) (HKEEP.out _ ((At.start wd).drewN 1)) (fun hHeld => ?_)
        refine wpAnyH_take (i := 0) (v := .pointer (some ⟨b, 0, none⟩)) rfl (by kernel_rfl) (by kernel_rfl) (by kernel_rfl) (fun _ _ _ h => h) (Or.inl ⟨by kernel_rfl, fun w _ => by kernel_rfl⟩) hHeld ?_
        simp only [List.getElem_toArray, List.getElem_cons_zero, Act.put, List.setIfInBounds_toArray, List.set_cons_zero, List.set_cons_succ]
        refine wpAnyH_take (i := 1) (v := .pointer (some ⟨b, 0, none⟩)) rfl (by kernel_rfl) (by kernel_rfl) (by kernel_rfl) (fun _ _ _ h => h) (Or.inl ⟨by kernel_rfl, fun w _ => by kernel_rfl⟩) hHeld ?_
        simp only [List.getElem_toArray, List.getElem_cons_zero, List.getElem_cons_succ, Act.put, List.setIfInBounds_toArray, List.set_cons_zero, List.set_cons_succ]
        refine wpAnyH_take (i := 2) (v := .pointer (some ⟨b, 2, none⟩)) rfl (by kernel_rfl) (by kernel_rfl) (by kernel_rfl) (fun _ _ _ h => h) (Or.inl ⟨by kernel_rfl, fun w _ => by kernel_rfl⟩) hHeld ?_
        simp only [List.getElem_toArray, List.getElem_cons_zero, List.getElem_cons_succ, Act.put, List.setIfInBounds_toArray, List.set_cons_zero, List.set_cons_succ]
        refine wpAnyH_take (i := 3) (v := .map (some mb)) rfl (by kernel_rfl) (by kernel_rfl) (by kernel_rfl) (fun _ _ _ h => h) (Or.inl ⟨by kernel_rfl, fun w hw => by have h1 := hw.1; go_simp⟩) hHeld ?_
        simp only [List.getElem_toArray, List.getElem_cons_zero, List.getElem_cons_succ, Act.put, List.setIfInBounds_toArray, List.set_cons_zero, List.set_cons_succ]
        refine wpAnyH_take (i := 4) (v := .pointer (some ⟨q, 0, none⟩)) rfl (by kernel_rfl) (by kernel_rfl) (by kernel_rfl) (fun _ _ _ h => h) (Or.inl ⟨by kernel_rfl, fun w _ => by kernel_rfl⟩) hHeld ?_
        simp only [List.getElem_toArray, List.getElem_cons_zero, List.getElem_cons_succ, Act.put, List.setIfInBounds_toArray, List.set_cons_zero, List.set_cons_succ]
        refine wpAnyH_take (i := 5) (v := .int .i64 (x : Int)) rfl (by kernel_rfl) (by kernel_rfl) (by kernel_rfl) (fun _ _ _ h => h) (Or.inl ⟨by kernel_rfl, fun w hw => by have h1 := hw.2.1; go_simp⟩) hHeld ?_
        simp only [List.getElem_toArray, List.getElem_cons_zero, List.getElem_cons_succ, Act.put, List.setIfInBounds_toArray, List.set_cons_zero, List.set_cons_succ]
        refine wpAnyH_take (i := 6) (v := .tuple #[dv V, .bool d]) rfl (by kernel_rfl) (by kernel_rfl) (by kernel_rfl) (fun _ _ _ h => h) (Or.inl ⟨by kernel_rfl, fun w hw => by have h1 := hw.2.2; go_simp⟩) hHeld ?_
        simp only [List.getElem_toArray, List.getElem_cons_zero, List.getElem_cons_succ, Act.put, List.setIfInBounds_toArray, List.set_cons_zero, List.set_cons_succ]
        refine wpAnyH_take (i := 7) (v := .tuple #[dv V, .bool d]) rfl (by kernel_rfl) (by kernel_rfl) (by kernel_rfl) (fun _ _ _ h => h) (Or.inl ⟨by kernel_rfl, fun w _ => by kernel_rfl⟩) hHeld ?_
        simp only [List.getElem_toArray, List.getElem_cons_zero, List.getElem_cons_succ, Act.put, List.setIfInBounds_toArray, List.set_cons_zero, List.set_cons_succ]
        refine wpAnyH_take (i := 8) (v := dv V) rfl (by kernel_rfl) (by kernel_rfl) (by kernel_rfl) (fun _ _ _ h => h) (Or.inl ⟨by kernel_rfl, fun w _ => by kernel_rfl⟩) hHeld ?_
        simp only [List.getElem_toArray, List.getElem_cons_zero, List.getElem_cons_succ, Act.put, List.setIfInBounds_toArray, List.set_cons_zero, List.set_cons_succ]
        refine wpAnyH_take (i := 9) (v := .bool d) rfl (by kernel_rfl) (by kernel_rfl) (by kernel_rfl) (fun _ _ _ h => h) (Or.inl ⟨by kernel_rfl, fun w _ => by kernel_rfl⟩) hHeld ?_
        simp only [List.getElem_toArray, List.getElem_cons_zero, List.getElem_cons_succ, Act.put, List.setIfInBounds_toArray, List.set_cons_zero, List.set_cons_succ]
        clear hHeld
        refine wpAnyH_ready (rs := [10]) (by kernel_rfl) (by simp) ?_
        refine AllReadyH.cons rfl (fun K hK => ?_) AllReadyH.nil
        go_simp
        refine hK.out _ _ (HKEEP.out _ (((At.start wd).alloc _).drewN 1)) (fun hHeld => ?_)
        clear hK K hHeld
        refine wpAnyH_ready (rs := [11]) (by kernel_rfl) (by simp) ?_
        refine AllReadyH.cons rfl (fun K hK => ?_) AllReadyH.nil
        rw [if_pos (by kernel_rfl)]
        refine wp_store_row _ (.tmp 11) (.tmp 44) (by kernel_rfl) wd.heap.size (V.map bt).toArray (by kernel_rfl) (by kernel_rfl) 97 _ (heap_alloc_new wd _) (by rw [size_data, List.size_toArray, List.length_map, HVL.out]) (show (40 : Nat) = _ by rw [List.size_toArray, List.length_map, HVL.out]) (bt_all V) ?_
        rw [drew_row]
        refine hK.out _ _ (HKEEP.out _ (((At.start wd).alloc _).drewN 1)) (fun hHeld => ?_)
        clear hK K
        simp only [List.getElem_toArray, List.getElem_cons_zero, List.getElem_cons_succ, Act.put]
        refine wpAnyH_take (i := 12) (v := .bool d) rfl (by kernel_rfl) (by kernel_rfl) (by kernel_rfl) (fun _ _ _ h => h) (Or.inl ⟨by kernel_rfl, fun w _ => by kernel_rfl⟩) hHeld ?_
        simp only [List.getElem_toArray, List.getElem_cons_zero, List.getElem_cons_succ, Act.put, List.setIfInBounds_toArray, List.set_cons_zero, List.set_cons_succ]
        clear hHeld
        refine wpAnyH_done (by kernel_rfl) ?_ _
        have HA2 : Hid (At w ((wd.alloc (.cells (V.map bt).toArray 97)).drew)) := Lib.hid ((HMD.out.alloc _).drewN 1)
        have HS2 : Hid (Sn ((wd.alloc (.cells (V.map bt).toArray 97)).drew) sb (kz (P.take (k + 1))) D') := Lib.hid (HSD.out.on (((At.start wd).alloc _).drewN 1))
        clear HMD HPD HSD HKEEP
        generalize (wd.alloc (.cells (V.map bt).toArray 97)).drew = wz at HA2 HS2 ⊢
        cases d with
        | true =>
          have HFF : Hid (f = fr S (P.take (k + 1))) := Lib.hid (by rw [HFT.out, if_neg (by rw [not_eq_true HD.out]; exact Bool.false_ne_true)]; exact HF.out)
          go_wp2_with fail
          go_roundw
          case rel => exact ⟨k + 1, f, D', by omega, by go_num, rfl, by omega, HFF, HUD, HS2, HA2⟩
          case measure => simp [RowKit.intOf]; omega
        | false =>
          have HFF : Hid (f + 1 = fr S (P.take (k + 1))) := Lib.hid (by rw [HFT.out, if_pos (not_eq_false HD.out), HF.out])
          go_wp2_with fail
          go_roundw
          case rel => exact ⟨k + 1, f + 1, D', by omega, by go_num, by go_num, by omega, HFF, HUD, HS2, HA2⟩
          case measure => simp [RowKit.intOf]; omega
    · have hkn : k = n := by omega
      have ht : P.take k = P := List.take_of_length_le (by rw [HN.out]; omega)
      rw [ht] at HF HUN
      obtain ⟨-, c1, -⟩ := (H.out.on HA.out).cells
      by_cases hb : S.most < ((u + f : Nat) : Int)
      · have HZ : Hid (tz S P = 7) := Lib.hid (by unfold tz; rw [if_neg (not_not_intro HUN.out), ← HU.out, ← HF.out, if_pos hb])
        subst hkn
        clear ht
        go_wp2_with fail
        try rw [Exit.noGoto_ret]
        go_ret
        exact ⟨by rw [HZ.out]; rfl, HA.out⟩
      · have HZ : Hid (tz S P = 0) := Lib.hid (by unfold tz; rw [if_neg (not_not_intro HUN.out), ← HU.out, ← HF.out, if_neg hb])
        have hb' : decide (S.most < ((u + f : Nat) : Int)) = false := decide_eq_false hb
        subst hkn
        clear ht
        go_wp2_with fail
        try rw [Exit.noGoto_ret]
        go_ret
        exact ⟨by rw [HZ.out]; rfl, HA.out⟩

end Go.Proofs.Ytgjlklladbcmcaa

namespace Go.Proofs.Ytgjlklladbcmcaa
open Go.RowKit

theorem rf_each2 {S : St} {P : List Pt} (h0 : P ≠ []) (h : fz (S.n : Int) P ≠ 0) : rf S P = fz (S.n : Int) P := by
  by_cases h2 : ∃ p ∈ P, ¬ (0 ≤ p.1 ∧ p.1 < (S.n : Int))
  · rw [rf_range h0 h2]; unfold fz; rw [if_pos h2]
  · have e : fz (S.n : Int) P = lz P := if_neg h2
    rw [e] at h ⊢
    by_cases h3 : ∃ p ∈ P, p.2.length ≠ 40
    · rw [rf_len h0 h2 h3]; unfold lz; rw [if_pos h3]
    · exact absurd (if_neg h3) h
theorem each_fz {S : St} {P : List Pt} (h0 : P ≠ []) (h : fz (S.n : Int) P = 0) : Each S P := by
  have h2 : ¬ ∃ p ∈ P, ¬ (0 ≤ p.1 ∧ p.1 < (S.n : Int)) := fun h2 => by
    have : fz (S.n : Int) P = 2 := if_pos h2
    omega
  have e : fz (S.n : Int) P = lz P := if_neg h2
  have h3 : ¬ ∃ p ∈ P, p.2.length ≠ 40 := fun h3 => by
    have : lz P = 3 := if_pos h3
    omega
  exact each_of h0 h2 h3
theorem rf_tz {S : St} {P : List Pt} (h : Each S P) : rf S P = tz S P := by
  unfold tz
  by_cases hu : Un P
  · rw [if_neg (not_not_intro hu), ← us_fr P h.rng h.ne2 hu]
    by_cases hc : S.most < ((us (upS S P)).length : Int)
    · rw [if_pos hc]; exact rf_big h hu hc
    · rw [if_neg hc]; exact Fine.rf ⟨h, hu, by omega⟩
  · rw [if_pos hu]; exact rf_over h hu

set_option maxHeartbeats 1000000 in
theorem refuses_any {w : World} {b mb : Nat} {S : St} (h : Bf w b mb S) (A : Option Addr) (P : List Pt) (n c : Nat) (hn : P.length = n) (hl : n ≤ 1000000) (hP : PV w A P) :
    Calls Try.prog 41 #[.pointer (some ⟨b, 0, none⟩), .slice A n c] w (Gives (.int .i64 (rf S P)) w) := by
  by_cases h0 : n = 0
  · subst h0
    have hp : P = [] := List.eq_nil_of_length_eq_zero hn
    subst hp
    have HZ := Lib.hid (rf_none S)
    clear h hP hn
    go_enter Try.func41, Try.ntmps41
    go_wp2
    go_ret
    exact ⟨by rw [HZ.out]; rfl, At.start _⟩
  · have hp : P ≠ [] := fun e => by rw [e] at hn; exact h0 hn.symm
    have q0 : ((n : Int) == 0) = false := by simp; omega
    have HE := Lib.hid (each_any (w := w) (some ⟨b, 0, none⟩) (S.n : Int) (fun W hW => size_bf (h.on hW)) A P n c hn hl hP)
    by_cases hz : fz (S.n : Int) P = 0
    · have he := each_fz hp hz
      have HT := Lib.hid (fun W (hW : At w W) => together_any (h.on hW) A P n c hn hl (hP.on hW) he)
      rw [← rf_tz he] at HT
      rw [hz] at HE
      clear h hP hn hp hz he h0
      go_enter Try.func41, Try.ntmps41
      go_wp2_with fail
      refine HE.out.mono ?_
      rintro e w1 ⟨rfl, hA⟩
      have HA : Hid (At w w1) := Lib.hid hA
      clear hA
      go_wp2_with fail
      refine (HT.out _ HA.out).mono ?_
      rintro e w2 ⟨rfl, hA⟩
      have HA2 : Hid (At w w2) := Lib.hid (HA.out.next hA)
      clear hA
      go_wp2
      go_ret
      exact ⟨rfl, HA2.out⟩
    · have hr := rf_each2 hp hz
      rw [← hr] at HE hz
      have q1 : (rf S P != 0) = true := by simp; exact hz
      clear h hP hn hp h0 hr
      generalize rf S P = z at HE hz q1 ⊢
      go_enter Try.func41, Try.ntmps41
      go_wp2_with fail
      refine HE.out.mono ?_
      rintro e w1 ⟨rfl, hA⟩
      have HA : Hid (At w w1) := Lib.hid hA
      clear hA
      go_wp2
      go_ret
      exact ⟨rfl, HA.out⟩

set_option maxHeartbeats 1000000 in
/-- Of no buffer. -/
theorem refuses_nil {w : World} (A : Option Addr) (P : List Pt) (n c : Nat) (hn : P.length = n) (hl : n ≤ 1000000) (hP : PV w A P) :
    Calls Try.prog 41 #[.pointer none, .slice A n c] w (Gives (.int .i64 (if n = 0 then 1 else 2)) w) := by
  by_cases h0 : n = 0
  · subst h0
    clear hP hn
    go_enter Try.func41, Try.ntmps41
    go_wp2
    go_ret
    exact ⟨rfl, At.start _⟩
  · have q0 : ((n : Int) == 0) = false := by simp; omega
    have HE := Lib.hid (each_any (w := w) none 0 (fun W _ => (size_nil W).mono fun _ _ h => h) A P n c hn hl hP)
    rw [fz_bad (p := P.getD 0 pz) (pt_mem (by omega)) (by omega)] at HE
    rw [if_neg h0]
    clear hP hn h0
    go_enter Try.func41, Try.ntmps41
    go_wp2_with fail
    refine HE.out.mono ?_
    rintro e w1 ⟨rfl, hA⟩
    have HA : Hid (At w w1) := Lib.hid hA
    clear hA
    go_wp2
    go_ret
    exact ⟨rfl, HA.out⟩
set_option maxHeartbeats 1000000 in
theorem write_nil {w : World} (A : Option Addr) (P : List Pt) (n c : Nat) (hn : P.length = n) (hl : n ≤ 1000000) (hP : PV w A P) :
    Calls Try.prog 14 #[.pointer none, .slice A n c] w (Gives (.int .i64 (if n = 0 then 1 else 2)) w) := by
  have HR := Lib.hid (refuses_nil A P n c hn hl hP)
  have hz : (((if n = 0 then 1 else 2 : Int)) != 0) = true := by split <;> rfl
  generalize (if n = 0 then 1 else 2 : Int) = z at HR hz ⊢
  clear hn hP
  go_enter Try.func14, Try.ntmps14
  go_wp2_with fail
  refine HR.out.mono ?_
  rintro e w1 ⟨rfl, hA⟩
  have HA : Hid (At w w1) := Lib.hid hA
  clear hA
  go_wp2
  go_ret
  exact ⟨rfl, HA.out⟩

/-- What a call told, and what it left of the buffer. -/
def Wrote (z : Int) (b mb : Nat) (S' : St) (w : World) (e : Ending) (w' : World) : Prop := e = .returned (.int .i64 z) ∧ Bf w' b mb S' ∧ Mv (fun g => g = mb) w w'
set_option maxHeartbeats 1000000 in
theorem write_no {w : World} {b mb : Nat} {S : St} (h : Bf w b mb S) (A : Option Addr) (P : List Pt) (n c : Nat) (hn : P.length = n) (hl : n ≤ 1000000) (hP : PV w A P) (hz : rf S P ≠ 0) :
    Calls Try.prog 14 #[.pointer (some ⟨b, 0, none⟩), .slice A n c] w (Wrote (rf S P) b mb S w) := by
  have HR := Lib.hid (refuses_any h A P n c hn hl hP)
  have H := Lib.hid h
  have q1 : (rf S P != 0) = true := by simp; exact hz
  clear hn hP h
  generalize rf S P = z at HR hz q1 ⊢
  go_enter Try.func14, Try.ntmps14
  go_wp2_with fail
  refine HR.out.mono ?_
  rintro e w1 ⟨rfl, hA⟩
  have HA : Hid (At w w1) := Lib.hid hA
  clear hA
  go_wp2
  go_ret
  exact ⟨rfl, H.out.on HA.out, Mv.of_below _ HA.out⟩

/-- A cell lies in no block of entries. -/
theorem cell_far {w : World} {mb : Nat} {es : Array MapEntry} {clock : Nat} (hb : w.heap[mb]? = some (.map es clock)) {p : Addr} {v : Value} (hc : w.cell? p = some v) : p.block ≠ mb := fun e => by
  unfold World.cell? at hc
  rw [e, hb] at hc
  simp at hc
theorem cell_mv {w w' : World} {mb : Nat} {es : Array MapEntry} {clock : Nat} (hb : w.heap[mb]? = some (.map es clock)) (hm : Mv (fun g => g = mb) w w') {p : Addr} {v : Value} (hc : w.cell? p = some v) : w'.cell? p = some v :=
  (World.cell?_of_block (a := p) (hm.block _ (World.block_lt_of_cell? w _ hc) (cell_far hb hc))).trans hc
theorem BV.mvm {w w' : World} {mb : Nat} {es : Array MapEntry} {clock : Nat} (hb : w.heap[mb]? = some (.map es clock)) (hm : Mv (fun g => g = mb) w w') {A : Option Addr} {L : List Nat} (h : BV w A L) : BV w' A L := by
  rcases h with h | ⟨b, o, rfl, hlt, hc⟩
  · exact Or.inl h
  · exact Or.inr ⟨b, o, rfl, Nat.lt_of_lt_of_le hlt hm.size, fun j hj => cell_mv hb hm (hc j hj)⟩
theorem PV.mvm {w w' : World} {mb : Nat} {es : Array MapEntry} {clock : Nat} (hb : w.heap[mb]? = some (.map es clock)) (hm : Mv (fun g => g = mb) w w') {A : Option Addr} {P : List Pt} (h : PV w A P) : PV w' A P := by
  rcases h with h | ⟨g, o, rfl, hlt, hc⟩
  · exact Or.inl h
  · refine Or.inr ⟨g, o, rfl, Nat.lt_of_lt_of_le hlt hm.size, fun j hj => ?_⟩
    obtain ⟨h1, B, c, h2, h3⟩ := hc j hj
    exact ⟨cell_mv hb hm h1, B, c, cell_mv hb hm h2, h3.mvm hb hm⟩
theorem Bf.map {w : World} {b mb : Nat} {S : St} (h : Bf w b mb S) : ∃ es clock, w.heap[mb]? = some (.map es clock) := by obtain ⟨D, h⟩ := h; exact h.map
theorem Bf.store {w : World} {b mb : Nat} {S : St} (h : Bf w b mb S) {k : Nat} (hk : k < S.n) {d : List Nat} (hd : d.length = 40) (hok : Ok (upS S [((k : Int), d)])) :
    ∃ w2, (Instr.mapUpdate 98 (.map (some mb)) (.int .i64 (k : Int)) (dv d)).run Try.prog w = .ok () w2 ∧ Bf w2 b mb (upS S [((k : Int), d)]) ∧ Mv (fun g => g = mb) w w2 := by obtain ⟨D, h⟩ := h; exact h.store hk hd hok
theorem Fine.okm {S : St} {P : List Pt} (h : Fine S P) (hS : Ok S) (hb : AllBy P) (j : Nat) : Ok (upS S (P.take j)) := by
  refine up_ok' hS (fun p hp => h.rng p (List.mem_of_mem_take hp)) (fun p hp => h.len p (List.mem_of_mem_take hp)) (fun p hp => hb p (List.mem_of_mem_take hp)) ?_
  have h1 : (us (upS S (P.take j))).length ≤ (us (upS S P)).length := us_mono rfl fun k hk => by
    have ne := h.toEach.ne2
    show ups S.g P k ≠ []
    have hk' : ups S.g (P.take j) k ≠ [] := hk
    rw [ups_ne fun p hp => ne p (List.mem_of_mem_take hp)] at hk'
    rw [ups_ne ne]
    rcases hk' with h | ⟨p, hp, e⟩
    · exact Or.inl h
    · exact Or.inr ⟨p, List.mem_of_mem_take hp, e⟩
  have := h.c
  omega
theorem upS_step (S : St) (P : List Pt) (j : Nat) (h : j < P.length) : upS S (P.take (j + 1)) = upS (upS S (P.take j)) [P.getD j pz] := by
  unfold upS
  rw [ups_take _ _ _ h]; rfl
theorem run_at (g : Option Addr) (c : Nat) (w : World) : (Instr.arrayAt 97 (.slice g 40 c)).run Try.prog w = .ok (.pointer g) w := run_arrayAt w _ _ 40 _ 40 c Try.underlying97 (Nat.le_refl _)
theorem range_alloc {w : World} {b o : Nat} {cs : List Value} (h : w.rangeAt b o cs) (ob : Obj) : (w.alloc ob).rangeAt b o cs := fun j v hv => by
  have := h j v hv
  rw [World.cell?_alloc_lt _ _ _ (World.block_lt_of_cell? w _ this)]; exact this
theorem wp_update {o : Oper} {a : Act} {w : World} {K : Act → World → Prop} {Q : Exit → Act → World → Prop} (m x y : Operand) (ho : o.op = .mapUpdate 98 m x y) (mv key v : Value) (w' : World) (hm : a.eval m = mv) (hx : a.eval x = key) (hy : a.eval y = v) (hrun : (Instr.mapUpdate 98 mv key v).run Try.prog w = .ok () w') (h : K (a.put o.dst undef) w') : o.wp Try.prog a w K Q := by
  unfold Oper.wp execOp
  simp only [ho, hm, hx, hy, Sem.run_bind, hrun, Result.andThen_ok]
  exact h

set_option maxHeartbeats 4000000 in
set_option maxRecDepth 100000 in
theorem write_ok {w : World} {b mb : Nat} {S : St} (h : Bf w b mb S) (A : Option Addr) (P : List Pt) (n c : Nat) (hn : P.length = n) (hl : n ≤ 1000000) (hP : PV w A P) (hB : AllBy P) (hz : rf S P = 0) :
    Calls Try.prog 14 #[.pointer (some ⟨b, 0, none⟩), .slice A n c] w (Wrote 0 b mb (upS S P) w) := by
  have HR := Lib.hid (refuses_any h A P n c hn hl hP)
  rw [hz] at HR
  have hf := fine_of hz
  have hn2 := h.ok.n2
  obtain ⟨es, clock, hmap⟩ := h.map
  have HOK := Lib.hid (fun m => hf.okm h.ok hB m)
  have HPM := Lib.hid (fun W (hW : Mv (fun g => g = mb) w W) => PV.mvm hmap hW hP)
  have H := Lib.hid h
  have HF := Lib.hid hf
  have HN := Lib.hid hn
  clear h hn hP hB hf hz hmap
  go_enter Try.func14, Try.ntmps14
  go_wp2_with fail
  refine HR.out.mono ?_
  rintro e w1 ⟨rfl, hA⟩
  have HA : Hid (At w w1) := Lib.hid hA
  clear hA HR
  go_wp2
  go_loopw [16] (fun c16 wr => ∃ k : Nat, k ≤ n ∧ c16 = .int .i64 (k : Int) ∧ Hid (Bf wr b mb (upS S (P.take k))) ∧ Hid (Mv (fun g => g = mb) w wr)) (fun c16 _ => n - (RowKit.intOf c16).toNat)
  case atStart => exact ⟨0, Nat.zero_le _, rfl, Lib.hid (H.out.on HA.out), Lib.hid (Mv.of_below _ HA.out)⟩
  case round =>
    obtain ⟨k, hk, rfl, HBF, HM⟩ := hrel
    by_cases hlt : k < n
    · have hkP : k < P.length := by rw [HN.out]; exact hlt
      obtain ⟨g, o, rfl, hg, hc⟩ := (HPM.out wr HM.out).pos (by omega)
      obtain ⟨e1, B, cb, e2, hbv⟩ := hc k hkP
      have hmem := pt_mem hkP
      have hr1 := HF.out.rng _ hmem
      have hlen := HF.out.len _ hmem
      have hst := upS_step S P k hkP
      obtain ⟨p, hp⟩ : ∃ p, P.getD k pz = p := ⟨_, rfl⟩
      rw [hp] at e1 e2 hbv hr1 hlen hst
      obtain ⟨a, d⟩ := p
      simp only at e1 e2 hbv hr1 hlen
      obtain ⟨x, rfl⟩ : ∃ x : Nat, a = (x : Int) := ⟨a.toNat, by omega⟩
      have hxn : x < S.n := by omega
      rw [hlen] at e2
      obtain ⟨pb, po, rfl, -, -⟩ := hbv.pos (by omega)
      have hrg : wr.rangeAt pb po (d.map bt) := fun i u hu => by
        obtain ⟨ad, he, _, hcc⟩ := hbv.cells (by omega)
        injection he with he
        subst he
        have := hcc i u hu
        rwa [Go.WideShapes.add_plain] at this
      obtain ⟨q, hq⟩ : ∃ q, wr.heap.size = q := ⟨_, rfl⟩
      obtain ⟨wb, hwb⟩ : ∃ wb, wr.alloc (.cells #[.int .i64 (x : Int), .slice (some ⟨pb, po, none⟩) 40 cb] 76) = wb := ⟨_, rfl⟩
      have HB : Hid (At wr wb) := Lib.hid (by rw [← hwb]; exact (At.start wr).alloc _)
      have HC : Hid (wb.heap[q]? = some (.cells #[.int .i64 (x : Int), .slice (some ⟨pb, po, none⟩) 40 cb] 76 (0, 0))) := Lib.hid (by rw [← hwb, ← hq]; exact heap_alloc_new wr _)
      have HRG : Hid (wb.rangeAt pb po (d.map bt)) := Lib.hid (by rw [← hwb]; exact range_alloc hrg _)
      have HBB := Lib.hid (HBF.out.on HB.out)
      have HST := Lib.hid hst
      have HLN := Lib.hid hlen
      have g1 : (0 : Int) ≤ (k : Int) := by omega
      have g2 : (k : Int) < (n : Int) := by omega
      have HSTO : Hid (∀ W, At wb W → ∃ w2, (Instr.mapUpdate 98 (.map (some mb)) (.int .i64 (x : Int)) (dv d)).run Try.prog W = .ok () w2 ∧ Bf w2 b mb (upS S (P.take (k + 1))) ∧ Mv (fun g => g = mb) W w2) := Lib.hid fun W hW => by
        have := (HBB.out.on hW).store (k := x) hxn (d := d) HLN.out (by rw [← HST.out]; exact HOK.out (k + 1))
        rwa [← HST.out] at this
      have HMW : Hid (∀ W w2, At wb W → Mv (fun g => g = mb) W w2 → Mv (fun g => g = mb) w w2) := Lib.hid fun W w2 hW h2 => ((HM.out.next HB.out).next hW).trans h2 fun g hg => Or.inl hg
      clear hc hmem hr1 hlen hst hp hbv hrg hg hkP
      go_wp2_with fail
      have HKEEP : Hid (∀ W, At wb W → (fun W => W.cell? ⟨b, 2, none⟩ = some (.map (some mb)) ∧ W.cell? ⟨q, 0, none⟩ = some (.int .i64 (x : Int)) ∧ W.cell? ⟨q, 1, none⟩ = some (.slice (some ⟨pb, po, none⟩) 40 cb) ∧ W.rangeAt pb po (d.map bt)) W) := Lib.hid fun W hW => ⟨(HBB.out.on hW).cells.2.2, (cell_at (hW.keep HC.out) 0).trans rfl, (cell_at (hW.keep HC.out) 1).trans rfl, fun i u hu => (Below.cell hW (World.block_lt_of_cell? wb _ (HRG.out i u hu))).trans (HRG.out i u hu)⟩
      clear e1 e2 hwb hq
      refine wp_region_held_drew (S := (fun W => W.cell? ⟨b, 2, none⟩ = some (.map (some mb)) ∧ W.cell? ⟨q, 0, none⟩ = some (.int .i64 (x : Int)) ∧ W.cell? ⟨q, 1, none⟩ = some (.slice (some ⟨pb, po, none⟩) 40 cb) ∧ W.rangeAt pb po (d.map bt))) (by kernel_rfl) (HKEEP.out _ ((At.start wb).drewN 1)) (fun hHeld => ?_)
      refine wpAnyH_take (i := 0) (v := .pointer (some ⟨b, 0, none⟩)) rfl (by kernel_rfl) (by kernel_rfl) (by kernel_rfl) (fun _ _ _ h => h) (Or.inl ⟨by kernel_rfl, fun w _ => by kernel_rfl⟩) hHeld ?_
      simp only [List.getElem_toArray, List.getElem_cons_zero, Act.put, List.setIfInBounds_toArray, List.set_cons_zero, List.set_cons_succ]
      refine wpAnyH_take (i := 1) (v := .pointer (some ⟨b, 0, none⟩)) rfl (by kernel_rfl) (by kernel_rfl) (by kernel_rfl) (fun _ _ _ h => h) (Or.inl ⟨by kernel_rfl, fun w _ => by kernel_rfl⟩) hHeld ?_
      simp only [List.getElem_toArray, List.getElem_cons_zero, List.getElem_cons_succ, Act.put, List.setIfInBounds_toArray, List.set_cons_zero, List.set_cons_succ]
      refine wpAnyH_take (i := 2) (v := .pointer (some ⟨b, 2, none⟩)) rfl (by kernel_rfl) (by kernel_rfl) (by kernel_rfl) (fun _ _ _ h => h) (Or.inl ⟨by kernel_rfl, fun w _ => by kernel_rfl⟩) hHeld ?_
      simp only [List.getElem_toArray, List.getElem_cons_zero, List.getElem_cons_succ, Act.put, List.setIfInBounds_toArray, List.set_cons_zero, List.set_cons_succ]
      refine wpAnyH_take (i := 3) (v := .map (some mb)) rfl (by kernel_rfl) (by kernel_rfl) (by kernel_rfl) (fun _ _ _ h => h) (Or.inl ⟨by kernel_rfl, fun w hw => by have h1 := hw.1; go_simp⟩) hHeld ?_
      simp only [List.getElem_toArray, List.getElem_cons_zero, List.getElem_cons_succ, Act.put, List.setIfInBounds_toArray, List.set_cons_zero, List.set_cons_succ]
      refine wpAnyH_take (i := 4) (v := .pointer (some ⟨q, 0, none⟩)) rfl (by kernel_rfl) (by kernel_rfl) (by kernel_rfl) (fun _ _ _ h => h) (Or.inl ⟨by kernel_rfl, fun w _ => by kernel_rfl⟩) hHeld ?_
      simp only [List.getElem_toArray, List.getElem_cons_zero, List.getElem_cons_succ, Act.put, List.setIfInBounds_toArray, List.set_cons_zero, List.set_cons_succ]
      refine wpAnyH_take (i := 5) (v := .int .i64 (x : Int)) rfl (by kernel_rfl) (by kernel_rfl) (by kernel_rfl) (fun _ _ _ h => h) (Or.inl ⟨by kernel_rfl, fun w hw => by have h1 := hw.2.1; go_simp⟩) hHeld ?_
      simp only [List.getElem_toArray, List.getElem_cons_zero, List.getElem_cons_succ, Act.put, List.setIfInBounds_toArray, List.set_cons_zero, List.set_cons_succ]
      refine wpAnyH_take (i := 6) (v := .pointer (some ⟨q, 1, none⟩)) rfl (by kernel_rfl) (by kernel_rfl) (by kernel_rfl) (fun _ _ _ h => h) (Or.inl ⟨by kernel_rfl, fun w _ => by kernel_rfl⟩) hHeld ?_
      simp only [List.getElem_toArray, List.getElem_cons_zero, List.getElem_cons_succ, Act.put, List.setIfInBounds_toArray, List.set_cons_zero, List.set_cons_succ]
      refine wpAnyH_take (i := 7) (v := .slice (some ⟨pb, po, none⟩) 40 cb) rfl (by kernel_rfl) (by kernel_rfl) (by kernel_rfl) (fun _ _ _ h => h) (Or.inl ⟨by kernel_rfl, fun w hw => by have h1 := hw.2.2.1; go_simp⟩) hHeld ?_
      simp only [List.getElem_toArray, List.getElem_cons_zero, List.getElem_cons_succ, Act.put, List.setIfInBounds_toArray, List.set_cons_zero, List.set_cons_succ]
      refine wpAnyH_take (i := 8) (v := .pointer (some ⟨pb, po, none⟩)) rfl (by kernel_rfl) (by kernel_rfl) (by kernel_rfl) (fun _ _ _ h => h) (Or.inl ⟨by kernel_rfl, fun w _ => by kernel_rfl⟩) hHeld ?_
      simp only [List.getElem_toArray, List.getElem_cons_zero, List.getElem_cons_succ, Act.put, List.setIfInBounds_toArray, List.set_cons_zero, List.set_cons_succ]
      refine wpAnyH_take (i := 9) (v := .agg (d.map bt).toArray) rfl (by kernel_rfl) (by kernel_rfl) (by kernel_rfl) (fun _ _ _ h => h) (yieldsIf_load_mid (by kernel_rfl) 97 (.tmp 28) (by kernel_rfl) pb po (by kernel_rfl) (d.map bt) _ (fun w hw => hw.2.2.2) Try.underlying97 rfl (by rw [size_data, List.length_map, HLN.out])) hHeld ?_
      simp only [List.getElem_toArray, List.getElem_cons_zero, List.getElem_cons_succ, Act.put, List.setIfInBounds_toArray, List.set_cons_zero, List.set_cons_succ]
      clear hHeld
      obtain ⟨w2, hrun, hb2, hm2⟩ := HSTO.out _ ((At.start wb).drewN 1)
      have HRUN := Lib.hid hrun
      have HB2 := Lib.hid hb2
      have HM2 : Hid (Mv (fun g => g = mb) w w2) := Lib.hid (HMW.out _ _ ((At.start wb).drewN 1) hm2)
      have HKE : Hid ((fun W => W.cell? ⟨b, 2, none⟩ = some (.map (some mb)) ∧ W.cell? ⟨q, 0, none⟩ = some (.int .i64 (x : Int)) ∧ W.cell? ⟨q, 1, none⟩ = some (.slice (some ⟨pb, po, none⟩) 40 cb) ∧ W.rangeAt pb po (d.map bt)) w2) := Lib.hid (by
        have h0 := HKEEP.out _ ((At.start wb).drewN 1)
        obtain ⟨es, clock, hmap⟩ := (HBB.out.on ((At.start wb).drewN 1)).map
        exact ⟨cell_mv hmap hm2 h0.1, cell_mv hmap hm2 h0.2.1, cell_mv hmap hm2 h0.2.2.1, fun i u hu => cell_mv hmap hm2 (h0.2.2.2 i u hu)⟩)
      clear hrun hb2 hm2
      refine wpAnyH_ready (rs := [10]) (by kernel_rfl) (by simp) ?_
      refine AllReadyH.cons rfl (fun K hK => ?_) AllReadyH.nil
      rw [if_pos (by kernel_rfl)]
      refine wp_update (.tmp 23) (.tmp 25) (.tmp 29) (by kernel_rfl) (.map (some mb)) (.int .i64 (x : Int)) (dv d) w2 (by kernel_rfl) (by kernel_rfl) (by kernel_rfl) HRUN.out ?_
      refine hK.out _ _ HKE.out (fun hHeld => ?_)
      clear hK K hHeld
      simp only [List.getElem_toArray, List.getElem_cons_zero, List.getElem_cons_succ, Act.put]
      refine wpAnyH_done (by kernel_rfl) ?_ _
      clear HRUN HKE HKEEP HMW HSTO HBB HC HRG HB HBF HM
      go_wp2
      go_roundw
      case rel => exact ⟨k + 1, by omega, by go_num, HB2, HM2⟩
      case measure => simp [RowKit.intOf]; omega
    · have hkn : k = n := by omega
      have ht : P.take k = P := List.take_of_length_le (by rw [HN.out]; omega)
      rw [ht] at HBF
      have HE : Hid (Wrote 0 b mb (upS S P) w (.returned (.int .i64 0)) wr) := Lib.hid ⟨rfl, HBF.out, HM.out⟩
      subst hkn
      clear ht
      go_wp2
      go_ret
      exact HE.out
theorem write_any {w : World} {b mb : Nat} {S : St} (h : Bf w b mb S) (A : Option Addr) (P : List Pt) (n c : Nat) (hn : P.length = n) (hl : n ≤ 1000000) (hP : PV w A P) (hB : AllBy P) :
    Calls Try.prog 14 #[.pointer (some ⟨b, 0, none⟩), .slice A n c] w (Wrote (rf S P) b mb (wr S P) w) := by
  by_cases hz : rf S P = 0
  · rw [wr_yes hz, hz]; exact write_ok h A P n c hn hl hP hB hz
  · rw [wr_no hz]; exact write_no h A P n c hn hl hP hz

end Go.Proofs.Ytgjlklladbcmcaa
