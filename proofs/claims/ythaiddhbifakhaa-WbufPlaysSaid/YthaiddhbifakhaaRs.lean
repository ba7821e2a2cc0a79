/- Proved: the document's own put: one block behind extents that rise, joined to the last one where it touches. -/
import Derived.Test.YthaiddhbifakhaaSet
namespace Go.Proofs.Ythaiddhbifakhaa
open Go.RowKit
open Iv (In Nm Is Vm)

/-- What is laid out of the first k extents: the last one may be held back. -/
def Pu (M : List (Int × Int)) (x : Int) (k : Nat) (f : Int) (O : List (Int × Int)) : Prop :=
  (f = x ∧ O = M.take k ∧ ∀ e ∈ M.take k, e.1 + e.2 < x) ∨ (k = M.length ∧ ∃ e, M = O ++ [e] ∧ e.1 = f ∧ e.1 + e.2 = x)
theorem pu_zero (M : List (Int × Int)) (x : Int) : Pu M x 0 x [] := Or.inl ⟨rfl, rfl, fun e he => by rw [List.take_zero] at he; cases he⟩
theorem pu_in {M : List (Int × Int)} {x f : Int} {k : Nat} {O : List (Int × Int)} (h : Pu M x k f O) (hk : k < M.length) : f = x := h.elim (fun h => h.1) fun h => by omega
theorem ex_take (M : List (Int × Int)) (k : Nat) (hk : k < M.length) : M.take (k + 1) = M.take k ++ [M.getD k (0, 0)] := by
  rw [List.take_succ_eq_append_getElem hk, List.getD_eq_getElem?_getD, List.getElem?_eq_getElem hk]; rfl
theorem pu_skip {M : List (Int × Int)} {x f : Int} {k : Nat} {O : List (Int × Int)} (h : Pu M x k f O) (hk : k < M.length) (hy : (M.getD k (0, 0)).1 + (M.getD k (0, 0)).2 < x) : Pu M x (k + 1) x (O ++ [M.getD k (0, 0)]) := by
  rcases h with ⟨_, rfl, h3⟩ | ⟨h1, _⟩
  · refine Or.inl ⟨rfl, (ex_take M k hk).symm, fun e he => ?_⟩
    rw [ex_take M k hk] at he
    rcases List.mem_append.1 he with he | he
    · exact h3 e he
    · rw [List.mem_singleton.1 he]; exact hy
  · omega
theorem pu_join {M : List (Int × Int)} {x f : Int} {k : Nat} {O : List (Int × Int)} (hM : Nm M) (hx : ∀ e ∈ M, e.1 + e.2 ≤ x) (h : Pu M x k f O) (hk : k < M.length) (hy : (M.getD k (0, 0)).1 + (M.getD k (0, 0)).2 = x) : Pu M x (k + 1) (M.getD k (0, 0)).1 O := by
  have hl : k + 1 = M.length := by
    rcases Nat.lt_or_ge (k + 1) M.length with h1 | h1
    · have h2 : (M.getD k (0, 0)).1 + (M.getD k (0, 0)).2 < (M.getD (k + 1) (0, 0)).1 := Iv.nm_lt hM (Nat.lt_succ_self k) h1
      have h3 : Vm (M.getD (k + 1) (0, 0)) := Iv.nm_at hM h1
      have h4 := hx (M.getD (k + 1) (0, 0)) (Iv.getD_mem h1)
      unfold Vm at h3
      omega
    · omega
  rcases h with ⟨_, rfl, h3⟩ | ⟨h1, _⟩
  · refine Or.inr ⟨hl, M.getD k (0, 0), ?_, rfl, hy⟩
    rw [← ex_take M k hk, hl, List.take_length]
  · omega
theorem pu_end {M : List (Int × Int)} {x f : Int} {O : List (Int × Int)} (hM : Nm M) (hv : Vm (x, 1)) (h : Pu M x M.length f O) : Is (M ++ [(x, 1)]) (O ++ [(f, x + 1 - f)]) ∧ f ≤ x ∧ 0 ≤ f := by
  have hv0 := hv
  unfold Vm at hv0
  simp only at hv0
  rcases h with ⟨rfl, rfl, h3⟩ | ⟨_, e, h1, rfl, h3⟩
  · rw [List.take_length] at h3 ⊢
    rw [show f + 1 - f = (1 : Int) by omega]
    exact ⟨Is.self (Iv.nm_snoc hM h3 hv), by omega, by omega⟩
  · subst h1
    have hve := hM.1 e (List.mem_append_right _ (List.mem_singleton.2 rfl))
    unfold Vm at hve
    have hO : Nm O := ⟨fun r hr => hM.1 r (List.mem_append_left _ hr), (List.pairwise_append.1 hM.2).1⟩
    have hlt : ∀ r ∈ O, r.1 + r.2 < e.1 := fun r hr => (List.pairwise_append.1 hM.2).2.2 r hr e (List.mem_singleton.2 rfl)
    refine ⟨⟨Iv.nm_snoc hO hlt ⟨by simp only; omega, by simp only; omega, by simp only; omega⟩, fun t => ?_⟩, by omega, by omega⟩
    rw [Iv.in_app, Iv.in_app, Iv.in_app, Iv.in_one, Iv.in_one, Iv.in_one]
    simp only
    constructor
    · rintro (h | h)
      · exact Or.inl (Or.inl h)
      · by_cases ht : t < x
        · exact Or.inl (Or.inr (by omega))
        · exact Or.inr (by omega)
    · rintro ((h | h) | h)
      · exact Or.inl h
      · exact Or.inr (by omega)
      · exact Or.inr (by omega)

set_option maxHeartbeats 2000000 in
set_option maxRecDepth 100000 in
theorem rput_any (A : Option Addr) (n c : Nat) (M : List (Int × Int)) (x : Int) (hM : Nm M) (hx : ∀ e ∈ M, e.1 + e.2 ≤ x) (hv : Vm (x, 1)) (hl : M.length = n) (hn : n ≤ 1000000) (w : World) (hE : Iv.EV w A M) :
    Calls Try.prog 50 #[.slice A n c, .agg #[.int .i64 x, .int .i64 1]] w fun e w' => ∃ M', Is (M ++ [(x, 1)]) M' ∧ M'.length ≤ n + 1 ∧ ∃ g cc, e = .returned (.slice (some ⟨g, 0, none⟩) M'.length cc) ∧ Iv.Ow w' (.slice (some ⟨g, 0, none⟩) M'.length cc) M' ∧ At w w' ∧ w.heap.size ≤ g := by
  obtain ⟨i0, hi0, hz0, hz1, hz2⟩ := info_parts Iv.info_ext
  have HZ := Lib.hid (And.intro hi0 (And.intro hz0 (And.intro hz1 hz2)))
  have hv0 := hv
  unfold Vm at hv0
  simp only at hv0
  obtain ⟨v1, v2, v3⟩ := hv0
  have HM := Lib.hid hM
  have HX := Lib.hid hx
  have HVM := Lib.hid hv
  have HL := Lib.hid hl
  have HE := Lib.hid hE
  have HE0 : Hid (Iv.EV (w.alloc (.cells #[.int .i64 x, .int .i64 1] 75)) A M) := Lib.hid (hE.on ((At.start w).alloc _))
  have hA0 : At w (w.alloc (.cells #[.int .i64 x, .int .i64 1] 75)) := (At.start w).alloc _
  have HA0 := Lib.hid hA0
  have q1 : IntKind.i64.wrap (x + 1) = x + 1 := IntWalk.i64_in _ (by omega)
  clear hM hx hv hl hE hA0 hi0 hz0 hz1 hz2
  go_enter Try.func50, Try.ntmps50
  go_wp2
  generalize w.alloc (.cells #[.int .i64 x, .int .i64 1] 75) = w0 at HE0 HA0 ⊢
  go_loopw [5, 6, 7, 8, 9] (fun c5 c6 c7 c8 c9 wr => ∃ (k : Nat) (f : Int) (O : List (Int × Int)) (B : Option Addr) (m cb : Nat), k ≤ n ∧ c9 = .int .i64 (k : Int) ∧ c5 = .int .i64 f ∧ c6 = .int .i64 (x + 1) ∧ c8 = .bool false ∧ c7 = .slice B m cb ∧ Hid (m = O.length ∧ m ≤ k) ∧ Hid (Pu M x k f O) ∧ Hid (At w0 wr) ∧ Hid (Iv.Ow wr (.slice B m cb) O) ∧ Hid (∀ g, (Value.slice B m cb).ownBlock = some g → w0.heap.size ≤ g)) (fun _ _ _ _ c9 _ => n - (RowKit.intOf c9).toNat)
  case atStart => exact ⟨0, x, [], none, 0, 0, Nat.zero_le _, rfl, rfl, rfl, rfl, rfl, Lib.hid ⟨rfl, Nat.le_refl _⟩, Lib.hid (pu_zero M x), Lib.hid (At.start w0), Lib.hid (Iv.Ow.nil _), Lib.hid fun g hg => by cases hg⟩
  case round =>
    obtain ⟨k, f, O, B, m, cb, hk, rfl, rfl, rfl, rfl, rfl, HO, HPU, HA, HOW, HG⟩ := hrel
    by_cases hlt : k < n
    · have hkM : k < M.length := by rw [HL.out]; exact hlt
      obtain ⟨g, o, rfl, hg, hc⟩ := HE0.out.pos (by omega)
      have hck := hc k hkM
      have c1 : wr.cell? ⟨g, o + k * 2, none⟩ = some (.int .i64 (M.getD k (0, 0)).1) := (Below.cell HA.out (p := ⟨g, o + k * 2, none⟩) hg).trans hck.1
      have c2 : wr.cell? ⟨g, o + k * 2 + 1, none⟩ = some (.int .i64 (M.getD k (0, 0)).2) := (Below.cell HA.out (p := ⟨g, o + k * 2 + 1, none⟩) hg).trans hck.2
      have hvk := Iv.nm_at HM.out hkM
      have hxk := HX.out _ (Iv.getD_mem hkM)
      have hf := pu_in HPU.out hkM
      subst hf
      have hsk := fun h => pu_skip HPU.out hkM h
      have hjn := fun h => pu_join HM.out HX.out HPU.out hkM h
      obtain ⟨y0, hy0⟩ : ∃ y, M.getD k (0, 0) = y := ⟨_, rfl⟩
      rw [hy0] at c1 c2 hvk hxk hsk hjn
      obtain ⟨y, yn⟩ := y0
      unfold Vm at hvk
      simp only at c1 c2 hvk hxk hsk hjn
      obtain ⟨vk1, vk2, vk3⟩ := hvk
      have g1 : (0 : Int) ≤ (k : Int) := by omega
      have g2 : (k : Int) < (n : Int) := by omega
      have q2 : IntKind.i64.wrap (y + yn) = y + yn := IntWalk.i64_in _ (by omega)
      have HSK := Lib.hid hsk
      have HJN := Lib.hid hjn
      obtain ⟨wb, hwb⟩ : ∃ wb, wr.alloc (.cells #[.int .i64 y, .int .i64 yn] 75) = wb := ⟨_, rfl⟩
      obtain ⟨q, hq⟩ : ∃ q, wr.heap.size = q := ⟨_, rfl⟩
      have hAb : At wr wb := by rw [← hwb]; exact (At.start wr).alloc _
      have hQ : wb.heap[q]? = some (.cells #[.int .i64 y, .int .i64 yn] 75 (0, 0)) := by rw [← hwb, ← hq]; exact heap_alloc_new wr _
      have b0 : wb.cell? ⟨q, 0, none⟩ = some (.int .i64 y) := (cell_at hQ 0).trans rfl
      have b1 : wb.cell? ⟨q, 1, none⟩ = some (.int .i64 yn) := (cell_at hQ 1).trans rfl
      have HAB := Lib.hid (HA.out.next hAb)
      have HOB := Lib.hid (HOW.out.on hAb)
      clear hc hck hsk hjn hy0 hkM hAb hQ
      by_cases h1 : y + yn < f
      · have e1 : decide (y + yn < f) = true := decide_eq_true h1
        have HP2 := Lib.hid (HSK.out h1)
        have HAY : Hid (At w0 (wb.alloc (.cells #[.int .i64 y, .int .i64 yn] 75))) := Lib.hid (HAB.out.alloc _)
        have HOX : Hid ((wb.alloc (.cells #[.int .i64 y, .int .i64 yn] 75)).ownsRow 0 75 2 (.slice B m cb) m (Iv.fl O)) := Lib.hid (by have := HOB.out.on ((At.start wb).alloc (.cells #[.int .i64 y, .int .i64 yn] 75)); unfold Iv.Ow at this; rw [← HO.out.1] at this; exact this)
        have hmk := HO.out.2
        go_wp2_with (at_builtin; refine wpList_append_own_at _ rfl (.tmp 47) (.tmp 49) 47 rfl 0 75 i0 _ 2 16 Try.underlying47 HZ.out.1 HZ.out.2.1 HZ.out.2.2.1 HZ.out.2.2.2 rfl (by omega) _ m (Iv.fl O) rfl HOX.out ⟨wb.heap.size, 0, none⟩ 1 1 (Iv.ec (y, yn)) rfl rfl (Iv.new_ec wb y yn) (fun v hu => Iv.fl_cells v [(y, yn)] hu) (by unfold maxLen; omega) (by omega) (Nat.zero_le _) ?_; intro v' w9 hown hgrow hnn hat; obtain ⟨g5, c5, rfl, ha5, hm5, ho5, hb5⟩ := Iv.part_grown HO.out.1 hown hgrow hat HAY.out HG.out; have HNN := Lib.hid (And.intro ha5 (And.intro hm5 (And.intro ho5 hb5))); clear hown hgrow hnn hat ha5 hm5 ho5 hb5)
        go_roundw
        case rel => exact ⟨k + 1, f, _, _, _, _, by omega, by go_num, rfl, rfl, rfl, rfl, Lib.hid ⟨HNN.out.2.1, by omega⟩, HP2, Lib.hid HNN.out.1, Lib.hid HNN.out.2.2.1, Lib.hid HNN.out.2.2.2⟩
        case measure => simp [RowKit.intOf]; omega
      · have e1 : decide (y + yn < f) = false := decide_eq_false h1
        have e2 : decide (f + 1 < y) = false := decide_eq_false (by omega)
        have hfe : y + yn = f := by omega
        have HP2 := Lib.hid (HJN.out hfe)
        have e3 : min f y = y := by omega
        have e4 : max (f + 1) (y + yn) = f + 1 := by omega
        have e5 : decide (y < f) = true := decide_eq_true (by omega)
        have e6 : decide (f + 1 < y + yn) = false := decide_eq_false (by omega)
        clear hfe
        go_wp2
        go_roundw
        case rel => exact ⟨k + 1, y, O, B, m, cb, by omega, by go_num, rfl, rfl, rfl, rfl, Lib.hid ⟨HO.out.1, by have := HO.out.2; omega⟩, HP2, HAB, HOB, HG⟩
        case measure => simp [RowKit.intOf]; omega
    · have hkn : k = n := by omega
      have hpu := HPU.out
      rw [hkn, ← HL.out] at hpu
      obtain ⟨hi, hf1, hf2⟩ := pu_end HM.out HVM.out hpu
      have HI := Lib.hid hi
      have q3 : IntKind.i64.wrap (x + 1 - f) = x + 1 - f := IntWalk.i64_in _ (by omega)
      have hmk := HO.out.2
      have HAY : Hid (At w0 (wr.alloc (.cells #[.int .i64 f, .int .i64 (x + 1 - f)] 75))) := Lib.hid (HA.out.alloc _)
      have HOX : Hid ((wr.alloc (.cells #[.int .i64 f, .int .i64 (x + 1 - f)] 75)).ownsRow 0 75 2 (.slice B m cb) m (Iv.fl O)) := Lib.hid (by have := HOW.out.on ((At.start wr).alloc (.cells #[.int .i64 f, .int .i64 (x + 1 - f)] 75)); unfold Iv.Ow at this; rw [← HO.out.1] at this; exact this)
      subst hkn
      clear hpu hi
      go_wp2_with (at_builtin; refine wpList_append_own_at _ rfl (.tmp 72) (.tmp 78) 47 rfl 0 75 i0 _ 2 16 Try.underlying47 HZ.out.1 HZ.out.2.1 HZ.out.2.2.1 HZ.out.2.2.2 rfl (by omega) _ m (Iv.fl O) rfl HOX.out ⟨wr.heap.size, 0, none⟩ 1 1 (Iv.ec (f, x + 1 - f)) rfl rfl (Iv.new_ec wr f (x + 1 - f)) (fun v hu => Iv.fl_cells v [(f, x + 1 - f)] hu) (by unfold maxLen; omega) (by omega) (Nat.zero_le _) ?_; intro v' w9 hown hgrow hnn hat; obtain ⟨g5, c5, rfl, ha5, hm5, ho5, hb5⟩ := Iv.part_grown HO.out.1 hown hgrow hat HAY.out HG.out; have HNN := Lib.hid (And.intro ha5 (And.intro hm5 (And.intro ho5 hb5))); clear hown hgrow hnn hat ha5 hm5 ho5 hb5)
      go_ret
      refine ⟨_, HI.out, by rw [← HNN.out.2.1]; omega, g5, c5, by rw [← HNN.out.2.1]; rfl, by rw [← HNN.out.2.1]; exact HNN.out.2.2.1, HA0.out.next HNN.out.1, Nat.le_trans HA0.out.size (HNN.out.2.2.2 g5 rfl)⟩

end Go.Proofs.Ythaiddhbifakhaa
