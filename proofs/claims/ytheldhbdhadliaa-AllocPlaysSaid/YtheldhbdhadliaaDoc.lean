/- Proved: what the document's own allocator does: NewAlloc, List, Count, Take, Free, Mark. -/
import Derived.Test.YtheldhbdhadliaaMrk
import Derived.BigRegion
namespace Go.Proofs.Ytheldhbdhadliaa
open Go.RowKit

/-- The first k are free, all others are not yet; none was freed. -/
def pr (n k : Nat) : List St := (List.range n).map fun j => ⟨decide (k ≤ j), 0⟩
theorem pr_len (n k : Nat) : (pr n k).length = n := by simp [pr]
theorem pr_at (n k i : Nat) (h : i < n) : sa (pr n k) i = ⟨decide (k ≤ i), 0⟩ := by
  rw [sa, List.getD_eq_getElem?_getD, pr, List.getElem?_map, List.getElem?_range h]; rfl
theorem pr_next {n k : Nat} (h : k < n) : (pr n k).set k ⟨false, (sa (pr n k) k).w⟩ = pr n (k + 1) := by
  apply st_ext
  · rw [List.length_set, pr_len, pr_len]
  · intro j hj
    rw [List.length_set, pr_len] at hj
    rw [sa_set _ _ _ _ (by rw [pr_len]; exact h), pr_at _ _ _ h, pr_at _ _ _ hj, pr_at _ _ _ hj]
    by_cases e : j = k
    · subst e; simp
    · rw [if_neg e]
      congr 1
      apply decide_eq_decide.2
      omega
theorem pr_end (n : Nat) : pr n n = nw n := by
  apply st_ext
  · rw [pr_len, nw_len]
  · intro j hj
    rw [pr_len] at hj
    rw [pr_at _ _ _ hj, nw_at _ _ hj, decide_eq_false (by omega)]
theorem pr_start_t (n : Nat) : ((pr n 0).map fun s => Value.bool (!s.t)) = (nw n).map fun s => Value.bool s.t := by
  rw [nw_map]
  apply List.ext_getElem?
  intro j
  by_cases h : j < n <;> simp [pr, h]
theorem pr_start_w (n : Nat) : ((pr n 0).map fun s => nv s.w) = (nw n).map fun s => nv s.w := by
  rw [nw_map]
  apply List.ext_getElem?
  intro j
  by_cases h : j < n <;> simp [pr, h]

section
variable {w : World} {b f g n sp : Nat} {L : List St}
theorem Ra.open_ (h : Ra w b f g n sp L) (k : Nat) : Ra (w.setCell ⟨f, k, none⟩ (.bool true)) b f g n sp (L.set k ⟨false, (sa L k).w⟩) where
  box := (Below.heap_setCell _ _ _ _ h.ne.1).trans h.box
  isf := by
    rw [heap_set h.isf]
    exact congrArg (fun c => some (Obj.cells c 4 (0, 0))) (map_set_at L (fun s => Value.bool (!s.t)) k ⟨false, (sa L k).w⟩)
  wea := by
    rw [map_same L (fun s => nv s.w) k ⟨false, (sa L k).w⟩ rfl]
    exact (Below.heap_setCell _ _ _ _ h.ne.2.2.symm).trans h.wea
  len := by rw [List.length_set]; exact h.len
  top := h.top
  spt := h.spt
end

/-- A new one of the document's. -/
structure Rn (w : World) (b f g n sp : Nat) (L : List St) (w' : World) : Prop where
  ra : Ra w' b f g n sp L
  nf : w.heap.size ≤ f
  ng : w.heap.size ≤ g
  stands : At w w'
theorem Rn.mk_ {w wx : World} {f g n sp : Nat} (ha : At w wx) (hf : w.heap.size ≤ f) (hg : w.heap.size ≤ g) (hn : n ≤ 64) (hs : sp ≤ n)
    (h1 : wx.heap[f]? = some (.cells ((nw n).map fun s => Value.bool s.t).toArray 4 (0, 0))) (h2 : wx.heap[g]? = some (.cells ((nw n).map fun s => nv s.w).toArray 3 (0, 0))) :
    Rn w wx.heap.size f g n sp (pr n 0) (wx.alloc (.cells #[.slice (some ⟨f, 0, none⟩) n n, .slice (some ⟨g, 0, none⟩) n n, .int .i64 (sp : Int)] 42)) where
  ra :=
    { box := heap_alloc_new _ _
      isf := by rw [Below.heap_alloc _ _ _ (lt_heap h1), pr_start_t]; exact h1
      wea := by rw [Below.heap_alloc _ _ _ (lt_heap h2), pr_start_w]; exact h2
      len := pr_len n 0
      top := hn
      spt := hs }
  nf := hf
  ng := hg
  stands := ha.alloc _
theorem Rn.drewN {w : World} {b f g n sp : Nat} {L : List St} {w' : World} (h : Rn w b f g n sp L w') (m : Nat) : Rn w b f g n sp L (w'.drewN m) :=
  ⟨h.ra.on ((At.start _).drewN m), h.nf, h.ng, h.stands.drewN m⟩
/-- What NewAlloc hands back. -/
def RMade (n sp : Nat) (w : World) (e : Ending) (w' : World) : Prop := ∃ b f g, e = .returned (.tuple #[.pointer (some ⟨b, 0, none⟩), .int .i64 0]) ∧ Rn w b f g n sp (nw n) w'
set_option maxHeartbeats 1000000 in
set_option maxRecDepth 100000 in
theorem rnew_ok (n sp : Nat) (h1 : 1 ≤ n) (h2 : n ≤ 64) (h3 : sp ≤ n) (w : World) : Calls Try.prog 10 #[.int .i64 (n : Int), .int .i64 (sp : Int)] w (RMade n sp w) := by
  have hmb := make_bools n h2
  have hmi := make_ints n h2
  obtain ⟨Q, hQ⟩ : ∃ Q, Q = ((nw n).map fun s => Value.bool s.t).toArray := ⟨_, rfl⟩
  obtain ⟨R, hR⟩ : ∃ R, R = ((nw n).map fun s => nv s.w).toArray := ⟨_, rfl⟩
  rw [← hQ] at hmb
  rw [← hR] at hmi
  have N1 : Hid (Rn w (w.heap.size + 2) w.heap.size (w.heap.size + 1) n sp (pr n 0) (((w.alloc (.cells Q 4)).alloc (.cells R 3)).alloc (.cells #[.slice (some ⟨w.heap.size, 0, none⟩) n n, .slice (some ⟨w.heap.size + 1, 0, none⟩) n n, .int .i64 (sp : Int)] 42))) := Lib.hid (by
    have := Rn.mk_ (w := w) (wx := (w.alloc (.cells Q 4)).alloc (.cells R 3)) (f := w.heap.size) (g := w.heap.size + 1) (sp := sp) (((At.start w).alloc _).alloc _) (Nat.le_refl _) (by omega) h2 h3
      (by rw [Below.heap_alloc _ _ _ (by simp), hQ]; exact heap_alloc_new _ _) (by rw [hR]; have := heap_alloc_new (w.alloc (.cells Q 4)) (.cells ((nw n).map fun s => nv s.w).toArray 3); simpa using this)
    simpa using this)
  have N2 : Hid (Rn w (w.heap.size + 2) (w.heap.size + 1) w.heap.size n sp (pr n 0) (((w.alloc (.cells R 3)).alloc (.cells Q 4)).alloc (.cells #[.slice (some ⟨w.heap.size + 1, 0, none⟩) n n, .slice (some ⟨w.heap.size, 0, none⟩) n n, .int .i64 (sp : Int)] 42))) := Lib.hid (by
    have := Rn.mk_ (w := w) (wx := (w.alloc (.cells R 3)).alloc (.cells Q 4)) (f := w.heap.size + 1) (g := w.heap.size) (sp := sp) (((At.start w).alloc _).alloc _) (by omega) (Nat.le_refl _) h2 h3
      (by rw [hQ]; have := heap_alloc_new (w.alloc (.cells R 3)) (.cells ((nw n).map fun s => Value.bool s.t).toArray 4); simpa using this) (by rw [Below.heap_alloc _ _ _ (by simp), hR]; exact heap_alloc_new _ _)
    simpa using this)
  have q1 : ¬ (n : Int) < 1 := by omega
  have q2 : ¬ (64 : Int) < (n : Int) := by omega
  have q3 : ¬ (sp : Int) < 0 := by omega
  have q4 : ¬ (n : Int) < (sp : Int) := by omega
  have HRD : Hid (∀ {b f g : Nat} {L : List St} {w' : World}, Rn w b f g n sp L w' → Rn w b f g n sp L w'.drew) := Lib.hid fun h => h.drewN 1
  clear hQ hR
  go_enter Try.func10, Try.ntmps10
  go_wp2
  go_region
  all_goals
    have M1 : Hid (∃ f g, Rn w (w.heap.size + 2) f g n sp (pr n 0) _) := Lib.hid ⟨_, _, HRD.out N1.out⟩
    have M2 : Hid (∃ f g, Rn w (w.heap.size + 2) f g n sp (pr n 0) _) := Lib.hid ⟨_, _, HRD.out N2.out⟩
    clear hmb hmi N1 N2 HRD
    obtain ⟨b, hb⟩ : ∃ b, b = w.heap.size + 2 := ⟨_, rfl⟩
    rw [← hb] at M1 M2 ⊢
    clear hb
    go_wp2
    go_loopw [7] (fun c7 wr => ∃ k : Nat, k ≤ n ∧ c7 = .int .i64 (k : Int) ∧ Hid (∃ f g, Rn w b f g n sp (pr n k) wr)) (fun c7 _ => n - (intOf c7).toNat)
    case atStart => first | exact ⟨0, by omega, rfl, M1⟩ | exact ⟨0, by omega, rfl, M2⟩
    case round =>
      clear M1 M2
      obtain ⟨k, hk, rfl, HR⟩ := hrel
      obtain ⟨f, g, hr⟩ := HR.out
      by_cases hlt : k < n
      · obtain ⟨c0, -⟩ := hr.ra.cells
        have cf := hr.ra.cf hlt
        have ff := hr.ra.ffree k
        have g1 : (0 : Int) ≤ (k : Int) := by omega
        have g2 : (k : Int) < (n : Int) := by omega
        have HN : Hid (Rn w b f g n sp (pr n (k + 1)) (wr.setCell ⟨f, k, none⟩ (.bool true))) := Lib.hid
          ⟨by rw [← pr_next hlt]; exact hr.ra.open_ k, hr.nf, hr.ng, Mv.at_ (F := fun x => x = f) (Mv.set (F := fun x => x = f) (Mv.refl _ _) (p := ⟨f, k, none⟩) rfl _) hr.stands (by rintro x rfl; exact hr.nf)⟩
        clear hr
        go_wp2
        go_roundw
        case rel => exact ⟨k + 1, by omega, by go_num, Lib.hid ⟨f, g, HN.out⟩⟩
        case measure => simp [intOf]; omega
      · have hkn : k = n := by omega
        subst hkn
        have HN : Hid (Rn w b f g k sp (nw k) wr) := Lib.hid (by rw [← pr_end]; exact hr)
        clear hr
        go_wp2
        go_ret2
        exact ⟨b, f, g, rfl, HN.out⟩
theorem rnew_bad (n sp : Int) (h : ¬ May n sp) (w : World) : Calls Try.prog 10 #[.int .i64 n, .int .i64 sp] w fun e w' => e = .returned (.tuple #[.pointer none, .int .i64 1]) ∧ w = w' := by
  by_cases h1 : n < 1
  · clear h
    go_enter Try.func10, Try.ntmps10
    go_wp2
    go_ret2
    exact ⟨rfl, rfl⟩
  · by_cases h2 : 64 < n
    · clear h
      go_enter Try.func10, Try.ntmps10
      go_wp2
      go_ret2
      exact ⟨rfl, rfl⟩
    · by_cases h3 : sp < 0
      · clear h
        go_enter Try.func10, Try.ntmps10
        go_wp2
        go_ret2
        exact ⟨rfl, rfl⟩
      · have h4 : n < sp := by unfold May at h; omega
        clear h
        go_enter Try.func10, Try.ntmps10
        go_wp2
        go_ret2
        exact ⟨rfl, rfl⟩

/-- A call answers v and leaves the document's allocator so, with no other block written than its rows. -/
def RTurns (b f g n sp : Nat) (v : Value) (L : List St) (w : World) (e : Ending) (w' : World) : Prop := e = .returned v ∧ Ra w' b f g n sp L ∧ Mv (fun x => x = f ∨ x = g) w w'

section
variable {w : World} {b f g n sp : Nat} {L : List St}
set_option maxHeartbeats 1000000 in
set_option maxRecDepth 100000 in
theorem list_ra (h : Ra w b f g n sp L) : Calls Try.prog 21 #[.pointer (some ⟨b, 0, none⟩)] w fun e w' => ∃ v, e = .returned v ∧ Li w v (fr L n) w' := by
  obtain ⟨i0, hi, hz0, hz1, hz2⟩ := info_parts info_int
  have htop := h.top
  have H := Lib.hid h
  clear h
  go_enter Try.func21, Try.ntmps21
  go_wp2
  go_loopw [3, 4] (fun v c wr => ∃ k : Nat, k ≤ n ∧ c = .int .i64 (k : Int) ∧ Hid (Li w v (fr L k) wr)) (fun _ c _ => n - (intOf c).toNat)
  case atStart => exact ⟨0, by omega, rfl, Lib.hid (Li.start w)⟩
  case round =>
    obtain ⟨k, hk, rfl, HL⟩ := hrel
    have hv := H.out.on HL.out.stands
    obtain ⟨c0, -⟩ := hv.cells
    by_cases hlt : k < n
    · have ct := hv.cf hlt
      have hlen := fr_len L k
      have g1 : (0 : Int) ≤ (k : Int) := by omega
      have g2 : (k : Int) < (n : Int) := by omega
      have HLE : Hid ((fr L k).length ≤ k) := Lib.hid hlen
      clear hv hlen
      by_cases ht : (sa L k).t = true
      · have HE : Hid (fr L (k + 1) = fr L k) := Lib.hid (fr_no ht)
        rw [ht] at ct
        simp only [Bool.not_true] at ct
        clear ht
        go_wp2
        go_roundw
        case rel => exact ⟨k + 1, by omega, by go_num, Lib.hid (by rw [HE.out]; exact HL.out)⟩
        case measure => simp [intOf]; omega
      · have ht : (sa L k).t = false := by simpa using ht
        have HE : Hid (fr L (k + 1) = fr L k ++ [k]) := Lib.hid (fr_yes ht)
        rw [ht] at ct
        simp only [Bool.not_false] at ct
        have hsz := HL.out.stands.size
        clear ht
        go_wp2_with (at_builtin; refine wpList_append_own_at _ rfl _ _ 40 rfl w.heap.size 3 i0 (.int .i64 0) 1 8 Try.underlying40 hi hz0 hz1 hz2 rfl (by decide) _ _ _ rfl (HL.out.own.alloc _) ⟨wr.heap.size, 0, none⟩ 1 1 [nv k] rfl rfl (by simpa using new_nv wr k 3) (fun u hu => by simp at hu; subst hu; rfl) (by have := HLE.out; unfold maxLen; omega) (by have := HLE.out; omega) (by simp; omega) ?_)
        intro v' w1 hown hgrow _ _
        have HLN := Lib.hid (HL.out.grown hown hgrow)
        clear hown hgrow hsz
        go_wp2
        go_roundw
        case rel => exact ⟨k + 1, by omega, by go_num, Lib.hid (by rw [HE.out]; exact HLN.out)⟩
        case measure => simp [intOf]; omega
    · have hkn : k = n := by omega
      subst hkn
      clear hv
      go_wp2
      go_ret
      exact ⟨_, rfl, HL.out⟩
theorem count_ra (h : Ra w b f g n sp L) : Calls Try.prog 18 #[.pointer (some ⟨b, 0, none⟩)] w (Gives (.int .i64 (nf L : Int)) w) := by
  have hn : (fr L n).length = nf L := by unfold nf; rw [h.len]
  have HN := Lib.hid hn
  have H := Lib.hid h
  clear h hn
  go_enter Try.func18, Try.ntmps18
  go_wp2_with fail
  refine (list_ra H.out).mono ?_
  rintro e w' ⟨v, rfl, hl⟩
  obtain ⟨A, c, rfl, _, _⟩ := own_nv hl.own
  have HS := Lib.hid hl.stands
  clear hl
  go_wp2
  go_ret
  exact ⟨by rw [HN.out]; rfl, HS.out⟩

theorem rfree_arg (h : Ra w b f g n sp L) (k : Int) (hk : ¬ (0 ≤ k ∧ k < (n : Int))) : Calls Try.prog 14 #[.pointer (some ⟨b, 0, none⟩), .int .i64 k] w fun e w' => e = .returned (.int .i64 1) ∧ w = w' := by
  obtain ⟨c0, -⟩ := h.cells
  clear h
  by_cases g1 : k < 0
  · clear hk
    go_enter Try.func14, Try.ntmps14
    go_wp2
    go_ret
    exact ⟨rfl, rfl⟩
  · have g2 : (n : Int) ≤ k := by omega
    clear hk
    go_enter Try.func14, Try.ntmps14
    go_wp2
    go_ret
    exact ⟨rfl, rfl⟩
theorem rmark_arg (h : Ra w b f g n sp L) (k : Int) (hk : ¬ (0 ≤ k ∧ k < (n : Int))) : Calls Try.prog 16 #[.pointer (some ⟨b, 0, none⟩), .int .i64 k] w fun e w' => e = .returned (.int .i64 1) ∧ w = w' := by
  obtain ⟨c0, -⟩ := h.cells
  clear h
  by_cases g1 : k < 0
  · clear hk
    go_enter Try.func16, Try.ntmps16
    go_wp2
    go_ret
    exact ⟨rfl, rfl⟩
  · have g2 : (n : Int) ≤ k := by omega
    clear hk
    go_enter Try.func16, Try.ntmps16
    go_wp2
    go_ret
    exact ⟨rfl, rfl⟩
theorem rfree_none (h : Ra w b f g n sp L) (k : Nat) (hk : k < n) (ht : (sa L k).t = false) : Calls Try.prog 14 #[.pointer (some ⟨b, 0, none⟩), .int .i64 (k : Int)] w fun e w' => e = .returned (.int .i64 14) ∧ w = w' := by
  obtain ⟨c0, -⟩ := h.cells
  have ct := h.cf hk
  rw [ht] at ct
  simp only [Bool.not_false] at ct
  have g1 : (0 : Int) ≤ (k : Int) := by omega
  have g2 : (k : Int) < (n : Int) := by omega
  clear h ht
  go_enter Try.func14, Try.ntmps14
  go_wp2
  go_ret
  exact ⟨rfl, rfl⟩
theorem rmark_none (h : Ra w b f g n sp L) (k : Nat) (hk : k < n) (ht : (sa L k).t = true) : Calls Try.prog 16 #[.pointer (some ⟨b, 0, none⟩), .int .i64 (k : Int)] w fun e w' => e = .returned (.int .i64 14) ∧ w = w' := by
  obtain ⟨c0, -⟩ := h.cells
  have ct := h.cf hk
  rw [ht] at ct
  simp only [Bool.not_true] at ct
  have g1 : (0 : Int) ≤ (k : Int) := by omega
  have g2 : (k : Int) < (n : Int) := by omega
  clear h ht
  go_enter Try.func16, Try.ntmps16
  go_wp2
  go_ret
  exact ⟨rfl, rfl⟩
theorem mv_f (w : World) (f g i : Nat) (u : Value) : Mv (fun x => x = f ∨ x = g) w (w.setCell ⟨f, i, none⟩ u) := Mv.set (F := fun x => x = f ∨ x = g) (Mv.refl _ _) (p := ⟨f, i, none⟩) (Or.inl rfl) _
theorem rmark_ok (h : Ra w b f g n sp L) (k : Nat) (hk : k < n) (ht : (sa L k).t = false) : Calls Try.prog 16 #[.pointer (some ⟨b, 0, none⟩), .int .i64 (k : Int)] w (RTurns b f g n sp (.int .i64 0) (tk L k) w) := by
  obtain ⟨c0, -⟩ := h.cells
  have ct := h.cf hk
  rw [ht] at ct
  simp only [Bool.not_false] at ct
  have f0 := h.ffree k
  have g1 : (0 : Int) ≤ (k : Int) := by omega
  have g2 : (k : Int) < (n : Int) := by omega
  have H4 := Lib.hid (And.intro (h.take k) (mv_f w f g k (.bool false)))
  clear h ht
  go_enter Try.func16, Try.ntmps16
  go_wp2
  go_ret
  exact ⟨rfl, H4.out⟩
theorem rfree_ok (h : Ra w b f g n sp L) (k : Nat) (hk : k < n) (ht : (sa L k).t = true) (hw : (sa L k).w ≤ 1000000) : Calls Try.prog 14 #[.pointer (some ⟨b, 0, none⟩), .int .i64 (k : Int)] w (RTurns b f g n sp (.int .i64 0) (fre L k) w) := by
  obtain ⟨c0, -⟩ := h.cells
  have ct := h.cf hk
  rw [ht] at ct
  simp only [Bool.not_true] at ct
  have f0 := h.ffree k
  have g1 : (0 : Int) ≤ (k : Int) := by omega
  have g2 : (k : Int) < (n : Int) := by omega
  have hs := h.open_ k
  obtain ⟨-, d1, -⟩ := hs.cells
  have dw := hs.cw hk
  have dg := hs.gfree k
  rw [sa_set _ _ _ _ (by rw [h.len]; exact hk), if_pos rfl] at dw
  simp only at dw
  have H4 : Hid (Ra ((w.setCell ⟨f, k, none⟩ (.bool true)).setCell ⟨g, k, none⟩ (.int .i64 (((sa L k).w : Int) + 1))) b f g n sp (fre L k) ∧ Mv (fun x => x = f ∨ x = g) w ((w.setCell ⟨f, k, none⟩ (.bool true)).setCell ⟨g, k, none⟩ (.int .i64 (((sa L k).w : Int) + 1)))) :=
    Lib.hid ⟨h.free k, Mv.set (F := fun x => x = f ∨ x = g) (mv_f w f g k (.bool true)) (p := ⟨g, k, none⟩) (Or.inr rfl) _⟩
  generalize (sa L k).w = x at dw hw H4
  clear h hs ht
  go_enter Try.func14, Try.ntmps14
  go_wp2
  go_ret
  exact ⟨rfl, H4.out⟩
end

end Go.Proofs.Ytheldhbdhadliaa
