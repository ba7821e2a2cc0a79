/- Proved: what New, has, List, Count and Wear of the landed allocator answer, of an allocator and of none. -/
import Derived.Test.YtheldhbdhadliaaAl
import Derived.RegionTactic
import Derived.ChangeAlike
namespace Go.Proofs.Ytheldhbdhadliaa
open Go.RowKit

theorem info_alloc : (Try.prog.info? 53).isSome = true := by kernel_rfl
theorem has_nil (k : Int) (w : World) : Calls Try.prog 25 #[.pointer none, .int .i64 k] w fun e w' => e = .returned (.bool false) ∧ w = w' := by
  go_enter Try.func25, Try.ntmps25
  go_wp2
  go_ret
  exact ⟨rfl, rfl⟩
section
variable {w : World} {b z n sp : Nat} {L : List St}
theorem has_yes (h : Al w b z n sp L) (k : Nat) (hk : k < n) : Calls Try.prog 25 #[.pointer (some ⟨b, 0, none⟩), .int .i64 (k : Int)] w fun e w' => e = .returned (.bool true) ∧ w = w' := by
  obtain ⟨c0, _⟩ := h.cells
  have g1 : (0 : Int) ≤ (k : Int) := by omega
  have g2 : (k : Int) < (n : Int) := by omega
  have H := Lib.hid h
  clear h
  go_enter Try.func25, Try.ntmps25
  go_wp2
  go_ret
  exact ⟨rfl, rfl⟩
theorem has_no (h : Al w b z n sp L) (k : Int) (hk : ¬ (0 ≤ k ∧ k < (n : Int))) : Calls Try.prog 25 #[.pointer (some ⟨b, 0, none⟩), .int .i64 k] w fun e w' => e = .returned (.bool false) ∧ w = w' := by
  obtain ⟨c0, _⟩ := h.cells
  have H := Lib.hid h
  clear h
  by_cases g1 : (0 : Int) ≤ k
  · have g2 : ¬ k < (n : Int) := fun g2 => hk ⟨g1, g2⟩
    clear hk
    go_enter Try.func25, Try.ntmps25
    go_wp2
    go_ret
    exact ⟨rfl, rfl⟩
  · clear hk
    go_enter Try.func25, Try.ntmps25
    go_wp2
    go_ret
    exact ⟨rfl, rfl⟩

theorem wear_no (h : Al w b z n sp L) (k : Int) (hk : ¬ (0 ≤ k ∧ k < (n : Int))) : Calls Try.prog 22 #[.pointer (some ⟨b, 0, none⟩), .int .i64 k] w fun e w' => e = .returned (.int .i64 0) ∧ w = w' := by
  go_enter Try.func22, Try.ntmps22
  go_wp2_with (go_at_call 25; refine (has_no h k hk).mono ?_; rintro e w' ⟨rfl, rfl⟩)
  go_ret
  exact ⟨rfl, rfl⟩
theorem wear_yes (h : Al w b z n sp L) (k : Nat) (hk : k < n) : Calls Try.prog 22 #[.pointer (some ⟨b, 0, none⟩), .int .i64 (k : Int)] w fun e w' => e = .returned (.int .i64 ((sa L k).w : Int)) ∧ w = w' := by
  obtain ⟨c0, _⟩ := h.cells
  have cw := h.cw hk
  generalize (sa L k).w = x at cw ⊢
  have g1 : (0 : Int) ≤ (k : Int) := by omega
  have g2 : (k : Int) < (n : Int) := by omega
  have H := Lib.hid h
  clear h
  go_enter Try.func22, Try.ntmps22
  go_wp2_with (go_at_call 25; refine (has_yes H.out k hk).mono ?_; rintro e w' ⟨rfl, rfl⟩)
  go_ret
  exact ⟨rfl, rfl⟩

set_option maxHeartbeats 1000000 in
set_option maxRecDepth 100000 in
/-- The free ones, in new memory. -/
theorem list_al (h : Al w b z n sp L) : Calls Try.prog 20 #[.pointer (some ⟨b, 0, none⟩)] w fun e w' => ∃ v, e = .returned v ∧ Li w v (fr L n) w' := by
  obtain ⟨c0, _⟩ := h.cells
  obtain ⟨i0, hi, hz0, hz1, hz2⟩ := info_parts info_int
  have htop := h.top
  have H := Lib.hid h
  clear h
  go_enter Try.func20, Try.ntmps20
  go_wp2
  go_loopw [3, 13] (fun v c wr => ∃ k : Nat, k ≤ n ∧ c = .int .i64 (k : Int) ∧ Hid (Li w v (fr L k) wr)) (fun _ c _ => n - (intOf c).toNat)
  case atStart => exact ⟨0, by omega, rfl, Lib.hid (Li.start w)⟩
  case round =>
    clear c0
    obtain ⟨k, hk, rfl, HL⟩ := hrel
    by_cases hlt : k < n
    · have hv := H.out.on HL.out.stands
      obtain ⟨c0, _⟩ := hv.cells
      have ct := hv.ct hlt
      have cw := hv.cw hlt
      have hlen := fr_len L k
      have g1 : (0 : Int) ≤ (k : Int) := by omega
      have g2 : (k : Int) < (n : Int) := by omega
      have HLE : Hid ((fr L k).length ≤ k) := Lib.hid hlen
      clear hv hlen
      by_cases ht : (sa L k).t = true
      · have HE : Hid (fr L (k + 1) = fr L k) := Lib.hid (fr_no ht)
        rw [ht] at ct
        generalize (sa L k).w = x at cw
        clear ht
        go_wp2
        go_roundw
        case rel => exact ⟨k + 1, by omega, by go_num, Lib.hid (by rw [HE.out]; exact HL.out.on ((At.start _).alloc _))⟩
        case measure => simp [intOf]; omega
      · have ht : (sa L k).t = false := by simpa using ht
        have HE : Hid (fr L (k + 1) = fr L k ++ [k]) := Lib.hid (fr_yes ht)
        rw [ht] at ct
        generalize (sa L k).w = x at cw
        have HLI := Lib.hid (HL.out.on ((At.start wr).alloc (.cells #[.bool false, .int .i64 (x : Int)] 55)))
        have hsz := HLI.out.stands.size
        clear ht HL
        go_wp2_with (at_builtin; refine wpList_append_own_at _ rfl _ _ 40 rfl w.heap.size 3 i0 (.int .i64 0) 1 8 Try.underlying40 hi hz0 hz1 hz2 rfl (by decide) _ _ _ rfl (HLI.out.own.alloc _) ⟨wr.heap.size + 1, 0, none⟩ 1 1 [nv k] rfl rfl (by simpa using new_nv (wr.alloc (.cells #[.bool false, .int .i64 (x : Int)] 55)) k 3) (fun u hu => by simp at hu; subst hu; rfl) (by have := HLE.out; unfold maxLen; omega) (by have := HLE.out; omega) (by simp at hsz ⊢; omega) ?_)
        intro v' w1 hown hgrow _ _
        have HLN := Lib.hid (HLI.out.grown hown hgrow)
        clear hown hgrow hsz
        go_wp2
        go_roundw
        case rel => exact ⟨k + 1, by omega, by go_num, Lib.hid (by rw [HE.out]; exact HLN.out)⟩
        case measure => simp [intOf]; omega
    · have hkn : k = n := by omega
      subst hkn
      go_wp2
      go_ret
      exact ⟨_, rfl, HL.out⟩
/-- How many are free. -/
theorem count_al (h : Al w b z n sp L) : Calls Try.prog 17 #[.pointer (some ⟨b, 0, none⟩)] w (Gives (.int .i64 (nf L : Int)) w) := by
  have hn : (fr L n).length = nf L := by unfold nf; rw [h.len]
  have HN := Lib.hid hn
  have H := Lib.hid h
  clear h hn
  go_enter Try.func17, Try.ntmps17
  go_wp2_with fail
  refine (list_al H.out).mono ?_
  rintro e w' ⟨v, rfl, hl⟩
  obtain ⟨A, c, rfl, _, _⟩ := own_nv hl.own
  have HS := Lib.hid hl.stands
  clear hl
  go_wp2
  go_ret
  exact ⟨by rw [HN.out]; rfl, HS.out⟩
end

theorem list_nil (w : World) : Calls Try.prog 20 #[.pointer none] w fun e w' => e = .returned (.slice none 0 0) ∧ w = w' := by
  go_enter Try.func20, Try.ntmps20
  go_wp2
  go_ret
  exact ⟨rfl, rfl⟩
theorem count_nil (w : World) : Calls Try.prog 17 #[.pointer none] w fun e w' => e = .returned (.int .i64 0) ∧ w = w' := by
  go_enter Try.func17, Try.ntmps17
  go_wp2_with (go_at_call 20; refine (list_nil _).mono ?_; rintro e w' ⟨rfl, rfl⟩)
  go_ret
  exact ⟨rfl, rfl⟩
theorem wear_nil (k : Int) (w : World) : Calls Try.prog 22 #[.pointer none, .int .i64 k] w fun e w' => e = .returned (.int .i64 0) ∧ w = w' := by
  go_enter Try.func22, Try.ntmps22
  go_wp2_with (go_at_call 25; refine (has_nil _ _).mono ?_; rintro e w' ⟨rfl, rfl⟩)
  go_ret
  exact ⟨rfl, rfl⟩

/-- A new allocator. -/
structure Nw (w : World) (b z n sp : Nat) (w' : World) : Prop where
  al : Al w' b z n sp (nw n)
  nb : w.heap.size ≤ b
  nz : w.heap.size ≤ z
  stands : At w w'
/-- The numbers of which one is made. -/
def May (n sp : Int) : Prop := 1 ≤ n ∧ n ≤ 64 ∧ 0 ≤ sp ∧ sp ≤ n
theorem nw_two (w : World) (n sp : Nat) (hn : n ≤ 64) (hs : sp ≤ n) : Nw w (w.heap.size + 1) w.heap.size n sp ((w.alloc (.cells (zc (nw n)).toArray 55)).alloc (.cells #[.slice (some ⟨w.heap.size, 0, none⟩) n n, .int .i64 (sp : Int)] 53)) where
  al :=
    { box := by
        have := heap_alloc_new (w.alloc (.cells (zc (nw n)).toArray 55)) (.cells #[.slice (some ⟨w.heap.size, 0, none⟩) n n, .int .i64 (sp : Int)] 53)
        simpa using this
      zon := by
        rw [Below.heap_alloc _ _ _ (by simp)]
        exact heap_alloc_new _ _
      len := nw_len n
      top := hn
      spt := hs }
  nb := by omega
  nz := Nat.le_refl _
  stands := ((At.start w).alloc _).alloc _
/-- What New hands back. -/
def Made (n sp : Nat) (w : World) (e : Ending) (w' : World) : Prop := ∃ b z, e = .returned (.tuple #[.pointer (some ⟨b, 0, none⟩), .int .i64 0]) ∧ Nw w b z n sp w'
set_option maxHeartbeats 1000000 in
set_option maxRecDepth 100000 in
theorem new_ok (n sp : Nat) (h1 : 1 ≤ n) (h2 : n ≤ 64) (h3 : sp ≤ n) (w : World) : Calls Try.prog 9 #[.int .i64 (n : Int), .int .i64 (sp : Int)] w (Made n sp w) := by
  have hmk := make_states n h2
  have N1 := Lib.hid (nw_two w n sp h2 h3)
  have q1 : ¬ (n : Int) < 1 := by omega
  have q2 : ¬ (64 : Int) < (n : Int) := by omega
  have q3 : ¬ (sp : Int) < 0 := by omega
  have q4 : ¬ (n : Int) < (sp : Int) := by omega
  go_enter Try.func9, Try.ntmps9
  go_wp2
  go_ret2
  exact ⟨_, _, rfl, N1.out⟩
theorem new_bad (n sp : Int) (h : ¬ May n sp) (w : World) : Calls Try.prog 9 #[.int .i64 n, .int .i64 sp] w fun e w' => e = .returned (.tuple #[.pointer none, .int .i64 1]) ∧ w = w' := by
  by_cases h1 : n < 1
  · clear h
    go_enter Try.func9, Try.ntmps9
    go_wp2
    go_ret2
    exact ⟨rfl, rfl⟩
  · by_cases h2 : 64 < n
    · clear h
      go_enter Try.func9, Try.ntmps9
      go_wp2
      go_ret2
      exact ⟨rfl, rfl⟩
    · by_cases h3 : sp < 0
      · clear h
        go_enter Try.func9, Try.ntmps9
        go_wp2
        go_ret2
        exact ⟨rfl, rfl⟩
      · have h4 : n < sp := by unfold May at h; omega
        clear h
        go_enter Try.func9, Try.ntmps9
        go_wp2
        go_ret2
        exact ⟨rfl, rfl⟩

end Go.Proofs.Ytheldhbdhadliaa
