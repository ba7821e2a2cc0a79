/- Proved: List tells the handles that are open, in rising order; of no book none. -/
import Derived.Test.YtjgmgkglpfcihaaShelf
import Derived.Test.YtjgmgkglpfcihaaOpn
namespace Go.Proofs.Ytjgmgkglpfcihaa
open Go.RowKit Go.Maps Go.Sort Go.Shelf

/-- slices.Sort's two contracts at this program, at the fence that asks nothing. -/
theorem sorts_in (m : Nat) : AnyZI.SortsIn Try.prog Try.sortedK_ren Fence.wide m :=
  ⟨fun blk off cap ss W hH hblk hsz => callsIn_wide.2 (AnyM.slices_Sort_int Try.sortK blk off cap ss W hH hblk hsz),
   fun p cap W => callsIn_wide.2 (AnyM.slices_Sort_int_none Try.sortK p cap W)⟩

theorem up_sorted {H : List Int} (h : H.Pairwise (· < ·)) : H.mergeSort leI = H :=
  List.mergeSort_of_pairwise (h.imp fun hab => by simp only [leI, decide_eq_true_eq]; omega)
theorem keys_is {w : World} {b mb : Nat} {S : St} {D : DataW Value} (h : Mq w b S mb D) {ss : List Int} (hp : ss.Perm (intKeys D)) : ss.mergeSort (fun x y => decide (x ≤ y)) = S.H := by
  have e : ss.Perm S.H := hp.trans h.keys.symm
  have := mergeSort_of_perm_i e
  rw [show (fun x y => decide (x ≤ y)) = leI from rfl, this]
  exact up_sorted h.ok.up

/-- The call hands back a list of ints, in a row of its own. -/
def Lists (L : List Int) (w : World) (e : Ending) (w' : World) : Prop := ∃ A c, e = .returned (.slice A L.length c) ∧ L.length ≤ c ∧ IV w' A L ∧ (∀ b o, A = some ⟨b, o, none⟩ → w.heap.size ≤ b ∧ b < w'.heap.size) ∧ At w w'
set_option maxHeartbeats 1000000 in
theorem list_bk {w : World} {b mb : Nat} {S : St} (h : Bk w b mb S) : Calls Try.prog 20 #[.pointer (some ⟨b, 0, none⟩)] w (Lists S.H w) := by
  obtain ⟨D, h⟩ := h
  refine (callsIn_wide (n := 7)).1 ?_
  have hown := h.own
  have hbl := h.lt.2
  have hsz := h.size
  have hul := ok_len h.ok
  have hn2 := h.ok.g1
  have HS := Lib.hid (fun (ss : List Int) (hp : ss.Perm (intKeys D)) => keys_is h hp)
  have HLEN : Hid (∀ ss : List Int, ss.Perm (intKeys D) → ss.length = S.H.length) := Lib.hid (fun ss hp => (hp.trans h.keys.symm).length_eq)
  have hAll : CallsIn Fence.wide 6 Try.prog 23 #[.pointer (some ⟨b, 0, none⟩)] w fun e w' => e = .returned (.map (some mb)) ∧ w = w' := callsIn_wide.2 (all_bk h)
  have hseq : SeqGives Fence.wide 3 Try.prog 28 #[.pointer (some ⟨w.heap.size, 0, none⟩)] encZ (fun ss => ss.Perm (intKeys D)) (Maps.size D) (w.alloc (.cells #[.map (some mb)] 48)) :=
    AnyZI.keys_gives (ρ := Try.keysK_ren) { Try.keysK with } Fence.wide _ trivial rfl (by omega) w.heap.size mb (Maps.size D) D _ (by simp) (by simp) (by
      obtain ⟨es, clock, hb, Ft, hs, hD⟩ := hown
      exact ⟨es, clock, (Below.heap_alloc _ _ mb hbl).trans hb, Ft, hs, hD⟩)
  have cK : ∀ m W, CallsIn Fence.wide 6 Try.prog 25 #[.map m] W fun e w' => e = .returned (.func (.func 28) #[] #[.pointer (some ⟨W.heap.size, 0, none⟩)]) ∧ w' = W.alloc (.cells #[.map m] 48) := fun m W => AnyZI.keys_in Try.keysK Fence.wide 6 trivial rfl m W
  have cS := AnyZI.sorted_in Try.sortedK Fence.wide 6 trivial trivial trivial trivial rfl (by omega) (sorts_in _) (enters_of Try.func27 (by kernel_rfl) rfl) 28 #[.pointer (some ⟨w.heap.size, 0, none⟩)] trivial (enters_of Try.func28 (by kernel_rfl) rfl) _ _ (by rw [hsz]; unfold maxLen; omega) (by rw [hsz]; omega) _ hseq
  change CallsIn _ _ Try.prog 24 _ _ _ at cS
  have hfA : Fence.wide.fn 23 := trivial
  have hfK : Fence.wide.fn 25 := trivial
  have hfS : Fence.wide.fn 24 := trivial
  clear hseq hown hbl hsz hul hn2 h
  refine callsIn_of_wp Try.func20 rfl trivial ?_ rfl
  simp only [Try.ntmps20, List.size_toArray, List.length_cons, List.length_nil, Nat.reduceAdd, Nat.reduceSub, Array.replicate_succ, Array.replicate_zero, List.push_toArray, List.append_toArray, List.nil_append, List.cons_append]
  gi_wp2_with (first
    | (gi_at_call 23; refine hAll.mono ?_; rintro e w' ⟨rfl, rfl⟩)
    | (gi_at_call 25; refine (cK _ _).mono ?_; rintro e w' ⟨rfl, rfl⟩)
    | (gi_at_call 24; refine cS.mono ?_; rintro e w' ⟨v, ss, rfl, hS, hrow, hnil, hb⟩))
  go_ret
  have hrow2 := ownsRow_base_a hrow (show w.heap.size ≤ _ by simp)
  rw [HS.out ss hS, HLEN.out ss hS] at hrow2
  obtain ⟨A, c, rfl, hl, hc, hv, hn⟩ := own_iv hrow2
  exact ⟨A, c, rfl, hc, hv, fun b o e => ⟨(hn b o e).1, (hn b o e).2.1⟩, ((At.start w).alloc _).trans (hb.mono (by simp))⟩
set_option maxHeartbeats 1000000 in
theorem list_nil (w : World) : Calls Try.prog 20 #[.pointer none] w (Gives (.slice none 0 0) w) := by
  refine (callsIn_wide (n := 7)).1 ?_
  have hAll : CallsIn Fence.wide 6 Try.prog 23 #[.pointer none] w fun e w' => e = .returned (.map none) ∧ w = w' := callsIn_wide.2 (all_nil w)
  have hseq : SeqGives Fence.wide 3 Try.prog 28 #[.pointer (some ⟨w.heap.size, 0, none⟩)] encZ (fun ss : List Int => ss = []) 0 (w.alloc (.cells #[.map none] 48)) :=
    AnyZI.keys_gives_nil (ρ := Try.keysK_ren) { Try.keysK with } Fence.wide _ trivial rfl w.heap.size _ (by simp) (by simp)
  have cK : ∀ m W, CallsIn Fence.wide 6 Try.prog 25 #[.map m] W fun e w' => e = .returned (.func (.func 28) #[] #[.pointer (some ⟨W.heap.size, 0, none⟩)]) ∧ w' = W.alloc (.cells #[.map m] 48) := fun m W => AnyZI.keys_in Try.keysK Fence.wide 6 trivial rfl m W
  have cS := AnyZI.sorted_in Try.sortedK Fence.wide 6 trivial trivial trivial trivial rfl (by omega) (sorts_in _) (enters_of Try.func27 (by kernel_rfl) rfl) 28 #[.pointer (some ⟨w.heap.size, 0, none⟩)] trivial (enters_of Try.func28 (by kernel_rfl) rfl) _ 0 (Nat.zero_le _) (by omega) _ hseq
  change CallsIn _ _ Try.prog 24 _ _ _ at cS
  have hfA : Fence.wide.fn 23 := trivial
  have hfK : Fence.wide.fn 25 := trivial
  have hfS : Fence.wide.fn 24 := trivial
  clear hseq
  refine callsIn_of_wp Try.func20 rfl trivial ?_ rfl
  simp only [Try.ntmps20, List.size_toArray, List.length_cons, List.length_nil, Nat.reduceAdd, Nat.reduceSub, Array.replicate_succ, Array.replicate_zero, List.push_toArray, List.append_toArray, List.nil_append, List.cons_append]
  gi_wp2_with (first
    | (gi_at_call 23; refine hAll.mono ?_; rintro e w' ⟨rfl, rfl⟩)
    | (gi_at_call 25; refine (cK _ _).mono ?_; rintro e w' ⟨rfl, rfl⟩)
    | (gi_at_call 24; refine cS.mono ?_; rintro e w' ⟨v, ss, rfl, rfl, hrow, hnil, hb⟩; obtain rfl : v = .slice none 0 0 := hnil.2 rfl))
  go_ret
  exact ⟨rfl, ((At.start w).alloc _).trans (hb.mono (by simp))⟩

end Go.Proofs.Ytjgmgkglpfcihaa
