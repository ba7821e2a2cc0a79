/- Proved: the blocks that have bytes are told in rising order; of no map none. -/
import Derived.Test.YthaiddhbifakhaaShelf
import Derived.Test.YthaiddhbifakhaaRef
namespace Go.Proofs.Ythaiddhbifakhaa
open Go.RowKit Go.Maps Go.Sort Go.Shelf

/-- slices.Sort's two contracts at this program, at the fence that asks nothing. -/
theorem sorts_in (m : Nat) : AnyZI.SortsIn Try.prog Try.sortedK_ren Fence.wide m :=
  ⟨fun blk off cap ss W hH hblk hsz => callsIn_wide.2 (AnyM.slices_Sort_int Try.sortK blk off cap ss W hH hblk hsz),
   fun p cap W => callsIn_wide.2 (AnyM.slices_Sort_int_none Try.sortK p cap W)⟩

def sus (S : St) : List Int := (us S).map fun k : Nat => (k : Int)
theorem sus_sorted (S : St) : (sus S).Pairwise (fun a b => leI a b = true) := by
  unfold sus us
  refine List.pairwise_map.2 (List.Pairwise.filter _ ?_)
  refine (List.pairwise_lt_range (n := S.n)).imp fun {a b} h => ?_
  simp only [leI, decide_eq_true_eq]; omega
theorem sus_is {w : World} {b : Nat} {S : St} {mb : Nat} {D : DataW Value} (h : Mq w b S mb D) {ss : List Int} (hp : ss.Perm (intKeys D)) : ss.mergeSort (fun x y => decide (x ≤ y)) = sus S := by
  have e : ss.Perm (sus S) := hp.trans h.keys.symm
  have := mergeSort_of_perm_i e
  rw [show (fun x y => decide (x ≤ y)) = leI from rfl, this]
  exact List.mergeSort_of_pairwise (sus_sorted S)

/-- The call hands back the blocks that have bytes, in a row of its own. -/
def Lists (L : List Int) (w : World) (e : Ending) (w' : World) : Prop := ∃ v, e = .returned v ∧ w'.ownsRow w.heap.size 3 1 v L.length (L.map encZ) ∧ At w w'
set_option maxHeartbeats 1000000 in
theorem lbas_mq {w : World} {b : Nat} {S : St} {mb : Nat} {D : DataW Value} (h : Mq w b S mb D) : Calls Try.prog 33 #[.pointer (some ⟨b, 0, none⟩)] w (Lists (sus S) w) := by
  refine (callsIn_wide (n := 7)).1 ?_
  have hown := h.own
  have hbl := hown.lt
  have hsz := h.size
  have hul := us_len S
  have hn2 := h.ok.n2
  have HS := Lib.hid (fun (ss : List Int) (hp : ss.Perm (intKeys D)) => sus_is h hp)
  have HLEN : Hid (∀ ss : List Int, ss.Perm (intKeys D) → ss.length = (sus S).length) := Lib.hid (fun ss hp => (hp.trans h.keys.symm).length_eq)
  have hAll : CallsIn Fence.wide 6 Try.prog 31 #[.pointer (some ⟨b, 0, none⟩)] w fun e w' => e = .returned (.map (some mb)) ∧ w = w' := callsIn_wide.2 (all_bf ⟨_, h⟩)
  have hseq : SeqGives Fence.wide 3 Try.prog 54 #[.pointer (some ⟨w.heap.size, 0, none⟩)] encZ (fun ss => ss.Perm (intKeys D)) (Maps.size D) (w.alloc (.cells #[.map (some mb)] 65)) :=
    AnyZI.keys_gives (ρ := Try.keysK_ren) { Try.keysK with } Fence.wide _ trivial rfl (by omega) w.heap.size mb (Maps.size D) D _ (by simp) (by simp) (by
      obtain ⟨es, clock, hb, Ft, hs, hD⟩ := hown
      exact ⟨es, clock, (Below.heap_alloc _ _ mb hbl).trans hb, Ft, hs, hD⟩)
  have cK : ∀ m W, CallsIn Fence.wide 6 Try.prog 42 #[.map m] W fun e w' => e = .returned (.func (.func 54) #[] #[.pointer (some ⟨W.heap.size, 0, none⟩)]) ∧ w' = W.alloc (.cells #[.map m] 65) := fun m W => AnyZI.keys_in Try.keysK Fence.wide 6 trivial rfl m W
  have cS := AnyZI.sorted_in Try.sortedK Fence.wide 6 trivial trivial trivial trivial rfl (by omega) (sorts_in _) (enters_of Try.func53 (by kernel_rfl) rfl) 54 #[.pointer (some ⟨w.heap.size, 0, none⟩)] trivial (enters_of Try.func54 (by kernel_rfl) rfl) _ _ (by rw [hsz]; unfold maxLen; omega) (by rw [hsz]; omega) _ hseq
  change CallsIn _ _ Try.prog 41 _ _ _ at cS
  have hfA : Fence.wide.fn 31 := trivial
  have hfK : Fence.wide.fn 42 := trivial
  have hfS : Fence.wide.fn 41 := trivial
  clear hseq hown hbl hsz hul hn2 h
  refine callsIn_of_wp Try.func33 rfl trivial ?_ rfl
  simp only [Try.ntmps33, List.size_toArray, List.length_cons, List.length_nil, Nat.reduceAdd, Nat.reduceSub, Array.replicate_succ, Array.replicate_zero, List.push_toArray, List.append_toArray, List.nil_append, List.cons_append]
  gi_wp2_with (first
    | (gi_at_call 31; refine hAll.mono ?_; rintro e w' ⟨rfl, rfl⟩)
    | (gi_at_call 42; refine (cK _ _).mono ?_; rintro e w' ⟨rfl, rfl⟩)
    | (gi_at_call 41; refine cS.mono ?_; rintro e w' ⟨v, ss, rfl, hS, hrow, hnil, hb⟩))
  go_ret
  have hrow2 := ownsRow_base_a hrow (show w.heap.size ≤ _ by simp)
  rw [HS.out ss hS, HLEN.out ss hS] at hrow2
  exact ⟨v, rfl, hrow2, ((At.start w).alloc _).trans (hb.mono (by simp))⟩
set_option maxHeartbeats 1000000 in
theorem lbas_nil (w : World) : Calls Try.prog 33 #[.pointer none] w (Gives (.slice none 0 0) w) := by
  refine (callsIn_wide (n := 7)).1 ?_
  have hAll : CallsIn Fence.wide 6 Try.prog 31 #[.pointer none] w fun e w' => e = .returned (.map none) ∧ w = w' := callsIn_wide.2 (all_nil w)
  have hseq : SeqGives Fence.wide 3 Try.prog 54 #[.pointer (some ⟨w.heap.size, 0, none⟩)] encZ (fun ss : List Int => ss = []) 0 (w.alloc (.cells #[.map none] 65)) :=
    AnyZI.keys_gives_nil (ρ := Try.keysK_ren) { Try.keysK with } Fence.wide _ trivial rfl w.heap.size _ (by simp) (by simp)
  have cK : ∀ m W, CallsIn Fence.wide 6 Try.prog 42 #[.map m] W fun e w' => e = .returned (.func (.func 54) #[] #[.pointer (some ⟨W.heap.size, 0, none⟩)]) ∧ w' = W.alloc (.cells #[.map m] 65) := fun m W => AnyZI.keys_in Try.keysK Fence.wide 6 trivial rfl m W
  have cS := AnyZI.sorted_in Try.sortedK Fence.wide 6 trivial trivial trivial trivial rfl (by omega) (sorts_in _) (enters_of Try.func53 (by kernel_rfl) rfl) 54 #[.pointer (some ⟨w.heap.size, 0, none⟩)] trivial (enters_of Try.func54 (by kernel_rfl) rfl) _ 0 (Nat.zero_le _) (by omega) _ hseq
  change CallsIn _ _ Try.prog 41 _ _ _ at cS
  have hfA : Fence.wide.fn 31 := trivial
  have hfK : Fence.wide.fn 42 := trivial
  have hfS : Fence.wide.fn 41 := trivial
  clear hseq
  refine callsIn_of_wp Try.func33 rfl trivial ?_ rfl
  simp only [Try.ntmps33, List.size_toArray, List.length_cons, List.length_nil, Nat.reduceAdd, Nat.reduceSub, Array.replicate_succ, Array.replicate_zero, List.push_toArray, List.append_toArray, List.nil_append, List.cons_append]
  gi_wp2_with (first
    | (gi_at_call 31; refine hAll.mono ?_; rintro e w' ⟨rfl, rfl⟩)
    | (gi_at_call 42; refine (cK _ _).mono ?_; rintro e w' ⟨rfl, rfl⟩)
    | (gi_at_call 41; refine cS.mono ?_; rintro e w' ⟨v, ss, rfl, rfl, hrow, hnil, hb⟩; obtain rfl : v = .slice none 0 0 := hnil.2 rfl))
  go_ret
  exact ⟨rfl, ((At.start w).alloc _).trans (hb.mono (by simp))⟩

end Go.Proofs.Ythaiddhbifakhaa
