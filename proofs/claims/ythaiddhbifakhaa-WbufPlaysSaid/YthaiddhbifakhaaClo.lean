/- Proved: slices.Clone of bytes lays them once more, in memory of its own. -/
import Derived.Test.YthaiddhbifakhaaBlk
import Derived.Lib.SliceRun
namespace Go.Proofs.Ythaiddhbifakhaa
open Go.RowKit

/-- An empty row of a call's own. -/
theorem made_row (w : World) (e : TypeId) (size : Nat) : (w.alloc (.cells #[] e)).ownsRow 0 e size (.slice (some ⟨w.heap.size, 0, none⟩) 0 0) 0 [] := World.ownsRow_made w #[] 0 (Nat.zero_le _) (by unfold maxLen; omega) (by simp)
/-- What an append to it leaves. -/
theorem made_at {w w1 : World} {o : Obj} {n c : Nat} (h : (w.alloc o).grownBy w1 (Value.slice (some ⟨w.heap.size, 0, none⟩) n c).ownBlock) : At w w1 :=
  ((At.start w).alloc _).trans ⟨h.os, h.tape, h.output, h.size, fun k hk => h.block k (by simp; omega) (fun e => by
    have : k = w.heap.size := by injection e
    omega)⟩
theorem made_ge {w : World} {g n c : Nat} (h : (Value.slice (some ⟨w.heap.size, 0, none⟩) n c).ownBlock = some g ∨ g = w.heap.size + 1) : w.heap.size ≤ g := by
  rcases h with h | h
  · injection h with h; exact Nat.le_of_eq h
  · omega

set_option maxHeartbeats 1000000 in
set_option maxRecDepth 100000 in
theorem clone_bytes {w : World} {b o c : Nat} {L : List Nat} (hl : L.length = 40) (hb : BV w (some ⟨b, o, none⟩) L) :
    Calls Try.prog 32 #[.slice (some ⟨b, o, none⟩) 40 c] w fun e w' => ∃ g cap, e = .returned (.slice (some ⟨g, 0, none⟩) 40 cap) ∧ w.heap.size ≤ g ∧ BV w' (some ⟨g, 0, none⟩) L ∧ At w w' := by
  obtain ⟨i0, hi, hz0, hz1, hz2⟩ := info_parts info_u8
  have hsrc : ∀ j u, (L.map bt)[j]? = some u → (w.alloc (.cells #[] 5)).cell? ((⟨b, o, none⟩ : Addr).add j) = some u := fun j u hu => by
    obtain ⟨ad, he, hlt, hc⟩ := hb.cells (by omega)
    injection he with he
    subst he
    have := hc j u hu
    rw [Go.WideShapes.add_plain] at this ⊢
    rw [World.cell?_alloc_lt w _ ⟨b, o + j, none⟩ hlt]; exact this
  have HS := Lib.hid hsrc
  have HL := Lib.hid hl
  have HM := Lib.hid (made_row w 5 1)
  have HZ := Lib.hid (And.intro hi (And.intro hz0 (And.intro hz1 hz2)))
  clear hsrc hl hb hi hz0 hz1 hz2
  have hnil := Lib.run_eql_slice_nil (P := Try.prog) w 38 5 (some ⟨b, o, none⟩) 40 c 0 0 Try.underlying38
  go_enter Try.func32, Try.ntmps32
  go_wp2_with (at_builtin; refine wpList_append_lies _ rfl (.tmp 5) (.tmp 6) 38 rfl 0 5 i0 (.int .u8 0) 1 1 Try.underlying38 HZ.out.1 HZ.out.2.1 HZ.out.2.2.1 HZ.out.2.2.2 rfl (by omega) _ 0 [] rfl HM.out ⟨b, o, none⟩ 40 c (L.map bt) rfl (by rw [List.length_map, HL.out]) HS.out (bt_one _) (by omega) (by unfold maxLen; omega) (by omega) (Nat.zero_le _) (w.heap.size + 1) (by simp) ?_; intro g cap w1 hown hgrow hat hlt)
  go_ret
  rw [Nat.zero_add, List.nil_append] at hown
  exact ⟨g, cap, by simp, made_ge hat, (own_bv hown).2, made_at hgrow⟩

end Go.Proofs.Ythaiddhbifakhaa
