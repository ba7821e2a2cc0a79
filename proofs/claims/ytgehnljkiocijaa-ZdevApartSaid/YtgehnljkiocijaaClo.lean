/- Proved: slices.Clone of bytes, of blocks and of zones lays them once more, in memory of its own. -/
import Derived.Test.YtgehnljkiocijaaAwk
import Derived.Lib.SliceRun
namespace Go.Proofs.Ytgehnljkiocijaa
open Go.RowKit

/-- An empty row of a call's own. -/
theorem made_row (w : World) (e : TypeId) (size : Nat) : (w.alloc (.cells #[] e)).ownsRow 0 e size (.slice (some ⟨w.heap.size, 0, none⟩) 0 0) 0 [] := World.ownsRow_made w #[] 0 (Nat.zero_le _) (by unfold maxLen; omega) (by simp)
/-- What an append to it leaves. -/
theorem made_at {w w1 : World} {o : Obj} {n c : Nat} (h : (w.alloc o).grownBy w1 (Value.slice (some ⟨w.heap.size, 0, none⟩) n c).ownBlock) : At w w1 :=
  ((At.start w).alloc _).trans ⟨h.os, h.tape, h.output, h.size, fun k hk => h.block k (by simp; omega) (fun e => by
    have : k = w.heap.size := by injection e
    omega)⟩
theorem made_ge {w : World} {g n c : Nat} (h : (Value.slice (some ⟨w.heap.size, 0, none⟩) n c).ownBlock = some g ∨ g = w.heap.size + 1) : w.heap.size ≤ g := by
  rcases h with h | h
  · injection h with h; exact Nat.le_of_eq h
  · omega

set_option maxHeartbeats 1000000 in
set_option maxRecDepth 100000 in
theorem clone_bytes {w : World} {b o c : Nat} {L : List Nat} (hl : L.length = 64) (hb : BV w (some ⟨b, o, none⟩) L) :
    Calls Try.prog 29 #[.slice (some ⟨b, o, none⟩) 64 c] w fun e w' => ∃ g cap, e = .returned (.slice (some ⟨g, 0, none⟩) 64 cap) ∧ w.heap.size ≤ g ∧ BV w' (some ⟨g, 0, none⟩) L ∧ At w w' := by
  obtain ⟨i0, hi, hz0, hz1, hz2⟩ := info_parts info_u8
  have hsrc : ∀ j u, (L.map bt)[j]? = some u → (w.alloc (.cells #[] 5)).cell? ((⟨b, o, none⟩ : Addr).add j) = some u := fun j u hu => by
    obtain ⟨ad, he, hlt, hc⟩ := hb.cells (by omega)
    injection he with he
    subst he
    have := hc j u hu
    rw [Go.WideShapes.add_plain] at this ⊢
    rw [World.cell?_alloc_lt w _ ⟨b, o + j, none⟩ hlt]; exact this
  have HS := Lib.hid hsrc
  have HL := Lib.hid hl
  have HM := Lib.hid (made_row w 5 1)
  have HZ := Lib.hid (And.intro hi (And.intro hz0 (And.intro hz1 hz2)))
  clear hsrc hl hb hi hz0 hz1 hz2
  have hnil := Lib.run_eql_slice_nil (P := Try.prog) w 35 5 (some ⟨b, o, none⟩) 64 c 0 0 Try.underlying35
  go_enter Try.func29, Try.ntmps29
  go_wp2_with (at_builtin; refine wpList_append_lies _ rfl (.tmp 5) (.tmp 6) 35 rfl 0 5 i0 (.int .u8 0) 1 1 Try.underlying35 HZ.out.1 HZ.out.2.1 HZ.out.2.2.1 HZ.out.2.2.2 rfl (by omega) _ 0 [] rfl HM.out ⟨b, o, none⟩ 64 c (L.map bt) rfl (by rw [List.length_map, HL.out]) HS.out (bt_one _) (by omega) (by unfold maxLen; omega) (by omega) (Nat.zero_le _) (w.heap.size + 1) (by simp) ?_; intro g cap w1 hown hgrow hat hlt)
  go_ret
  rw [Nat.zero_add, List.nil_append] at hown
  exact ⟨g, cap, by simp, made_ge hat, (own_bv hown).2, made_at hgrow⟩

set_option maxHeartbeats 1000000 in
set_option maxRecDepth 100000 in
theorem clone_blocks {w : World} {gb n c : Nat} {L : List Nat} (h0 : 0 < n) (hn : n ≤ 192) (hown : w.ownsRow 0 60 64 (.slice (some ⟨gb, 0, none⟩) n c) n (L.map bt)) :
    Calls Try.prog 35 #[.slice (some ⟨gb, 0, none⟩) n c] w fun e w' => ∃ g cap, e = .returned (.slice (some ⟨g, 0, none⟩) n cap) ∧ w.heap.size ≤ g ∧ w'.ownsRow 0 60 64 (.slice (some ⟨g, 0, none⟩) n cap) n (L.map bt) ∧ At w w' := by
  obtain ⟨i0, zv, hi, hz0, hz1, hz2, hz3⟩ := block_parts
  have hll : (L.map bt).length = n * 64 := hown.1
  have hsrc : ∀ j u, (L.map bt)[j]? = some u → (w.alloc (.cells #[] 60)).cell? ((⟨gb, 0, none⟩ : Addr).add j) = some u := fun j u hu => by
    have := hown.cells (g := gb) rfl j u hu
    have hlt := (hown.lt gb rfl).2
    rw [Go.WideShapes.add_plain] at this ⊢
    rw [World.cell?_alloc_lt _ _ _ hlt]; exact this
  have HS := Lib.hid hsrc
  have HL := Lib.hid hll
  have HM := Lib.hid (made_row w 60 64)
  have HZ := Lib.hid (And.intro hi (And.intro hz0 (And.intro hz1 (And.intro hz2 hz3))))
  clear hsrc hll hown hi hz0 hz1 hz2 hz3
  have hnil := Lib.run_eql_slice_nil (P := Try.prog) w 52 60 (some ⟨gb, 0, none⟩) n c 0 0 Try.underlying52
  go_enter Try.func35, Try.ntmps35
  go_wp2_with (at_builtin; refine wpList_append_lies _ rfl (.tmp 5) (.tmp 6) 52 rfl 0 60 i0 zv 64 64 Try.underlying52 HZ.out.1 HZ.out.2.1 HZ.out.2.2.1 HZ.out.2.2.2.1 HZ.out.2.2.2.2 (by omega) _ 0 [] rfl HM.out ⟨gb, 0, none⟩ n c (L.map bt) rfl HL.out HS.out (bt_one _) h0 (by unfold maxLen; omega) (by omega) (Nat.zero_le _) (w.heap.size + 1) (by simp) ?_; intro g cap w1 hown hgrow hat hlt)
  go_ret
  rw [Nat.zero_add, List.nil_append] at hown
  exact ⟨g, cap, by simp, made_ge hat, hown, made_at hgrow⟩

theorem zc_one (S : Nat → Zr) : ∀ u ∈ zc S, u.oneCell' = true := by
  intro u hu
  simp only [zc, List.mem_cons, List.not_mem_nil, or_false] at hu
  rcases hu with h | h | h | h | h | h | h | h | h | h | h | h | h | h | h | h <;> subst h <;> rfl

set_option maxHeartbeats 1000000 in
set_option maxRecDepth 100000 in
theorem clone_zones {w : World} {z c : Nat} {S : Nat → Zr} {T : List Value} (hz : w.heap[z]? = some (.cells (zc S ++ T).toArray 54 (0, 0))) :
    Calls Try.prog 34 #[.slice (some ⟨z, 0, none⟩) 8 c] w fun e w' => ∃ g cap, e = .returned (.slice (some ⟨g, 0, none⟩) 8 cap) ∧ w.heap.size ≤ g ∧ 8 ≤ cap ∧ cap ≤ maxLen ∧ (∃ T', w'.heap[g]? = some (.cells (zc S ++ T').toArray 54 (0, 0))) ∧ At w w' := by
  obtain ⟨i0, hi, hz0, hz1, hz2⟩ := info_parts info_content
  have hlt := lt_heap hz
  have hsrc : ∀ j u, (zc S)[j]? = some u → (w.alloc (.cells #[] 54)).cell? ((⟨z, 0, none⟩ : Addr).add j) = some u := fun j u hu => by
    have hj : j < 16 := by simpa [zc_len] using (List.getElem?_eq_some_iff.1 hu).1
    rw [Go.WideShapes.add_plain, World.cell?_alloc_lt _ _ _ hlt, cell_at hz, Nat.zero_add, zc_app S T j hj]; exact hu
  have HS := Lib.hid hsrc
  have HM := Lib.hid (made_row w 54 2)
  have HZ := Lib.hid (And.intro hi (And.intro hz0 (And.intro hz1 hz2)))
  clear hsrc hz hlt hi hz0 hz1 hz2
  have hnil := Lib.run_eql_slice_nil (P := Try.prog) w 55 54 (some ⟨z, 0, none⟩) 8 c 0 0 Try.underlying55
  go_enter Try.func34, Try.ntmps34
  go_wp2_with (at_builtin; refine wpList_append_lies _ rfl (.tmp 5) (.tmp 6) 55 rfl 0 54 i0 _ 2 32 Try.underlying55 HZ.out.1 HZ.out.2.1 HZ.out.2.2.1 HZ.out.2.2.2 rfl (by omega) _ 0 [] rfl HM.out ⟨z, 0, none⟩ 8 c (zc S) rfl rfl HS.out (zc_one S) (by omega) (by unfold maxLen; omega) (by omega) (Nat.zero_le _) (w.heap.size + 1) (by simp) ?_; intro g cap w1 hown hgrow hat hlt)
  go_ret
  rw [Nat.zero_add, List.nil_append] at hown
  refine ⟨g, cap, by simp, made_ge hat, ?_, ?_, ?_, made_at hgrow⟩
  all_goals
    rcases hown.2 with ⟨h, _⟩ | ⟨g', cap', cur, hv, _, hh, h1, h2, h3, h4⟩
    · cases h
    · injection hv with e1 _ e3
      injection e1 with e1
      injection e1 with e1 _
      subst e1 e3
      first
        | exact h1
        | exact h2
        | exact ⟨cur.toList.drop 16, by rw [hh, ← h4, show 8 * 2 = 16 from rfl, List.take_append_drop]⟩

end Go.Proofs.Ytgehnljkiocijaa
