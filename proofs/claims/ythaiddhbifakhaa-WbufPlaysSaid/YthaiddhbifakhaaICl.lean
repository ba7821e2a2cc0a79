/- Proved: slices.Clone of extents lays them once more, in memory of its own; what an append of extents to a row of the program's own leaves. -/
import Derived.Test.YthaiddhbifakhaaISm
import Derived.Lib.SliceRun
namespace Go.Proofs.Ythaiddhbifakhaa.Iv
open Go.RowKit

/-- A call hands back the list L in a row of its own, in new memory, and writes only what is new. -/
def Makes (L : List (Int × Int)) (w : World) (e : Ending) (w' : World) : Prop := ∃ v, e = .returned v ∧ Ow w' v L ∧ At w w' ∧ ∀ g, v.ownBlock = some g → w.heap.size ≤ g

/-- What an append leaves of the world: only the row's own block is written. -/
theorem grown_mv {w w' : World} {v : Value} (h : w.grownBy w' v.ownBlock) : Mv (fun g => v.ownBlock = some g) w w' :=
  ⟨h.os, h.tape, h.output, h.size, fun k hk hF => h.block k hk (fun e => hF e.symm)⟩
theorem made_row (w : World) : (w.alloc (.cells #[] 75)).ownsRow 0 75 2 (.slice (some ⟨w.heap.size, 0, none⟩) 0 0) 0 [] := World.ownsRow_made w #[] 0 (Nat.zero_le _) (by unfold maxLen; omega) (by simp)

theorem made_at {w w1 : World} {o : Obj} {n c : Nat} (h : (w.alloc o).grownBy w1 (Value.slice (some ⟨w.heap.size, 0, none⟩) n c).ownBlock) : At w w1 :=
  ((At.start w).alloc _).trans ⟨h.os, h.tape, h.output, h.size, fun k hk => h.block k (by simp; omega) (fun e => by
    have : k = w.heap.size := by injection e
    omega)⟩
theorem ev_news {w : World} {ad : Addr} {L : List (Int × Int)} (hx : EV w (some ad) L) : ∀ j u, (fl L)[j]? = some u → w.cell? (ad.add j) = some u := by
  by_cases h0 : L = []
  · subst h0; intro j u hj; simp [fl] at hj
  · obtain ⟨ad', he, _, hc⟩ := hx.cells (List.length_pos_iff.2 h0)
    injection he with he
    subst he
    exact hc

set_option maxHeartbeats 1000000 in
set_option maxRecDepth 100000 in
theorem clone_any (A : Option Addr) (n c : Nat) (L : List (Int × Int)) (w : World) (hn : n ≤ 1000000) (hz : A = none → n = 0 ∧ c = 0) (hl : L.length = n) (hx : EV w A L) :
    Calls Try.prog 36 #[.slice A n c] w (Makes L w) := by
  obtain ⟨i0, hi, hz0, hz1, hz2⟩ := info_parts info_ext
  rcases A with _ | ad
  · obtain ⟨rfl, rfl⟩ := hz rfl
    obtain rfl : L = [] := List.eq_nil_of_length_eq_zero hl
    have hnil := Lib.run_eql_slice_nil (P := Try.prog) w 47 75 none 0 0 0 0 Try.underlying47
    clear hx hi hz0 hz1 hz2 hz hl
    go_enter Try.func36, Try.ntmps36
    go_wp2
    go_ret
    exact ⟨_, rfl, Ow.nil _, At.start _, fun g hg => by cases hg⟩
  · have hnil := Lib.run_eql_slice_nil (P := Try.prog) w 47 75 (some ad) n c 0 0 Try.underlying47
    have HS := Lib.hid (ev_news (hx.on ((At.start w).alloc (.cells #[] 75))))
    have HL := Lib.hid hl
    have HM := Lib.hid (made_row w)
    have HZ := Lib.hid (And.intro hi (And.intro hz0 (And.intro hz1 hz2)))
    clear hx hi hz0 hz1 hz2 hz hl
    go_enter Try.func36, Try.ntmps36
    go_wp2_with (at_builtin; refine wpList_append_own_at _ rfl (.tmp 5) (.tmp 6) 47 rfl 0 75 i0 _ 2 16 Try.underlying47 HZ.out.1 HZ.out.2.1 HZ.out.2.2.1 HZ.out.2.2.2 rfl (by omega) _ 0 [] rfl HM.out ad n c (fl L) rfl (by rw [fl_len, HL.out]) HS.out (fun u hu => fl_cells u L hu) (by unfold maxLen; omega) (by omega) (Nat.zero_le _) ?_; intro v w1 hown hgrow hnn hat)
    go_ret
    rw [Nat.zero_add, List.nil_append, ← HL.out] at hown
    refine ⟨v, rfl, hown, made_at hgrow, fun g hg => ?_⟩
    rcases hat with h | h
    · rw [h] at hg
      injection hg with hg
      exact Nat.le_of_eq hg
    · rw [h] at hg
      injection hg with hg
      rw [← hg]; simp

end Go.Proofs.Ythaiddhbifakhaa.Iv
