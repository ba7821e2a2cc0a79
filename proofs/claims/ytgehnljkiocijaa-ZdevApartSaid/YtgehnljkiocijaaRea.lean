/- Proved: what Read hands back of a block that is there: its bytes, in memory of their own. -/
import Derived.Test.YtgehnljkiocijaaClo
namespace Go.Proofs.Ytgehnljkiocijaa
open Go.RowKit

theorem zn_bv {w : World} {r : Zr} (h : Zn w r) (i : Nat) (hi : i < r.n) : ∃ gb, r.g = some ⟨gb, 0, none⟩ ∧ BV w (some ⟨gb, i * 64, none⟩) (nth 64 r.L i) := by
  rcases id h with ⟨h1, _⟩ | ⟨h0, gb, hg, hown⟩
  · omega
  · refine ⟨gb, hg, ?_⟩
    have hb : (sl r).ownBlock = some gb := by unfold sl; rw [hg]; rfl
    have hlt := (hown.lt gb hb).2
    have hl := h.len
    have hnl := nth_len hl i hi
    refine Or.inr ⟨gb, i * 64, rfl, hlt, fun j hj => ?_⟩
    rw [hnl] at hj
    have hjj : i * 64 + j < r.L.length := by
      have : 64 * (i + 1) ≤ 64 * r.n := Nat.mul_le_mul_left 64 hi
      omega
    have := hown.cells hb (i * 64 + j) (bt (r.L.getD (i * 64 + j) 0)) (by rw [List.getElem?_map, List.getElem?_eq_getElem hjj, List.getD_eq_getElem?_getD, List.getElem?_eq_getElem hjj]; rfl)
    rw [Go.WideShapes.add_plain, Nat.zero_add] at this
    rw [this, nth_all hl (i * 64 + j) (by omega), show (i * 64 + j) / 64 = i by omega, show (i * 64 + j) % 64 = j by omega]

set_option maxHeartbeats 1000000 in
set_option maxRecDepth 100000 in
theorem read_dv {w : World} {b z sz ops rds : Nat} {S : Nat → Zr} (h : Dv w b z sz ops rds S) (hr : rds ≤ 1000000) (k : Nat) (hk : k < 8) (i : Nat) (hi : i < (S k).n) :
    Calls Try.prog 16 #[.pointer (some ⟨b, 0, none⟩), .int .i64 (k : Int), .int .i64 (i : Int)] w fun e w' => ∃ g cap, e = .returned (.tuple #[.slice (some ⟨g, 0, none⟩) 64 cap, .int .i64 0]) ∧ w.heap.size ≤ g ∧ BV w' (some ⟨g, 0, none⟩) (nth 64 (S k).L i) ∧ Dv w' b z sz ops (rds + 1) S ∧ Did w b z S S w' := by
  obtain ⟨⟨c, hc1, hc2, c0⟩, _, _, c3, -⟩ := h.cells
  have f3 := h.free 3
  have cr := h.zrow hk
  have hle := Nat.le_trans (h.le k hk) h.top
  have hlen := (h.row k hk).len
  obtain ⟨gb, hgb, hbv⟩ := zn_bv (h.row k hk) i hi
  obtain ⟨w1, hw1⟩ : ∃ w1, w1 = w.setCell ⟨b, 3, none⟩ (.int .i64 ((rds : Int) + 1)) := ⟨_, rfl⟩
  have hv1 : Dv w1 b z sz ops (rds + 1) S := by rw [hw1]; exact h.setRds (rds + 1)
  have hd1 : Did w b z S S w1 := Did.of_mv (by rw [hw1]; exact (Mv.refl _ w).set (Or.inl (Or.inl rfl)) _)
  obtain ⟨gb', hgb', hbv1⟩ := zn_bv (hv1.row k hk) i hi
  rw [hgb] at hgb'
  injection hgb' with hgb'
  injection hgb' with hgb'
  subst hgb'
  have hnl := nth_len hlen i hi
  obtain ⟨n, hn⟩ : ∃ n, n = (S k).n := ⟨_, rfl⟩
  obtain ⟨cc, hcc⟩ : ∃ cc, cc = (S k).c := ⟨_, rfl⟩
  rw [← hn, hgb, ← hcc] at cr
  rw [← hn] at hi hle
  have g1 : (0 : Int) ≤ (k : Int) := by omega
  have g2 : (k : Int) < 8 := by omega
  have i1 : (0 : Int) ≤ (i : Int) := by omega
  have i2 : (i : Int) < (n : Int) := by omega
  have H := Lib.hid h
  have HV := Lib.hid (And.intro hv1 hd1)
  have HB := Lib.hid (And.intro hnl hbv1)
  have HW := Lib.hid hw1
  clear h hn hcc hgb hbv hv1 hd1 hbv1 hnl hw1 hlen
  go_enter Try.func16, Try.ntmps16
  go_wp2_with (first
    | (go_at_call 26; refine (has_dv H.out k hk).mono ?_; rintro e w' ⟨rfl, rfl⟩)
    | (go_at_call 24; refine (within_yes _ _ _ _ (by omega) (by omega)).mono ?_; rintro e w' ⟨rfl, rfl⟩))
  rw [← HW.out]
  refine (clone_bytes HB.out.1 HB.out.2).mono ?_
  rintro e w2 ⟨g, cap, rfl, hge, hb2, a2⟩
  have HE : Hid (w.heap.size ≤ g ∧ BV w2 (some ⟨g, 0, none⟩) (nth 64 (S k).L i) ∧ Dv w2 b z sz ops (rds + 1) S ∧ Did w b z S S w2) := Lib.hid ⟨Nat.le_trans HV.out.2.mv.size hge, hb2, HV.out.1.on a2, HV.out.2.next a2⟩
  clear hge hb2 a2
  go_wp2
  go_ret2
  exact ⟨g, cap, rfl, HE.out⟩

end Go.Proofs.Ytgehnljkiocijaa
