/- Proved: words for three devices that lie apart: what is done to one is not seen in the others. -/
import Derived.Test.YtgehnljkiocijaaRea
import Derived.Test.YtgehnljkiocijaaCop
namespace Go.Proofs.Ytgehnljkiocijaa
open Go.RowKit

/-- The blocks of zone 2: n of them, each as it hangs on its place. -/
def Two (S : Nat → Zr) (n : Nat) : Prop := (S 2).n = n ∧ ∀ j, j < n → nth 64 (S 2).L j = bk (j : Int)

/-- A device at the beginning: zone 2 has so many blocks. -/
structure One (w : World) (b z n : Nat) (wr : World) : Prop where
  dv : ∃ S, Dv wr b z 96 n 0 S ∧ Two S n ∧ ∀ g, Ft b z S g → w.heap.size ≤ g
  stands : At w wr

/-- Two devices apart. -/
structure Duo (w : World) (n rx ry bx zx b' z' : Nat) (Sx Sy : Nat → Zr) (wr : World) : Prop where
  x : Dv wr bx zx 96 (n + 1) rx Sx
  y : Dv wr b' z' 96 0 ry Sy
  tx : Two Sx n
  ty : Two Sy n
  xy : ∀ g, Ft b' z' Sy g → ¬ Ft bx zx Sx g
  fx : ∀ g, Ft bx zx Sx g → w.heap.size ≤ g
  fy : ∀ g, Ft b' z' Sy g → w.heap.size ≤ g
  stands : At w wr
theorem Duo.next {w : World} {n rx ry bx zx b' z' : Nat} {Sx Sy : Nat → Zr} {wr wx : World} (h : Duo w n rx ry bx zx b' z' Sx Sy wr) (ha : At wr wx) : Duo w n rx ry bx zx b' z' Sx Sy wx :=
  ⟨h.x.on ha, h.y.on ha, h.tx, h.ty, h.xy, h.fx, h.fy, h.stands.next ha⟩
/-- x was read. -/
theorem Duo.readx {w : World} {n rx ry bx zx b' z' : Nat} {Sx Sy : Nat → Zr} {wr wx : World} (h : Duo w n rx ry bx zx b' z' Sx Sy wr) (hv : Dv wx bx zx 96 (n + 1) (rx + 1) Sx) (hd : Did wr bx zx Sx Sx wx) : Duo w n (rx + 1) ry bx zx b' z' Sx Sy wx :=
  ⟨hv, (hd.other h.y h.xy).1, h.tx, h.ty, h.xy, h.fx, h.fy, (hd.at_ h.stands h.fx).1⟩
/-- y was read. -/
theorem Duo.ready {w : World} {n rx ry bx zx b' z' : Nat} {Sx Sy : Nat → Zr} {wr wx : World} (h : Duo w n rx ry bx zx b' z' Sx Sy wr) (hv : Dv wx b' z' 96 0 (ry + 1) Sy) (hd : Did wr b' z' Sy Sy wx) : Duo w n rx (ry + 1) bx zx b' z' Sx Sy wx :=
  ⟨(hd.other h.x (fun g hg hg' => h.xy g hg' hg)).1, hv, h.tx, h.ty, h.xy, h.fx, h.fy, (hd.at_ h.stands h.fy).1⟩

/-- And a third one beside them. -/
structure Tri (w : World) (m b z n bx zx b' z' : Nat) (Sx Sy : Nat → Zr) (wr : World) : Prop where
  duo : Duo w n 0 0 bx zx b' z' Sx Sy wr
  dv : ∃ S, Dv wr b z 96 m 0 S ∧ (∀ g, Ft bx zx Sx g → ¬ Ft b z S g) ∧ (∀ g, Ft b' z' Sy g → ¬ Ft b z S g) ∧ ∀ g, Ft b z S g → w.heap.size ≤ g
/-- The third one was written. -/
theorem Tri.did {w : World} {m' b z n bx zx b' z' : Nat} {Sx Sy S S1 : Nat → Zr} {wr wx : World} (hu : Duo w n 0 0 bx zx b' z' Sx Sy wr) (h1 : ∀ g, Ft bx zx Sx g → ¬ Ft b z S g) (h2 : ∀ g, Ft b' z' Sy g → ¬ Ft b z S g) (h3 : ∀ g, Ft b z S g → w.heap.size ≤ g)
    (hv : Dv wx b z 96 m' 0 S1) (hd : Did wr b z S S1 wx) : Tri w m' b z n bx zx b' z' Sx Sy wx := by
  obtain ⟨x1, x2⟩ := hd.other hu.x h1
  obtain ⟨y1, y2⟩ := hd.other hu.y h2
  obtain ⟨s1, s2⟩ := hd.at_ hu.stands h3
  exact ⟨⟨x1, y1, hu.tx, hu.ty, hu.xy, hu.fx, hu.fy, s1⟩, S1, hv, x2, y2, s2⟩
theorem tri_reset {w wr : World} {m b z n bx zx b' z' : Nat} {Sx Sy : Nat → Zr} (h : Tri w m b z n bx zx b' z' Sx Sy wr) (hm : m ≤ 1000) :
    Calls Try.prog 11 #[.pointer (some ⟨b, 0, none⟩), .int .i64 2] wr fun e w' => e = .returned (.int .i64 0) ∧ Tri w (m + 1) b z n bx zx b' z' Sx Sy w' := by
  obtain ⟨S, hv, h1, h2, h3⟩ := h.dv
  refine (reset_dv hv (by omega) 2 (by omega)).mono ?_
  rintro e w1 ⟨rfl, hv1, hd⟩
  exact ⟨rfl, Tri.did h.duo h1 h2 h3 hv1 hd⟩
theorem tri_append {w wo wr : World} {m b z n bx zx b' z' : Nat} {Sx Sy : Nat → Zr} (h : Tri w m b z n bx zx b' z' Sx Sy wo) (ha : At wo wr) (hm : m ≤ 1000) (pb : Nat) (L : List Nat) (hL : L.length = 64) (hb : BV wr (some ⟨pb, 0, none⟩) L) (hp : wo.heap.size ≤ pb) :
    Calls Try.prog 12 #[.pointer (some ⟨b, 0, none⟩), .int .i64 2, .slice (some ⟨pb, 0, none⟩) 64 64] wr fun e w' => ∃ a c : Nat, e = .returned (.tuple #[.int .i64 (a : Int), .int .i64 (c : Int)]) ∧ Tri w (m + 1) b z n bx zx b' z' Sx Sy w' := by
  obtain ⟨S, hv0, h1, h2, h3⟩ := h.dv
  have hv := hv0.on ha
  have hp' : ¬ Ft b z S pb := fun hg => by have := hv0.lt pb hg; omega
  by_cases hful : (S 2).n = 96
  · refine (append_full hv (by omega) 2 (by omega) hful _ _).mono ?_
    rintro e w1 ⟨rfl, hv1, hd⟩
    exact ⟨0, 9, rfl, Tri.did (h.duo.next ha) h1 h2 h3 hv1 hd⟩
  · refine (append_room hv (by omega) 2 (by omega) (Nat.lt_of_le_of_ne (hv.le 2 (by omega)) hful) pb 0 64 L hL hb hp').mono ?_
    rintro e w1 ⟨g, c, rfl, hv1, hd⟩
    exact ⟨_, 0, rfl, Tri.did (h.duo.next ha) h1 h2 h3 hv1 hd⟩
theorem tri_cut {w wr : World} {m b z n bx zx b' z' : Nat} {Sx Sy : Nat → Zr} (h : Tri w m b z n bx zx b' z' Sx Sy wr) :
    Calls Try.prog 22 #[.pointer (some ⟨b, 0, none⟩), .int .i64 0] wr fun e w' => e = .returned (.tuple #[]) ∧ Duo w n 0 0 bx zx b' z' Sx Sy w' := by
  obtain ⟨S, hv, h1, h2, h3⟩ := h.dv
  refine (cut_dv hv).mono ?_
  rintro e w1 ⟨rfl, hm⟩
  have hu := h.duo
  exact ⟨rfl, hu.x.keep hm h1, hu.y.keep hm h2, hu.tx, hu.ty, hu.xy, hu.fx, hu.fy, hm.at_ hu.stands h3⟩

/-- One block more in zone 2. -/
theorem one_append {w wo wr : World} {b z n : Nat} (h : One w b z n wo) (ha : At wo wr) (hn : n ≤ 60) (pb : Nat) (hb : BV wr (some ⟨pb, 0, none⟩) (bk (n : Int))) (hp : wo.heap.size ≤ pb) :
    Calls Try.prog 12 #[.pointer (some ⟨b, 0, none⟩), .int .i64 2, .slice (some ⟨pb, 0, none⟩) 64 64] wr fun e w' => ∃ v, e = .returned v ∧ One w b z (n + 1) w' := by
  obtain ⟨S, hv0, ⟨h1, h2⟩, h3⟩ := h.dv
  have hv := hv0.on ha
  have hp' : ¬ Ft b z S pb := fun hg => by have := hv0.lt pb hg; omega
  refine (append_room hv (by omega) 2 (by omega) (by rw [h1]; omega) pb 0 64 (bk n) (bk_len n) hb hp').mono ?_
  rintro e w1 ⟨g, c, rfl, hv1, hd⟩
  obtain ⟨s1, s2⟩ := hd.at_ (h.stands.next ha) h3
  refine ⟨_, rfl, ⟨_, hv1, ⟨by rw [up_same, h1], fun j hj => ?_⟩, s2⟩, s1⟩
  rw [up_same]
  have hl := (hv.row 2 (by omega)).len
  rw [h1] at hl
  by_cases e : j = n
  · subst e; exact nth_new hl (bk_len _)
  · show nth 64 ((S 2).L ++ bk n) j = bk j
    rw [nth_old hl _ j (by omega)]; exact h2 j (by omega)
theorem duo_px {w wr : World} {n rx ry bx zx b' z' : Nat} {Sx Sy : Nat → Zr} (h : Duo w n rx ry bx zx b' z' Sx Sy wr) :
    Calls Try.prog 14 #[.pointer (some ⟨bx, 0, none⟩), .int .i64 2] wr fun e w' => e = .returned (.tuple #[.int .i64 (n : Int), .int .i64 0]) ∧ wr = w' := by
  have := pointer_dv h.x 2 (by omega)
  rwa [h.tx.1] at this
theorem duo_py {w wr : World} {n rx ry bx zx b' z' : Nat} {Sx Sy : Nat → Zr} (h : Duo w n rx ry bx zx b' z' Sx Sy wr) :
    Calls Try.prog 14 #[.pointer (some ⟨b', 0, none⟩), .int .i64 2] wr fun e w' => e = .returned (.tuple #[.int .i64 (n : Int), .int .i64 0]) ∧ wr = w' := by
  have := pointer_dv h.y 2 (by omega)
  rwa [h.ty.1] at this
theorem duo_rx {w wr : World} {n rx ry bx zx b' z' : Nat} {Sx Sy : Nat → Zr} (h : Duo w n rx ry bx zx b' z' Sx Sy wr) (hr : rx ≤ 1000) (j : Nat) (hj : j < n) :
    Calls Try.prog 16 #[.pointer (some ⟨bx, 0, none⟩), .int .i64 2, .int .i64 (j : Int)] wr fun e w' => ∃ g cap, e = .returned (.tuple #[.slice (some ⟨g, 0, none⟩) 64 cap, .int .i64 0]) ∧ BV w' (some ⟨g, 0, none⟩) (bk (j : Int)) ∧ ¬ Ft b' z' Sy g ∧ Duo w n (rx + 1) ry bx zx b' z' Sx Sy w' := by
  refine (read_dv h.x (by omega) 2 (by omega) j (by rw [h.tx.1]; exact hj)).mono ?_
  rintro e w1 ⟨g, cap, rfl, hg, hb, hv, hd⟩
  rw [h.tx.2 j hj] at hb
  exact ⟨g, cap, rfl, hb, fun hf => by have := h.y.lt g hf; omega, h.readx hv hd⟩
theorem duo_ry {w wr : World} {n rx ry bx zx b' z' : Nat} {Sx Sy : Nat → Zr} (h : Duo w n rx ry bx zx b' z' Sx Sy wr) (hr : ry ≤ 1000) (j : Nat) (hj : j < n) {gp : Nat} {L : List Nat} (hp : BV wr (some ⟨gp, 0, none⟩) L) (hf : ¬ Ft b' z' Sy gp) :
    Calls Try.prog 16 #[.pointer (some ⟨b', 0, none⟩), .int .i64 2, .int .i64 (j : Int)] wr fun e w' => ∃ g cap, e = .returned (.tuple #[.slice (some ⟨g, 0, none⟩) 64 cap, .int .i64 0]) ∧ BV w' (some ⟨g, 0, none⟩) (bk (j : Int)) ∧ BV w' (some ⟨gp, 0, none⟩) L ∧ Duo w n rx (ry + 1) bx zx b' z' Sx Sy w' := by
  refine (read_dv h.y (by omega) 2 (by omega) j (by rw [h.ty.1]; exact hj)).mono ?_
  rintro e w1 ⟨g, cap, rfl, _, hb, hv, hd⟩
  rw [h.ty.2 j hj] at hb
  exact ⟨g, cap, rfl, hb, hp.mv hd.mv hf, h.ready hv hd⟩
theorem bytes_same {w : World} {A1 A2 : Option Addr} (c1 c2 : Nat) (k : Int) (h1 : BV w A1 (bk k)) (h2 : BV w A2 (bk k)) :
    Calls Try.prog 23 #[.slice A1 64 c1, .slice A2 64 c2] w fun e w' => e = .returned (.bool true) ∧ At w w' := by
  refine (bytes_any A1 A2 64 c1 c2 (bk k) (bk k) w (by omega) (bk_len k) (bk_len k) (bk_byte k) (bk_byte k) h1 h2).mono ?_
  rintro e w' ⟨rfl, m, rfl⟩
  rw [decide_eq_true rfl]
  exact ⟨rfl, (At.start w).drewN m⟩
theorem duo_append {w wo wr : World} {n rx ry bx zx b' z' : Nat} {Sx Sy : Nat → Zr} (h : Duo w n rx ry bx zx b' z' Sx Sy wo) (ha : At wo wr) (hn : n ≤ 60) (pb : Nat) (L : List Nat) (hL : L.length = 64) (hb : BV wr (some ⟨pb, 0, none⟩) L) (hp : wo.heap.size ≤ pb) :
    Calls Try.prog 12 #[.pointer (some ⟨bx, 0, none⟩), .int .i64 2, .slice (some ⟨pb, 0, none⟩) 64 64] wr fun e w' => e = .returned (.tuple #[.int .i64 (n : Int), .int .i64 0]) ∧ At w w' := by
  have hp' : ¬ Ft bx zx Sx pb := fun hg => by have := h.x.lt pb hg; omega
  refine (append_room (h.x.on ha) (by omega) 2 (by omega) (by rw [h.tx.1]; omega) pb 0 64 L hL hb hp').mono ?_
  rintro e w1 ⟨g, c, rfl, hv1, hd⟩
  rw [h.tx.1]
  exact ⟨rfl, (hd.at_ (h.stands.next ha) h.fx).1⟩

end Go.Proofs.Ytgehnljkiocijaa
