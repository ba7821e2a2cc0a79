/- Proved: a book of the law's own: what it may turn is new; Open, whatever the time is. -/
import Derived.Test.YtjgmgkglpfcihaaAwk
namespace Go.Proofs.Ytjgmgkglpfcihaa
open Go.RowKit

/-- A time that may be. -/
def May (x : Int) : Prop := 0 ≤ x ∧ x ≤ 1099511627776
instance (x : Int) : Decidable (May x) := by unfold May; exact inferInstance
/-- What Open tells, and what it leaves. -/
def oe (S : St) (x : Int) : Int := if May x then (if (S.H.length : Int) < S.most then 0 else 6) else 1
def oh (S : St) (x : Int) : Int := if May x then (if (S.H.length : Int) < S.most then (S.g : Int) + 1 else 0) else 0
def oS (S : St) (x : Int) : St := if May x then (if (S.H.length : Int) < S.most then op S x else S) else S
theorem oS_g (S : St) (x : Int) : (oS S x).g ≤ S.g + 1 := by
  unfold oS
  split
  · split
    · exact Nat.le_refl _
    · omega
  · omega
theorem oS_most (S : St) (x : Int) : (oS S x).most = S.most := by
  unfold oS
  split
  · split <;> rfl
  · rfl

/-- A book that the walk has made: b and mb are new since w0. -/
structure Hs (w0 : World) (b mb : Nat) (S : St) (wr : World) : Prop where
  bk : Bk wr b mb S
  stands : At w0 wr
  nb : w0.heap.size ≤ b
  nm : w0.heap.size ≤ mb
section
variable {w0 wr wx : World} {b mb : Nat} {S S' : St}
theorem Hs.on (h : Hs w0 b mb S wr) (ha : At wr wx) : Hs w0 b mb S wx := ⟨h.bk.on ha, h.stands.next ha, h.nb, h.nm⟩
theorem Hs.turn (h : Hs w0 b mb S wr) (hb : Bk wx b mb S') (hm : Mv (Bf b mb) wr wx) : Hs w0 b mb S' wx :=
  ⟨hb, hm.at_ h.stands (by rintro g (rfl | rfl); exact h.nb; exact h.nm), h.nb, h.nm⟩
theorem Hs.start {m : Int} (h : Bk wx b mb (st0 m)) (h1 : wr.heap.size ≤ b) (h2 : wr.heap.size ≤ mb) (h3 : At wr wx) (ha : At w0 wr) : Hs w0 b mb (st0 m) wx :=
  ⟨h, ha.next h3, Nat.le_trans ha.size h1, Nat.le_trans ha.size h2⟩
theorem open_all (h : Bk wr b mb S) (x : Int) (hg : S.g < 1000000) : Calls Try.prog 10 #[.pointer (some ⟨b, 0, none⟩), .int .i64 x] wr fun e w' => e = .returned (.tuple #[.int .i64 (oh S x), .int .i64 (oe S x)]) ∧ Bk w' b mb (oS S x) ∧ Mv (Bf b mb) wr w' := by
  unfold oh oe oS
  by_cases hx : May x
  · by_cases hl : (S.H.length : Int) < S.most
    · rw [if_pos hx, if_pos hl, if_pos hx, if_pos hl, if_pos hx, if_pos hl]
      exact open_ok h x hx.1 hx.2 hl hg
    · rw [if_pos hx, if_neg hl, if_pos hx, if_neg hl, if_pos hx, if_neg hl]
      exact (open_many h x hx.1 hx.2 hl).mono fun e w' ⟨he, ha⟩ => ⟨he, h.on ha, Mv.of_below _ ha⟩
  · rw [if_neg hx, if_neg hx, if_neg hx]
    exact (open_arg _ x hx wr).mono fun e w' ⟨he, ha⟩ => ⟨he, by rw [← ha]; exact h, by rw [← ha]; exact Mv.refl _ _⟩
theorem Hs.opens (h : Hs w0 b mb S wr) (x : Int) (hg : S.g < 1000000) : Calls Try.prog 10 #[.pointer (some ⟨b, 0, none⟩), .int .i64 x] wr fun e w' => e = .returned (.tuple #[.int .i64 (oh S x), .int .i64 (oe S x)]) ∧ Hs w0 b mb (oS S x) w' :=
  (open_all h.bk x hg).mono fun _ _ ⟨he, hb, hm⟩ => ⟨he, h.turn hb hm⟩
theorem Hs.closes (h : Hs w0 b mb S wr) (k : Int) (hk : (ky k).wf = true) : Calls Try.prog 12 #[.pointer (some ⟨b, 0, none⟩), .int .i64 k] wr fun e w' => e = .returned (.int .i64 (cd S k)) ∧ Hs w0 b mb (cl S k) w' :=
  (close_bk h.bk k hk).mono fun _ _ ⟨he, hb, hm⟩ => ⟨he, h.turn hb hm⟩
end

end Go.Proofs.Ytjgmgkglpfcihaa
