/- Proved: the one landed map of a law, in its state; what Apply leaves of it. -/
import Derived.Test.YtcffoebpgjonmaaPy
namespace Go.Proofs.Ytcffoebpgjonmaa
open Go.RowKit
open Em (Did)
open Iv (In Nm Is Vm Va Sv EV Ow allB nf)

/-- The map at b in the state M, made since w0; of so many transactions at most each block has a version. -/
structure Mt (w0 w : World) (b : Nat) (F : Nat → Prop) (M : Em.St) (k : Nat) : Prop where
  m : Em.Mp w b M F
  fg : ∀ g, F g → w0.heap.size ≤ g
  at_ : At w0 w
  n50 : M.n = 50
  c : M.c ≤ k
  up : Up M
section
variable {w0 w w' : World} {b k : Nat} {F : Nat → Prop} {M : Em.St}
theorem Mt.on (h : Mt w0 w b F M k) (hA : At w w') : Mt w0 w' b F M k := ⟨h.m.on hA, h.fg, h.at_.next hA, h.n50, h.c, h.up⟩
theorem Mt.start (h : Em.Mp w b (Em.st0 50) F) (hF : ∀ g, F g → w0.heap.size ≤ g) (hA : At w0 w) : Mt w0 w b F (Em.st0 50) 0 := ⟨h, hF, hA, rfl, Nat.le_refl _, up_st0 50⟩
theorem Mt.apply (h : Mt w0 w b F M k) (T : Int) (X : Option Addr) (Q : List Pt) (n c : Nat) (hn : Q.length = n) (hl : n ≤ 1000000) (hv : PV w0 X Q) (hB : AllBy Q) (hk : k < 20000) :
    Calls Try.prog 12 #[.pointer (some ⟨b, 0, none⟩), .agg #[.int .i64 T, .slice X n c]] w fun e w' => ∃ F', e = .returned (.int .i64 (Em.rf M T Q)) ∧ Mt w0 w' b F' (Em.took M T Q) (k + 1) := by
  refine (Em.apply_any h.m h.at_ h.fg T X Q n c hn hl hv hB (by have := h.c; omega)).mono ?_
  rintro e w' ⟨F', rfl, hm, hd⟩
  refine ⟨F', rfl, hm, fun g hg => ?_, hd.at_ h.at_ h.fg, (Em.took_n _ _ _).trans h.n50, Nat.le_trans (Em.took_c _ _ _) (by have := h.c; omega), up_took h.m.ok h.up T Q⟩
  rcases hd.new g hg with h1 | h1
  · exact h.fg g h1
  · exact Nat.le_trans h.at_.size h1
end
theorem ck_cases (M : Em.St) (Q : List Tx) (t : Int) (R W : List (Int × Int)) : ck M Q t R W = 0 ∨ ck M Q t R W = 8 := by
  unfold ck
  split
  · exact Or.inl rfl
  · split
    · exact Or.inr rfl
    · exact Or.inl rfl
theorem ck_8 {M : Em.St} {Q : List Tx} {t : Int} {R W : List (Int × Int)} (h : ck M Q t R W = 8) : W ≠ [] ∧ (Cf M Q t R ∨ Cf M Q t W) := by
  unfold ck at h
  split at h
  · cases h
  · rename_i h1
    split at h
    · rename_i h2; exact ⟨h1, h2⟩
    · cases h

end Go.Proofs.Ytcffoebpgjonmaa
