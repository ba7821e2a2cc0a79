/- Proved: sets that lie apart: what is done to one leaves the others as they are; an Add for which there is room. -/
import Derived.Test.YtbhlpdfejnfeeaaRoo
namespace Go.Proofs.Ytbhlpdfejnfeeaa
open Go.RowKit

/-- Two sets lie apart. -/
def Ap (b : Nat) (v : Value) (b' : Nat) (v' : Value) : Prop := ∀ g, Ft b v g → ¬ Ft b' v' g
theorem Ap.symm {b b' : Nat} {v v' : Value} (h : Ap b v b' v') : Ap b' v' b v := fun g h1 h2 => h g h2 h1
theorem Ap.did {w w' : World} {b b' : Nat} {v v2 v' : Value} (h : Ap b v b' v') (hd : Did w b v v2 w') (hl : ∀ g, Ft b' v' g → g < w.heap.size) : Ap b v2 b' v' := fun g h1 h2 => by
  rcases hd.ft g h1 with h3 | h3
  · exact h g h3 h2
  · have := hl g h2; omega
theorem ap_new {b b' : Nat} (h : b < b') : Ap b (.slice none 0 0) b' (.slice none 0 0) := fun g h1 h2 => by
  rcases h1 with rfl | h1
  · rcases h2 with h2 | h2
    · omega
    · cases h2
  · cases h1
theorem St.other {w wx w' : World} {b b' : Nat} {v v2 v' : Value} {m m' : Int} {L L' : List (Int × Int)} (h' : St w wx b' v' m' L') (h : St w wx b v m L) (hd : Did wx b v v2 w') (ap : Ap b v b' v') : St w w' b' v' m' L' :=
  ⟨h'.sv.keep hd.mv (fun g hg h => ap g h hg), hd.mv.at_ h.at_ h.ft, h'.ft⟩

/-- Two sets of a call's own. -/
structure Duo (w w' : World) (x y : Nat) (u v : Value) (m : Int) (L M : List (Int × Int)) : Prop where
  a : St w w' x u m L
  b : St w w' y v m M
  ab : Ap x u y v
theorem Duo.on {w w1 w2 : World} {x y : Nat} {u v : Value} {m : Int} {L M : List (Int × Int)} (h : Duo w w1 x y u v m L M) (ha : At w1 w2) : Duo w w2 x y u v m L M := ⟨h.a.on ha, h.b.on ha, h.ab⟩
theorem Duo.did_a {w w1 w2 : World} {x y : Nat} {u u' v : Value} {m : Int} {L L' M : List (Int × Int)} (h : Duo w w1 x y u v m L M) (hs : Sv w2 x u' m L') (hd : Did w1 x u u' w2) : Duo w w2 x y u' v m L' M :=
  ⟨h.a.did hs hd, h.b.other h.a hd h.ab, h.ab.did hd h.b.sv.lt⟩
theorem Duo.did_b {w w1 w2 : World} {x y : Nat} {u v v' : Value} {m : Int} {L M M' : List (Int × Int)} (h : Duo w w1 x y u v m L M) (hs : Sv w2 y v' m M') (hd : Did w1 y v v' w2) : Duo w w2 x y u v' m L M' :=
  ⟨h.a.other h.b hd h.ab.symm, h.b.did hs hd, (h.ab.symm.did hd h.a.sv.lt).symm⟩

/-- Three sets of a call's own. -/
structure Tri (w w' : World) (x y z : Nat) (u v t : Value) (m : Int) (L M K : List (Int × Int)) : Prop where
  a : St w w' x u m L
  b : St w w' y v m M
  c : St w w' z t m K
  ab : Ap x u y v
  ac : Ap x u z t
  bc : Ap y v z t
theorem Tri.on {w w1 w2 : World} {x y z : Nat} {u v t : Value} {m : Int} {L M K : List (Int × Int)} (h : Tri w w1 x y z u v t m L M K) (ha : At w1 w2) : Tri w w2 x y z u v t m L M K := ⟨h.a.on ha, h.b.on ha, h.c.on ha, h.ab, h.ac, h.bc⟩
theorem Tri.did_a {w w1 w2 : World} {x y z : Nat} {u u' v t : Value} {m : Int} {L L' M K : List (Int × Int)} (h : Tri w w1 x y z u v t m L M K) (hs : Sv w2 x u' m L') (hd : Did w1 x u u' w2) : Tri w w2 x y z u' v t m L' M K :=
  ⟨h.a.did hs hd, h.b.other h.a hd h.ab, h.c.other h.a hd h.ac, h.ab.did hd h.b.sv.lt, h.ac.did hd h.c.sv.lt, h.bc⟩
theorem Tri.did_b {w w1 w2 : World} {x y z : Nat} {u v v' t : Value} {m : Int} {L M M' K : List (Int × Int)} (h : Tri w w1 x y z u v t m L M K) (hs : Sv w2 y v' m M') (hd : Did w1 y v v' w2) : Tri w w2 x y z u v' t m L M' K :=
  ⟨h.a.other h.b hd h.ab.symm, h.b.did hs hd, h.c.other h.b hd h.bc, (h.ab.symm.did hd h.a.sv.lt).symm, h.ac, h.bc.did hd h.c.sv.lt⟩
theorem Tri.did_c {w w1 w2 : World} {x y z : Nat} {u v t t' : Value} {m : Int} {L M K K' : List (Int × Int)} (h : Tri w w1 x y z u v t m L M K) (hs : Sv w2 z t' m K') (hd : Did w1 z t t' w2) : Tri w w2 x y z u v t' m L M K' :=
  ⟨h.a.other h.c hd h.ac.symm, h.b.other h.c hd h.bc.symm, h.c.did hs hd, h.ab, (h.ac.symm.did hd h.a.sv.lt).symm, (h.bc.symm.did hd h.b.sv.lt).symm⟩

/-- Add, where what is there and what is added are few enough. -/
theorem Adds.ok {b : Nat} {v : Value} {most : Int} {L l X : List (Int × Int)} {w w' : World} {e : Ending} (h : Adds b v most L l w e w') (hv : allB l = true) (hX : Is X L) (hXv : ∀ e ∈ X, Vm e) (hlen : ((X ++ l).length : Int) ≤ most) :
    ∃ (v' : Value) (L' : List (Int × Int)), e = .returned (.int .i64 0) ∧ Sv w' b v' most L' ∧ Did w b v v' w' ∧ Is (X ++ l) L' := by
  have hlv : ∀ e ∈ X ++ l, Vm e := fun e he => by
    rcases List.mem_append.1 he with he | he
    · exact hXv e he
    · exact ((allB_iff l).1 hv e he).vm
  obtain ⟨c, v', L', rfl, hs, hd, h | h | h⟩ := h
  · rw [hv] at h; cases h.2.2
  · obtain ⟨rfl, _, h1, _⟩ := h
    exact ⟨v', L', rfl, hs, hd, is_app hX h1⟩
  · obtain ⟨rfl, rfl, _, M', h1, h2⟩ := h
    have := is_len hlv (is_app hX h1)
    omega

end Go.Proofs.Ytbhlpdfejnfeeaa
