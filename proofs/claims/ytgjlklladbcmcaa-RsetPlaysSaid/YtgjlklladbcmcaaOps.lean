/- Proved: what Apply, Write and Read answer in the law's world, and what they leave of it. -/
import Derived.Test.YtgjlklladbcmcaaFrs
namespace Go.Proofs.Ytgjlklladbcmcaa
open Go.RowKit
open Em (Did)

/-- What Read of an extent answers: 0 where it is none that is refused. -/
def rcode (n : Nat) (L : List (Int × Int)) (a m : Int) : Int :=
  if ¬ (1 ≤ m ∧ m ≤ 16) then 3 else if ¬ (0 ≤ a ∧ a + m ≤ (n : Int)) then 2 else if 64 < (Iv.nf (L ++ [(a, m)])).length then 7 else 0
/-- The read set behind it, the reads, the bytes. -/
def rdL (n : Nat) (L : List (Int × Int)) (a m : Int) : List (Int × Int) := if rcode n L a m = 0 then Iv.nf (L ++ [(a, m)]) else L
def rdR (M : Em.St) (B : St) (t : Int) (L : List (Int × Int)) (R : List Rd) (a m : Int) : List Rd := if rcode M.n L a m = 0 then R ++ sees M B t a.toNat m.toNat else R
def rdB (M : Em.St) (B : St) (t : Int) (L : List (Int × Int)) (a m : Int) : List Nat := if rcode M.n L a m = 0 then byt (sees M B t a.toNat m.toNat) else []
theorem rcode_0 {n : Nat} {L : List (Int × Int)} {a m : Int} (h : rcode n L a m = 0) : (1 ≤ m ∧ m ≤ 16) ∧ (0 ≤ a ∧ a + m ≤ (n : Int)) ∧ (Iv.nf (L ++ [(a, m)])).length ≤ 64 := by
  unfold rcode at h
  by_cases h1 : 1 ≤ m ∧ m ≤ 16
  · rw [if_neg (not_not_intro h1)] at h
    by_cases h2 : 0 ≤ a ∧ a + m ≤ (n : Int)
    · rw [if_neg (not_not_intro h2)] at h
      by_cases h3 : 64 < (Iv.nf (L ++ [(a, m)])).length
      · rw [if_pos h3] at h; omega
      · exact ⟨h1, h2, by omega⟩
    · rw [if_pos h2] at h; omega
  · rw [if_pos h1] at h; omega
theorem rcode_ok {n : Nat} {L : List (Int × Int)} {a m : Int} (h1 : 1 ≤ m ∧ m ≤ 16) (h2 : 0 ≤ a ∧ a + m ≤ (n : Int)) (h3 : (Iv.nf (L ++ [(a, m)])).length ≤ 64) : rcode n L a m = 0 := by
  unfold rcode; rw [if_neg (not_not_intro h1), if_neg (not_not_intro h2), if_neg (by omega)]
theorem rcode_big {n : Nat} {L : List (Int × Int)} {a m : Int} (h1 : 1 ≤ m ∧ m ≤ 16) (h2 : 0 ≤ a ∧ a + m ≤ (n : Int)) (h3 : 64 < (Iv.nf (L ++ [(a, m)])).length) : rcode n L a m = 7 := by
  unfold rcode; rw [if_neg (not_not_intro h1), if_neg (not_not_intro h2), if_pos h3]
theorem rcode_range {n : Nat} {L : List (Int × Int)} {a m : Int} (h1 : 1 ≤ m ∧ m ≤ 16) (h2 : ¬ (0 ≤ a ∧ a + m ≤ (n : Int))) : rcode n L a m = 2 := by
  unfold rcode; rw [if_neg (not_not_intro h1), if_pos h2]
theorem rcode_len {n : Nat} {L : List (Int × Int)} {a m : Int} (h1 : ¬ (1 ≤ m ∧ m ≤ 16)) : rcode n L a m = 3 := by
  unfold rcode; rw [if_pos h1]
theorem rcode_cases (n : Nat) (L : List (Int × Int)) (a m : Int) : rcode n L a m = 0 ∨ rcode n L a m = 2 ∨ rcode n L a m = 3 ∨ rcode n L a m = 7 := by
  unfold rcode
  split
  · exact Or.inr (Or.inr (Or.inl rfl))
  · split
    · exact Or.inr (Or.inl rfl)
    · split
      · exact Or.inr (Or.inr (Or.inr rfl))
      · exact Or.inl rfl
theorem sees_by {M : Em.St} {B : St} (hM : Em.Ok M) (hB : Ok B) (t : Int) (a n : Nat) : ∀ r ∈ sees M B t a n, r.d.length = 40 ∧ AllB r.d := fun r hr => by
  obtain ⟨i, _, rfl⟩ := List.mem_map.1 hr
  exact see_by hM hB t _
theorem rdB_by {M : Em.St} {B : St} (hM : Em.Ok M) (hB : Ok B) (t : Int) (L : List (Int × Int)) (a m : Int) : AllB (rdB M B t L a m) ∧ (rdB M B t L a m).length ≤ 640 := by
  unfold rdB
  by_cases h : rcode M.n L a m = 0
  · rw [if_pos h, byt_len _ fun r hr => (sees_by hM hB t _ _ r hr).1, sees_len]
    have := (rcode_0 h).1
    exact ⟨byt_by fun r hr => (sees_by hM hB t _ _ r hr).2, by omega⟩
  · rw [if_neg h]; exact ⟨fun c hc => (by cases hc), by simp⟩

/-- Only the object numbered i has got other blocks, and only new ones. -/
def Fo (F : Nat → Nat → Prop) (i : Nat) (F' : Nat → Nat → Prop) (w : World) : Prop := (∀ j, j ≠ i → F' j = F j) ∧ ∀ g, F' i g → F i g ∨ w.heap.size ≤ g
theorem Fo.refl (F : Nat → Nat → Prop) (i : Nat) (w : World) : Fo F i F w := ⟨fun _ _ => rfl, fun _ h => Or.inl h⟩
/-- A block of no object. -/
def Fre (F : Nat → Nat → Prop) (w : World) (g : Nat) : Prop := (∀ i, ¬ F i g) ∧ g < w.heap.size
theorem Fre.turn {F F' : Nat → Nat → Prop} {i g : Nat} {w w' : World} (h : Fre F w g) (hF : Fo F i F' w) (hs : w.heap.size ≤ w'.heap.size) : Fre F' w' g := by
  refine ⟨fun j hj => ?_, Nat.lt_of_lt_of_le h.2 hs⟩
  by_cases e : j = i
  · subst e
    rcases hF.2 g hj with h1 | h1
    · exact h.1 _ h1
    · have := h.2; omega
  · rw [hF.1 j e] at hj; exact h.1 j hj
section
variable {w0 w : World} {F : Nat → Nat → Prop} {A : Ad} {M : Em.St} {B : St} {t : Int} {L : List (Int × Int)} {R : List Rd}
/-- Apply. -/
def ApplyW (w0 : World) (F : Nat → Nat → Prop) (A : Ad) (M : Em.St) (B : St) (t : Int) (L : List (Int × Int)) (R : List Rd) (T : Int) (P : List Pt) (w : World) (e : Ending) (w' : World) : Prop :=
  ∃ F', e = .returned (.int .i64 (Em.rf M T P)) ∧ Ww w0 w' F' A (Em.took M T P) B t L R ∧ Fo F 0 F' w ∧ Mv (F 0) w w'
theorem Ww.apply (h : Ww w0 w F A M B t L R) (T : Int) (X : Option Addr) (P : List Pt) (n c : Nat) (hn : P.length = n) (hl : n ≤ 1000000) {wv : World} (hA : At wv w) (hF : ∀ g, F 0 g → wv.heap.size ≤ g) (hv : PV wv X P) (hB : AllBy P) (hc : M.c < 1000) :
    Calls Try.prog 16 #[.pointer (some ⟨A.bm, 0, none⟩), .agg #[.int .i64 T, .slice X n c]] w (ApplyW w0 F A M B t L R T P w) :=
  (Em.apply_any h.m hA hF T X P n c hn hl hv hB hc).mono fun _ _ ⟨_, he, hm, hd⟩ => ⟨_, he, h.turnM hm hd, ⟨fun _ hj => upd_ne _ _ hj, by rw [upd_at]; exact hd.new⟩, hd.mv⟩
theorem Ww.apply_far (h : Ww w0 w F A M B t L R) (T : Int) (X : Option Addr) (P : List Pt) (n c : Nat) (hn : P.length = n) (hl : n ≤ 1000000) (hv : ∀ W, Mv (F 0) w W → PV W X P) (hB : AllBy P) (hc : M.c < 1000) :
    Calls Try.prog 16 #[.pointer (some ⟨A.bm, 0, none⟩), .agg #[.int .i64 T, .slice X n c]] w (ApplyW w0 F A M B t L R T P w) :=
  (Em.apply_far h.m T X P n c hn hl hv hB hc).mono fun _ _ ⟨_, he, hm, hd⟩ => ⟨_, he, h.turnM hm hd, ⟨fun _ hj => upd_ne _ _ hj, by rw [upd_at]; exact hd.new⟩, hd.mv⟩
theorem Ww.applyz (h : Ww w0 w F A M B t L R) (T : Int) (X : Option Addr) (P : List Pt) (n c : Nat) (hn : P.length = n) (hl : n ≤ 1000000) (hv : PV w0 X P) (hB : AllBy P) (hc : M.c < 1000) :
    Calls Try.prog 16 #[.pointer (some ⟨A.bm, 0, none⟩), .agg #[.int .i64 T, .slice X n c]] w fun e w' => ∃ z F', e = .returned (.int .i64 z) ∧ Ww w0 w' F' A (Em.took M T P) B t L R ∧ Fo F 0 F' w ∧ Mv (F 0) w w' :=
  (h.apply T X P n c hn hl h.at_ (h.al.ge 0) hv hB hc).mono fun _ _ ⟨F', he, hW, hf, hm⟩ => ⟨_, F', he, hW, hf, hm⟩
/-- Write. -/
theorem Ww.write (h : Ww w0 w F A M B t L R) (X : Option Addr) (P : List Pt) (n c : Nat) (hn : P.length = n) (hl : n ≤ 1000000) (hv : PV w X P) (hB : AllBy P) :
    Calls Try.prog 14 #[.pointer (some ⟨A.bb, 0, none⟩), .slice X n c] w fun e w' => e = .returned (.int .i64 (rf B P)) ∧ Ww w0 w' F A M (wr B P) t L R ∧ Mv (fun g => g = A.mb) w w' :=
  (write_any h.b X P n c hn hl hv hB).mono fun _ _ ⟨he, hb, hm⟩ => ⟨he, h.turnB hb hm, hm⟩
/-- Read. -/
def ReadW (w0 : World) (F : Nat → Nat → Prop) (A : Ad) (M : Em.St) (B : St) (t : Int) (L : List (Int × Int)) (R : List Rd) (a m : Int) (w : World) (e : Ending) (w' : World) : Prop :=
  ∃ X c F', e = .returned (.tuple #[.slice X (rdB M B t L a m).length c, .int .i64 (rcode M.n L a m)]) ∧ BV w' X (rdB M B t L a m) ∧ (rcode M.n L a m = 0 → ∃ g, X = some ⟨g, 0, none⟩ ∧ Fre F' w' g ∧ (rdB M B t L a m).length ≤ c) ∧ Ww w0 w' F' A M B t (rdL M.n L a m) (rdR M B t L R a m) ∧ Fo F 2 F' w ∧ Mv (F 2) w w'
theorem Ww.read (h : Ww w0 w F A M B t L R) (hR : R.length ≤ 100000) (a m : Int) :
    Calls Try.prog 11 #[.pointer (some ⟨A.bv, 0, none⟩), .agg #[.int .i64 a, .int .i64 m]] w (ReadW w0 F A M B t L R a m w) := by
  have hno : rcode M.n L a m ≠ 0 → ∀ z e w', rcode M.n L a m = z → Gives (.tuple #[.slice none 0 0, .int .i64 z]) w e w' → ReadW w0 F A M B t L R a m w e w' := fun h0 z e w' hz ⟨he, hA⟩ => by
    refine ⟨none, 0, F, ?_, ?_, fun e => absurd e h0, ?_, Fo.refl _ _ _, Mv.of_below _ hA⟩
    · unfold rdB; rw [if_neg h0, hz]; exact he
    · unfold rdB; rw [if_neg h0]; exact BV.nil _ _
    · unfold rdL rdR; rw [if_neg h0, if_neg h0]; exact h.on hA
  by_cases h1 : 1 ≤ m ∧ m ≤ 16
  · by_cases h2 : 0 ≤ a ∧ a + m ≤ (M.n : Int)
    · obtain ⟨x, rfl⟩ : ∃ x : Nat, a = (x : Int) := ⟨a.toNat, by omega⟩
      obtain ⟨y, rfl⟩ : ∃ y : Nat, m = (y : Int) := ⟨m.toNat, by omega⟩
      obtain ⟨mb', D, hd, hm⟩ := h.m
      refine (read_any (h.v.more fun g _ hg => Or.inl hg) hm h.b (P := fun g => F 2 g ∨ w.heap.size ≤ g) (fun g hg => Or.inr hg) (fun g hg hp => ?_) (fun hp => ?_) (fun hp => ?_) hR x y (by omega) (by omega) (by omega)).mono ?_
      · rcases hp with hp | hp
        · exact h.al.far (i := 0) (j := 2) (by decide) g hg hp
        · have := h.m.ft g hg; omega
      · rcases hp with hp | hp
        · exact h.al.far (i := 1) (j := 2) (by decide) _ h.f1.1 hp
        · have := h.al.lt _ _ h.f1.1; omega
      · rcases hp with hp | hp
        · exact h.al.far (i := 1) (j := 2) (by decide) _ h.f1.2 hp
        · have := h.al.lt _ _ h.f1.2; omega
      · have hfo : ∀ (w' : World) (g : Nat), Fo F 2 (upd F 2 (nf2 F w w' g)) w := fun w' g => ⟨fun j hj => upd_ne _ _ hj, fun q hq => by rw [upd_at] at hq; exact hq.1.1⟩
        rintro e w' ⟨hmv, ⟨hle, g, c, hv, he, hb, hcc, hg⟩ | ⟨hgt, hv, he⟩⟩
        · have h0 : rcode M.n L (x : Int) (y : Int) = 0 := rcode_ok h1 h2 hle
          have hbl : (byt (sees M B t x y)).length = 40 * y := by
            rw [byt_len _ fun r hr => (sees_by h.m.ok h.b.ok t _ _ r hr).1, sees_len]
          have eB : rdB M B t L (x : Int) (y : Int) = byt (sees M B t x y) := by unfold rdB; rw [if_pos h0, Int.toNat_natCast, Int.toNat_natCast]
          have eR : rdR M B t L R (x : Int) (y : Int) = R ++ sees M B t x y := by unfold rdR; rw [if_pos h0, Int.toNat_natCast, Int.toNat_natCast]
          have eL : rdL M.n L (x : Int) (y : Int) = Iv.nf (L ++ [((x : Int), (y : Int))]) := if_pos h0
          have hgl : g < w'.heap.size := by
            obtain ⟨b', o', he', hlt', _⟩ := hb.pos (by rw [hbl]; omega)
            injection he' with he'
            injection he' with he1 he2
            rw [he1]; exact hlt'
          have hfre : Fre (upd F 2 (nf2 F w w' g)) w' g := ⟨fun i hi => by
            by_cases e : i = 2
            · subst e; rw [upd_at] at hi; exact hi.1.2 rfl
            · rw [upd_ne _ _ e] at hi; have := h.al.lt i g hi; omega, hgl⟩
          refine ⟨some ⟨g, 0, none⟩, c, upd F 2 (nf2 F w w' g), ?_, ?_, fun _ => ⟨g, rfl, hfre, ?_⟩, ?_, hfo w' g, hmv.more fun g hg => hg⟩
          · rw [eB, h0, hbl]; exact he
          · rw [eB]; exact hb
          · rw [eB, hbl]; exact hcc
          · rw [eL, eR]; exact h.turnV hv hmv
        · have h0 : rcode M.n L (x : Int) (y : Int) = 7 := rcode_big h1 h2 hgt
          have hn0 : rcode M.n L (x : Int) (y : Int) ≠ 0 := by rw [h0]; decide
          refine ⟨none, 0, upd F 2 (nf2 F w w' w'.heap.size), ?_, ?_, fun e => absurd e hn0, ?_, hfo w' _, hmv.more fun g hg => hg⟩
          · unfold rdB; rw [if_neg hn0, h0]; exact he
          · unfold rdB; rw [if_neg hn0]; exact BV.nil _ _
          · unfold rdL rdR; rw [if_neg hn0, if_neg hn0]; exact h.turnV (hv.more fun g hg hp => ⟨hp, by omega⟩) hmv
    · have h0 := rcode_range (L := L) h1 h2
      obtain ⟨bs, vs, vr, l, hv⟩ := h.v
      obtain ⟨mb', D, hd, hm⟩ := h.m
      exact (read_range (some ⟨A.bv, 0, none⟩) M.n hm.ok.n2 a m h1 h2 w fun W hW => blocks_any (hW.keep hv.box) (hm.on hW)).mono fun e w' hg => hno (by rw [h0]; decide) 2 e w' h0 hg
  · have h0 := rcode_len (n := M.n) (L := L) (a := a) h1
    exact (read_len (some ⟨A.bv, 0, none⟩) a m h1 w).mono fun e w' hg => hno (by rw [h0]; decide) 3 e w' h0 hg
/-- Read of what is not refused. -/
def ReadOk (w0 : World) (F : Nat → Nat → Prop) (A : Ad) (M : Em.St) (B : St) (t : Int) (L : List (Int × Int)) (R : List Rd) (a m : Int) (D : List Nat) (N : Nat) (w : World) (e : Ending) (w' : World) : Prop :=
  ∃ g c F', e = .returned (.tuple #[.slice (some ⟨g, 0, none⟩) N c, .int .i64 0]) ∧ BV w' (some ⟨g, 0, none⟩) D ∧ N ≤ c ∧ Ww w0 w' F' A M B t (rdL M.n L a m) (rdR M B t L R a m) ∧ Fo F 2 F' w ∧ Mv (F 2) w w' ∧ Fre F' w' g
theorem Ww.read_ok (h : Ww w0 w F A M B t L R) (hR : R.length ≤ 100000) (a m : Int) (h0 : rcode M.n L a m = 0) {D : List Nat} (hD : rdB M B t L a m = D) {N : Nat} (hN : D.length = N) :
    Calls Try.prog 11 #[.pointer (some ⟨A.bv, 0, none⟩), .agg #[.int .i64 a, .int .i64 m]] w (ReadOk w0 F A M B t L R a m D N w) := by
  refine (h.read hR a m).mono ?_
  rintro e w' ⟨X, c, F', he, hb, hx, hW, hF, hm⟩
  obtain ⟨g, rfl, hg, hc⟩ := hx h0
  rw [h0] at he
  rw [hD, hN] at he hc
  rw [hD] at hb
  exact ⟨g, c, F', he, hb, hc, hW, hF, hm, hg⟩
theorem Ww.readz (h : Ww w0 w F A M B t L R) (hR : R.length ≤ 100000) (a m z : Int) (hz : rcode M.n L a m = z) :
    Calls Try.prog 11 #[.pointer (some ⟨A.bv, 0, none⟩), .agg #[.int .i64 a, .int .i64 m]] w fun e w' => ∃ X N c F', e = .returned (.tuple #[.slice X N c, .int .i64 z]) ∧ Ww w0 w' F' A M B t (rdL M.n L a m) (rdR M B t L R a m) :=
  (h.read hR a m).mono fun _ _ ⟨X, c, F', he, _, _, hW, _⟩ => ⟨X, _, c, F', by rw [← hz]; exact he, hW⟩
end

end Go.Proofs.Ytgjlklladbcmcaa
