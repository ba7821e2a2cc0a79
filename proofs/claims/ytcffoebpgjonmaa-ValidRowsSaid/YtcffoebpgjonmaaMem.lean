/- Proved: plain facts on a buffer of written blocks: what a vector of writes turns, why it is refused, the written blocks in rising order. No program is named.
words for memory: a slice that reads as a list of bytes, kept over draws, new blocks and calls that write only what is new; a row of bytes of a call's own.
words for a row of bytes of a call's own that is known whole; Block lays so many bytes that hang on a number.
Block lays 40 bytes that hang on a number, in memory of their own.
slices.Clone of bytes lays them once more, in memory of its own. -/
import Derived.RowKit3
import Derived.Test.YtcffoebpgjonmaaRows
import Derived.WalkKit
import Derived.WalkSpells
import Derived.WalkLawsBesides
import Derived.Lib.Hide
import Derived.Deep.QuietTactic
import Derived.BigQuiet
import Derived.LoopN
import Derived.Handy
import Derived.Deep.Draws
import Derived.Deep.AppendLies
import Derived.Laws.OwnMore
import Derived.OneCell
import Derived.Maps.AppendAt
import Derived.Laws.AppendOwnNone
import Derived.Maps.OwnSet
import Derived.Maps.RangeWalk
import Derived.Laws.CopyOwn
import Derived.Laws.ResultCell
import Derived.Laws.Rows
import Derived.Lib.SliceRun
namespace Go.Proofs.Ytcffoebpgjonmaa

theorem take_more (L : List Nat) (k : Nat) (h : k < L.length) : L.take (k + 1) = L.take k ++ [L.getD k 0] := by
  rw [List.take_succ_eq_append_getElem h, List.getD_eq_getElem?_getD, List.getElem?_eq_getElem h]; rfl

/-- A buffer: how many blocks there are, how many it may hold, each one's bytes; no bytes: it was not written. -/
structure St where
  n : Nat
  most : Int
  g : Nat → List Nat
/-- The written ones. -/
def us (S : St) : List Nat := (List.range S.n).filter fun k => !(S.g k).isEmpty
structure Ok (S : St) : Prop where
  n1 : 1 ≤ S.n
  n2 : S.n ≤ 1048576
  e : ∀ k, S.n ≤ k → S.g k = []
  v : ∀ k, S.g k ≠ [] → (S.g k).length = 40 ∧ ∀ c ∈ S.g k, c < 256
  c : ((us S).length : Int) ≤ S.most
def st0 (n : Nat) (most : Int) : St := ⟨n, most, fun _ => []⟩
theorem mem_us {S : St} {k : Nat} : k ∈ us S ↔ k < S.n ∧ S.g k ≠ [] := by
  unfold us
  rw [List.mem_filter, List.mem_range]
  simp
theorem us_nodup (S : St) : (us S).Nodup := List.nodup_range.filter _
theorem us_len (S : St) : (us S).length ≤ S.n := by
  have := List.length_filter_le (fun k => !(S.g k).isEmpty) (List.range S.n)
  rwa [List.length_range] at this
theorem us_up (S : St) : (us S).Pairwise (· < ·) := (List.pairwise_lt_range (n := S.n)).filter _
theorem us_st0 (n : Nat) (m : Int) : us (st0 n m) = [] := List.filter_eq_nil_iff.2 fun _ _ => by simp [st0]
theorem st0_ok {n : Nat} {m : Int} (h1 : 1 ≤ n) (h2 : n ≤ 1048576) (h3 : 0 ≤ m) : Ok (st0 n m) :=
  ⟨h1, h2, fun _ _ => rfl, fun k h => absurd rfl h, by rw [us_st0]; exact h3⟩
theorem us_mono {S T : St} (hn : S.n = T.n) (h : ∀ k, S.g k ≠ [] → T.g k ≠ []) : (us S).length ≤ (us T).length := by
  unfold us
  rw [← List.countP_eq_length_filter, ← List.countP_eq_length_filter, hn]
  refine List.countP_mono_left fun k _ hk => ?_
  simp only [Bool.not_eq_true', List.isEmpty_eq_false_iff] at hk ⊢
  exact h k hk

/-- A block that is written: its number and its bytes. -/
abbrev Pt := Int × List Nat
def pz : Pt := (0, [])
theorem pt_mem {P : List Pt} {j : Nat} (h : j < P.length) : P.getD j pz ∈ P := by
  rw [List.getD_eq_getElem?_getD, List.getElem?_eq_getElem h]; exact List.getElem_mem _
def up1 (g : Nat → List Nat) (p : Pt) : Nat → List Nat := fun k => if (k : Int) = p.1 then p.2 else g k
def ups (g : Nat → List Nat) (P : List Pt) : Nat → List Nat := P.foldl up1 g
theorem ups_app (g : Nat → List Nat) (P Q : List Pt) : ups g (P ++ Q) = ups (ups g P) Q := List.foldl_append ..
theorem ups_snoc (g : Nat → List Nat) (P : List Pt) (p : Pt) : ups g (P ++ [p]) = up1 (ups g P) p := by rw [ups_app]; rfl
theorem take_one (P : List Pt) (k : Nat) (h : k < P.length) : P.take (k + 1) = P.take k ++ [P.getD k pz] := by
  rw [List.take_succ_eq_append_getElem h, List.getD_eq_getElem?_getD, List.getElem?_eq_getElem h]; rfl
theorem ups_take (g : Nat → List Nat) (P : List Pt) (k : Nat) (h : k < P.length) : ups g (P.take (k + 1)) = up1 (ups g (P.take k)) (P.getD k pz) := by
  rw [take_one P k h, ups_snoc]
theorem ups_out {P : List Pt} {g : Nat → List Nat} {k : Nat} : (∀ p ∈ P, p.1 ≠ (k : Int)) → ups g P k = g k := by
  induction P generalizing g with
  | nil => intro _; rfl
  | cons p P ih =>
    intro h
    show ups (up1 g p) P k = g k
    rw [ih fun q hq => h q (List.mem_cons_of_mem _ hq)]
    exact if_neg fun e => h p List.mem_cons_self e.symm
/-- No number stands twice. -/
def Un (P : List Pt) : Prop := (P.map fun p : Pt => p.1).Nodup
theorem ups_in {P : List Pt} {g : Nat → List Nat} {k : Nat} {p : Pt} : Un P → p ∈ P → p.1 = (k : Int) → ups g P k = p.2 := by
  induction P generalizing g with
  | nil => intro _ h; cases h
  | cons q P ih =>
    intro hu hp hk
    have hu' := List.nodup_cons.1 hu
    show ups (up1 g q) P k = p.2
    rcases List.mem_cons.1 hp with rfl | hp
    · rw [ups_out fun r hr e => hu'.1 (List.mem_map.2 ⟨r, hr, e.trans hk.symm⟩)]
      exact if_pos hk.symm
    · exact ih hu'.2 hp hk
theorem ups_ne {P : List Pt} {g : Nat → List Nat} {k : Nat} : (∀ p ∈ P, p.2 ≠ []) → (ups g P k ≠ [] ↔ g k ≠ [] ∨ ∃ p ∈ P, p.1 = (k : Int)) := by
  induction P generalizing g with
  | nil => intro _; exact ⟨Or.inl, fun h => h.elim id fun ⟨p, hp, _⟩ => by cases hp⟩
  | cons q P ih =>
    intro h
    show ups (up1 g q) P k ≠ [] ↔ _
    rw [ih fun p hp => h p (List.mem_cons_of_mem _ hp)]
    have hq := h q List.mem_cons_self
    by_cases e : (k : Int) = q.1
    · have h1 : up1 g q k = q.2 := if_pos e
      rw [h1]
      exact ⟨fun _ => Or.inr ⟨q, List.mem_cons_self, e.symm⟩, fun _ => Or.inl hq⟩
    · have h1 : up1 g q k = g k := if_neg e
      rw [h1]
      constructor
      · rintro (h | ⟨p, hp, h⟩)
        · exact Or.inl h
        · exact Or.inr ⟨p, List.mem_cons_of_mem _ hp, h⟩
      · rintro (h' | ⟨p, hp, h'⟩)
        · exact Or.inl h'
        · rcases List.mem_cons.1 hp with rfl | hp
          · exact absurd h'.symm e
          · exact Or.inr ⟨p, hp, h'⟩
theorem ups_perm {P Q : List Pt} (h : P.Perm Q) (hu : Un P) (g : Nat → List Nat) : ups g P = ups g Q := by
  funext k
  have hq : Un Q := (h.map (fun p : Pt => p.1)).nodup_iff.1 hu
  by_cases e : ∃ p ∈ P, p.1 = (k : Int)
  · obtain ⟨p, hp, hk⟩ := e
    rw [ups_in hu hp hk, ups_in hq (h.mem_iff.1 hp) hk]
  · rw [ups_out fun p hp hk => e ⟨p, hp, hk⟩, ups_out fun p hp hk => e ⟨p, h.mem_iff.2 hp, hk⟩]
def upS (S : St) (P : List Pt) : St := ⟨S.n, S.most, ups S.g P⟩
/-- Why a vector of writes is refused: 0 where it is not. -/
noncomputable def rf (S : St) (P : List Pt) : Int :=
  open Classical in
  if P = [] then 1
  else if ∃ p ∈ P, ¬ (0 ≤ p.1 ∧ p.1 < (S.n : Int)) then 2
  else if ∃ p ∈ P, p.2.length ≠ 40 then 3
  else if ¬ Un P then 4
  else if S.most < ((us (upS S P)).length : Int) then 7
  else 0
/-- What it leaves. -/
noncomputable def wr (S : St) (P : List Pt) : St := if rf S P = 0 then upS S P else S
/-- Each of them could be written alone. -/
structure Each (S : St) (P : List Pt) : Prop where
  ne : P ≠ []
  rng : ∀ p ∈ P, 0 ≤ p.1 ∧ p.1 < (S.n : Int)
  len : ∀ p ∈ P, p.2.length = 40
structure Fine (S : St) (P : List Pt) : Prop extends Each S P where
  un : Un P
  c : ((us (upS S P)).length : Int) ≤ S.most
theorem each_of {S : St} {P : List Pt} (h1 : P ≠ []) (h2 : ¬ ∃ p ∈ P, ¬ (0 ≤ p.1 ∧ p.1 < (S.n : Int))) (h3 : ¬ ∃ p ∈ P, p.2.length ≠ 40) : Each S P :=
  ⟨h1, fun p hp => Classical.byContradiction fun h => h2 ⟨p, hp, h⟩, fun p hp => Classical.byContradiction fun h => h3 ⟨p, hp, h⟩⟩
theorem Each.no2 {S : St} {P : List Pt} (h : Each S P) : ¬ ∃ p ∈ P, ¬ (0 ≤ p.1 ∧ p.1 < (S.n : Int)) := fun ⟨p, hp, e⟩ => e (h.rng p hp)
theorem Each.no3 {S : St} {P : List Pt} (h : Each S P) : ¬ ∃ p ∈ P, p.2.length ≠ 40 := fun ⟨p, hp, e⟩ => e (h.len p hp)
theorem rf_none (S : St) : rf S [] = 1 := if_pos rfl
theorem rf_range {S : St} {P : List Pt} (h1 : P ≠ []) (h2 : ∃ p ∈ P, ¬ (0 ≤ p.1 ∧ p.1 < (S.n : Int))) : rf S P = 2 := by unfold rf; rw [if_neg h1, if_pos h2]
theorem rf_len {S : St} {P : List Pt} (h1 : P ≠ []) (h2 : ¬ ∃ p ∈ P, ¬ (0 ≤ p.1 ∧ p.1 < (S.n : Int))) (h3 : ∃ p ∈ P, p.2.length ≠ 40) : rf S P = 3 := by
  unfold rf; rw [if_neg h1, if_neg h2, if_pos h3]
theorem rf_over {S : St} {P : List Pt} (h : Each S P) (h4 : ¬ Un P) : rf S P = 4 := by
  unfold rf; rw [if_neg h.ne, if_neg h.no2, if_neg h.no3, if_pos h4]
theorem rf_big {S : St} {P : List Pt} (h : Each S P) (h4 : Un P) (h5 : S.most < ((us (upS S P)).length : Int)) : rf S P = 7 := by
  unfold rf; rw [if_neg h.ne, if_neg h.no2, if_neg h.no3, if_neg (not_not_intro h4), if_pos h5]
theorem Fine.rf {S : St} {P : List Pt} (h : Fine S P) : rf S P = 0 := by
  unfold Proofs.Ytcffoebpgjonmaa.rf; rw [if_neg h.ne, if_neg h.no2, if_neg h.no3, if_neg (not_not_intro h.un), if_neg (by have := h.c; omega)]
theorem rf_cases (S : St) (P : List Pt) : (rf S P = 1 ∧ P = []) ∨ (rf S P = 2 ∧ P ≠ [] ∧ ∃ p ∈ P, ¬ (0 ≤ p.1 ∧ p.1 < (S.n : Int))) ∨ (rf S P = 3 ∧ P ≠ [] ∧ (¬ ∃ p ∈ P, ¬ (0 ≤ p.1 ∧ p.1 < (S.n : Int))) ∧ ∃ p ∈ P, p.2.length ≠ 40) ∨ (rf S P = 4 ∧ Each S P ∧ ¬ Un P) ∨ (rf S P = 7 ∧ Each S P ∧ Un P ∧ S.most < ((us (upS S P)).length : Int)) ∨ (rf S P = 0 ∧ Fine S P) := by
  by_cases h1 : P = []
  · subst h1; exact Or.inl ⟨rf_none S, rfl⟩
  by_cases h2 : ∃ p ∈ P, ¬ (0 ≤ p.1 ∧ p.1 < (S.n : Int))
  · exact Or.inr (Or.inl ⟨rf_range h1 h2, h1, h2⟩)
  by_cases h3 : ∃ p ∈ P, p.2.length ≠ 40
  · exact Or.inr (Or.inr (Or.inl ⟨rf_len h1 h2 h3, h1, h2, h3⟩))
  have he := each_of h1 h2 h3
  by_cases h4 : Un P
  · by_cases h5 : S.most < ((us (upS S P)).length : Int)
    · exact Or.inr (Or.inr (Or.inr (Or.inr (Or.inl ⟨rf_big he h4 h5, he, h4, h5⟩))))
    · have hf : Fine S P := ⟨he, h4, by omega⟩
      exact Or.inr (Or.inr (Or.inr (Or.inr (Or.inr ⟨hf.rf, hf⟩))))
  · exact Or.inr (Or.inr (Or.inr (Or.inl ⟨rf_over he h4, he, h4⟩)))
theorem fine_of {S : St} {P : List Pt} (h : rf S P = 0) : Fine S P := by
  rcases rf_cases S P with ⟨h1, _⟩ | ⟨h1, _⟩ | ⟨h1, _⟩ | ⟨h1, _⟩ | ⟨h1, _⟩ | ⟨_, h1⟩
  all_goals first | exact h1 | (rw [h] at h1; cases h1)
theorem wr_yes {S : St} {P : List Pt} (h : rf S P = 0) : wr S P = upS S P := if_pos h
theorem wr_no {S : St} {P : List Pt} (h : rf S P ≠ 0) : wr S P = S := if_neg h
def AllBy (P : List Pt) : Prop := ∀ p ∈ P, ∀ c ∈ p.2, c < 256
theorem Each.ne2 {S : St} {P : List Pt} (h : Each S P) : ∀ p ∈ P, p.2 ≠ [] := fun p hp e => by have := h.len p hp; rw [e] at this; cases this
/-- A block that was turned holds what was written, else what it held. -/
theorem ups_cases (P : List Pt) (g : Nat → List Nat) (k : Nat) : (∃ p ∈ P, p.1 = (k : Int) ∧ ups g P k = p.2) ∨ ups g P k = g k := by
  induction P generalizing g with
  | nil => exact Or.inr rfl
  | cons q P ih =>
    rcases ih (up1 g q) with ⟨p, hp, h1, h2⟩ | h
    · exact Or.inl ⟨p, List.mem_cons_of_mem _ hp, h1, h2⟩
    · by_cases e : (k : Int) = q.1
      · exact Or.inl ⟨q, List.mem_cons_self, e.symm, h.trans (if_pos e)⟩
      · exact Or.inr (h.trans (if_neg e))
theorem up_ok' {S : St} {P : List Pt} (hS : Ok S) (h2 : ∀ p ∈ P, 0 ≤ p.1 ∧ p.1 < (S.n : Int)) (h3 : ∀ p ∈ P, p.2.length = 40) (hb : AllBy P) (hc : ((us (upS S P)).length : Int) ≤ S.most) : Ok (upS S P) := by
  refine ⟨hS.n1, hS.n2, fun k hk => ?_, fun k hk => ?_, hc⟩
  · show ups S.g P k = []
    have hk' : S.n ≤ k := hk
    rw [ups_out fun p hp e => by have := (h2 p hp).2; omega]
    exact hS.e k hk
  · show (ups S.g P k).length = 40 ∧ ∀ c ∈ ups S.g P k, c < 256
    have hk' : ups S.g P k ≠ [] := hk
    rcases ups_cases P S.g k with ⟨p, hp, _, e⟩ | e
    · rw [e]; exact ⟨h3 p hp, hb p hp⟩
    · rw [e] at hk' ⊢; exact hS.v k hk'
theorem up_ok {S : St} {P : List Pt} (hS : Ok S) (h : Fine S P) (hb : AllBy P) : Ok (upS S P) := up_ok' hS h.rng h.len hb h.c
theorem wr_ok {S : St} {P : List Pt} (hS : Ok S) (hb : AllBy P) : Ok (wr S P) := by
  by_cases h : rf S P = 0
  · rw [wr_yes h]; exact up_ok hS (fine_of h) hb
  · rw [wr_no h]; exact hS
theorem wr_n (S : St) (P : List Pt) : (wr S P).n = S.n ∧ (wr S P).most = S.most := by
  by_cases h : rf S P = 0
  · rw [wr_yes h]; exact ⟨rfl, rfl⟩
  · rw [wr_no h]; exact ⟨rfl, rfl⟩

/-- How many of them are new. -/
def fr (S : St) (P : List Pt) : Nat := (P.filter fun p => (S.g p.1.toNat).isEmpty).length
theorem us_one {S : St} {p : Pt} (h1 : 0 ≤ p.1) (h2 : p.1 < (S.n : Int)) (h3 : p.2 ≠ []) : (us (upS S [p])).length = (us S).length + (if (S.g p.1.toNat).isEmpty then 1 else 0) := by
  obtain ⟨x, hx⟩ : ∃ x : Nat, p.1 = (x : Int) := ⟨p.1.toNat, by omega⟩
  have hxn : x < S.n := by omega
  have e1 : p.1.toNat = x := by omega
  rw [e1]
  have hg : ∀ k, (upS S [p]).g k = if k = x then p.2 else S.g k := fun k => by
    show (if (k : Int) = p.1 then p.2 else S.g k) = _
    by_cases e : k = x
    · rw [if_pos e, if_pos (by omega)]
    · rw [if_neg e, if_neg (by omega)]
  by_cases h0 : S.g x = []
  · rw [if_pos (by rw [h0]; rfl)]
    have hnx : ¬ x ∈ us S := fun h => (mem_us.1 h).2 h0
    have hp : (us (upS S [p])).Perm (x :: us S) := (List.perm_ext_iff_of_nodup (us_nodup _) (List.nodup_cons.2 ⟨hnx, us_nodup S⟩)).2 fun k => by
      rw [mem_us, List.mem_cons, mem_us, hg]
      show k < S.n ∧ _ ↔ _
      by_cases e : k = x
      · subst e; simp [hxn, h3]
      · simp [e]
    rw [hp.length_eq, List.length_cons]
  · rw [if_neg (by simpa using h0)]
    have hp : (us (upS S [p])).Perm (us S) := (List.perm_ext_iff_of_nodup (us_nodup _) (us_nodup S)).2 fun k => by
      rw [mem_us, mem_us, hg]
      show k < S.n ∧ _ ↔ _
      by_cases e : k = x
      · subst e; simp [h3, h0]
      · simp [e]
    rw [hp.length_eq]; rfl
theorem us_fr {S : St} : ∀ (P : List Pt), (∀ p ∈ P, 0 ≤ p.1 ∧ p.1 < (S.n : Int)) → (∀ p ∈ P, p.2 ≠ []) → Un P → (us (upS S P)).length = (us S).length + fr S P := by
  intro P
  induction P generalizing S with
  | nil => intro _ _ _; rfl
  | cons q P ih =>
    intro h1 h2 hu
    have hu' := List.nodup_cons.1 hu
    have e : upS S (q :: P) = upS (upS S [q]) P := rfl
    have hq := h1 q List.mem_cons_self
    have hfr : fr (upS S [q]) P = fr S P := by
      unfold fr
      rw [List.filter_congr fun p hp => ?_]
      have hp1 := h1 p (List.mem_cons_of_mem _ hp)
      have hne : ((p.1.toNat : Nat) : Int) ≠ q.1 := fun e => hu'.1 (List.mem_map.2 ⟨p, hp, show p.1 = q.1 by omega⟩)
      show ((if ((p.1.toNat : Nat) : Int) = q.1 then q.2 else S.g p.1.toNat).isEmpty) = _
      rw [if_neg hne]
    have hcons : fr S (q :: P) = (if (S.g q.1.toNat).isEmpty then 1 else 0) + fr S P := by
      unfold fr
      rw [List.filter_cons]
      by_cases h0 : (S.g q.1.toNat).isEmpty
      · rw [if_pos h0, if_pos h0, List.length_cons]; omega
      · rw [if_neg h0, if_neg h0]; omega
    rw [e, ih (S := upS S [q]) (fun p hp => h1 p (List.mem_cons_of_mem _ hp)) (fun p hp => h2 p (List.mem_cons_of_mem _ hp)) hu'.2, us_one hq.1 hq.2 (h2 q List.mem_cons_self), hfr, hcons]
    omega
theorem fr_take (S : St) (P : List Pt) (k : Nat) (h : k < P.length) : fr S (P.take (k + 1)) = fr S (P.take k) + (if (S.g (P.getD k pz).1.toNat).isEmpty then 1 else 0) := by
  rw [take_one P k h]
  unfold fr
  rw [List.filter_append, List.length_append, List.filter_cons, List.filter_nil]
  split <;> rfl
theorem fr_le (S : St) (P : List Pt) : fr S P ≤ P.length := List.length_filter_le _ _

/-- The written blocks in rising order. -/
def ls (S : St) : List Pt := (us S).map fun k : Nat => (((k : Int), S.g k) : Pt)
theorem ls_len (S : St) : (ls S).length = (us S).length := by unfold ls; rw [List.length_map]
theorem ls_up (S : St) : (ls S).Pairwise (fun p q => p.1 < q.1) := List.pairwise_map.2 ((us_up S).imp fun h => by simpa using h)
theorem mem_ls {S : St} {p : Pt} : p ∈ ls S ↔ ∃ k : Nat, k < S.n ∧ S.g k ≠ [] ∧ p = ((k : Int), S.g k) := by
  unfold ls
  rw [List.mem_map]
  constructor
  · rintro ⟨k, hk, rfl⟩; obtain ⟨h1, h2⟩ := mem_us.1 hk; exact ⟨k, h1, h2, rfl⟩
  · rintro ⟨k, h1, h2, rfl⟩; exact ⟨k, mem_us.2 ⟨h1, h2⟩, rfl⟩
theorem ls_40 {S : St} (h : Ok S) : ∀ p ∈ ls S, p.2.length = 40 := fun p hp => by
  obtain ⟨k, _, h2, e⟩ := mem_ls.1 hp; rw [e]; exact (h.v k h2).1
theorem ls_by {S : St} (h : Ok S) : AllBy (ls S) := fun p hp => by
  obtain ⟨k, _, h2, e⟩ := mem_ls.1 hp; rw [e]; exact (h.v k h2).2
/-- Two rising rows of the same blocks are one. -/
theorem up_one : ∀ {L M : List Pt}, L.Pairwise (fun p q => p.1 < q.1) → M.Pairwise (fun p q => p.1 < q.1) → (∀ p, p ∈ L ↔ p ∈ M) → L = M
  | [], [], _, _, _ => rfl
  | [], b :: M, _, _, h => absurd ((h b).2 List.mem_cons_self) (by simp)
  | a :: L, [], _, _, h => absurd ((h a).1 List.mem_cons_self) (by simp)
  | a :: L, b :: M, hL, hM, h => by
    obtain ⟨a1, a2⟩ := List.pairwise_cons.1 hL
    obtain ⟨b1, b2⟩ := List.pairwise_cons.1 hM
    have e : a = b := by
      rcases List.mem_cons.1 ((h a).1 List.mem_cons_self) with e | ha
      · exact e
      · rcases List.mem_cons.1 ((h b).2 List.mem_cons_self) with e | hb
        · exact e.symm
        · have := b1 a ha; have := a1 b hb; omega
    subst e
    rw [up_one a2 b2 fun p => ?_]
    constructor
    · intro hp
      rcases List.mem_cons.1 ((h p).1 (List.mem_cons_of_mem _ hp)) with rfl | h1
      · exact absurd (a1 p hp) (by omega)
      · exact h1
    · intro hp
      rcases List.mem_cons.1 ((h p).2 (List.mem_cons_of_mem _ hp)) with rfl | h1
      · exact absurd (b1 p hp) (by omega)
      · exact h1
/-- One block more, put at its place. -/
def lo (L : List Pt) (x : Int) : List Pt := L.filter fun y => decide (y.1 < x)
def hi (L : List Pt) (x : Int) : List Pt := L.filter fun y => decide (x < y.1)
theorem ls_put {S : St} {p : Pt} (h1 : 0 ≤ p.1) (h2 : p.1 < (S.n : Int)) (h3 : p.2 ≠ []) : lo (ls S) p.1 ++ p :: hi (ls S) p.1 = ls (upS S [p]) := by
  obtain ⟨x, hx⟩ : ∃ x : Nat, p.1 = (x : Int) := ⟨p.1.toNat, by omega⟩
  have hg : ∀ k, (upS S [p]).g k = if k = x then p.2 else S.g k := fun k => by
    show (if (k : Int) = p.1 then p.2 else S.g k) = _
    by_cases e : k = x
    · rw [if_pos e, if_pos (by omega)]
    · rw [if_neg e, if_neg (by omega)]
  refine up_one ?_ (ls_up _) fun q => ?_
  · refine List.pairwise_append.2 ⟨(ls_up S).filter _, List.pairwise_cons.2 ⟨fun q hq => ?_, (ls_up S).filter _⟩, fun a ha b hb => ?_⟩
    · have := (List.mem_filter.1 hq).2; simpa using this
    · have e1 := (List.mem_filter.1 ha).2
      simp only [decide_eq_true_eq] at e1
      rcases List.mem_cons.1 hb with rfl | hb
      · exact e1
      · have e2 := (List.mem_filter.1 hb).2
        simp only [decide_eq_true_eq] at e2
        omega
  · rw [List.mem_append, List.mem_cons, mem_ls]
    constructor
    · rintro (h | rfl | h)
      · obtain ⟨h5, h6⟩ := List.mem_filter.1 h
        simp only [decide_eq_true_eq] at h6
        obtain ⟨k, k1, k2, rfl⟩ := mem_ls.1 h5
        have e : k ≠ x := by simp only at h6; omega
        exact ⟨k, k1, by rw [hg, if_neg e]; exact k2, by rw [hg, if_neg e]⟩
      · exact ⟨x, by show x < S.n; omega, by rw [hg, if_pos rfl]; exact h3, by rw [hg, if_pos rfl]; exact Prod.ext hx rfl⟩
      · obtain ⟨h5, h6⟩ := List.mem_filter.1 h
        simp only [decide_eq_true_eq] at h6
        obtain ⟨k, k1, k2, rfl⟩ := mem_ls.1 h5
        have e : k ≠ x := by simp only at h6; omega
        exact ⟨k, k1, by rw [hg, if_neg e]; exact k2, by rw [hg, if_neg e]⟩
    · rintro ⟨k, k1, k2, rfl⟩
      rw [hg] at k2 ⊢
      by_cases e : k = x
      · subst e; rw [if_pos rfl]; exact Or.inr (Or.inl (Prod.ext hx.symm rfl))
      · rw [if_neg e] at k2 ⊢
        have hm : ((k : Int), S.g k) ∈ ls S := mem_ls.2 ⟨k, k1, k2, rfl⟩
        rcases Nat.lt_or_gt_of_ne e with h | h
        · exact Or.inl (List.mem_filter.2 ⟨hm, by simp only [decide_eq_true_eq]; omega⟩)
        · exact Or.inr (Or.inr (List.mem_filter.2 ⟨hm, by simp only [decide_eq_true_eq]; omega⟩))

end Go.Proofs.Ytcffoebpgjonmaa

namespace Go.Proofs.Ytcffoebpgjonmaa
open Go.RowKit

/-- A byte's cell. -/
def bt (c : Nat) : Value := .int .u8 (c : Int)
/-- The slice at A reads as the list L of bytes. -/
def BV (w : World) (A : Option Addr) (L : List Nat) : Prop :=
  L = [] ∨ ∃ b o, A = some ⟨b, o, none⟩ ∧ b < w.heap.size ∧ ∀ j, j < L.length → w.cell? ⟨b, o + j, none⟩ = some (bt (L.getD j 0))
def AllB (L : List Nat) : Prop := ∀ c ∈ L, c < 256

theorem allB_at {L : List Nat} (h : AllB L) (j : Nat) : L.getD j 0 < 256 := by
  rw [List.getD_eq_getElem?_getD]
  by_cases hj : j < L.length
  · rw [List.getElem?_eq_getElem hj]; exact h _ (List.getElem_mem hj)
  · rw [List.getElem?_eq_none (by omega)]; show 0 < 256; omega
theorem allB_take {L : List Nat} (h : AllB L) (k : Nat) : AllB (L.take k) := fun c hc => h c (List.mem_of_mem_take hc)
theorem allB_drop {L : List Nat} (h : AllB L) (k : Nat) : AllB (L.drop k) := fun c hc => h c (List.mem_of_mem_drop hc)
theorem allB_app {L R : List Nat} (h : AllB L) (k : AllB R) : AllB (L ++ R) := fun c hc => (List.mem_append.1 hc).elim (h c) (k c)

theorem BV.nil (w : World) (A : Option Addr) : BV w A [] := Or.inl rfl
theorem BV.pos {w : World} {A : Option Addr} {L : List Nat} (h : BV w A L) (h0 : 0 < L.length) :
    ∃ b o, A = some ⟨b, o, none⟩ ∧ b < w.heap.size ∧ ∀ j, j < L.length → w.cell? ⟨b, o + j, none⟩ = some (.int .u8 ((L.getD j 0 : Nat) : Int)) := by
  rcases h with rfl | h
  · simp at h0
  · exact h
theorem BV.below {w w' : World} {A : Option Addr} {L : List Nat} (h : BV w A L) (hb : Below w.heap.size w w') : BV w' A L := by
  rcases h with h | ⟨b, o, rfl, hlt, hc⟩
  · exact Or.inl h
  · exact Or.inr ⟨b, o, rfl, Nat.lt_of_lt_of_le hlt hb.size, fun j hj => (hb.cell (p := ⟨b, o + j, none⟩) hlt).trans (hc j hj)⟩
theorem BV.drewN {w : World} {A : Option Addr} {L : List Nat} (h : BV w A L) (n : Nat) : BV (w.drewN n) A L := h
theorem BV.take {w : World} {A : Option Addr} {L : List Nat} (h : BV w A L) (k : Nat) : BV w A (L.take k) := by
  rcases h with rfl | ⟨b, o, rfl, hlt, hc⟩
  · exact Or.inl (by simp)
  · refine Or.inr ⟨b, o, rfl, hlt, fun j hj => ?_⟩
    rw [List.length_take] at hj
    rw [hc j (by omega)]
    simp only [List.getD_eq_getElem?_getD, List.getElem?_take, if_pos (show j < k by omega)]
theorem BV.drop {w : World} {b o : Nat} {L : List Nat} (h : BV w (some ⟨b, o, none⟩) L) (k : Nat) : BV w (some ⟨b, o + k, none⟩) (L.drop k) := by
  rcases h with rfl | ⟨b', o', he, hlt, hc⟩
  · exact Or.inl (by simp)
  · injection he with he
    injection he with h1 h2
    subst h1 h2
    refine Or.inr ⟨_, _, rfl, hlt, fun j hj => ?_⟩
    rw [List.length_drop] at hj
    rw [Nat.add_assoc, hc (k + j) (by omega)]
    simp only [List.getD_eq_getElem?_getD, List.getElem?_drop]
theorem BV.cells {w : World} {A : Option Addr} {L : List Nat} (h : BV w A L) (h0 : 0 < L.length) :
    ∃ ad, A = some ad ∧ ad.block < w.heap.size ∧ ∀ j u, (L.map bt)[j]? = some u → w.cell? (ad.add j) = some u := by
  obtain ⟨b, o, rfl, hlt, hc⟩ := h.pos h0
  refine ⟨_, rfl, hlt, fun j u hu => ?_⟩
  rw [List.getElem?_map] at hu
  by_cases hj : j < L.length
  · rw [List.getElem?_eq_getElem hj] at hu
    have := hc j hj
    rw [List.getD_eq_getElem?_getD, List.getElem?_eq_getElem hj] at this
    rw [Go.WideShapes.add_plain]
    simp only [Option.map_some, Option.some.injEq] at hu
    rw [← hu]; exact this
  · rw [List.getElem?_eq_none (by omega)] at hu; cases hu
theorem bt_one (L : List Nat) : ∀ u ∈ L.map bt, u.oneCell' = true := by
  intro u hu; obtain ⟨x, _, rfl⟩ := List.mem_map.1 hu; rfl

/-- A row of bytes of a call's own reads as its list. -/
theorem own_bv {w : World} {B n : Nat} {A : Option Addr} {c : Nat} {L : List Nat} (h : w.ownsRow B 5 1 (.slice A n c) n (L.map bt)) : L.length = n ∧ BV w A L := by
  have hl : L.length = n := by have := h.1; simpa using this
  refine ⟨hl, ?_⟩
  by_cases h0 : L = []
  · exact Or.inl h0
  · have hp : 0 < n := by rw [← hl]; exact List.length_pos_iff.2 h0
    obtain ⟨g, cap, hv, _, hlt⟩ := h.form hp
    injection hv with e1 e2 e3
    subst e1
    refine Or.inr ⟨g, 0, rfl, hlt, fun j hj => ?_⟩
    have := h.cells (g := g) rfl j (bt (L.getD j 0)) (by rw [List.getElem?_map, List.getElem?_eq_getElem hj, List.getD_eq_getElem?_getD, List.getElem?_eq_getElem hj]; rfl)
    rw [Go.WideShapes.add_plain] at this
    exact this

/-- A call hands back the row L of bytes, in memory of its own. -/
def Lays (L : List Nat) (w : World) (e : Ending) (w' : World) : Prop :=
  ∃ g c, e = .returned (.slice (some ⟨g, 0, none⟩) L.length c) ∧ L.length ≤ c ∧ BV w' (some ⟨g, 0, none⟩) L ∧ Below w.heap.size w w'
theorem own_cap {w : World} {B n c : Nat} {A : Option Addr} {xs : List Value} (h : w.ownsRow B 5 1 (.slice A n c) n xs) : n ≤ c := by
  rcases h.2 with ⟨he, hn⟩ | ⟨g, cap, cur, he, _, _, hc, _⟩
  · omega
  · injection he with _ _ e3
    omega
theorem lays_own {L : List Nat} {w w' : World} {v : Value} (h : w'.ownsRow w.heap.size 5 1 v L.length (L.map bt)) (h0 : 0 < L.length) (hb : Below w.heap.size w w') : Lays L w (.returned v) w' := by
  obtain ⟨g, cap, rfl, _, _⟩ := h.form h0
  exact ⟨g, cap, rfl, own_cap h, (own_bv h).2, hb⟩

theorem own_view {w : World} {B n : Nat} {v : Value} {L : List Nat} (h : w.ownsRow B 5 1 v n (L.map bt)) : ∃ A c, v = .slice A n c ∧ L.length = n ∧ BV w A L := by
  have h0 := h
  rcases h.2 with ⟨he, hn⟩ | ⟨g, cap, cur, he, _, _, _, _⟩
  · subst he hn
    exact ⟨none, 0, rfl, (own_bv h0).1, (own_bv h0).2⟩
  · subst he
    exact ⟨_, cap, rfl, (own_bv h0).1, (own_bv h0).2⟩
theorem own_drew {B T n : Nat} {w : World} {v : Value} {xs : List Value} (h : w.ownsRow B T 1 v n xs) : w.drew.ownsRow B T 1 v n xs := h
theorem own_at {w w' : World} {B n : Nat} {e : TypeId} {v : Value} {xs : List Value} (h : w.ownsRow B e 1 v n xs) (hb : Below w.heap.size w w') : w'.ownsRow B e 1 v n xs := by
  refine ⟨h.1, ?_⟩
  rcases h.2 with h | ⟨g, cap, cur, hv, hB, hh, hr⟩
  · exact Or.inl h
  · refine Or.inr ⟨g, cap, cur, hv, hB, ?_, hr⟩
    have hg : g < w.heap.size := by
      rcases Nat.lt_or_ge g w.heap.size with h | h
      · exact h
      · rw [Array.getElem?_eq_none h] at hh; cases hh
    rw [hb.block g hg]; exact hh
theorem one_cell (w : World) (c : Nat) (e : TypeId) : ∀ j u, [bt c][j]? = some u → (w.alloc (.cells #[.int .u8 (c : Int)] e)).cell? ((⟨w.heap.size, 0, none⟩ : Addr).add j) = some u := by
  intro j u hj
  match j, hj with
  | 0, hj => simp at hj; subst hj; simp [Addr.add, bt]

theorem info_u8 : (Try.prog.info? 5).map (fun i => (i.zero, i.size, i.bytes)) = some (some (.int .u8 0), 1, 1) := by kernel_rfl

/-- What stood at w0 stands. -/
def At (w0 w : World) : Prop := Below w0.heap.size w0 w
theorem At.start (w : World) : At w w := Below.refl _ _
theorem At.next {w0 w w' : World} (h : At w0 w) (h' : Below w.heap.size w w') : At w0 w' := h.trans (h'.mono h.size)
theorem At.drewN {w0 w : World} (h : At w0 w) (n : Nat) : At w0 (w.drewN n) := ⟨h.os, h.tape, h.output, h.size, h.block⟩
theorem At.alloc {w0 w : World} (h : At w0 w) (o : Obj) : At w0 (w.alloc o) := Below.alloc h h.size o
theorem At.bv {w0 w : World} (h : At w0 w) {A : Option Addr} {L : List Nat} (hv : BV w0 A L) : BV w A L := hv.below h

/-- A call hands back v and writes only what is new. -/
def Gives (v : Value) (w : World) (e : Ending) (w' : World) : Prop := e = .returned v ∧ Below w.heap.size w w'

theorem lt_heap {w : World} {g : Nat} {o : Obj} (h : w.heap[g]? = some o) : g < w.heap.size := by
  rcases Nat.lt_or_ge g w.heap.size with h' | h'
  · exact h'
  · rw [Array.getElem?_eq_none h'] at h; cases h
/-- A block of cells of which one is written. -/
theorem heap_set {w : World} {b t : Nat} {cs : Array Value} (h : w.heap[b]? = some (.cells cs t (0, 0))) (i : Nat) (u : Value) : (w.setCell ⟨b, i, none⟩ u).heap[b]? = some (.cells (cs.setIfInBounds i u) t (0, 0)) := by
  rw [setCell_eq_setRow w b i _ _ _ _ h]
  exact setRow_heap w b _ _ _ _ h
theorem cell_at {w : World} {b t : Nat} {cs : Array Value} (h : w.heap[b]? = some (.cells cs t (0, 0))) (i : Nat) : w.cell? ⟨b, i, none⟩ = cs[i]? := by
  unfold World.cell?; simp [h]
theorem free_at {w : World} {b t : Nat} {cs : Array Value} (h : w.heap[b]? = some (.cells cs t (0, 0))) (i : Nat) : w.frozen? ⟨b, i, none⟩ = false := by
  unfold World.frozen?; simp [h]
theorem cells_ne {w : World} {a b : Nat} {cs ds : Array Value} {s t : TypeId} {m n : Nat × Nat} (h : w.heap[a]? = some (.cells cs s m)) (h' : w.heap[b]? = some (.cells ds t n)) (hne : s ≠ t) : a ≠ b := by
  rintro rfl
  rw [h] at h'
  injection h' with h'
  injection h' with _ ht
  exact hne ht

/-- Outside of the blocks F all that was there is as it was. -/
structure Mv (F : Nat → Prop) (w w' : World) : Prop where
  os : w'.os = w.os
  tape : w'.tape = w.tape
  output : w'.output = w.output
  size : w.heap.size ≤ w'.heap.size
  block : ∀ k, k < w.heap.size → ¬ F k → w'.heap[k]? = w.heap[k]?
theorem Mv.refl (F : Nat → Prop) (w : World) : Mv F w w := ⟨rfl, rfl, rfl, Nat.le_refl _, fun _ _ _ => rfl⟩
theorem Mv.trans {F G : Nat → Prop} {a b c : World} (h : Mv F a b) (k : Mv G b c) (hG : ∀ g, G g → F g ∨ a.heap.size ≤ g) : Mv F a c :=
  ⟨k.os.trans h.os, k.tape.trans h.tape, k.output.trans h.output, Nat.le_trans h.size k.size, fun i hi hF => (k.block i (Nat.lt_of_lt_of_le hi h.size) (fun hg => by
    rcases hG i hg with h1 | h1
    · exact hF h1
    · omega)).trans (h.block i hi hF)⟩
theorem Mv.more {F G : Nat → Prop} {w w' : World} (h : Mv F w w') (hs : ∀ g, F g → G g ∨ w.heap.size ≤ g) : Mv G w w' :=
  ⟨h.os, h.tape, h.output, h.size, fun i hi hG => h.block i hi fun hF => by
    rcases hs i hF with h1 | h1
    · exact hG h1
    · omega⟩
theorem Mv.of_below (F : Nat → Prop) {w w' : World} (h : At w w') : Mv F w w' := ⟨h.os, h.tape, h.output, h.size, fun i hi _ => h.block i hi⟩
theorem Mv.next {F : Nat → Prop} {a b c : World} (h : Mv F a b) (k : At b c) : Mv F a c := h.trans (Mv.of_below F k) (fun _ => Or.inl)
theorem Mv.at_ {F : Nat → Prop} {w0 w w' : World} (h : Mv F w w') (ha : At w0 w) (hF : ∀ g, F g → w0.heap.size ≤ g) : At w0 w' :=
  ha.trans ⟨h.os, h.tape, h.output, h.size, fun i hi => h.block i (Nat.lt_of_lt_of_le hi ha.size) (fun hf => by have := hF i hf; omega)⟩
theorem Mv.drewN {F : Nat → Prop} {w w' : World} (h : Mv F w w') (n : Nat) : Mv F w (w'.drewN n) := ⟨h.os, h.tape, h.output, h.size, h.block⟩
theorem Mv.set {F : Nat → Prop} {w w' : World} (h : Mv F w w') {p : Addr} (hp : F p.block ∨ w.heap.size ≤ p.block) (u : Value) : Mv F w (w'.setCell p u) :=
  ⟨h.os, h.tape, h.output, by have := h.size; simp only [World.setCell, Array.size_modify]; exact this, fun i hi hF => (Below.heap_setCell _ _ _ _ (fun e => by
    subst e
    rcases hp with h1 | h1
    · exact hF h1
    · omega)).trans (h.block i hi hF)⟩
theorem Mv.grown {F : Nat → Prop} {w w1 w' : World} {row : Option Nat} (h : Mv F w w1) (hg : w1.grownBy w' row) (hr : ∀ k, row = some k → F k ∨ w.heap.size ≤ k) : Mv F w w' :=
  ⟨hg.os.trans h.os, hg.tape.trans h.tape, hg.output.trans h.output, Nat.le_trans h.size hg.size, fun i hi hF => (hg.block i (Nat.lt_of_lt_of_le hi h.size) (fun e => by
    rcases hr i e.symm with h1 | h1
    · exact hF h1
    · omega)).trans (h.block i hi hF)⟩

theorem Mv.keep {F : Nat → Prop} {w w' : World} (h : Mv F w w') {g : Nat} {o : Obj} (hg : w.heap[g]? = some o) (hF : ¬ F g) : w'.heap[g]? = some o := (h.block g (lt_heap hg) hF).trans hg
theorem At.keep {w w' : World} (h : At w w') {g : Nat} {o : Obj} (hg : w.heap[g]? = some o) : w'.heap[g]? = some o := (h.block g (lt_heap hg)).trans hg

/-- The number from 0 to ahead of n that Round keeps. -/
def rd (k : Int) (n : Nat) : Nat := if k.tmod (n : Int) < 0 then (k.tmod (n : Int) + (n : Int)).toNat else (k.tmod (n : Int)).toNat
theorem rd_lt (k : Int) (n : Nat) (h : 1 ≤ n) : rd k n < n := by
  have b1 : k.tmod (n : Int) < (n : Int) := Int.tmod_lt_of_pos k (by omega)
  have b2 : -(n : Int) < k.tmod (n : Int) := Int.lt_tmod_of_pos k (show (0 : Int) < (n : Int) by omega)
  unfold rd; split <;> omega
set_option maxHeartbeats 400000 in
theorem round_any (k : Int) (n : Nat) (h1 : 1 ≤ n) (h2 : n ≤ 100000) (w : World) : Calls Try.prog 53 #[.int .i64 k, .int .i64 (n : Int)] w fun e w' => e = .returned (.int .i64 (rd k n : Int)) ∧ w = w' := by
  have b1 : k.tmod (n : Int) < (n : Int) := Int.tmod_lt_of_pos k (by omega)
  have b2 : -(n : Int) < k.tmod (n : Int) := Int.lt_tmod_of_pos k (show (0 : Int) < (n : Int) by omega)
  have hr : rd k n = if k.tmod (n : Int) < 0 then (k.tmod (n : Int) + (n : Int)).toNat else (k.tmod (n : Int)).toNat := rfl
  obtain ⟨r, hrd⟩ : ∃ r, r = rd k n := ⟨_, rfl⟩
  rw [← hrd] at hr ⊢
  clear hrd
  obtain ⟨t, ht⟩ : ∃ t, k.tmod (n : Int) = t := ⟨_, rfl⟩
  rw [ht] at b1 b2 hr
  have hn0 : ¬ ((n : Int) = 0) := by omega
  by_cases h : t < 0
  · rw [if_pos h] at hr
    have hr2 : t + (n : Int) = (r : Int) := by omega
    have HR := Lib.hid hr2
    clear hr hr2
    go_enter Try.func53, Try.ntmps53
    go_wp2
    go_ret
    exact ⟨by rw [← HR.out]; rfl, rfl⟩
  · rw [if_neg h] at hr
    have hr2 : t = (r : Int) := by omega
    have HR := Lib.hid hr2
    clear hr hr2
    go_enter Try.func53, Try.ntmps53
    go_wp2
    go_ret
    exact ⟨by rw [← HR.out]; rfl, rfl⟩


end Go.Proofs.Ytcffoebpgjonmaa

namespace Go.Proofs.Ytcffoebpgjonmaa
open Go.RowKit

/-- The block g holds the row Q of bytes. -/
def Row (w : World) (g : Nat) (Q : List Nat) : Prop := w.heap[g]? = some (.cells (Q.map bt).toArray 5 (0, 0))
theorem Row.cell {w : World} {g : Nat} {Q : List Nat} (h : Row w g Q) (i : Nat) (hi : i < Q.length) : w.cell? ⟨g, i, none⟩ = some (bt (Q.getD i 0)) := by
  unfold World.cell?; simp only [Row] at h
  simp [h, List.getElem?_eq_getElem hi, List.getD_eq_getElem?_getD]
theorem Row.free {w : World} {g : Nat} {Q : List Nat} (h : Row w g Q) (i : Nat) : w.frozen? ⟨g, i, none⟩ = false := by
  unfold World.frozen?; simp only [Row] at h; simp [h]
theorem Row.bv {w : World} {g : Nat} {Q : List Nat} (h : Row w g Q) : BV w (some ⟨g, 0, none⟩) Q :=
  Or.inr ⟨g, 0, rfl, lt_heap h, fun j hj => by rw [Nat.zero_add]; exact h.cell j hj⟩
theorem Row.on {w w' : World} {g : Nat} {Q : List Nat} (h : Row w g Q) (hb : Below w.heap.size w w') : Row w' g Q := by
  unfold Row at h ⊢
  rw [hb.block g (lt_heap h)]; exact h
theorem Row.set {w : World} {g : Nat} {Q : List Nat} (h : Row w g Q) (i x : Nat) : Row (w.setCell ⟨g, i, none⟩ (.int .u8 (x : Int))) g (Q.set i x) := by
  unfold Row at h ⊢
  rw [setCell_eq_setRow w g i _ _ _ _ h]
  have := setRow_heap w g _ ((Q.map bt).toArray.setIfInBounds i (.int .u8 (x : Int))) _ _ h
  rw [this]
  congr 2
  rw [List.map_set]
  simp [bt]
theorem Row.other {w : World} {g b : Nat} {Q : List Nat} (h : Row w g Q) (hne : g ≠ b) (i : Nat) (u : Value) : Row (w.setCell ⟨b, i, none⟩ u) g Q := by
  unfold Row at h ⊢; rw [Below.heap_setCell _ _ _ _ hne]; exact h
theorem row_new (w : World) (cs : Array Value) (Q : List Nat) (h : cs = (Q.map bt).toArray) : Row (w.alloc (.cells cs 5)) w.heap.size Q := by
  subst h; exact heap_alloc_new _ _

theorem make_u8 (n : Nat) (hn : n ≤ 1000) (w : World) : (Instr.makeSlice 58 (.int .i64 (n : Int)) (.int .i64 (n : Int))).run Try.prog w =
    .ok (.slice (some ⟨w.heap.size, 0, none⟩) n n) (w.alloc (.cells (madeCells (Value.int .u8 0).cells n) 5)) := by
  obtain ⟨i0, hi, hz0, hz1, hz2⟩ := info_parts info_u8
  have h := run_make (P := Try.prog) w 58 5 i0 (.int .u8 0) Try.underlying58 hi hz0 .i64 .i64 n n (by omega) (by omega) (by rw [hz2]; omega) (by omega)
  rw [h, hz1]
  simp only [Int.toNat_natCast, Nat.mul_one]

/-- A row of n noughts. -/
def zr (n : Nat) : List Nat := List.replicate n 0
theorem zr_len (n : Nat) : (zr n).length = n := List.length_replicate ..
theorem allB_zr (n : Nat) : AllB (zr n) := fun c hc => by have := (List.mem_replicate.1 hc).2; omega
theorem made_zn (n : Nat) : madeCells (Value.int .u8 0).cells n = ((zr n).map bt).toArray := by
  apply Array.toList_inj.1
  show (madeCells #[Value.int .u8 0] n).toList = _
  rw [toList_madeCells_one]
  simp [zr, bt]
theorem allB_set {L : List Nat} (h : AllB L) (k : Nat) {y : Nat} (hy : y < 256) : AllB (L.set k y) := by
  intro c hc
  rcases List.mem_or_eq_of_mem_set hc with hc | rfl
  · exact h c hc
  · exact hy

/-- The byte at place j of a block that hangs on k, and the 40 of them. -/
def bk1 (k : Int) (j : Nat) : Nat := rd (IntKind.i64.wrap (IntKind.i64.wrap ((j : Int) * (j : Int) + IntKind.i64.wrap (k * 7)) + 1)) 251
def bk (k : Int) : List Nat := (List.range 40).map (bk1 k)
theorem bk_len (k : Int) : (bk k).length = 40 := by simp [bk]
theorem bk_byte (k : Int) : AllB (bk k) := by
  intro c hc
  obtain ⟨j, _, rfl⟩ := List.mem_map.1 hc
  have := rd_lt (IntKind.i64.wrap (IntKind.i64.wrap ((j : Int) * (j : Int) + IntKind.i64.wrap (k * 7)) + 1)) 251 (by omega)
  unfold bk1; omega
theorem bk_at (k : Int) (j : Nat) (h : j < 40) : (bk k).getD j 0 = bk1 k j := by
  unfold bk
  rw [List.getD_eq_getElem?_getD, List.getElem?_map, List.getElem?_range h]; rfl

end Go.Proofs.Ytcffoebpgjonmaa

namespace Go.Proofs.Ytcffoebpgjonmaa
open Go.RowKit

theorem eq_of_at {Q R : List Nat} (h : Q.length = R.length) (hj : ∀ j, j < Q.length → Q.getD j 0 = R.getD j 0) : Q = R := by
  apply List.ext_getElem h
  intro j h1 h2
  have := hj j h1
  rwa [List.getD_eq_getElem?_getD, List.getD_eq_getElem?_getD, List.getElem?_eq_getElem h1, List.getElem?_eq_getElem h2] at this
theorem set_at (Q : List Nat) (j i x : Nat) (hj : j < Q.length) : (Q.set j x).getD i 0 = if i = j then x else Q.getD i 0 := by
  rw [List.getD_eq_getElem?_getD, List.getD_eq_getElem?_getD, List.getElem?_set]
  by_cases h : j = i
  · subst h; simp [hj]
  · rw [if_neg h, if_neg (fun e => h e.symm)]

set_option maxHeartbeats 1000000 in
set_option maxRecDepth 100000 in
/-- 40 bytes that hang on a number. -/
theorem block_any (k : Int) (w : World) :
    Calls Try.prog 35 #[.int .i64 40, .int .i64 k] w fun x w' => ∃ g, x = .returned (.slice (some ⟨g, 0, none⟩) 40 40) ∧ w.heap.size ≤ g ∧ BV w' (some ⟨g, 0, none⟩) (bk k) ∧ At w w' := by
  obtain ⟨g, hg⟩ : ∃ g, g = w.heap.size := ⟨_, rfl⟩
  have hmk := make_u8 40 (by omega) w
  rw [made_zn, ← hg] at hmk
  rw [show ((40 : Nat) : Int) = 40 from rfl] at hmk
  obtain ⟨w1, hw1⟩ : ∃ w1, w1 = w.alloc (.cells ((zr 40).map bt).toArray 5) := ⟨_, rfl⟩
  rw [← hw1] at hmk
  have R1 : Hid (Row w1 g (zr 40)) := Lib.hid (by rw [hw1, hg]; exact row_new _ _ _ rfl)
  have A1 : Hid (At w w1) := Lib.hid (by rw [hw1]; exact (At.start w).alloc _)
  have HG := Lib.hid hg
  have HR := Lib.hid (fun k w' => round_any k 251 (by omega) (by omega) w')
  have HK : Hid (∀ j, bk1 k j = rd (IntKind.i64.wrap (IntKind.i64.wrap ((j : Int) * (j : Int) + IntKind.i64.wrap (k * 7)) + 1)) 251) := Lib.hid fun _ => rfl
  obtain ⟨q, hq⟩ : ∃ q, q = IntKind.i64.wrap (k * 7) := ⟨_, rfl⟩
  have hqs : IntKind.i64.wrap (k * 7) = q := hq.symm
  rw [hqs] at HK
  clear hg hw1 hq
  go_enter Try.func35, Try.ntmps35
  go_wp2
  go_loopw [6] (fun c6 wr => ∃ (j : Nat) (Q : List Nat), j ≤ 40 ∧ c6 = .int .i64 (j : Int) ∧ Hid (Q.length = 40) ∧ Hid (∀ i, i < j → Q.getD i 0 = bk1 k i) ∧ Hid (Row wr g Q) ∧ Hid (At w wr)) (fun c6 _ => 40 - (RowKit.intOf c6).toNat)
  case atStart => exact ⟨0, zr 40, Nat.zero_le _, rfl, Lib.hid (zr_len 40), Lib.hid (fun i h => absurd h (Nat.not_lt_zero i)), R1, A1⟩
  case round =>
    obtain ⟨j, Q, hj, rfl, HL, HB, HQ, HA⟩ := hrel
    by_cases hlt : j < 40
    · have e1 := HQ.out.cell j (by rw [HL.out]; exact hlt)
      have f1 := HQ.out.free j
      have hjj : j * j ≤ 4096 := Nat.le_trans (Nat.mul_le_mul (show j ≤ 40 by omega) (show j ≤ 40 by omega)) (by omega)
      obtain ⟨m, hm⟩ : ∃ m, m = j * j := ⟨_, rfl⟩
      rw [← hm] at hjj
      have hm2 : (j : Int) * (j : Int) = (m : Int) := by rw [hm]; simp
      have hk := HK.out j
      rw [hm2, IntWalk.i64_left, IntWalk.i64_left] at hk
      have hr : bk1 k j < 251 := by rw [hk]; exact rd_lt _ 251 (by omega)
      clear hm
      obtain ⟨r, hre⟩ : ∃ r, r = bk1 k j := ⟨_, rfl⟩
      rw [← hre] at hr hk
      obtain ⟨HQ2, HA2⟩ := (⟨Lib.hid (HQ.out.set j r), Lib.hid (Below.setCell (p := ⟨g, j, none⟩) HA.out (by rw [HG.out]; exact Nat.le_refl _) _)⟩ : Hid (Row (wr.setCell ⟨g, j, none⟩ (.int .u8 (r : Int))) g (Q.set j r)) ∧ Hid (At w (wr.setCell ⟨g, j, none⟩ (.int .u8 (r : Int)))))
      have HRE := Lib.hid hre
      have HK1 := Lib.hid hk
      clear hre hk
      go_wp2_with fail
      refine (HR.out _ _).mono ?_
      rintro x w' ⟨rfl, rfl⟩
      rw [← HK1.out]
      go_wp2
      go_roundw
      case rel => exact ⟨j + 1, Q.set j r, by omega, by go_num, Lib.hid (by rw [List.length_set]; exact HL.out), Lib.hid (fun i hi => by
        rw [set_at _ _ _ _ (by rw [HL.out]; exact hlt)]
        by_cases h : i = j
        · rw [if_pos h, HRE.out, h]
        · rw [if_neg h]; exact HB.out i (by omega)), HQ2, HA2⟩
      case measure => simp [RowKit.intOf]; omega
    · have hjn : j = 40 := by omega
      subst hjn
      have HE : Hid (Q = bk k) := Lib.hid (eq_of_at (by rw [HL.out, bk_len]) fun i hi => by rw [HL.out] at hi; rw [HB.out i hi, bk_at k i hi])
      go_wp2
      go_ret
      exact ⟨g, rfl, by rw [HG.out]; exact Nat.le_refl _, by rw [← HE.out]; exact HQ.out.bv, HA.out⟩

end Go.Proofs.Ytcffoebpgjonmaa

namespace Go.Proofs.Ytcffoebpgjonmaa
open Go.RowKit

/-- An empty row of a call's own. -/
theorem made_row (w : World) (e : TypeId) (size : Nat) : (w.alloc (.cells #[] e)).ownsRow 0 e size (.slice (some ⟨w.heap.size, 0, none⟩) 0 0) 0 [] := World.ownsRow_made w #[] 0 (Nat.zero_le _) (by unfold maxLen; omega) (by simp)
/-- What an append to it leaves. -/
theorem made_at {w w1 : World} {o : Obj} {n c : Nat} (h : (w.alloc o).grownBy w1 (Value.slice (some ⟨w.heap.size, 0, none⟩) n c).ownBlock) : At w w1 :=
  ((At.start w).alloc _).trans ⟨h.os, h.tape, h.output, h.size, fun k hk => h.block k (by simp; omega) (fun e => by
    have : k = w.heap.size := by injection e
    omega)⟩
theorem made_ge {w : World} {g n c : Nat} (h : (Value.slice (some ⟨w.heap.size, 0, none⟩) n c).ownBlock = some g ∨ g = w.heap.size + 1) : w.heap.size ≤ g := by
  rcases h with h | h
  · injection h with h; exact Nat.le_of_eq h
  · omega

end Go.Proofs.Ytcffoebpgjonmaa
