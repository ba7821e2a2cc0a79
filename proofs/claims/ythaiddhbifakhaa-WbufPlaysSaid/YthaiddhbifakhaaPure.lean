/- Proved: plain facts on a buffer of written blocks: what a vector of writes turns, why it is refused, the written blocks in rising order. No program is named. -/
import Derived.RowKit3
namespace Go.Proofs.Ythaiddhbifakhaa

theorem take_more (L : List Nat) (k : Nat) (h : k < L.length) : L.take (k + 1) = L.take k ++ [L.getD k 0] := by
  rw [List.take_succ_eq_append_getElem h, List.getD_eq_getElem?_getD, List.getElem?_eq_getElem h]; rfl

/-- A buffer: how many blocks there are, how many it may hold, each one's bytes; no bytes: it was not written. -/
structure St where
  n : Nat
  most : Int
  g : Nat → List Nat
/-- The written ones. -/
def us (S : St) : List Nat := (List.range S.n).filter fun k => !(S.g k).isEmpty
structure Ok (S : St) : Prop where
  n1 : 1 ≤ S.n
  n2 : S.n ≤ 1048576
  e : ∀ k, S.n ≤ k → S.g k = []
  v : ∀ k, S.g k ≠ [] → (S.g k).length = 40 ∧ ∀ c ∈ S.g k, c < 256
  c : ((us S).length : Int) ≤ S.most
def st0 (n : Nat) (most : Int) : St := ⟨n, most, fun _ => []⟩
theorem mem_us {S : St} {k : Nat} : k ∈ us S ↔ k < S.n ∧ S.g k ≠ [] := by
  unfold us
  rw [List.mem_filter, List.mem_range]
  simp
theorem us_nodup (S : St) : (us S).Nodup := List.nodup_range.filter _
theorem us_len (S : St) : (us S).length ≤ S.n := by
  have := List.length_filter_le (fun k => !(S.g k).isEmpty) (List.range S.n)
  rwa [List.length_range] at this
theorem us_up (S : St) : (us S).Pairwise (· < ·) := (List.pairwise_lt_range (n := S.n)).filter _
theorem us_st0 (n : Nat) (m : Int) : us (st0 n m) = [] := List.filter_eq_nil_iff.2 fun _ _ => by simp [st0]
theorem st0_ok {n : Nat} {m : Int} (h1 : 1 ≤ n) (h2 : n ≤ 1048576) (h3 : 0 ≤ m) : Ok (st0 n m) :=
  ⟨h1, h2, fun _ _ => rfl, fun k h => absurd rfl h, by rw [us_st0]; exact h3⟩
theorem us_mono {S T : St} (hn : S.n = T.n) (h : ∀ k, S.g k ≠ [] → T.g k ≠ []) : (us S).length ≤ (us T).length := by
  unfold us
  rw [← List.countP_eq_length_filter, ← List.countP_eq_length_filter, hn]
  refine List.countP_mono_left fun k _ hk => ?_
  simp only [Bool.not_eq_true', List.isEmpty_eq_false_iff] at hk ⊢
  exact h k hk

/-- A block that is written: its number and its bytes. -/
abbrev Pt := Int × List Nat
def pz : Pt := (0, [])
theorem pt_mem {P : List Pt} {j : Nat} (h : j < P.length) : P.getD j pz ∈ P := by
  rw [List.getD_eq_getElem?_getD, List.getElem?_eq_getElem h]; exact List.getElem_mem _
def up1 (g : Nat → List Nat) (p : Pt) : Nat → List Nat := fun k => if (k : Int) = p.1 then p.2 else g k
def ups (g : Nat → List Nat) (P : List Pt) : Nat → List Nat := P.foldl up1 g
theorem ups_app (g : Nat → List Nat) (P Q : List Pt) : ups g (P ++ Q) = ups (ups g P) Q := List.foldl_append ..
theorem ups_snoc (g : Nat → List Nat) (P : List Pt) (p : Pt) : ups g (P ++ [p]) = up1 (ups g P) p := by rw [ups_app]; rfl
theorem take_one (P : List Pt) (k : Nat) (h : k < P.length) : P.take (k + 1) = P.take k ++ [P.getD k pz] := by
  rw [List.take_succ_eq_append_getElem h, List.getD_eq_getElem?_getD, List.getElem?_eq_getElem h]; rfl
theorem ups_take (g : Nat → List Nat) (P : List Pt) (k : Nat) (h : k < P.length) : ups g (P.take (k + 1)) = up1 (ups g (P.take k)) (P.getD k pz) := by
  rw [take_one P k h, ups_snoc]
theorem ups_out {P : List Pt} {g : Nat → List Nat} {k : Nat} : (∀ p ∈ P, p.1 ≠ (k : Int)) → ups g P k = g k := by
  induction P generalizing g with
  | nil => intro _; rfl
  | cons p P ih =>
    intro h
    show ups (up1 g p) P k = g k
    rw [ih fun q hq => h q (List.mem_cons_of_mem _ hq)]
    exact if_neg fun e => h p List.mem_cons_self e.symm
/-- No number stands twice. -/
def Un (P : List Pt) : Prop := (P.map fun p : Pt => p.1).Nodup
theorem ups_in {P : List Pt} {g : Nat → List Nat} {k : Nat} {p : Pt} : Un P → p ∈ P → p.1 = (k : Int) → ups g P k = p.2 := by
  induction P generalizing g with
  | nil => intro _ h; cases h
  | cons q P ih =>
    intro hu hp hk
    have hu' := List.nodup_cons.1 hu
    show ups (up1 g q) P k = p.2
    rcases List.mem_cons.1 hp with rfl | hp
    · rw [ups_out fun r hr e => hu'.1 (List.mem_map.2 ⟨r, hr, e.trans hk.symm⟩)]
      exact if_pos hk.symm
    · exact ih hu'.2 hp hk
theorem ups_ne {P : List Pt} {g : Nat → List Nat} {k : Nat} : (∀ p ∈ P, p.2 ≠ []) → (ups g P k ≠ [] ↔ g k ≠ [] ∨ ∃ p ∈ P, p.1 = (k : Int)) := by
  induction P generalizing g with
  | nil => intro _; exact ⟨Or.inl, fun h => h.elim id fun ⟨p, hp, _⟩ => by cases hp⟩
  | cons q P ih =>
    intro h
    show ups (up1 g q) P k ≠ [] ↔ _
    rw [ih fun p hp => h p (List.mem_cons_of_mem _ hp)]
    have hq := h q List.mem_cons_self
    by_cases e : (k : Int) = q.1
    · have h1 : up1 g q k = q.2 := if_pos e
      rw [h1]
      exact ⟨fun _ => Or.inr ⟨q, List.mem_cons_self, e.symm⟩, fun _ => Or.inl hq⟩
    · have h1 : up1 g q k = g k := if_neg e
      rw [h1]
      constructor
      · rintro (h | ⟨p, hp, h⟩)
        · exact Or.inl h
        · exact Or.inr ⟨p, List.mem_cons_of_mem _ hp, h⟩
      · rintro (h' | ⟨p, hp, h'⟩)
        · exact Or.inl h'
        · rcases List.mem_cons.1 hp with rfl | hp
          · exact absurd h'.symm e
          · exact Or.inr ⟨p, hp, h'⟩
theorem ups_perm {P Q : List Pt} (h : P.Perm Q) (hu : Un P) (g : Nat → List Nat) : ups g P = ups g Q := by
  funext k
  have hq : Un Q := (h.map (fun p : Pt => p.1)).nodup_iff.1 hu
  by_cases e : ∃ p ∈ P, p.1 = (k : Int)
  · obtain ⟨p, hp, hk⟩ := e
    rw [ups_in hu hp hk, ups_in hq (h.mem_iff.1 hp) hk]
  · rw [ups_out fun p hp hk => e ⟨p, hp, hk⟩, ups_out fun p hp hk => e ⟨p, h.mem_iff.2 hp, hk⟩]
def upS (S : St) (P : List Pt) : St := ⟨S.n, S.most, ups S.g P⟩
/-- Why a vector of writes is refused: 0 where it is not. -/
noncomputable def rf (S : St) (P : List Pt) : Int :=
  open Classical in
  if P = [] then 1
  else if ∃ p ∈ P, ¬ (0 ≤ p.1 ∧ p.1 < (S.n : Int)) then 2
  else if ∃ p ∈ P, p.2.length ≠ 40 then 3
  else if ¬ Un P then 4
  else if S.most < ((us (upS S P)).length : Int) then 7
  else 0
/-- What it leaves. -/
noncomputable def wr (S : St) (P : List Pt) : St := if rf S P = 0 then upS S P else S
/-- Each of them could be written alone. -/
structure Each (S : St) (P : List Pt) : Prop where
  ne : P ≠ []
  rng : ∀ p ∈ P, 0 ≤ p.1 ∧ p.1 < (S.n : Int)
  len : ∀ p ∈ P, p.2.length = 40
structure Fine (S : St) (P : List Pt) : Prop extends Each S P where
  un : Un P
  c : ((us (upS S P)).length : Int) ≤ S.most
theorem each_of {S : St} {P : List Pt} (h1 : P ≠ []) (h2 : ¬ ∃ p ∈ P, ¬ (0 ≤ p.1 ∧ p.1 < (S.n : Int))) (h3 : ¬ ∃ p ∈ P, p.2.length ≠ 40) : Each S P :=
  ⟨h1, fun p hp => Classical.byContradiction fun h => h2 ⟨p, hp, h⟩, fun p hp => Classical.byContradiction fun h => h3 ⟨p, hp, h⟩⟩
theorem Each.no2 {S : St} {P : List Pt} (h : Each S P) : ¬ ∃ p ∈ P, ¬ (0 ≤ p.1 ∧ p.1 < (S.n : Int)) := fun ⟨p, hp, e⟩ => e (h.rng p hp)
theorem Each.no3 {S : St} {P : List Pt} (h : Each S P) : ¬ ∃ p ∈ P, p.2.length ≠ 40 := fun ⟨p, hp, e⟩ => e (h.len p hp)
theorem rf_none (S : St) : rf S [] = 1 := if_pos rfl
theorem rf_range {S : St} {P : List Pt} (h1 : P ≠ []) (h2 : ∃ p ∈ P, ¬ (0 ≤ p.1 ∧ p.1 < (S.n : Int))) : rf S P = 2 := by unfold rf; rw [if_neg h1, if_pos h2]
theorem rf_len {S : St} {P : List Pt} (h1 : P ≠ []) (h2 : ¬ ∃ p ∈ P, ¬ (0 ≤ p.1 ∧ p.1 < (S.n : Int))) (h3 : ∃ p ∈ P, p.2.length ≠ 40) : rf S P = 3 := by
  unfold rf; rw [if_neg h1, if_neg h2, if_pos h3]
theorem rf_over {S : St} {P : List Pt} (h : Each S P) (h4 : ¬ Un P) : rf S P = 4 := by
  unfold rf; rw [if_neg h.ne, if_neg h.no2, if_neg h.no3, if_pos h4]
theorem rf_big {S : St} {P : List Pt} (h : Each S P) (h4 : Un P) (h5 : S.most < ((us (upS S P)).length : Int)) : rf S P = 7 := by
  unfold rf; rw [if_neg h.ne, if_neg h.no2, if_neg h.no3, if_neg (not_not_intro h4), if_pos h5]
theorem Fine.rf {S : St} {P : List Pt} (h : Fine S P) : rf S P = 0 := by
  unfold Proofs.Ythaiddhbifakhaa.rf; rw [if_neg h.ne, if_neg h.no2, if_neg h.no3, if_neg (not_not_intro h.un), if_neg (by have := h.c; omega)]
theorem rf_cases (S : St) (P : List Pt) : (rf S P = 1 ∧ P = []) ∨ (rf S P = 2 ∧ P ≠ [] ∧ ∃ p ∈ P, ¬ (0 ≤ p.1 ∧ p.1 < (S.n : Int))) ∨ (rf S P = 3 ∧ P ≠ [] ∧ (¬ ∃ p ∈ P, ¬ (0 ≤ p.1 ∧ p.1 < (S.n : Int))) ∧ ∃ p ∈ P, p.2.length ≠ 40) ∨ (rf S P = 4 ∧ Each S P ∧ ¬ Un P) ∨ (rf S P = 7 ∧ Each S P ∧ Un P ∧ S.most < ((us (upS S P)).length : Int)) ∨ (rf S P = 0 ∧ Fine S P) := by
  by_cases h1 : P = []
  · subst h1; exact Or.inl ⟨rf_none S, rfl⟩
  by_cases h2 : ∃ p ∈ P, ¬ (0 ≤ p.1 ∧ p.1 < (S.n : Int))
  · exact Or.inr (Or.inl ⟨rf_range h1 h2, h1, h2⟩)
  by_cases h3 : ∃ p ∈ P, p.2.length ≠ 40
  · exact Or.inr (Or.inr (Or.inl ⟨rf_len h1 h2 h3, h1, h2, h3⟩))
  have he := each_of h1 h2 h3
  by_cases h4 : Un P
  · by_cases h5 : S.most < ((us (upS S P)).length : Int)
    · exact Or.inr (Or.inr (Or.inr (Or.inr (Or.inl ⟨rf_big he h4 h5, he, h4, h5⟩))))
    · have hf : Fine S P := ⟨he, h4, by omega⟩
      exact Or.inr (Or.inr (Or.inr (Or.inr (Or.inr ⟨hf.rf, hf⟩))))
  · exact Or.inr (Or.inr (Or.inr (Or.inl ⟨rf_over he h4, he, h4⟩)))
theorem fine_of {S : St} {P : List Pt} (h : rf S P = 0) : Fine S P := by
  rcases rf_cases S P with ⟨h1, _⟩ | ⟨h1, _⟩ | ⟨h1, _⟩ | ⟨h1, _⟩ | ⟨h1, _⟩ | ⟨_, h1⟩
  all_goals first | exact h1 | (rw [h] at h1; cases h1)
theorem wr_yes {S : St} {P : List Pt} (h : rf S P = 0) : wr S P = upS S P := if_pos h
theorem wr_no {S : St} {P : List Pt} (h : rf S P ≠ 0) : wr S P = S := if_neg h
def AllBy (P : List Pt) : Prop := ∀ p ∈ P, ∀ c ∈ p.2, c < 256
theorem Each.ne2 {S : St} {P : List Pt} (h : Each S P) : ∀ p ∈ P, p.2 ≠ [] := fun p hp e => by have := h.len p hp; rw [e] at this; cases this
/-- A block that was turned holds what was written, else what it held. -/
theorem ups_cases (P : List Pt) (g : Nat → List Nat) (k : Nat) : (∃ p ∈ P, p.1 = (k : Int) ∧ ups g P k = p.2) ∨ ups g P k = g k := by
  induction P generalizing g with
  | nil => exact Or.inr rfl
  | cons q P ih =>
    rcases ih (up1 g q) with ⟨p, hp, h1, h2⟩ | h
    · exact Or.inl ⟨p, List.mem_cons_of_mem _ hp, h1, h2⟩
    · by_cases e : (k : Int) = q.1
      · exact Or.inl ⟨q, List.mem_cons_self, e.symm, h.trans (if_pos e)⟩
      · exact Or.inr (h.trans (if_neg e))
theorem up_ok' {S : St} {P : List Pt} (hS : Ok S) (h2 : ∀ p ∈ P, 0 ≤ p.1 ∧ p.1 < (S.n : Int)) (h3 : ∀ p ∈ P, p.2.length = 40) (hb : AllBy P) (hc : ((us (upS S P)).length : Int) ≤ S.most) : Ok (upS S P) := by
  refine ⟨hS.n1, hS.n2, fun k hk => ?_, fun k hk => ?_, hc⟩
  · show ups S.g P k = []
    have hk' : S.n ≤ k := hk
    rw [ups_out fun p hp e => by have := (h2 p hp).2; omega]
    exact hS.e k hk
  · show (ups S.g P k).length = 40 ∧ ∀ c ∈ ups S.g P k, c < 256
    have hk' : ups S.g P k ≠ [] := hk
    rcases ups_cases P S.g k with ⟨p, hp, _, e⟩ | e
    · rw [e]; exact ⟨h3 p hp, hb p hp⟩
    · rw [e] at hk' ⊢; exact hS.v k hk'
theorem up_ok {S : St} {P : List Pt} (hS : Ok S) (h : Fine S P) (hb : AllBy P) : Ok (upS S P) := up_ok' hS h.rng h.len hb h.c
theorem wr_ok {S : St} {P : List Pt} (hS : Ok S) (hb : AllBy P) : Ok (wr S P) := by
  by_cases h : rf S P = 0
  · rw [wr_yes h]; exact up_ok hS (fine_of h) hb
  · rw [wr_no h]; exact hS
theorem wr_n (S : St) (P : List Pt) : (wr S P).n = S.n ∧ (wr S P).most = S.most := by
  by_cases h : rf S P = 0
  · rw [wr_yes h]; exact ⟨rfl, rfl⟩
  · rw [wr_no h]; exact ⟨rfl, rfl⟩

/-- How many of them are new. -/
def fr (S : St) (P : List Pt) : Nat := (P.filter fun p => (S.g p.1.toNat).isEmpty).length
theorem us_one {S : St} {p : Pt} (h1 : 0 ≤ p.1) (h2 : p.1 < (S.n : Int)) (h3 : p.2 ≠ []) : (us (upS S [p])).length = (us S).length + (if (S.g p.1.toNat).isEmpty then 1 else 0) := by
  obtain ⟨x, hx⟩ : ∃ x : Nat, p.1 = (x : Int) := ⟨p.1.toNat, by omega⟩
  have hxn : x < S.n := by omega
  have e1 : p.1.toNat = x := by omega
  rw [e1]
  have hg : ∀ k, (upS S [p]).g k = if k = x then p.2 else S.g k := fun k => by
    show (if (k : Int) = p.1 then p.2 else S.g k) = _
    by_cases e : k = x
    · rw [if_pos e, if_pos (by omega)]
    · rw [if_neg e, if_neg (by omega)]
  by_cases h0 : S.g x = []
  · rw [if_pos (by rw [h0]; rfl)]
    have hnx : ¬ x ∈ us S := fun h => (mem_us.1 h).2 h0
    have hp : (us (upS S [p])).Perm (x :: us S) := (List.perm_ext_iff_of_nodup (us_nodup _) (List.nodup_cons.2 ⟨hnx, us_nodup S⟩)).2 fun k => by
      rw [mem_us, List.mem_cons, mem_us, hg]
      show k < S.n ∧ _ ↔ _
      by_cases e : k = x
      · subst e; simp [hxn, h3]
      · simp [e]
    rw [hp.length_eq, List.length_cons]
  · rw [if_neg (by simpa using h0)]
    have hp : (us (upS S [p])).Perm (us S) := (List.perm_ext_iff_of_nodup (us_nodup _) (us_nodup S)).2 fun k => by
      rw [mem_us, mem_us, hg]
      show k < S.n ∧ _ ↔ _
      by_cases e : k = x
      · subst e; simp [h3, h0]
      · simp [e]
    rw [hp.length_eq]; rfl
theorem us_fr {S : St} : ∀ (P : List Pt), (∀ p ∈ P, 0 ≤ p.1 ∧ p.1 < (S.n : Int)) → (∀ p ∈ P, p.2 ≠ []) → Un P → (us (upS S P)).length = (us S).length + fr S P := by
  intro P
  induction P generalizing S with
  | nil => intro _ _ _; rfl
  | cons q P ih =>
    intro h1 h2 hu
    have hu' := List.nodup_cons.1 hu
    have e : upS S (q :: P) = upS (upS S [q]) P := rfl
    have hq := h1 q List.mem_cons_self
    have hfr : fr (upS S [q]) P = fr S P := by
      unfold fr
      rw [List.filter_congr fun p hp => ?_]
      have hp1 := h1 p (List.mem_cons_of_mem _ hp)
      have hne : ((p.1.toNat : Nat) : Int) ≠ q.1 := fun e => hu'.1 (List.mem_map.2 ⟨p, hp, show p.1 = q.1 by omega⟩)
      show ((if ((p.1.toNat : Nat) : Int) = q.1 then q.2 else S.g p.1.toNat).isEmpty) = _
      rw [if_neg hne]
    have hcons : fr S (q :: P) = (if (S.g q.1.toNat).isEmpty then 1 else 0) + fr S P := by
      unfold fr
      rw [List.filter_cons]
      by_cases h0 : (S.g q.1.toNat).isEmpty
      · rw [if_pos h0, if_pos h0, List.length_cons]; omega
      · rw [if_neg h0, if_neg h0]; omega
    rw [e, ih (S := upS S [q]) (fun p hp => h1 p (List.mem_cons_of_mem _ hp)) (fun p hp => h2 p (List.mem_cons_of_mem _ hp)) hu'.2, us_one hq.1 hq.2 (h2 q List.mem_cons_self), hfr, hcons]
    omega
theorem fr_take (S : St) (P : List Pt) (k : Nat) (h : k < P.length) : fr S (P.take (k + 1)) = fr S (P.take k) + (if (S.g (P.getD k pz).1.toNat).isEmpty then 1 else 0) := by
  rw [take_one P k h]
  unfold fr
  rw [List.filter_append, List.length_append, List.filter_cons, List.filter_nil]
  split <;> rfl
theorem fr_le (S : St) (P : List Pt) : fr S P ≤ P.length := List.length_filter_le _ _

/-- The written blocks in rising order. -/
def ls (S : St) : List Pt := (us S).map fun k : Nat => (((k : Int), S.g k) : Pt)
theorem ls_len (S : St) : (ls S).length = (us S).length := by unfold ls; rw [List.length_map]
theorem ls_up (S : St) : (ls S).Pairwise (fun p q => p.1 < q.1) := List.pairwise_map.2 ((us_up S).imp fun h => by simpa using h)
theorem mem_ls {S : St} {p : Pt} : p ∈ ls S ↔ ∃ k : Nat, k < S.n ∧ S.g k ≠ [] ∧ p = ((k : Int), S.g k) := by
  unfold ls
  rw [List.mem_map]
  constructor
  · rintro ⟨k, hk, rfl⟩; obtain ⟨h1, h2⟩ := mem_us.1 hk; exact ⟨k, h1, h2, rfl⟩
  · rintro ⟨k, h1, h2, rfl⟩; exact ⟨k, mem_us.2 ⟨h1, h2⟩, rfl⟩
theorem ls_40 {S : St} (h : Ok S) : ∀ p ∈ ls S, p.2.length = 40 := fun p hp => by
  obtain ⟨k, _, h2, e⟩ := mem_ls.1 hp; rw [e]; exact (h.v k h2).1
theorem ls_by {S : St} (h : Ok S) : AllBy (ls S) := fun p hp => by
  obtain ⟨k, _, h2, e⟩ := mem_ls.1 hp; rw [e]; exact (h.v k h2).2
/-- Two rising rows of the same blocks are one. -/
theorem up_one : ∀ {L M : List Pt}, L.Pairwise (fun p q => p.1 < q.1) → M.Pairwise (fun p q => p.1 < q.1) → (∀ p, p ∈ L ↔ p ∈ M) → L = M
  | [], [], _, _, _ => rfl
  | [], b :: M, _, _, h => absurd ((h b).2 List.mem_cons_self) (by simp)
  | a :: L, [], _, _, h => absurd ((h a).1 List.mem_cons_self) (by simp)
  | a :: L, b :: M, hL, hM, h => by
    obtain ⟨a1, a2⟩ := List.pairwise_cons.1 hL
    obtain ⟨b1, b2⟩ := List.pairwise_cons.1 hM
    have e : a = b := by
      rcases List.mem_cons.1 ((h a).1 List.mem_cons_self) with e | ha
      · exact e
      · rcases List.mem_cons.1 ((h b).2 List.mem_cons_self) with e | hb
        · exact e.symm
        · have := b1 a ha; have := a1 b hb; omega
    subst e
    rw [up_one a2 b2 fun p => ?_]
    constructor
    · intro hp
      rcases List.mem_cons.1 ((h p).1 (List.mem_cons_of_mem _ hp)) with rfl | h1
      · exact absurd (a1 p hp) (by omega)
      · exact h1
    · intro hp
      rcases List.mem_cons.1 ((h p).2 (List.mem_cons_of_mem _ hp)) with rfl | h1
      · exact absurd (b1 p hp) (by omega)
      · exact h1
/-- One block more, put at its place. -/
def lo (L : List Pt) (x : Int) : List Pt := L.filter fun y => decide (y.1 < x)
def hi (L : List Pt) (x : Int) : List Pt := L.filter fun y => decide (x < y.1)
theorem ls_put {S : St} {p : Pt} (h1 : 0 ≤ p.1) (h2 : p.1 < (S.n : Int)) (h3 : p.2 ≠ []) : lo (ls S) p.1 ++ p :: hi (ls S) p.1 = ls (upS S [p]) := by
  obtain ⟨x, hx⟩ : ∃ x : Nat, p.1 = (x : Int) := ⟨p.1.toNat, by omega⟩
  have hg : ∀ k, (upS S [p]).g k = if k = x then p.2 else S.g k := fun k => by
    show (if (k : Int) = p.1 then p.2 else S.g k) = _
    by_cases e : k = x
    · rw [if_pos e, if_pos (by omega)]
    · rw [if_neg e, if_neg (by omega)]
  refine up_one ?_ (ls_up _) fun q => ?_
  · refine List.pairwise_append.2 ⟨(ls_up S).filter _, List.pairwise_cons.2 ⟨fun q hq => ?_, (ls_up S).filter _⟩, fun a ha b hb => ?_⟩
    · have := (List.mem_filter.1 hq).2; simpa using this
    · have e1 := (List.mem_filter.1 ha).2
      simp only [decide_eq_true_eq] at e1
      rcases List.mem_cons.1 hb with rfl | hb
      · exact e1
      · have e2 := (List.mem_filter.1 hb).2
        simp only [decide_eq_true_eq] at e2
        omega
  · rw [List.mem_append, List.mem_cons, mem_ls]
    constructor
    · rintro (h | rfl | h)
      · obtain ⟨h5, h6⟩ := List.mem_filter.1 h
        simp only [decide_eq_true_eq] at h6
        obtain ⟨k, k1, k2, rfl⟩ := mem_ls.1 h5
        have e : k ≠ x := by simp only at h6; omega
        exact ⟨k, k1, by rw [hg, if_neg e]; exact k2, by rw [hg, if_neg e]⟩
      · exact ⟨x, by show x < S.n; omega, by rw [hg, if_pos rfl]; exact h3, by rw [hg, if_pos rfl]; exact Prod.ext hx rfl⟩
      · obtain ⟨h5, h6⟩ := List.mem_filter.1 h
        simp only [decide_eq_true_eq] at h6
        obtain ⟨k, k1, k2, rfl⟩ := mem_ls.1 h5
        have e : k ≠ x := by simp only at h6; omega
        exact ⟨k, k1, by rw [hg, if_neg e]; exact k2, by rw [hg, if_neg e]⟩
    · rintro ⟨k, k1, k2, rfl⟩
      rw [hg] at k2 ⊢
      by_cases e : k = x
      · subst e; rw [if_pos rfl]; exact Or.inr (Or.inl (Prod.ext hx.symm rfl))
      · rw [if_neg e] at k2 ⊢
        have hm : ((k : Int), S.g k) ∈ ls S := mem_ls.2 ⟨k, k1, k2, rfl⟩
        rcases Nat.lt_or_gt_of_ne e with h | h
        · exact Or.inl (List.mem_filter.2 ⟨hm, by simp only [decide_eq_true_eq]; omega⟩)
        · exact Or.inr (Or.inr (List.mem_filter.2 ⟨hm, by simp only [decide_eq_true_eq]; omega⟩))

end Go.Proofs.Ythaiddhbifakhaa
