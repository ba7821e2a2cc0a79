/- Proved: plain facts on zones that are free or not, and how worn. No program is named. -/
import Derived.RowKit3
namespace Go.Proofs.Ytheldhbdhadliaa

/-- A zone: whether it is taken, and how often it was freed. -/
structure St where
  t : Bool
  w : Nat
/-- The zone at a place; one that is taken, where there is none. -/
def sa (L : List St) (i : Nat) : St := L.getD i ⟨true, 0⟩
theorem sa_some {L : List St} {i : Nat} (h : i < L.length) : L[i]? = some (sa L i) := by
  rw [sa, List.getD_eq_getElem?_getD, List.getElem?_eq_getElem h]; rfl
theorem sa_set (L : List St) (k i : Nat) (s : St) (hk : k < L.length) : sa (L.set k s) i = if i = k then s else sa L i := by
  simp only [sa, List.getD_eq_getElem?_getD, List.getElem?_set]
  by_cases h : k = i
  · subst h; simp [hk]
  · rw [if_neg h, if_neg (fun e => h e.symm)]
theorem sa_mem {L : List St} {i : Nat} (h : i < L.length) : sa L i ∈ L := by
  rw [sa, List.getD_eq_getElem?_getD, List.getElem?_eq_getElem h]; exact List.getElem_mem h
theorem st_ext {L M : List St} (h : L.length = M.length) (hj : ∀ j, j < L.length → sa L j = sa M j) : L = M := by
  apply List.ext_getElem h
  intro j h1 h2
  have := hj j h1
  have e1 := sa_some h1
  have e2 := sa_some h2
  rw [List.getElem?_eq_getElem h1] at e1
  rw [List.getElem?_eq_getElem h2] at e2
  injection e1 with e1
  injection e2 with e2
  rw [e1, e2, this]

/-- The free ones of the first k, in order. -/
def fr (L : List St) : Nat → List Nat
  | 0 => []
  | k + 1 => if (sa L k).t then fr L k else fr L k ++ [k]
theorem fr_yes {L : List St} {k : Nat} (h : (sa L k).t = false) : fr L (k + 1) = fr L k ++ [k] := by simp [fr, h]
theorem fr_no {L : List St} {k : Nat} (h : (sa L k).t = true) : fr L (k + 1) = fr L k := by simp [fr, h]
theorem fr_mem (L : List St) (k i : Nat) : i ∈ fr L k ↔ i < k ∧ (sa L i).t = false := by
  induction k with
  | zero => simp [fr]
  | succ k ih =>
    by_cases h : (sa L k).t = true
    · rw [fr_no h, ih]
      constructor
      · rintro ⟨h1, h2⟩; exact ⟨by omega, h2⟩
      · rintro ⟨h1, h2⟩
        refine ⟨?_, h2⟩
        rcases Nat.lt_or_eq_of_le (Nat.le_of_lt_succ h1) with h3 | rfl
        · exact h3
        · rw [h] at h2; cases h2
    · have h : (sa L k).t = false := by simpa using h
      rw [fr_yes h, List.mem_append, ih, List.mem_singleton]
      constructor
      · rintro (⟨h1, h2⟩ | rfl)
        · exact ⟨by omega, h2⟩
        · exact ⟨by omega, h⟩
      · rintro ⟨h1, h2⟩
        rcases Nat.lt_or_eq_of_le (Nat.le_of_lt_succ h1) with h3 | rfl
        · exact Or.inl ⟨h3, h2⟩
        · exact Or.inr rfl
theorem fr_len (L : List St) (k : Nat) : (fr L k).length ≤ k := by
  induction k with
  | zero => simp [fr]
  | succ k ih =>
    by_cases h : (sa L k).t = true
    · rw [fr_no h]; omega
    · rw [fr_yes (by simpa using h)]; simp; omega
theorem fr_up (L : List St) (k : Nat) : (fr L k).Pairwise (· < ·) := by
  induction k with
  | zero => simp [fr]
  | succ k ih =>
    by_cases h : (sa L k).t = true
    · rw [fr_no h]; exact ih
    · rw [fr_yes (by simpa using h), List.pairwise_append]
      refine ⟨ih, by simp, fun a ha b hb => ?_⟩
      rw [List.mem_singleton] at hb
      subst hb
      exact ((fr_mem L b a).1 ha).1
theorem fr_lt (L : List St) (k : Nat) {i j : Nat} (hij : i < j) (hj : j < (fr L k).length) : (fr L k).getD i 0 < (fr L k).getD j 0 := by
  have h := List.pairwise_iff_getElem.1 (fr_up L k) i j (by omega) hj hij
  rw [List.getD_eq_getElem?_getD, List.getD_eq_getElem?_getD, List.getElem?_eq_getElem hj, List.getElem?_eq_getElem (show i < (fr L k).length by omega)]
  exact h
theorem fr_at (L : List St) (k : Nat) {i : Nat} (hi : i < (fr L k).length) : (fr L k).getD i 0 < k ∧ (sa L ((fr L k).getD i 0)).t = false := by
  rw [← fr_mem, List.getD_eq_getElem?_getD, List.getElem?_eq_getElem hi]
  exact List.getElem_mem hi
theorem fr_find {L : List St} {k j : Nat} (h1 : j < k) (h2 : (sa L j).t = false) : ∃ i, i < (fr L k).length ∧ (fr L k).getD i 0 = j := by
  obtain ⟨i, hi, e⟩ := List.getElem_of_mem ((fr_mem L k j).2 ⟨h1, h2⟩)
  exact ⟨i, hi, by rw [List.getD_eq_getElem?_getD, List.getElem?_eq_getElem hi]; exact e⟩

/-- How many are free. -/
def nf (L : List St) : Nat := (fr L L.length).length
theorem nf_le (L : List St) : nf L ≤ L.length := fr_len _ _
theorem fr_set (L : List St) (k m : Nat) (s : St) (hk : k < L.length) :
    (fr (L.set k s) m).length + (if k < m ∧ (sa L k).t = false then 1 else 0) = (fr L m).length + (if k < m ∧ s.t = false then 1 else 0) := by
  induction m with
  | zero => simp [fr]
  | succ m ih =>
    by_cases e : m = k
    · subst e
      have hs : sa (L.set m s) m = s := by rw [sa_set _ _ _ _ hk, if_pos rfl]
      rw [if_neg (by omega), if_neg (by omega)] at ih
      cases h1 : (sa L m).t <;> cases h2 : s.t
      · rw [fr_yes h1, fr_yes (by rw [hs]; exact h2)]; simp; omega
      · rw [fr_yes h1, fr_no (by rw [hs]; exact h2)]; simp; omega
      · rw [fr_no h1, fr_yes (by rw [hs]; exact h2)]; simp; omega
      · rw [fr_no h1, fr_no (by rw [hs]; exact h2)]; simp; omega
    · have hs : sa (L.set k s) m = sa L m := by rw [sa_set _ _ _ _ hk, if_neg e]
      have hm : (k < m + 1) ↔ k < m := by omega
      simp only [hm]
      cases h1 : (sa L m).t
      · rw [fr_yes h1, fr_yes (by rw [hs]; exact h1)]; simp only [List.length_append, List.length_singleton]; omega
      · rw [fr_no h1, fr_no (by rw [hs]; exact h1)]; exact ih

/-- A zone is taken; it is freed. -/
def tk (L : List St) (k : Nat) : List St := L.set k ⟨true, (sa L k).w⟩
def fre (L : List St) (k : Nat) : List St := L.set k ⟨false, (sa L k).w + 1⟩
theorem tk_len (L : List St) (k : Nat) : (tk L k).length = L.length := List.length_set ..
theorem fre_len (L : List St) (k : Nat) : (fre L k).length = L.length := List.length_set ..
theorem tk_at (L : List St) (k i : Nat) (h : k < L.length) : sa (tk L k) i = if i = k then ⟨true, (sa L k).w⟩ else sa L i := sa_set _ _ _ _ h
theorem fre_at (L : List St) (k i : Nat) (h : k < L.length) : sa (fre L k) i = if i = k then ⟨false, (sa L k).w + 1⟩ else sa L i := sa_set _ _ _ _ h
theorem nf_tk {L : List St} {k : Nat} (h : k < L.length) (hf : (sa L k).t = false) : nf (tk L k) + 1 = nf L := by
  have := fr_set L k L.length ⟨true, (sa L k).w⟩ h
  rw [if_pos ⟨h, hf⟩, if_neg (by simp)] at this
  unfold nf
  rw [tk_len]; exact this
theorem nf_fre {L : List St} {k : Nat} (h : k < L.length) (hf : (sa L k).t = true) : nf (fre L k) = nf L + 1 := by
  have := fr_set L k L.length ⟨false, (sa L k).w + 1⟩ h
  rw [if_neg (by simp [hf]), if_pos ⟨h, rfl⟩] at this
  unfold nf
  rw [fre_len]; exact this
theorem nf_pos {L : List St} {k : Nat} (h : k < L.length) (hf : (sa L k).t = false) : 0 < nf L :=
  List.length_pos_of_mem ((fr_mem L L.length k).2 ⟨h, hf⟩)
theorem nf_none {L : List St} (h : nf L = 0) (k : Nat) (hk : k < L.length) : (sa L k).t = true := by
  cases e : (sa L k).t
  · have := nf_pos hk e; omega
  · rfl
/-- How worn they are at most. -/
def Lo (L : List St) (m : Nat) : Prop := ∀ i, i < L.length → (sa L i).w ≤ m
theorem Lo.tk {L : List St} {m : Nat} (h : Lo L m) {k : Nat} (hk : k < L.length) : Lo (tk L k) m := by
  intro i hi
  rw [tk_len] at hi
  rw [tk_at _ _ _ hk]
  split
  · exact h k hk
  · exact h i hi
theorem Lo.fre {L : List St} {m : Nat} (h : Lo L m) {k : Nat} (hk : k < L.length) : Lo (fre L k) (m + 1) := by
  intro i hi
  rw [fre_len] at hi
  rw [fre_at _ _ _ hk]
  split
  · exact Nat.succ_le_succ (h k hk)
  · exact Nat.le_succ_of_le (h i hi)
theorem Lo.more {L : List St} {m n : Nat} (h : Lo L m) (hn : m ≤ n) : Lo L n := fun i hi => Nat.le_trans (h i hi) hn

/-- The free one of the first n with the smallest wear, and of several the first one. -/
def Least (L : List St) (n k : Nat) : Prop := k < n ∧ (sa L k).t = false ∧ ∀ j, j < n → (sa L j).t = false → (sa L k).w ≤ (sa L j).w ∧ (j < k → (sa L k).w < (sa L j).w)
theorem least_one {L : List St} {n k m : Nat} (h : Least L n k) (h' : Least L n m) : k = m := by
  have h1 := h.2.2 m h'.1 h'.2.1
  have h2 := h'.2.2 k h.1 h.2.1
  rcases Nat.lt_trichotomy k m with e | e | e
  · have := h2.2 e; omega
  · exact e
  · have := h1.2 e; omega
/-- What is found among the first k: none, or the least one. -/
def Found (L : List St) (k : Nat) (x : Int) : Prop := (x = -1 ∧ ∀ j, j < k → (sa L j).t = true) ∨ ∃ m : Nat, x = (m : Int) ∧ Least L k m
theorem Found.start (L : List St) : Found L 0 (-1) := Or.inl ⟨rfl, fun _ h => absurd h (Nat.not_lt_zero _)⟩
theorem Found.taken {L : List St} {k : Nat} {x : Int} (h : Found L k x) (ht : (sa L k).t = true) : Found L (k + 1) x := by
  have hj : ∀ j, j < k + 1 → (sa L j).t = false → j < k := fun j h1 h2 => by
    rcases Nat.lt_or_eq_of_le (Nat.le_of_lt_succ h1) with h3 | rfl
    · exact h3
    · rw [ht] at h2; cases h2
  rcases h with ⟨rfl, h⟩ | ⟨m, rfl, h1, h2, h3⟩
  · refine Or.inl ⟨rfl, fun j h1 => ?_⟩
    rcases Nat.lt_or_eq_of_le (Nat.le_of_lt_succ h1) with h3 | rfl
    · exact h j h3
    · exact ht
  · exact Or.inr ⟨m, rfl, by omega, h2, fun j h4 h5 => h3 j (hj j h4 h5) h5⟩
theorem Found.first {L : List St} {k : Nat} (h : Found L k (-1)) (ht : (sa L k).t = false) : Found L (k + 1) (k : Int) := by
  refine Or.inr ⟨k, rfl, by omega, ht, fun j h1 h2 => ?_⟩
  rcases h with ⟨_, h⟩ | ⟨m, e, _⟩
  · rcases Nat.lt_or_eq_of_le (Nat.le_of_lt_succ h1) with h3 | rfl
    · rw [h j h3] at h2; cases h2
    · exact ⟨Nat.le_refl _, fun h => absurd h (Nat.lt_irrefl _)⟩
  · omega
theorem Found.stays {L : List St} {k m : Nat} (h : Least L k m) (hw : (sa L m).w ≤ (sa L k).w) : Found L (k + 1) (m : Int) := by
  obtain ⟨h1, h2, h3⟩ := h
  refine Or.inr ⟨m, rfl, by omega, h2, fun j h4 h5 => ?_⟩
  rcases Nat.lt_or_eq_of_le (Nat.le_of_lt_succ h4) with h6 | rfl
  · exact h3 j h6 h5
  · exact ⟨hw, fun h => by omega⟩
theorem Found.less {L : List St} {k m : Nat} (h : Least L k m) (ht : (sa L k).t = false) (hw : (sa L k).w < (sa L m).w) : Found L (k + 1) (k : Int) := by
  obtain ⟨h1, h2, h3⟩ := h
  refine Or.inr ⟨k, rfl, by omega, ht, fun j h4 h5 => ?_⟩
  rcases Nat.lt_or_eq_of_le (Nat.le_of_lt_succ h4) with h6 | rfl
  · have := (h3 j h6 h5).1
    exact ⟨by omega, fun _ => by omega⟩
  · exact ⟨Nat.le_refl _, fun h => absurd h (Nat.lt_irrefl _)⟩
theorem Found.end_ {L : List St} {x : Int} (h : Found L L.length x) (hn : 0 < nf L) : ∃ m : Nat, x = (m : Int) ∧ Least L L.length m := by
  rcases h with ⟨_, h⟩ | h
  · obtain ⟨k, hk⟩ := List.exists_mem_of_length_pos hn
    obtain ⟨h1, h2⟩ := (fr_mem L L.length k).1 hk
    rw [h k h1] at h2; cases h2
  · exact h

/-- The document's own way: the first so many of the list of the free ones. -/
def Among (L : List St) (i k : Nat) : Prop := ∃ p, p < nf L ∧ p ≤ i ∧ k = (fr L L.length).getD p 0 ∧ ∀ j, j < i → (sa L k).w ≤ (sa L ((fr L L.length).getD j 0)).w ∧ ((fr L L.length).getD j 0 < k → (sa L k).w < (sa L ((fr L L.length).getD j 0)).w)
theorem Among.start {L : List St} (hn : 0 < nf L) : Among L 0 ((fr L L.length).getD 0 0) := ⟨0, hn, Nat.le_refl _, rfl, fun _ h => absurd h (Nat.not_lt_zero _)⟩
theorem Among.stays {L : List St} {i k : Nat} (h : Among L i k) (hi : i < nf L) (hw : ¬ (sa L ((fr L L.length).getD i 0)).w < (sa L k).w) : Among L (i + 1) k := by
  obtain ⟨p, h1, h2, rfl, h3⟩ := h
  refine ⟨p, h1, by omega, rfl, fun j hj => ?_⟩
  rcases Nat.lt_or_eq_of_le (Nat.le_of_lt_succ hj) with h4 | rfl
  · exact h3 j h4
  · refine ⟨by omega, fun h => ?_⟩
    rcases Nat.lt_or_eq_of_le h2 with h5 | rfl
    · have := fr_lt L L.length h5 hi; omega
    · omega
theorem Among.less {L : List St} {i k : Nat} (h : Among L i k) (hi : i < nf L) (hw : (sa L ((fr L L.length).getD i 0)).w < (sa L k).w) : Among L (i + 1) ((fr L L.length).getD i 0) := by
  obtain ⟨p, h1, h2, rfl, h3⟩ := h
  refine ⟨i, hi, by omega, rfl, fun j hj => ?_⟩
  rcases Nat.lt_or_eq_of_le (Nat.le_of_lt_succ hj) with h4 | rfl
  · have := (h3 j h4).1
    exact ⟨by omega, fun _ => by omega⟩
  · exact ⟨Nat.le_refl _, fun h => absurd h (Nat.lt_irrefl _)⟩
theorem Among.end_ {L : List St} {k : Nat} (h : Among L (nf L) k) : Least L L.length k := by
  obtain ⟨p, h1, h2, rfl, h3⟩ := h
  obtain ⟨e1, e2⟩ := fr_at L L.length h1
  refine ⟨e1, e2, fun j h4 h5 => ?_⟩
  obtain ⟨i, hi, rfl⟩ := fr_find h4 h5
  exact h3 i hi

/-- All free, and never freed. -/
def nw (n : Nat) : List St := List.replicate n ⟨false, 0⟩
theorem nw_len (n : Nat) : (nw n).length = n := List.length_replicate ..
theorem nw_at (n i : Nat) (h : i < n) : sa (nw n) i = ⟨false, 0⟩ := by simp [sa, nw, h]
theorem fr_all (L : List St) (k : Nat) (h : ∀ i, i < k → (sa L i).t = false) : (fr L k).length = k := by
  induction k with
  | zero => rfl
  | succ k ih => rw [fr_yes (h k (by omega)), List.length_append, ih (fun i hi => h i (by omega))]; rfl
theorem nf_nw (n : Nat) : nf (nw n) = n := by
  unfold nf
  rw [nw_len]
  exact fr_all _ _ fun i hi => by rw [nw_at n i hi]
theorem nw_lo (n : Nat) : Lo (nw n) 0 := fun i hi => by rw [nw_len] at hi; rw [nw_at n i hi]; exact Nat.le_refl _

/-- A value's cells, zone by zone; a place is the zone's two. -/
theorem even_lt {n k : Nat} (h : k < n) : k * 2 + 1 < 2 * n := by omega

/-- Taken and freed in turns: q times all of them, and r of them once more. -/
def ev (n q r : Nat) : List St := (List.range n).map fun j => ⟨false, if j < r then q + 1 else q⟩
theorem ev_len (n q r : Nat) : (ev n q r).length = n := by simp [ev]
theorem ev_at (n q r i : Nat) (h : i < n) : sa (ev n q r) i = ⟨false, if i < r then q + 1 else q⟩ := by
  rw [sa, List.getD_eq_getElem?_getD, ev, List.getElem?_map, List.getElem?_range h]; rfl
theorem ev_least {n q r : Nat} (h : r < n) : Least (ev n q r) n r := by
  refine ⟨h, by rw [ev_at n q r r h], fun j hj _ => ?_⟩
  rw [ev_at n q r r h, ev_at n q r j hj]
  simp only [Nat.lt_irrefl, if_false]
  refine ⟨by split <;> omega, fun h => ?_⟩
  rw [if_pos h]; omega
theorem ev_next {n q r : Nat} (h : r < n) : fre (tk (ev n q r) r) r = ev n q (r + 1) := by
  have hl : r < (tk (ev n q r) r).length := by rw [tk_len, ev_len]; exact h
  have hl2 : r < (ev n q r).length := by rw [ev_len]; exact h
  apply st_ext
  · rw [fre_len, tk_len, ev_len, ev_len]
  · intro j hj
    rw [fre_len, tk_len, ev_len] at hj
    rw [fre_at _ _ _ hl, tk_at _ _ _ hl2, tk_at _ _ _ hl2, if_pos rfl, ev_at _ _ _ _ hj, ev_at _ _ _ _ h, ev_at _ _ _ _ hj]
    simp only [Nat.lt_irrefl, if_false]
    by_cases e : j = r
    · subst e; simp
    · rw [if_neg e, if_neg e]
      by_cases e2 : j < r
      · rw [if_pos e2, if_pos (by omega)]
      · rw [if_neg e2, if_neg (by omega)]
theorem ev_round (n q : Nat) : ev n q n = ev n (q + 1) 0 := by
  apply st_ext
  · rw [ev_len, ev_len]
  · intro j hj
    rw [ev_len] at hj
    rw [ev_at _ _ _ _ hj, ev_at _ _ _ _ hj, if_pos hj, if_neg (Nat.not_lt_zero _)]
theorem ev_start (n : Nat) : nw n = ev n 0 0 := by
  apply st_ext
  · rw [nw_len, ev_len]
  · intro j hj
    rw [nw_len] at hj
    rw [nw_at _ _ hj, ev_at _ _ _ _ hj, if_neg (Nat.not_lt_zero _)]
theorem ev_step {n i : Nat} (h : 0 < n) : fre (tk (ev n (i / n) (i % n)) (i % n)) (i % n) = ev n ((i + 1) / n) ((i + 1) % n) := by
  have hr := Nat.mod_lt i h
  rw [ev_next hr]
  by_cases e : i % n + 1 = n
  · have h1 : i + 1 = n * (i / n + 1) := by
      have := Nat.div_add_mod i n
      rw [Nat.mul_succ]; omega
    rw [e, ev_round, h1, Nat.mul_div_cancel_left _ h, Nat.mul_mod_right]
  · have h1 : i + 1 = i % n + 1 + n * (i / n) := by
      have := Nat.div_add_mod i n
      omega
    have h2 : (i + 1) / n = i / n := by rw [h1, Nat.add_mul_div_left _ _ h, Nat.div_eq_of_lt (by omega)]; simp
    have h3 : (i + 1) % n = i % n + 1 := by rw [h1, Nat.add_mul_mod_self_left, Nat.mod_eq_of_lt (by omega)]
    rw [h2, h3]
theorem ev_free (n q r : Nat) : nf (ev n q r) = n := by
  unfold nf
  rw [ev_len]
  exact fr_all _ _ fun i hi => by rw [ev_at n q r i hi]
theorem ev_lo {n q r m : Nat} (h : q + 1 ≤ m) : Lo (ev n q r) m := by
  intro i hi
  rw [ev_len] at hi
  rw [ev_at _ _ _ _ hi]
  simp only
  split <;> omega

/-- Freed one by one: the first i are free and were freed once, all others are taken and never were. -/
def ro (n i : Nat) : List St := (List.range n).map fun j => if j < i then ⟨false, 1⟩ else ⟨true, 0⟩
theorem ro_len (n i : Nat) : (ro n i).length = n := by simp [ro]
theorem ro_at (n i j : Nat) (h : j < n) : sa (ro n i) j = if j < i then ⟨false, 1⟩ else ⟨true, 0⟩ := by
  rw [sa, List.getD_eq_getElem?_getD, ro, List.getElem?_map, List.getElem?_range h]; rfl
theorem ro_next {n i : Nat} (h : i < n) : fre (ro n i) i = ro n (i + 1) := by
  have hl : i < (ro n i).length := by rw [ro_len]; exact h
  apply st_ext
  · rw [fre_len, ro_len, ro_len]
  · intro j hj
    rw [fre_len, ro_len] at hj
    rw [fre_at _ _ _ hl, ro_at _ _ _ hj, ro_at _ _ _ h, ro_at _ _ _ hj]
    by_cases e : j = i
    · subst e; simp
    · rw [if_neg e]
      by_cases e2 : j < i
      · rw [if_pos e2, if_pos (by omega)]
      · rw [if_neg e2, if_neg (by omega)]
theorem ro_all (n : Nat) : nf (ro n n) = n := by
  unfold nf
  rw [ro_len]
  exact fr_all _ _ fun i hi => by rw [ro_at n n i hi, if_pos hi]
theorem ro_lo (n i : Nat) : Lo (ro n i) 1 := by
  intro j hj
  rw [ro_len] at hj
  rw [ro_at _ _ _ hj]
  split <;> simp
theorem ro_start {L : List St} (h : nf L = 0) (hw : Lo L 0) : L = ro L.length 0 := by
  apply st_ext
  · rw [ro_len]
  · intro j hj
    rw [ro_at _ _ _ hj, if_neg (Nat.not_lt_zero _)]
    have h1 := nf_none h j hj
    have h2 := hw j hj
    cases hs : sa L j with
    | mk t w =>
      rw [hs] at h1 h2
      simp only at h1 h2
      rw [h1, Nat.le_zero.1 h2]

end Go.Proofs.Ytheldhbdhadliaa
