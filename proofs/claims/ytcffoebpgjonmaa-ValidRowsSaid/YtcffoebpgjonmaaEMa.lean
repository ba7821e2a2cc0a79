/- Proved: plain facts on lists of versions: what is read at a time, what an append and a pruning turn. No program is named.
words for versions in memory; the newest one that may be read is found.
words for a map in memory: its box, its entries, each block's versions; what a call may have written. -/
import Derived.Test.YtcffoebpgjonmaaMem
import Derived.Deep.MidRow
import Derived.Deep.WholeRow
import Derived.Laws.Tables
import Derived.Laws.Rows
import Derived.IntWalk
import Derived.Maps.OwnSet
import Derived.Maps.Range
import Derived.Lib.SlKeysI
namespace Go.Proofs.Ytcffoebpgjonmaa.Em

/-- A version: its time and its bytes. -/
abbrev Ver := Int × List Nat
def zv : Ver := (0, List.replicate 40 0)
/-- The newest of the first k versions that is not later than t: its place and one. -/
def scan (L : List Ver) (t : Int) : Nat → Nat
  | 0 => 0
  | k + 1 => if (L.getD k zv).1 ≤ t then k + 1 else scan L t k
def rk (L : List Ver) (t : Int) : Nat := scan L t L.length
/-- What is read of versions at a time. -/
def rdv (L : List Ver) (t : Int) : Ver := if rk L t = 0 then zv else L.getD (rk L t - 1) zv
/-- The newest one. -/
def nw (L : List Ver) : Ver := L.getD (L.length - 1) zv

theorem scan_le (L : List Ver) (t : Int) : ∀ k, scan L t k ≤ k
  | 0 => Nat.le_refl _
  | k + 1 => by
    unfold scan
    split
    · exact Nat.le_refl _
    · exact Nat.le_succ_of_le (scan_le L t k)
theorem rk_le (L : List Ver) (t : Int) : rk L t ≤ L.length := scan_le L t _
theorem scan_at (L : List Ver) (t : Int) : ∀ k, scan L t k ≠ 0 → (L.getD (scan L t k - 1) zv).1 ≤ t
  | 0, h => absurd rfl h
  | k + 1, h => by
    unfold scan at h ⊢
    split
    · rename_i hk; simpa using hk
    · rename_i hk; rw [if_neg hk] at h; exact scan_at L t k h
theorem scan_ge (L : List Ver) (t : Int) : ∀ k i, i < k → (L.getD i zv).1 ≤ t → i + 1 ≤ scan L t k
  | 0, i, h, _ => absurd h (Nat.not_lt_zero i)
  | k + 1, i, h, hi => by
    unfold scan
    split
    · omega
    · rename_i hk
      have : i ≠ k := fun e => hk (by rw [← e]; exact hi)
      exact scan_ge L t k i (by omega) hi
theorem scan_above (L : List Ver) (t : Int) : ∀ k i, scan L t k ≤ i → i < k → t < (L.getD i zv).1
  | 0, i, _, h => absurd h (Nat.not_lt_zero i)
  | k + 1, i, h, hi => by
    unfold scan at h
    split at h
    · omega
    · rename_i hk
      by_cases e : i = k
      · subst e; omega
      · exact scan_above L t k i h (by omega)
theorem scan_step (L : List Ver) (t : Int) (k : Nat) (h : ¬ (L.getD k zv).1 ≤ t) : scan L t (k + 1) = scan L t k := by
  show (if (L.getD k zv).1 ≤ t then k + 1 else scan L t k) = _
  rw [if_neg h]
theorem scan_hit (L : List Ver) (t : Int) (k : Nat) (h : (L.getD k zv).1 ≤ t) : scan L t (k + 1) = k + 1 := by
  show (if (L.getD k zv).1 ≤ t then k + 1 else scan L t k) = _
  rw [if_pos h]
theorem scan_congr {L M : List Ver} (t : Int) : ∀ k, (∀ i, i < k → L.getD i zv = M.getD i zv) → scan L t k = scan M t k
  | 0, _ => rfl
  | k + 1, h => by
    show (if (L.getD k zv).1 ≤ t then k + 1 else scan L t k) = (if (M.getD k zv).1 ≤ t then k + 1 else scan M t k)
    rw [h k (Nat.lt_succ_self k), scan_congr t k fun i hi => h i (by omega)]
theorem getD_app_left (L M : List Ver) (i : Nat) (h : i < L.length) : (L ++ M).getD i zv = L.getD i zv := by
  simp only [List.getD_eq_getElem?_getD, List.getElem?_append_left h]
theorem getD_app_new (L : List Ver) (x : Ver) : (L ++ [x]).getD L.length zv = x := by
  simp [List.getD_eq_getElem?_getD]
theorem rk_nil (t : Int) : rk [] t = 0 := rfl
theorem rdv_nil (t : Int) : rdv [] t = zv := by unfold rdv; rw [rk_nil]; rfl
theorem rk_app_late (L : List Ver) (x : Ver) (t : Int) (h : t < x.1) : rk (L ++ [x]) t = rk L t := by
  unfold rk
  rw [List.length_append]
  show scan _ t (L.length + 1) = _
  rw [scan_step _ _ _ (by rw [getD_app_new]; omega)]
  exact scan_congr t _ fun i hi => getD_app_left L [x] i hi
theorem rdv_app_late (L : List Ver) (x : Ver) (t : Int) (h : t < x.1) : rdv (L ++ [x]) t = rdv L t := by
  unfold rdv
  rw [rk_app_late L x t h]
  have hl := rk_le L t
  by_cases h0 : rk L t = 0
  · rw [if_pos h0, if_pos h0]
  · rw [if_neg h0, if_neg h0, getD_app_left _ _ _ (by omega)]
theorem rdv_app_now (L : List Ver) (x : Ver) (t : Int) (h : x.1 ≤ t) : rdv (L ++ [x]) t = x := by
  have e : rk (L ++ [x]) t = L.length + 1 := by
    unfold rk
    rw [List.length_append]
    exact scan_hit _ _ _ (by rw [getD_app_new]; exact h)
  unfold rdv
  rw [e, if_neg (by omega), Nat.add_sub_cancel, getD_app_new]
theorem nw_app (L : List Ver) (x : Ver) : nw (L ++ [x]) = x := by
  unfold nw
  rw [List.length_append]
  exact getD_app_new L x

/-- Pruned: without those that are older than the newest one that is not later than h. -/
def pr (L : List Ver) (h : Int) : List Ver := L.drop (rk L h - 1)
theorem getD_drop (L : List Ver) (d i : Nat) : (L.drop d).getD i zv = L.getD (d + i) zv := by
  simp only [List.getD_eq_getElem?_getD, List.getElem?_drop]
theorem scan_drop (L : List Ver) (t : Int) (d : Nat) : ∀ k, d < scan L t (d + k) → scan (L.drop d) t k = scan L t (d + k) - d
  | 0, h => by have := scan_le L t d; simp at h; omega
  | k + 1, h => by
    show (if ((L.drop d).getD k zv).1 ≤ t then k + 1 else scan (L.drop d) t k) = _
    rw [getD_drop]
    by_cases hk : (L.getD (d + k) zv).1 ≤ t
    · rw [if_pos hk, ← Nat.add_assoc, scan_hit _ _ _ hk]; omega
    · rw [← Nat.add_assoc, scan_step _ _ _ hk] at h
      rw [if_neg hk, ← Nat.add_assoc, scan_step _ _ _ hk]
      exact scan_drop L t d k h
theorem rk_drop (L : List Ver) (t : Int) (d : Nat) (h : d < rk L t) : rk (L.drop d) t = rk L t - d := by
  have hl := scan_le L t L.length
  unfold rk at h ⊢
  rw [List.length_drop]
  have e : L.length = d + (L.length - d) := by omega
  rw [e] at h
  rw [scan_drop L t d _ h, ← e]
theorem rk_mono (L : List Ver) {s t : Int} (h : s ≤ t) : rk L s ≤ rk L t := by
  by_cases h0 : rk L s = 0
  · omega
  · have h1 := scan_at L s L.length h0
    have h2 := rk_le L s
    have := scan_ge L t L.length (rk L s - 1) (by omega) (by unfold rk; omega)
    unfold rk at this ⊢ h0; omega
theorem rdv_pr (L : List Ver) {h t : Int} (hh : h ≤ t) : rdv (pr L h) t = rdv L t := by
  have hm := rk_mono L hh
  unfold pr
  by_cases h0 : rk L h = 0
  · rw [h0]; rfl
  · have hd : rk L h - 1 < rk L t := by omega
    unfold rdv
    rw [rk_drop L t _ hd, if_neg (by omega), if_neg (by omega), getD_drop]
    congr 1; omega
theorem pr_len (L : List Ver) (h : Int) : (pr L h).length = L.length - (rk L h - 1) := by unfold pr; simp
theorem pr_pr (L : List Ver) (h : Int) : rk (pr L h) h - 1 = 0 := by
  by_cases h0 : rk L h = 0
  · unfold pr; rw [h0]; simp [h0]
  · unfold pr
    rw [rk_drop L h _ (by omega)]; omega
theorem pr_nil (L : List Ver) (h : Int) : pr L h = [] ↔ L = [] := by
  have hl := rk_le L h
  rw [← List.length_eq_zero_iff, pr_len, ← List.length_eq_zero_iff]
  constructor <;> intro <;> omega
theorem rk_all (L : List Ver) (t : Int) (h : ∀ v ∈ L, v.1 ≤ t) : rk L t = L.length := by
  have hl := rk_le L t
  by_cases h0 : L.length = 0
  · omega
  · have := scan_ge L t L.length (L.length - 1) (by omega) (by
      rw [List.getD_eq_getElem?_getD, List.getElem?_eq_getElem (show L.length - 1 < L.length by omega)]
      exact h _ (List.getElem_mem _))
    unfold rk at hl ⊢; omega
theorem pr_all (L : List Ver) (t : Int) (h : ∀ v ∈ L, v.1 ≤ t) : (pr L t).length = if L = [] then 0 else 1 := by
  rw [pr_len, rk_all L t h]
  by_cases h0 : L = []
  · rw [if_pos h0, h0]; rfl
  · have : 0 < L.length := List.length_pos_iff.2 h0
    rw [if_neg h0]; omega
theorem rdv_all (L : List Ver) (t : Int) (h : ∀ v ∈ L, v.1 ≤ t) : rdv L t = if L = [] then zv else nw L := by
  unfold rdv
  rw [rk_all L t h]
  by_cases h0 : L = []
  · rw [if_pos h0, h0]; rfl
  · have : 0 < L.length := List.length_pos_iff.2 h0
    rw [if_neg h0, if_neg (by omega)]; rfl
theorem mem_drop {L : List Ver} {d : Nat} {v : Ver} (h : v ∈ L.drop d) : v ∈ L := List.mem_of_mem_drop h
theorem rdv_mem (L : List Ver) (t : Int) : rdv L t = zv ∨ rdv L t ∈ L := by
  have hl := rk_le L t
  unfold rdv
  by_cases h0 : rk L t = 0
  · exact Or.inl (if_pos h0)
  · rw [if_neg h0, List.getD_eq_getElem?_getD, List.getElem?_eq_getElem (show rk L t - 1 < L.length by omega)]
    exact Or.inr (List.getElem_mem _)
theorem nw_mem (L : List Ver) (h : L ≠ []) : nw L ∈ L := by
  have : 0 < L.length := List.length_pos_iff.2 h
  unfold nw
  rw [List.getD_eq_getElem?_getD, List.getElem?_eq_getElem (show L.length - 1 < L.length by omega)]
  exact List.getElem_mem _

/-- A map's state: how many blocks, the last time, each block's versions; c: no block has more. -/
structure St where
  n : Nat
  last : Int
  V : Nat → List Ver
  c : Nat
/-- What may be a version of a map whose last time is T. -/
def VOk (T : Int) (v : Ver) : Prop := 1 ≤ v.1 ∧ v.1 ≤ T ∧ v.2.length = 40 ∧ ∀ c ∈ v.2, c < 256
structure Ok (S : St) : Prop where
  n1 : 1 ≤ S.n
  n2 : S.n ≤ 1048576
  l0 : 0 ≤ S.last
  l1 : S.last ≤ 1099511627776
  v : ∀ k, ∀ v ∈ S.V k, VOk S.last v
  e : ∀ k, S.n ≤ k → S.V k = []
  b : ∀ k, (S.V k).length ≤ S.c
  c1 : S.c ≤ 20000
theorem Ok.time {S : St} (h : Ok S) (k : Nat) {t : Int} (ht : S.last ≤ t) : ∀ v ∈ S.V k, v.1 ≤ t := fun v hv => by have := (h.v k v hv).2.1; omega
theorem zv_len : zv.2.length = 40 := by simp [zv]
theorem zv_byte : ∀ c ∈ zv.2, c < 256 := fun c hc => by have := (List.mem_replicate.1 hc).2; omega
theorem Ok.rd_len {S : St} (h : Ok S) (k : Nat) (t : Int) : (rdv (S.V k) t).2.length = 40 := by
  rcases rdv_mem (S.V k) t with e | e
  · rw [e]; exact zv_len
  · exact (h.v k _ e).2.2.1
theorem Ok.rd_byte {S : St} (h : Ok S) (k : Nat) (t : Int) : ∀ c ∈ (rdv (S.V k) t).2, c < 256 := by
  rcases rdv_mem (S.V k) t with e | e
  · rw [e]; exact zv_byte
  · exact (h.v k _ e).2.2.2

/-- One block more is written at time T. -/
def up1 (V : Nat → List Ver) (T : Int) (p : Pt) : Nat → List Ver := fun k => if (k : Int) = p.1 then V k ++ [(T, p.2)] else V k
def ups (V : Nat → List Ver) (T : Int) (P : List Pt) : Nat → List Ver := P.foldl (fun V p => up1 V T p) V
theorem ups_snoc (V : Nat → List Ver) (T : Int) (P : List Pt) (p : Pt) : ups V T (P ++ [p]) = up1 (ups V T P) T p := by
  unfold ups; rw [List.foldl_append]; rfl
theorem ups_take (V : Nat → List Ver) (T : Int) (P : List Pt) (k : Nat) (h : k < P.length) : ups V T (P.take (k + 1)) = up1 (ups V T (P.take k)) T (P.getD k pz) := by
  rw [List.take_succ_eq_append_getElem h, ups_snoc, List.getD_eq_getElem?_getD, List.getElem?_eq_getElem h]; rfl
/-- Do the blocks' numbers rise? -/
def Rs (P : List Pt) : Prop := ∀ j, 1 ≤ j → j < P.length → (P.getD (j - 1) pz).1 < (P.getD j pz).1
theorem Rs.lt {P : List Pt} (h : Rs P) : ∀ j i, i < j → j < P.length → (P.getD i pz).1 < (P.getD j pz).1
  | 0, i, hi, _ => absurd hi (Nat.not_lt_zero i)
  | j + 1, i, hi, hj => by
    have h1 := h (j + 1) (by omega) hj
    rw [Nat.add_sub_cancel] at h1
    by_cases e : i = j
    · subst e; exact h1
    · have := Rs.lt h j i (by omega) (by omega); omega
/-- Why a transaction is refused: 0 where it is not. -/
noncomputable def rf (S : St) (T : Int) (P : List Pt) : Int :=
  open Classical in
  if T ≤ S.last ∨ 1099511627776 < T then 11
  else if P = [] ∨ ¬ Rs P then 1
  else if (P.getD 0 pz).1 < 0 ∨ (S.n : Int) ≤ (P.getD (P.length - 1) pz).1 then 2
  else if ∃ p ∈ P, p.2.length ≠ 40 then 3
  else 0
/-- What holds of one that is not refused. -/
structure Fine (S : St) (T : Int) (P : List Pt) : Prop where
  t0 : S.last < T
  t1 : T ≤ 1099511627776
  ne : P ≠ []
  rs : Rs P
  lo : ∀ j, j < P.length → 0 ≤ (P.getD j pz).1
  hi : ∀ j, j < P.length → (P.getD j pz).1 < (S.n : Int)
  len : ∀ j, j < P.length → (P.getD j pz).2.length = 40
theorem fine_of {S : St} {T : Int} {P : List Pt} (h1 : ¬ (T ≤ S.last ∨ 1099511627776 < T)) (h2 : ¬ (P = [] ∨ ¬ Rs P)) (h3 : ¬ ((P.getD 0 pz).1 < 0 ∨ (S.n : Int) ≤ (P.getD (P.length - 1) pz).1)) (h4 : ¬ ∃ p ∈ P, p.2.length ≠ 40) : Fine S T P := by
  have hne : P ≠ [] := fun e => h2 (Or.inl e)
  have hrs : Rs P := Classical.byContradiction fun e => h2 (Or.inr e)
  have hp : 0 < P.length := List.length_pos_iff.2 hne
  refine ⟨by omega, by omega, hne, hrs, fun j hj => ?_, fun j hj => ?_, fun j hj => ?_⟩
  · by_cases e : j = 0
    · subst e; omega
    · have := hrs.lt j 0 (by omega) hj; omega
  · by_cases e : j = P.length - 1
    · subst e; omega
    · have := hrs.lt (P.length - 1) j (by omega) (by omega); omega
  · exact Classical.byContradiction fun e => h4 ⟨_, pt_mem hj, e⟩
theorem rf_time {S : St} {T : Int} {P : List Pt} (h : T ≤ S.last ∨ 1099511627776 < T) : rf S T P = 11 := if_pos h
theorem rf_arg {S : St} {T : Int} {P : List Pt} (h1 : ¬ (T ≤ S.last ∨ 1099511627776 < T)) (h : P = [] ∨ ¬ Rs P) : rf S T P = 1 := by
  unfold rf; rw [if_neg h1, if_pos h]
theorem rf_range {S : St} {T : Int} {P : List Pt} (h1 : ¬ (T ≤ S.last ∨ 1099511627776 < T)) (h2 : ¬ (P = [] ∨ ¬ Rs P)) (h : (P.getD 0 pz).1 < 0 ∨ (S.n : Int) ≤ (P.getD (P.length - 1) pz).1) : rf S T P = 2 := by
  unfold rf; rw [if_neg h1, if_neg h2, if_pos h]
theorem rf_len {S : St} {T : Int} {P : List Pt} (h1 : ¬ (T ≤ S.last ∨ 1099511627776 < T)) (h2 : ¬ (P = [] ∨ ¬ Rs P)) (h3 : ¬ ((P.getD 0 pz).1 < 0 ∨ (S.n : Int) ≤ (P.getD (P.length - 1) pz).1)) (h : ∃ p ∈ P, p.2.length ≠ 40) : rf S T P = 3 := by
  unfold rf; rw [if_neg h1, if_neg h2, if_neg h3, if_pos h]
theorem rf_ok {S : St} {T : Int} {P : List Pt} (h1 : ¬ (T ≤ S.last ∨ 1099511627776 < T)) (h2 : ¬ (P = [] ∨ ¬ Rs P)) (h3 : ¬ ((P.getD 0 pz).1 < 0 ∨ (S.n : Int) ≤ (P.getD (P.length - 1) pz).1)) (h4 : ¬ ∃ p ∈ P, p.2.length ≠ 40) : rf S T P = 0 := by
  unfold rf; rw [if_neg h1, if_neg h2, if_neg h3, if_neg h4]
theorem Fine.rf {S : St} {T : Int} {P : List Pt} (h : Fine S T P) : rf S T P = 0 := by
  have h1 := h.t0
  have h2 := h.t1
  have hp : 0 < P.length := List.length_pos_iff.2 h.ne
  refine rf_ok (by omega) (fun e => e.elim h.ne fun e => e h.rs) (fun e => ?_) (fun ⟨p, hp, e⟩ => ?_)
  · have a := h.lo 0 hp
    have b := h.hi (P.length - 1) (by omega)
    omega
  · obtain ⟨j, hj, rfl⟩ := List.mem_iff_getElem.1 hp
    have := h.len j hj
    rw [List.getD_eq_getElem?_getD, List.getElem?_eq_getElem hj] at this
    exact e this
theorem rf_cases (S : St) (T : Int) (P : List Pt) : (rf S T P = 0 ∧ Fine S T P) ∨ rf S T P = 11 ∨ rf S T P = 1 ∨ rf S T P = 2 ∨ rf S T P = 3 := by
  by_cases h1 : T ≤ S.last ∨ 1099511627776 < T
  · exact Or.inr (Or.inl (rf_time h1))
  by_cases h2 : P = [] ∨ ¬ Rs P
  · exact Or.inr (Or.inr (Or.inl (rf_arg h1 h2)))
  by_cases h3 : (P.getD 0 pz).1 < 0 ∨ (S.n : Int) ≤ (P.getD (P.length - 1) pz).1
  · exact Or.inr (Or.inr (Or.inr (Or.inl (rf_range h1 h2 h3))))
  by_cases h4 : ∃ p ∈ P, p.2.length ≠ 40
  · exact Or.inr (Or.inr (Or.inr (Or.inr (rf_len h1 h2 h3 h4))))
  · exact Or.inl ⟨rf_ok h1 h2 h3 h4, fine_of h1 h2 h3 h4⟩

/-- A block's versions behind the first k writes at one time: at most one more. -/
theorem ups_at (V : Nat → List Ver) (T : Int) (k : Nat) : ∀ (P : List Pt), Rs P → (ups V T P k = V k ∧ ∀ p ∈ P, p.1 ≠ (k : Int)) ∨ ∃ p ∈ P, p.1 = (k : Int) ∧ ups V T P k = V k ++ [(T, p.2)] := by
  intro P
  have key : ∀ m, m ≤ P.length → Rs P → (ups V T (P.take m) k = V k ∧ ∀ p ∈ P.take m, p.1 ≠ (k : Int)) ∨ ∃ j, j < m ∧ (P.getD j pz).1 = (k : Int) ∧ ups V T (P.take m) k = V k ++ [(T, (P.getD j pz).2)] := by
    intro m
    induction m with
    | zero => intro _ _; exact Or.inl ⟨by simp [ups], by simp⟩
    | succ m ih =>
      intro hm hr
      have hml : m < P.length := by omega
      rw [ups_take V T P m hml]
      unfold up1
      rcases ih (by omega) hr with ⟨e, hn⟩ | ⟨j, hj, e1, e2⟩
      · by_cases hk : (k : Int) = (P.getD m pz).1
        · rw [if_pos hk, e]
          exact Or.inr ⟨m, by omega, hk.symm, rfl⟩
        · rw [if_neg hk, e]
          refine Or.inl ⟨rfl, fun p hp => ?_⟩
          rw [List.take_succ_eq_append_getElem hml] at hp
          rcases List.mem_append.1 hp with hp | hp
          · exact hn p hp
          · have : p = P.getD m pz := by
              rw [List.getD_eq_getElem?_getD, List.getElem?_eq_getElem hml]; simpa using hp
            subst this
            exact fun e => hk e.symm
      · have hlt := hr.lt m j (by omega) hml
        rw [if_neg (by omega), e2]
        exact Or.inr ⟨j, by omega, e1, rfl⟩
  intro hr
  have := key P.length (Nat.le_refl _) hr
  rw [List.take_length] at this
  rcases this with h | ⟨j, hj, h1, h2⟩
  · exact Or.inl h
  · exact Or.inr ⟨_, pt_mem hj, h1, h2⟩
theorem up1_len (V : Nat → List Ver) (T : Int) (p : Pt) (k : Nat) : (up1 V T p k).length ≤ (V k).length + 1 := by
  unfold up1; split
  · simp
  · omega

theorem take_getD (P : List Pt) (m i : Nat) (h : i < m) : (P.take m).getD i pz = P.getD i pz := by
  simp only [List.getD_eq_getElem?_getD, List.getElem?_take, if_pos h]
theorem Rs.take {P : List Pt} (h : Rs P) (m : Nat) : Rs (P.take m) := fun j h1 hj => by
  rw [List.length_take] at hj
  rw [take_getD P m _ (by omega), take_getD P m _ (by omega)]
  exact h j h1 (by omega)
/-- The state behind a transaction's first m writes. -/
def apm (S : St) (T : Int) (P : List Pt) (m : Nat) : St := ⟨S.n, T, ups S.V T (P.take m), S.c + 1⟩
def ap (S : St) (T : Int) (P : List Pt) : St := ⟨S.n, T, ups S.V T P, S.c + 1⟩
theorem apm_all (S : St) (T : Int) (P : List Pt) : apm S T P P.length = ap S T P := by unfold apm ap; rw [List.take_length]
theorem apm_none (S : St) (T : Int) (P : List Pt) : (apm S T P 0).V = S.V := rfl
theorem mem_at {P : List Pt} {p : Pt} (h : p ∈ P) : ∃ j, j < P.length ∧ P.getD j pz = p := by
  obtain ⟨j, hj, rfl⟩ := List.mem_iff_getElem.1 h
  exact ⟨j, hj, by rw [List.getD_eq_getElem?_getD, List.getElem?_eq_getElem hj]; rfl⟩
theorem Fine.okm {S : St} {T : Int} {P : List Pt} (h : Fine S T P) (hS : Ok S) (hc : S.c < 20000) (hB : ∀ p ∈ P, ∀ c ∈ p.2, c < 256) (m : Nat) : Ok (apm S T P m) := by
  have ht := h.t0
  have h1 := h.t1
  have hl := hS.l0
  refine ⟨hS.n1, hS.n2, show 0 ≤ T by omega, h1, fun k v hv => ?_, fun k hk => ?_, fun k => ?_, show S.c + 1 ≤ 20000 by omega⟩
  · rcases ups_at S.V T k (P.take m) (h.rs.take m) with ⟨e, _⟩ | ⟨p, hp, _, e⟩
    · have hv' : v ∈ S.V k := by rw [← e]; exact hv
      have := hS.v k v hv'
      exact ⟨this.1, by have := this.2.1; show v.1 ≤ T; omega, this.2.2⟩
    · have hv' : v ∈ S.V k ++ [(T, p.2)] := by rw [← e]; exact hv
      rcases List.mem_append.1 hv' with hv' | hv'
      · have := hS.v k v hv'
        exact ⟨this.1, by have := this.2.1; show v.1 ≤ T; omega, this.2.2⟩
      · rw [List.mem_singleton] at hv'
        subst hv'
        have hp' := List.mem_of_mem_take hp
        obtain ⟨j, hj, rfl⟩ := mem_at hp'
        exact ⟨show 1 ≤ T by omega, Int.le_refl _, h.len j hj, fun c hc => hB (P.getD j pz) hp' c hc⟩
  · rcases ups_at S.V T k (P.take m) (h.rs.take m) with ⟨e, _⟩ | ⟨p, hp, e1, _⟩
    · exact e.trans (hS.e k hk)
    · obtain ⟨j, hj, rfl⟩ := mem_at (List.mem_of_mem_take hp)
      have := h.hi j hj
      have hk' : S.n ≤ k := hk
      omega
  · have hb := hS.b k
    rcases ups_at S.V T k (P.take m) (h.rs.take m) with ⟨e, _⟩ | ⟨p, _, _, e⟩
    · show (ups S.V T (P.take m) k).length ≤ S.c + 1; rw [e]; omega
    · show (ups S.V T (P.take m) k).length ≤ S.c + 1; rw [e, List.length_append]; simp; omega
theorem apm_step {S : St} {T : Int} {P : List Pt} {m k : Nat} (hm : m < P.length) (hk : (P.getD m pz).1 = (k : Int)) (j : Nat) : (apm S T P (m + 1)).V j = if j = k then (apm S T P m).V k ++ [(T, (P.getD m pz).2)] else (apm S T P m).V j := by
  show ups S.V T (P.take (m + 1)) j = if j = k then ups S.V T (P.take m) k ++ [(T, (P.getD m pz).2)] else ups S.V T (P.take m) j
  rw [ups_take S.V T P m hm]
  unfold up1
  by_cases e : j = k
  · subst e; rw [if_pos hk.symm, if_pos rfl]
  · rw [if_neg (by omega), if_neg e]

/-- The sum of f over the numbers ahead of n. -/
def sg (f : Nat → Nat) : Nat → Nat
  | 0 => 0
  | n + 1 => sg f n + f n
theorem sg_congr {f g : Nat → Nat} : ∀ n, (∀ k, k < n → f k = g k) → sg f n = sg g n
  | 0, _ => rfl
  | n + 1, h => by
    show sg f n + f n = sg g n + g n
    rw [sg_congr n fun k hk => h k (by omega), h n (by omega)]
theorem sg_zero : ∀ n, sg (fun _ => 0) n = 0
  | 0 => rfl
  | n + 1 => by show sg _ n + 0 = 0; rw [sg_zero n]
theorem sg_bump {f g : Nat → Nat} (i d : Nat) : ∀ n, i < n → (∀ k, k < n → g k = if k = i then f k + d else f k) → sg g n = sg f n + d
  | 0, h, _ => absurd h (Nat.not_lt_zero i)
  | n + 1, h, hg => by
    show sg g n + g n = sg f n + f n + d
    by_cases e : i = n
    · subst e
      rw [sg_congr (f := g) (g := f) i fun k hk => by rw [hg k (by omega), if_neg (by omega)], hg i (by omega), if_pos rfl]; omega
    · rw [sg_bump i d n (by omega) fun k hk => hg k (by omega), hg n (by omega), if_neg (fun h => e h.symm)]; omega
theorem sg_le {f g : Nat → Nat} : ∀ n, (∀ k, k < n → f k ≤ g k) → sg f n ≤ sg g n
  | 0, _ => Nat.le_refl _
  | n + 1, h => Nat.add_le_add (sg_le n fun k hk => h k (by omega)) (h n (by omega))
theorem sg_add (f g : Nat → Nat) : ∀ n, sg (fun k => f k + g k) n = sg f n + sg g n
  | 0 => rfl
  | n + 1 => by
    show sg (fun k => f k + g k) n + (f n + g n) = sg f n + f n + (sg g n + g n)
    rw [sg_add f g n]; omega
theorem sg_const (c : Nat) : ∀ n, sg (fun _ => c) n = n * c
  | 0 => by simp [sg]
  | n + 1 => by show sg _ n + c = _; rw [sg_const c n, Nat.succ_mul]
theorem sg_one {f : Nat → Nat} (k : Nat) : ∀ n, k < n → f k ≤ sg f n
  | 0, h => absurd h (Nat.not_lt_zero k)
  | n + 1, h => by
    show f k ≤ sg f n + f n
    by_cases e : k = n
    · subst e; omega
    · have := sg_one (f := f) k n (by omega); omega

end Go.Proofs.Ytcffoebpgjonmaa.Em

namespace Go.Proofs.Ytcffoebpgjonmaa.Em
open Go.RowKit

/-- A version's 41 cells, and those of a list. -/
def vc (v : Ver) : List Value := .int .i64 v.1 :: v.2.map bt
def vl : List Ver → List Value
  | [] => []
  | v :: L => vc v ++ vl L
def AllV (L : List Ver) : Prop := ∀ v ∈ L, v.2.length = 40
theorem vc_len {v : Ver} (h : v.2.length = 40) : (vc v).length = 41 := by simp [vc, h]
theorem vl_app : ∀ (L M : List Ver), vl (L ++ M) = vl L ++ vl M
  | [], _ => rfl
  | v :: L, M => by rw [List.cons_append, vl, vl, vl_app L M, List.append_assoc]
theorem vl_one (v : Ver) : vl [v] = vc v := by simp [vl]
theorem vl_len : ∀ (L : List Ver), AllV L → (vl L).length = L.length * 41
  | [], _ => rfl
  | v :: L, h => by
    rw [vl, List.length_append, vc_len (h v (List.mem_cons_self ..)), vl_len L fun u hu => h u (List.mem_cons_of_mem _ hu), List.length_cons]; omega
theorem vl_drop : ∀ (L : List Ver) (k : Nat), AllV L → vl (L.drop k) = (vl L).drop (k * 41)
  | [], k, _ => by simp [vl]
  | v :: L, 0, _ => by simp
  | v :: L, k + 1, h => by
    have h1 := vc_len (h v (List.mem_cons_self ..))
    rw [List.drop_succ_cons, vl_drop L k fun u hu => h u (List.mem_cons_of_mem _ hu), vl, show (k + 1) * 41 = 41 + k * 41 by omega, ← List.drop_drop, ← h1, List.drop_left]
theorem vl_at : ∀ (L : List Ver) (k : Nat), AllV L → k < L.length → ∀ j, j < 41 → (vl L)[k * 41 + j]? = (vc (L.getD k zv))[j]?
  | [], k, _, h, _, _ => by simp at h
  | v :: L, 0, hv, _, j, hj => by
    have h1 := vc_len (hv v (List.mem_cons_self ..))
    rw [vl, Nat.zero_mul, Nat.zero_add, List.getElem?_append_left (by omega)]; rfl
  | v :: L, k + 1, hv, h, j, hj => by
    have h1 := vc_len (hv v (List.mem_cons_self ..))
    rw [vl, List.getElem?_append_right (by omega), show (k + 1) * 41 + j - (vc v).length = k * 41 + j by omega, vl_at L k (fun u hu => hv u (List.mem_cons_of_mem _ hu)) (by simpa using h) j hj]; rfl
theorem vc_cells (v : Ver) : ∀ u ∈ vc v, u.oneCell' = true := by
  intro u hu
  rcases List.mem_cons.1 hu with rfl | hu
  · rfl
  · obtain ⟨x, _, rfl⟩ := List.mem_map.1 hu; rfl
theorem vl_cells : ∀ (L : List Ver), ∀ u ∈ vl L, u.oneCell' = true
  | [], u, h => by cases h
  | v :: L, u, h => by
    rw [vl] at h
    rcases List.mem_append.1 h with h | h
    · exact vc_cells v u h
    · exact vl_cells L u h
theorem AllV.at {L : List Ver} (h : AllV L) (k : Nat) : (L.getD k zv).2.length = 40 := by
  by_cases hk : k < L.length
  · rw [List.getD_eq_getElem?_getD, List.getElem?_eq_getElem hk]; exact h _ (List.getElem_mem hk)
  · rw [List.getD_eq_getElem?_getD, List.getElem?_eq_none (by omega)]; exact zv_len

/-- The slice at A reads as the list L of versions. -/
def VV (w : World) (A : Option Addr) (L : List Ver) : Prop :=
  L = [] ∨ ∃ g o, A = some ⟨g, o, none⟩ ∧ g < w.heap.size ∧ ∀ j, j < L.length → w.rangeAt g (o + j * 41) (vc (L.getD j zv))
theorem VV.pos {w : World} {A : Option Addr} {L : List Ver} (h : VV w A L) (h0 : 0 < L.length) : ∃ g o, A = some ⟨g, o, none⟩ ∧ g < w.heap.size ∧ ∀ j, j < L.length → w.rangeAt g (o + j * 41) (vc (L.getD j zv)) := by
  rcases h with rfl | h
  · simp at h0
  · exact h
theorem VV.on {w w' : World} {A : Option Addr} {L : List Ver} (h : VV w A L) (hb : At w w') : VV w' A L := by
  rcases h with h | ⟨b, o, rfl, hlt, hc⟩
  · exact Or.inl h
  · exact Or.inr ⟨b, o, rfl, Nat.lt_of_lt_of_le hlt hb.size, fun j hj i v hv => (Below.cell hb (p := ⟨b, o + j * 41 + i, none⟩) hlt).trans (hc j hj i v hv)⟩
theorem range_fst {w : World} {g o : Nat} {v : Ver} (h : w.rangeAt g o (vc v)) : w.cell? ⟨g, o, none⟩ = some (.int .i64 v.1) := by
  have := h 0 (.int .i64 v.1) rfl
  rwa [Nat.add_zero] at this

/-- A row of versions of the map's own: the slice v holds L. -/
def Vo (w : World) (v : Value) (L : List Ver) : Prop := w.ownsRow 0 70 41 v L.length (vl L)
theorem Vo.nil (w : World) : Vo w (.slice none 0 0) [] := World.ownsRow_nil _ _ _ _
theorem Vo.form {w : World} {v : Value} {L : List Ver} (h : Vo w v L) : (v = .slice none 0 0 ∧ L = []) ∨ ∃ g c T, v = .slice (some ⟨g, 0, none⟩) L.length c ∧ L.length ≤ c ∧ c ≤ maxLen ∧ (vl L ++ T).length = c * 41 ∧ w.heap[g]? = some (.cells (vl L ++ T).toArray 70 (0, 0)) := by
  rcases h.2 with ⟨h1, h2⟩ | ⟨g, cap, cur, h1, _, h3, h4, h5, h6, h7⟩
  · exact Or.inl ⟨h1, List.eq_nil_of_length_eq_zero h2⟩
  · refine Or.inr ⟨g, cap, cur.toList.drop (L.length * 41), h1, h4, h5, ?_, ?_⟩
    · rw [← h7, List.take_append_drop, Array.length_toList, h6]
    · rw [← h7, List.take_append_drop, Array.toArray_toList]; exact h3
theorem Vo.of_block {w : World} {g c : Nat} {L : List Ver} {T : List Value} (hV : AllV L) (h1 : L.length ≤ c) (h2 : c ≤ maxLen) (h3 : (vl L ++ T).length = c * 41) (h4 : w.heap[g]? = some (.cells (vl L ++ T).toArray 70 (0, 0))) : Vo w (.slice (some ⟨g, 0, none⟩) L.length c) L :=
  ⟨vl_len L hV, Or.inr ⟨g, c, _, rfl, Nat.zero_le _, h4, h1, h2, by rw [List.size_toArray, h3], by rw [← vl_len L hV]; simp⟩⟩
theorem Vo.lt {w : World} {v : Value} {L : List Ver} (h : Vo w v L) {g : Nat} (hg : v.ownBlock = some g) : g < w.heap.size := by
  rcases h.form with ⟨rfl, _⟩ | ⟨g', c, T, rfl, _, _, _, h4⟩
  · cases hg
  · injection hg with hg; rw [← hg]; exact lt_heap h4
theorem Vo.type {w : World} {v : Value} {L : List Ver} (h : Vo w v L) {g : Nat} (hg : v.ownBlock = some g) : ∃ cs, w.heap[g]? = some (.cells cs 70 (0, 0)) := by
  rcases h.form with ⟨rfl, _⟩ | ⟨g', c, T, rfl, _, _, _, h4⟩
  · cases hg
  · injection hg with hg; rw [← hg]; exact ⟨_, h4⟩
theorem Vo.keep {w w' : World} {v : Value} {L : List Ver} (h : Vo w v L) (hk : ∀ g, v.ownBlock = some g → w'.heap[g]? = w.heap[g]?) : Vo w' v L := by
  refine ⟨h.1, ?_⟩
  rcases h.2 with h | ⟨g, cap, cur, hv, hB, hh, hr⟩
  · exact Or.inl h
  · refine Or.inr ⟨g, cap, cur, hv, hB, ?_, hr⟩
    rw [hk g (by rw [hv]; rfl)]; exact hh
theorem Vo.on {w w' : World} {v : Value} {L : List Ver} (h : Vo w v L) (hm : At w w') : Vo w' v L := h.keep fun _ hg => hm.block _ (h.lt hg)
theorem Vo.mv {w w' : World} {F : Nat → Prop} {v : Value} {L : List Ver} (h : Vo w v L) (hm : Mv F w w') (hF : ∀ g, v.ownBlock = some g → ¬ F g) : Vo w' v L := h.keep fun g hg => hm.block _ (h.lt hg) (hF g hg)
theorem Vo.vv {w : World} {v : Value} {L : List Ver} (h : Vo w v L) (hV : AllV L) : ∃ A c, v = .slice A L.length c ∧ L.length ≤ c ∧ c ≤ maxLen ∧ VV w A L := by
  rcases h.form with ⟨rfl, rfl⟩ | ⟨g, c, T, rfl, h1, h2, h3, h4⟩
  · exact ⟨none, 0, rfl, by simp, by unfold maxLen; omega, Or.inl rfl⟩
  · refine ⟨_, c, rfl, h1, h2, Or.inr ⟨g, 0, rfl, lt_heap h4, fun j hj i u hu => ?_⟩⟩
    have hl := vl_len L hV
    have hi : i < 41 := by
      have := (List.getElem?_eq_some_iff.1 hu).1
      rwa [vc_len (hV.at j)] at this
    rw [cell_at h4, List.getElem?_toArray, List.getElem?_append_left (by omega), Nat.zero_add, vl_at L j hV hj i hi]; exact hu

theorem ver_info : (Try.prog.info? 70).map (fun i => (i.zero.map (·.cells.size), i.size, i.bytes)) = some (some 41, 41, 48) := by kernel_rfl
theorem ver_parts : ∃ i z, Try.prog.info? 70 = some i ∧ i.zero = some z ∧ i.size = 41 ∧ i.bytes = 48 ∧ z.cells.size = 41 := by
  have h := ver_info
  cases hi : Try.prog.info? 70 with
  | none => rw [hi] at h; cases h
  | some i =>
    rw [hi] at h
    simp only [Option.map_some, Option.some.injEq, Prod.mk.injEq] at h
    cases hz : i.zero with
    | none => rw [hz] at h; simp at h
    | some z =>
      rw [hz] at h
      simp only [Option.map_some, Option.some.injEq] at h
      exact ⟨i, z, rfl, hz, h.2.1, h.2.2, h.1⟩
theorem size_ver : (Try.prog.info? 70).map (·.size) = some 41 := by
  obtain ⟨i, z, hi, _, h, _⟩ := ver_parts
  rw [hi]; simp [h]

theorem under_ver : ∃ d, Try.prog.underlying 70 = some d ∧ d.isRow = true := ⟨_, Try.underlying70, rfl⟩
/-- A result that lies in a cell, a version. -/
theorem results_ver {fn : Func} {p : Tmp} (h : fn.results = #[.cell p 70]) (tmps : Array Value) (w : World) (g : Nat) (v : Ver) (hp : tmps.getD p undef = .pointer (some ⟨g, 0, none⟩)) (hl : v.2.length = 40)
    (hg : w.heap[g]? = some (.cells (vc v).toArray 70 (0, 0))) : (results fn tmps).run Try.prog w = .ok (.agg (vc v).toArray) w :=
  results_cell_row h tmps w g _ _ _ _ hp hg Try.underlying70 rfl (by rw [size_ver, List.size_toArray, vc_len hl])

section
variable {ops : Array Oper} {rest : List Oper} {op : Oper} {a : Act} {w : World} {Q : Exit → Act → World → Prop}
/-- A version is loaded whole. -/
theorem load_ver (hgd : op.guard = none) (x : Operand) (ho : op.op = .load 70 x) (b o : Nat) (hx : a.eval x = .pointer (some ⟨b, o, none⟩)) (v : Ver) (hl : v.2.length = 40) (hc : w.rangeAt b o (vc v))
    (h : wpList Try.prog ops Q rest (a.put op.dst (.agg (vc v).toArray)) w) : wpList Try.prog ops Q (op :: rest) a w :=
  wpList_load_mid hgd _ x ho b o hx (vc v) _ hc Try.underlying70 rfl (by rw [size_ver, vc_len hl]) h
/-- A version is stored whole into a block that was made last. -/
theorem store_ver (hgd : op.guard = none) (x y : Operand) (ho : op.op = .store 70 x y) (v : Ver) (hl : v.2.length = 40) (W : World) (zs : Array Value) (hw : w = W.alloc (.cells zs 70)) (hz : zs.size = 41)
    (hx : a.eval x = .pointer (some ⟨W.heap.size, 0, none⟩)) (hy : a.eval y = .agg (vc v).toArray) (h : wpList Try.prog ops Q rest (a.put op.dst undef) (W.alloc (.cells (vc v).toArray 70))) : wpList Try.prog ops Q (op :: rest) a w := by
  subst hw
  refine wpList_store_row hgd _ x y ho W.heap.size _ hx hy _ zs (heap_alloc_new _ _) (by rw [size_ver, List.size_toArray, vc_len hl]) (by rw [hz, List.size_toArray, vc_len hl]) (all_oneCell_toArray (vc_cells v)) ?_
  rw [World.setRow_alloc_new]
  exact h
end
theorem range_alloc {w : World} {b o : Nat} {cs : List Value} (h : w.rangeAt b o cs) (ob : Obj) : (w.alloc ob).rangeAt b o cs := fun j v hv => by
  have := h j v hv
  rw [World.cell?_alloc_lt _ _ _ (World.block_lt_of_cell? w _ this)]; exact this

theorem vc_zero : (vc zv).toArray = #[.int .i64 0, .int .u8 0, .int .u8 0, .int .u8 0, .int .u8 0, .int .u8 0, .int .u8 0, .int .u8 0, .int .u8 0, .int .u8 0, .int .u8 0, .int .u8 0, .int .u8 0, .int .u8 0, .int .u8 0, .int .u8 0, .int .u8 0, .int .u8 0, .int .u8 0, .int .u8 0, .int .u8 0, .int .u8 0, .int .u8 0, .int .u8 0, .int .u8 0, .int .u8 0, .int .u8 0, .int .u8 0, .int .u8 0, .int .u8 0, .int .u8 0, .int .u8 0, .int .u8 0, .int .u8 0, .int .u8 0, .int .u8 0, .int .u8 0, .int .u8 0, .int .u8 0, .int .u8 0, .int .u8 0] := rfl
end Go.Proofs.Ytcffoebpgjonmaa.Em

namespace Go.Proofs.Ytcffoebpgjonmaa.Em
open Go.RowKit

/-- An element of the map stands for itself. -/
def raw (v : Value) : Option (DataW Value × List MemPlace) := some (.held v, [])
/-- A block's number as a key. -/
def ky (k : Nat) : Lit := .int .i64 (k : Int)
def nl : Value := .slice none 0 0
theorem ky_inj {j k : Nat} (h : ky j = ky k) : j = k := by
  unfold ky at h; injection h with _ h; omega
theorem ky_wf {k : Nat} (h : k ≤ 2000000) : (ky k).wf = true := WalkArith.wf_i64 (by omega)
theorem int_key : Maps.Keyed Try.prog 3 := Maps.int_keyed Try.underlying3
theorem key_of {k : Nat} (h : k ≤ 2000000) : keyOf Try.prog 3 (.int .i64 (k : Int)) = some (ky k) := Maps.keyOf_int_mk Try.underlying3 (ky_wf h)
theorem zero_slice (w : World) : (zeroValue 71).run Try.prog w = .ok nl w := by kernel_rfl
theorem own_tight {H : Type} {P : Program} {k : TypeId} {R : Value → Option (DataW H × List MemPlace)} {w : World} {b n : Nat} {D : DataW H} (h : w.ownsMap P k R b n D) : w.ownsMap P k R b (Maps.size D) D := by
  obtain ⟨es, clock, hb, F, hs, rfl⟩ := h
  exact ⟨es, clock, hb, F, by simp [Maps.size, length_sorted], rfl⟩

/-- The entries' block mb with the entries D and the slices hd holds the versions of the state S, among the blocks F. -/
structure Mr (w : World) (S : St) (F : Nat → Prop) (mb : Nat) (D : DataW Value) (hd : Nat → Value) : Prop where
  ok : Ok S
  own : w.ownsMap Try.prog 3 raw mb (Maps.size D) D
  at_ : ∀ k, D.atKey (ky k) (.held nl) = .held (hd k)
  has : ∀ k, Maps.has D (ky k) = true ↔ S.V k ≠ []
  only : ∀ l, Maps.has D l = true → ∃ k, k < S.n ∧ l = ky k
  row : ∀ k, Vo w (hd k) (S.V k)
  apart : ∀ j k g, j ≠ k → (hd j).ownBlock = some g → (hd k).ownBlock ≠ some g
  fm : F mb
  fr : ∀ k g, (hd k).ownBlock = some g → F g
  ft : ∀ g, F g → g < w.heap.size
/-- The map at b is in the state S; its blocks are among F. -/
structure Mq (w : World) (b : Nat) (S : St) (F : Nat → Prop) (mb : Nat) (D : DataW Value) (hd : Nat → Value) : Prop extends Mr w S F mb D hd where
  box : w.heap[b]? = some (.cells #[.int .i64 (S.n : Int), .map (some mb), .int .i64 S.last] 64 (0, 0))
  fb : F b
def Mp (w : World) (b : Nat) (S : St) (F : Nat → Prop) : Prop := ∃ mb D hd, Mq w b S F mb D hd

/-- What a call did with a map whose blocks were F, and are F'. -/
structure Did (F : Nat → Prop) (w : World) (F' : Nat → Prop) (w' : World) : Prop where
  mv : Mv F w w'
  new : ∀ g, F' g → F g ∨ w.heap.size ≤ g
theorem Did.refl (F : Nat → Prop) (w : World) : Did F w F w := ⟨Mv.refl F w, fun _ h => Or.inl h⟩
theorem Did.trans {F G K : Nat → Prop} {a b c : World} (h : Did F a G b) (k : Did G b K c) : Did F a K c :=
  ⟨h.mv.trans k.mv h.new, fun g hg => by
    rcases k.new g hg with h1 | h1
    · exact h.new g h1
    · right; have := h.mv.size; omega⟩
theorem Did.of_at {F : Nat → Prop} {w w' : World} (h : At w w') : Did F w F w' := ⟨Mv.of_below F h, fun _ h => Or.inl h⟩
theorem Did.next {F G : Nat → Prop} {a b c : World} (h : Did F a G b) (k : At b c) : Did F a G c := h.trans (Did.of_at k)
theorem Did.at_ {F G : Nat → Prop} {w0 w w' : World} (h : Did F w G w') (ha : At w0 w) (hF : ∀ g, F g → w0.heap.size ≤ g) : At w0 w' := h.mv.at_ ha hF
theorem Did.far {F G : Nat → Prop} {w0 w w' : World} (h : Did F w G w') (ha : w0.heap.size ≤ w.heap.size) (hF : ∀ g, F g → w0.heap.size ≤ g) : ∀ g, G g → w0.heap.size ≤ g := fun g hg => by
  rcases h.new g hg with h1 | h1
  · exact hF g h1
  · omega
/-- A block beside the map's stays, and stays beside it. -/
theorem Did.keep {F G : Nat → Prop} {w w' : World} (h : Did F w G w') {g : Nat} {o : Obj} (hg : w.heap[g]? = some o) (hF : ¬ F g) : w'.heap[g]? = some o ∧ ¬ G g :=
  ⟨h.mv.keep hg hF, fun hG => (h.new g hG).elim hF fun h1 => by have := lt_heap hg; omega⟩

section
variable {w w' : World} {b mb : Nat} {S : St} {F : Nat → Prop} {D : DataW Value} {hd : Nat → Value}
theorem Mr.on (h : Mr w S F mb D hd) (hm : At w w') : Mr w' S F mb D hd :=
  ⟨h.ok, h.own.kept (row := none) ⟨hm.os, hm.tape, hm.output, hm.size, fun k hk _ => hm.block k hk⟩ (by simp), h.at_, h.has, h.only, fun k => (h.row k).on hm, h.apart, h.fm, h.fr, fun g hg => Nat.lt_of_lt_of_le (h.ft g hg) hm.size⟩
theorem Mq.on (h : Mq w b S F mb D hd) (hm : At w w') : Mq w' b S F mb D hd := ⟨h.toMr.on hm, hm.keep h.box, h.fb⟩
theorem own_mv {G : Nat → Prop} {k : TypeId} {n : Nat} {R : Value → Option (DataW Value × List MemPlace)} (h : w.ownsMap Try.prog k R mb n D) (hm : Mv G w w') (hG : ¬ G mb) : w'.ownsMap Try.prog k R mb n D := by
  obtain ⟨es, clock, hb, r⟩ := h
  exact ⟨es, clock, hm.keep hb hG, r⟩
theorem Mr.st {S' : St} (h : Mr w S F mb D hd) (hok : Ok S') (hn : S'.n = S.n) (hV : S'.V = S.V) : Mr w S' F mb D hd :=
  ⟨hok, h.own, h.at_, fun k => by rw [hV]; exact h.has k, fun l hl => by rw [hn]; exact h.only l hl, fun k => by rw [hV]; exact h.row k, h.apart, h.fm, h.fr, h.ft⟩
theorem Mr.mvf {G : Nat → Prop} (h : Mr w S F mb D hd) (hm : Mv G w w') (hG : ¬ G mb) (hR : ∀ k g, (hd k).ownBlock = some g → ¬ G g) : Mr w' S F mb D hd :=
  ⟨h.ok, own_mv h.own hm hG, h.at_, h.has, h.only, fun k => (h.row k).mv hm fun g hg => hR k g hg, h.apart, h.fm, h.fr, fun g hg => Nat.lt_of_lt_of_le (h.ft g hg) hm.size⟩
theorem Mr.mv {G : Nat → Prop} (h : Mr w S F mb D hd) (hm : Mv G w w') (hG : ∀ g, F g → ¬ G g) : Mr w' S F mb D hd := h.mvf hm (hG _ h.fm) fun k g hg => hG _ (h.fr k g hg)
theorem Mq.mv {G : Nat → Prop} (h : Mq w b S F mb D hd) (hm : Mv G w w') (hG : ∀ g, F g → ¬ G g) : Mq w' b S F mb D hd := ⟨h.toMr.mv hm hG, hm.keep h.box (hG _ h.fb), h.fb⟩
/-- The entries' block is no row. -/
theorem Mr.ne (h : Mr w S F mb D hd) (k : Nat) : (hd k).ownBlock ≠ some mb := fun e => by
  obtain ⟨cs, hc⟩ := (h.row k).type e
  obtain ⟨es, clock, hb, _⟩ := h.own
  rw [hc] at hb; cases hb
theorem own_isKey (k : Nat) : WideAt.IsKeyLit (ky k) := by unfold ky; simp [WideAt.IsKeyLit]
/-- One entry is laid anew. -/
theorem Mr.store (h : Mr w S F mb D hd) {k : Nat} (hk : k < S.n) {v : Value} {L : List Ver} {w1 : World} (hm : Mv (fun g => (hd k).ownBlock = some g) w w1) (hv : Vo w1 v L) (hat : ∀ g, v.ownBlock = some g → (hd k).ownBlock = some g ∨ w.heap.size ≤ g)
    {S' : St} (hok : Ok S') (hn : S'.n = S.n) (hV : ∀ j, S'.V j = if j = k then L else S.V j) (hne : L ≠ []) :
    ∃ w2, (Instr.mapUpdate 62 (.map (some mb)) (.int .i64 (k : Int)) v).run Try.prog w1 = .ok () w2 ∧ Mr w2 S' (fun g => F g ∨ v.ownBlock = some g) mb (D.put (ky k) (.held v)) (fun j => if j = k then v else hd j) ∧ Did F w (fun g => F g ∨ v.ownBlock = some g) w2 ∧ Mv (fun g => g = mb) w1 w2 := by
  have hnn := hok.n2
  have hown1 := own_mv h.own hm (h.ne k)
  have hsz : Maps.size D < maxLen := by
    have hl := own_tight h.own
    obtain ⟨es, he, hp, hkk⟩ := h.own.entries int_key
    have : Maps.size D ≤ S.n := by
      subst he
      have hsub : (es.map fun p => intOf p.1).Nodup := by
        refine List.pairwise_map.2 (hp.imp_of_mem fun {p q} hp' hq' hne e => hne ?_)
        obtain ⟨a, _, ha⟩ := h.only p.1 (List.any_eq_true.2 ⟨p, hp', WideAt.sameKey_self (hkk p hp')⟩)
        obtain ⟨c, _, hc⟩ := h.only q.1 (List.any_eq_true.2 ⟨q, hq', WideAt.sameKey_self (hkk q hq')⟩)
        rw [ha, hc] at e ⊢
        unfold ky at e ⊢
        rw [show intOf (Lit.int .i64 (a : Int)) = (a : Int) from rfl, show intOf (Lit.int .i64 (c : Int)) = (c : Int) from rfl] at e
        rw [e]
      have hle : (es.map fun p => (intOf p.1).toNat).length ≤ (List.range S.n).length := by
        refine List.Nodup.length_le_of_subset ?_ fun x hx => ?_
        · refine List.pairwise_map.2 ((List.pairwise_map.1 hsub).imp_of_mem fun {p q} hp' hq' hne e => hne ?_)
          obtain ⟨a, _, ha⟩ := h.only p.1 (List.any_eq_true.2 ⟨p, hp', WideAt.sameKey_self (hkk p hp')⟩)
          obtain ⟨c, _, hc⟩ := h.only q.1 (List.any_eq_true.2 ⟨q, hq', WideAt.sameKey_self (hkk q hq')⟩)
          rw [ha, hc] at e ⊢
          unfold ky at e ⊢
          rw [show intOf (Lit.int .i64 (a : Int)) = (a : Int) from rfl, show intOf (Lit.int .i64 (c : Int)) = (c : Int) from rfl] at e ⊢
          omega
        · obtain ⟨p, hp', rfl⟩ := List.mem_map.1 hx
          obtain ⟨a, hl, ha⟩ := h.only p.1 (List.any_eq_true.2 ⟨p, hp', WideAt.sameKey_self (hkk p hp')⟩)
          rw [ha, List.mem_range]
          unfold ky
          rw [show intOf (Lit.int .i64 (a : Int)) = (a : Int) from rfl]
          omega
      simpa [Maps.size] using hle
    unfold maxLen; omega
  obtain ⟨w2, hrun, hown2, hturn⟩ := hown1.store int_key Try.underlying62 hsz (key_of (k := k) (by omega)) (show raw v = some (.held v, []) from rfl)
  have hm2 : Mv (fun g => g = mb) w1 w2 := (Mv.refl _ w1).grown hturn.grown fun g hg => by injection hg with hg; exact Or.inl hg.symm
  have hvm : v.ownBlock ≠ some mb := fun e => by
    obtain ⟨cs, hc⟩ := hv.type e
    obtain ⟨es, clock, hb, _⟩ := hown1
    rw [hc] at hb; cases hb
  have hmap := h.own.isMap
  refine ⟨w2, hrun, ⟨hok, own_tight hown2, fun j => ?_, fun j => ?_, fun l hl => ?_, fun j => ?_, fun i j g hij hi hj => ?_, Or.inl h.fm, fun j g hg => ?_, fun g hg => ?_⟩, ⟨?_, ?_⟩, hm2⟩
  · by_cases e : j = k
    · subst e
      show (D.put (ky j) (.held v)).atKey (ky j) (.held nl) = .held (if j = j then v else hd j)
      rw [if_pos rfl]; exact Maps.atKey_put_same hmap (own_isKey j) _ _
    · show (D.put (ky k) (.held v)).atKey (ky j) (.held nl) = .held (if j = k then v else hd j)
      rw [if_neg e, Maps.atKey_put_other (fun x => e (ky_inj x))]; exact h.at_ j
  · rw [hV j]
    by_cases e : j = k
    · subst e; rw [if_pos rfl, Maps.has_put_same hmap (own_isKey j)]; simp [hne]
    · rw [if_neg e, Maps.has_put_other (fun x => e (ky_inj x))]; exact h.has j
  · rw [hn]
    by_cases e : l = ky k
    · exact ⟨k, hk, e⟩
    · rw [Maps.has_put_other e] at hl; exact h.only l hl
  · rw [hV j]
    by_cases e : j = k
    · subst e; rw [if_pos rfl, if_pos rfl]; exact hv.mv hm2 fun g hg e => hvm (by rw [hg, e])
    · rw [if_neg e, if_neg e]
      exact ((h.row j).mv hm fun g hg => h.apart j k g e hg).mv hm2 fun g hg e' => h.ne j (by rw [hg, e'])
  · by_cases ei : i = k
    · subst ei
      rw [if_pos rfl] at hi
      rw [if_neg (fun e => hij e.symm)] at hj
      rcases hat g hi with h1 | h1
      · exact h.apart i j g hij h1 hj
      · have := (h.row j).lt hj; omega
    · rw [if_neg ei] at hi
      by_cases ej : j = k
      · subst ej
        rw [if_pos rfl] at hj
        rcases hat g hj with h1 | h1
        · exact h.apart i j g hij hi h1
        · have := (h.row i).lt hi; omega
      · rw [if_neg ej] at hj; exact h.apart i j g hij hi hj
  · by_cases e : j = k
    · subst e; rw [if_pos rfl] at hg; exact Or.inr hg
    · rw [if_neg e] at hg; exact Or.inl (h.fr j g hg)
  · rcases hg with hg | hg
    · have := h.ft g hg; have h1 := hm.size; have h2 := hm2.size; omega
    · have := hv.lt hg; have h2 := hm2.size; omega
  · exact (hm.more fun g hg => Or.inl (h.fr k g hg)).trans (hm2.more fun g hg => Or.inl (show F g by rw [hg]; exact h.fm)) fun g hg => Or.inl hg
  · intro g hg
    rcases hg with hg | hg
    · exact Or.inl hg
    · rcases hat g hg with h1 | h1
      · exact Or.inl (h.fr k g h1)
      · exact Or.inr h1
theorem Mq.allV (h : Mq w b S F mb D hd) (k : Nat) : AllV (S.V k) := fun v hv => (h.ok.v k v hv).2.2.1
theorem Mq.vv (h : Mq w b S F mb D hd) (k : Nat) : ∃ A c, hd k = .slice A (S.V k).length c ∧ (S.V k).length ≤ c ∧ c ≤ maxLen ∧ VV w A (S.V k) := (h.row k).vv (h.allV k)
theorem Mq.cells (h : Mq w b S F mb D hd) : w.cell? ⟨b, 0, none⟩ = some (.int .i64 (S.n : Int)) ∧ w.cell? ⟨b, 1, none⟩ = some (.map (some mb)) ∧ w.cell? ⟨b, 2, none⟩ = some (.int .i64 S.last) :=
  ⟨(cell_at h.box 0).trans rfl, (cell_at h.box 1).trans rfl, (cell_at h.box 2).trans rfl⟩
theorem Mq.free (h : Mq w b S F mb D hd) (i : Nat) : w.frozen? ⟨b, i, none⟩ = false := free_at h.box i
theorem Mq.lt (h : Mq w b S F mb D hd) : b < w.heap.size := lt_heap h.box
/-- An entry is looked up. -/
theorem Mr.look (h : Mr w S F mb D hd) {k : Nat} (hk : k ≤ 2000000) : (Instr.lookup 62 (.map (some mb)) (.int .i64 (k : Int)) false).run Try.prog w = .ok (hd k) w := by
  obtain ⟨v, ps, hrun, hv⟩ := h.own.lookup int_key Try.underlying62 (zero_slice w) (R := raw) (zd := .held nl) (zp := []) rfl (key_of hk)
  rw [h.at_ k] at hv
  simp only [raw, Option.some.injEq, Prod.mk.injEq] at hv
  have : v = hd k := by have := hv.1; injection this
  rw [hrun, this]
theorem Mq.look (h : Mq w b S F mb D hd) {k : Nat} (hk : k ≤ 2000000) : (Instr.lookup 62 (.map (some mb)) (.int .i64 (k : Int)) false).run Try.prog w = .ok (hd k) w := h.toMr.look hk
/-- The blocks that have a version. -/
def us (S : St) : List Nat := (List.range S.n).filter fun k => !(S.V k).isEmpty
theorem mem_us {S : St} {k : Nat} : k ∈ us S ↔ k < S.n ∧ S.V k ≠ [] := by
  unfold us
  rw [List.mem_filter, List.mem_range]
  simp
theorem us_nodup (S : St) : (us S).Nodup := List.nodup_range.filter _
theorem us_len (S : St) : (us S).length ≤ S.n := by
  have := List.length_filter_le (fun k => !(S.V k).isEmpty) (List.range S.n)
  rwa [List.length_range] at this
theorem Mq.mem (h : Mq w b S F mb D hd) {k : Nat} : k ∈ us S ↔ Maps.has D (ky k) = true := by
  rw [mem_us, h.has k]
  refine ⟨fun h => h.2, fun hk => ⟨?_, hk⟩⟩
  rcases Nat.lt_or_ge k S.n with h1 | h1
  · exact h1
  · exact absurd (h.ok.e k h1) hk
theorem Mq.keys (h : Mq w b S F mb D hd) : ((us S).map (fun k : Nat => (k : Int))).Perm (intKeys D) := by
  obtain ⟨es, he, hp, _⟩ := h.own.entries int_key
  subst he
  refine perm_intKeys hp (fun p hpm => ?_) ?_ fun x => ?_
  · have : Maps.has (.map es) p.1 = true := List.any_eq_true.2 ⟨p, hpm, WideAt.sameKey_self (by
      obtain ⟨es', he', _, hk⟩ := h.own.entries int_key
      injection he' with he'
      subst he'
      exact hk p hpm)⟩
    obtain ⟨k, _, e⟩ := h.only _ this
    exact ⟨_, e⟩
  · exact List.Pairwise.map _ (fun a b hab e => hab (by omega)) (us_nodup S)
  · rw [List.mem_map]
    constructor
    · rintro ⟨k, hk, rfl⟩; exact h.mem.1 hk
    · intro hx
      obtain ⟨k, _, e⟩ := h.only _ hx
      unfold ky at e
      injection e with _ e
      subst e
      exact ⟨k, h.mem.2 hx, rfl⟩
theorem Mq.size (h : Mq w b S F mb D hd) : Maps.size D = (us S).length := by
  have hl := h.keys.length_eq
  obtain ⟨es, he, _, _⟩ := h.own.entries int_key
  subst he
  rw [List.length_map] at hl
  rw [hl]
  simp [intKeys, Maps.size]
end

end Go.Proofs.Ytcffoebpgjonmaa.Em
