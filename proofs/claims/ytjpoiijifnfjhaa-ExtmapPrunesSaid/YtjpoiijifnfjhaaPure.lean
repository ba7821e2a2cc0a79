/- Proved: plain facts on lists of versions: what is read at a time, what an append and a pruning turn. No program is named. -/
import Derived.RowKit3
namespace Go.Proofs.Ytjpoiijifnfjhaa

theorem take_more (L : List Nat) (k : Nat) (h : k < L.length) : L.take (k + 1) = L.take k ++ [L.getD k 0] := by
  rw [List.take_succ_eq_append_getElem h, List.getD_eq_getElem?_getD, List.getElem?_eq_getElem h]; rfl

/-- A version: its time and its bytes. -/
abbrev Ver := Int × List Nat
def zv : Ver := (0, List.replicate 40 0)
/-- The newest of the first k versions that is not later than t: its place and one. -/
def scan (L : List Ver) (t : Int) : Nat → Nat
  | 0 => 0
  | k + 1 => if (L.getD k zv).1 ≤ t then k + 1 else scan L t k
def rk (L : List Ver) (t : Int) : Nat := scan L t L.length
/-- What is read of versions at a time. -/
def rdv (L : List Ver) (t : Int) : Ver := if rk L t = 0 then zv else L.getD (rk L t - 1) zv
/-- The newest one. -/
def nw (L : List Ver) : Ver := L.getD (L.length - 1) zv

theorem scan_le (L : List Ver) (t : Int) : ∀ k, scan L t k ≤ k
  | 0 => Nat.le_refl _
  | k + 1 => by
    unfold scan
    split
    · exact Nat.le_refl _
    · exact Nat.le_succ_of_le (scan_le L t k)
theorem rk_le (L : List Ver) (t : Int) : rk L t ≤ L.length := scan_le L t _
theorem scan_at (L : List Ver) (t : Int) : ∀ k, scan L t k ≠ 0 → (L.getD (scan L t k - 1) zv).1 ≤ t
  | 0, h => absurd rfl h
  | k + 1, h => by
    unfold scan at h ⊢
    split
    · rename_i hk; simpa using hk
    · rename_i hk; rw [if_neg hk] at h; exact scan_at L t k h
theorem scan_ge (L : List Ver) (t : Int) : ∀ k i, i < k → (L.getD i zv).1 ≤ t → i + 1 ≤ scan L t k
  | 0, i, h, _ => absurd h (Nat.not_lt_zero i)
  | k + 1, i, h, hi => by
    unfold scan
    split
    · omega
    · rename_i hk
      have : i ≠ k := fun e => hk (by rw [← e]; exact hi)
      exact scan_ge L t k i (by omega) hi
theorem scan_above (L : List Ver) (t : Int) : ∀ k i, scan L t k ≤ i → i < k → t < (L.getD i zv).1
  | 0, i, _, h => absurd h (Nat.not_lt_zero i)
  | k + 1, i, h, hi => by
    unfold scan at h
    split at h
    · omega
    · rename_i hk
      by_cases e : i = k
      · subst e; omega
      · exact scan_above L t k i h (by omega)
theorem scan_step (L : List Ver) (t : Int) (k : Nat) (h : ¬ (L.getD k zv).1 ≤ t) : scan L t (k + 1) = scan L t k := by
  show (if (L.getD k zv).1 ≤ t then k + 1 else scan L t k) = _
  rw [if_neg h]
theorem scan_hit (L : List Ver) (t : Int) (k : Nat) (h : (L.getD k zv).1 ≤ t) : scan L t (k + 1) = k + 1 := by
  show (if (L.getD k zv).1 ≤ t then k + 1 else scan L t k) = _
  rw [if_pos h]
theorem scan_congr {L M : List Ver} (t : Int) : ∀ k, (∀ i, i < k → L.getD i zv = M.getD i zv) → scan L t k = scan M t k
  | 0, _ => rfl
  | k + 1, h => by
    show (if (L.getD k zv).1 ≤ t then k + 1 else scan L t k) = (if (M.getD k zv).1 ≤ t then k + 1 else scan M t k)
    rw [h k (Nat.lt_succ_self k), scan_congr t k fun i hi => h i (by omega)]
theorem getD_app_left (L M : List Ver) (i : Nat) (h : i < L.length) : (L ++ M).getD i zv = L.getD i zv := by
  simp only [List.getD_eq_getElem?_getD, List.getElem?_append_left h]
theorem getD_app_new (L : List Ver) (x : Ver) : (L ++ [x]).getD L.length zv = x := by
  simp [List.getD_eq_getElem?_getD]
theorem rk_nil (t : Int) : rk [] t = 0 := rfl
theorem rdv_nil (t : Int) : rdv [] t = zv := by unfold rdv; rw [rk_nil]; rfl
theorem rk_app_late (L : List Ver) (x : Ver) (t : Int) (h : t < x.1) : rk (L ++ [x]) t = rk L t := by
  unfold rk
  rw [List.length_append]
  show scan _ t (L.length + 1) = _
  rw [scan_step _ _ _ (by rw [getD_app_new]; omega)]
  exact scan_congr t _ fun i hi => getD_app_left L [x] i hi
theorem rdv_app_late (L : List Ver) (x : Ver) (t : Int) (h : t < x.1) : rdv (L ++ [x]) t = rdv L t := by
  unfold rdv
  rw [rk_app_late L x t h]
  have hl := rk_le L t
  by_cases h0 : rk L t = 0
  · rw [if_pos h0, if_pos h0]
  · rw [if_neg h0, if_neg h0, getD_app_left _ _ _ (by omega)]
theorem rdv_app_now (L : List Ver) (x : Ver) (t : Int) (h : x.1 ≤ t) : rdv (L ++ [x]) t = x := by
  have e : rk (L ++ [x]) t = L.length + 1 := by
    unfold rk
    rw [List.length_append]
    exact scan_hit _ _ _ (by rw [getD_app_new]; exact h)
  unfold rdv
  rw [e, if_neg (by omega), Nat.add_sub_cancel, getD_app_new]
theorem nw_app (L : List Ver) (x : Ver) : nw (L ++ [x]) = x := by
  unfold nw
  rw [List.length_append]
  exact getD_app_new L x

/-- Pruned: without those that are older than the newest one that is not later than h. -/
def pr (L : List Ver) (h : Int) : List Ver := L.drop (rk L h - 1)
theorem getD_drop (L : List Ver) (d i : Nat) : (L.drop d).getD i zv = L.getD (d + i) zv := by
  simp only [List.getD_eq_getElem?_getD, List.getElem?_drop]
theorem scan_drop (L : List Ver) (t : Int) (d : Nat) : ∀ k, d < scan L t (d + k) → scan (L.drop d) t k = scan L t (d + k) - d
  | 0, h => by have := scan_le L t d; simp at h; omega
  | k + 1, h => by
    show (if ((L.drop d).getD k zv).1 ≤ t then k + 1 else scan (L.drop d) t k) = _
    rw [getD_drop]
    by_cases hk : (L.getD (d + k) zv).1 ≤ t
    · rw [if_pos hk, ← Nat.add_assoc, scan_hit _ _ _ hk]; omega
    · rw [← Nat.add_assoc, scan_step _ _ _ hk] at h
      rw [if_neg hk, ← Nat.add_assoc, scan_step _ _ _ hk]
      exact scan_drop L t d k h
theorem rk_drop (L : List Ver) (t : Int) (d : Nat) (h : d < rk L t) : rk (L.drop d) t = rk L t - d := by
  have hl := scan_le L t L.length
  unfold rk at h ⊢
  rw [List.length_drop]
  have e : L.length = d + (L.length - d) := by omega
  rw [e] at h
  rw [scan_drop L t d _ h, ← e]
theorem rk_mono (L : List Ver) {s t : Int} (h : s ≤ t) : rk L s ≤ rk L t := by
  by_cases h0 : rk L s = 0
  · omega
  · have h1 := scan_at L s L.length h0
    have h2 := rk_le L s
    have := scan_ge L t L.length (rk L s - 1) (by omega) (by unfold rk; omega)
    unfold rk at this ⊢ h0; omega
theorem rdv_pr (L : List Ver) {h t : Int} (hh : h ≤ t) : rdv (pr L h) t = rdv L t := by
  have hm := rk_mono L hh
  unfold pr
  by_cases h0 : rk L h = 0
  · rw [h0]; rfl
  · have hd : rk L h - 1 < rk L t := by omega
    unfold rdv
    rw [rk_drop L t _ hd, if_neg (by omega), if_neg (by omega), getD_drop]
    congr 1; omega
theorem pr_len (L : List Ver) (h : Int) : (pr L h).length = L.length - (rk L h - 1) := by unfold pr; simp
theorem pr_pr (L : List Ver) (h : Int) : rk (pr L h) h - 1 = 0 := by
  by_cases h0 : rk L h = 0
  · unfold pr; rw [h0]; simp [h0]
  · unfold pr
    rw [rk_drop L h _ (by omega)]; omega
theorem pr_nil (L : List Ver) (h : Int) : pr L h = [] ↔ L = [] := by
  have hl := rk_le L h
  rw [← List.length_eq_zero_iff, pr_len, ← List.length_eq_zero_iff]
  constructor <;> intro <;> omega
theorem rk_all (L : List Ver) (t : Int) (h : ∀ v ∈ L, v.1 ≤ t) : rk L t = L.length := by
  have hl := rk_le L t
  by_cases h0 : L.length = 0
  · omega
  · have := scan_ge L t L.length (L.length - 1) (by omega) (by
      rw [List.getD_eq_getElem?_getD, List.getElem?_eq_getElem (show L.length - 1 < L.length by omega)]
      exact h _ (List.getElem_mem _))
    unfold rk at hl ⊢; omega
theorem pr_all (L : List Ver) (t : Int) (h : ∀ v ∈ L, v.1 ≤ t) : (pr L t).length = if L = [] then 0 else 1 := by
  rw [pr_len, rk_all L t h]
  by_cases h0 : L = []
  · rw [if_pos h0, h0]; rfl
  · have : 0 < L.length := List.length_pos_iff.2 h0
    rw [if_neg h0]; omega
theorem rdv_all (L : List Ver) (t : Int) (h : ∀ v ∈ L, v.1 ≤ t) : rdv L t = if L = [] then zv else nw L := by
  unfold rdv
  rw [rk_all L t h]
  by_cases h0 : L = []
  · rw [if_pos h0, h0]; rfl
  · have : 0 < L.length := List.length_pos_iff.2 h0
    rw [if_neg h0, if_neg (by omega)]; rfl
theorem mem_drop {L : List Ver} {d : Nat} {v : Ver} (h : v ∈ L.drop d) : v ∈ L := List.mem_of_mem_drop h
theorem rdv_mem (L : List Ver) (t : Int) : rdv L t = zv ∨ rdv L t ∈ L := by
  have hl := rk_le L t
  unfold rdv
  by_cases h0 : rk L t = 0
  · exact Or.inl (if_pos h0)
  · rw [if_neg h0, List.getD_eq_getElem?_getD, List.getElem?_eq_getElem (show rk L t - 1 < L.length by omega)]
    exact Or.inr (List.getElem_mem _)
theorem nw_mem (L : List Ver) (h : L ≠ []) : nw L ∈ L := by
  have : 0 < L.length := List.length_pos_iff.2 h
  unfold nw
  rw [List.getD_eq_getElem?_getD, List.getElem?_eq_getElem (show L.length - 1 < L.length by omega)]
  exact List.getElem_mem _

/-- A map's state: how many blocks, the last time, each block's versions; c: no block has more. -/
structure St where
  n : Nat
  last : Int
  V : Nat → List Ver
  c : Nat
/-- What may be a version of a map whose last time is T. -/
def VOk (T : Int) (v : Ver) : Prop := 1 ≤ v.1 ∧ v.1 ≤ T ∧ v.2.length = 40 ∧ ∀ c ∈ v.2, c < 256
structure Ok (S : St) : Prop where
  n1 : 1 ≤ S.n
  n2 : S.n ≤ 1048576
  l0 : 0 ≤ S.last
  l1 : S.last ≤ 1099511627776
  v : ∀ k, ∀ v ∈ S.V k, VOk S.last v
  e : ∀ k, S.n ≤ k → S.V k = []
  b : ∀ k, (S.V k).length ≤ S.c
  c1 : S.c ≤ 1000
theorem Ok.time {S : St} (h : Ok S) (k : Nat) {t : Int} (ht : S.last ≤ t) : ∀ v ∈ S.V k, v.1 ≤ t := fun v hv => by have := (h.v k v hv).2.1; omega
theorem zv_len : zv.2.length = 40 := by simp [zv]
theorem zv_byte : ∀ c ∈ zv.2, c < 256 := fun c hc => by have := (List.mem_replicate.1 hc).2; omega
theorem Ok.rd_len {S : St} (h : Ok S) (k : Nat) (t : Int) : (rdv (S.V k) t).2.length = 40 := by
  rcases rdv_mem (S.V k) t with e | e
  · rw [e]; exact zv_len
  · exact (h.v k _ e).2.2.1
theorem Ok.rd_byte {S : St} (h : Ok S) (k : Nat) (t : Int) : ∀ c ∈ (rdv (S.V k) t).2, c < 256 := by
  rcases rdv_mem (S.V k) t with e | e
  · rw [e]; exact zv_byte
  · exact (h.v k _ e).2.2.2

/-- A block that is written: its number and its bytes. -/
abbrev Pt := Int × List Nat
def pz : Pt := (0, [])
/-- One block more is written at time T. -/
def up1 (V : Nat → List Ver) (T : Int) (p : Pt) : Nat → List Ver := fun k => if (k : Int) = p.1 then V k ++ [(T, p.2)] else V k
def ups (V : Nat → List Ver) (T : Int) (P : List Pt) : Nat → List Ver := P.foldl (fun V p => up1 V T p) V
theorem ups_snoc (V : Nat → List Ver) (T : Int) (P : List Pt) (p : Pt) : ups V T (P ++ [p]) = up1 (ups V T P) T p := by
  unfold ups; rw [List.foldl_append]; rfl
theorem ups_take (V : Nat → List Ver) (T : Int) (P : List Pt) (k : Nat) (h : k < P.length) : ups V T (P.take (k + 1)) = up1 (ups V T (P.take k)) T (P.getD k pz) := by
  rw [List.take_succ_eq_append_getElem h, ups_snoc, List.getD_eq_getElem?_getD, List.getElem?_eq_getElem h]; rfl
/-- Do the blocks' numbers rise? -/
def Rs (P : List Pt) : Prop := ∀ j, 1 ≤ j → j < P.length → (P.getD (j - 1) pz).1 < (P.getD j pz).1
theorem Rs.lt {P : List Pt} (h : Rs P) : ∀ j i, i < j → j < P.length → (P.getD i pz).1 < (P.getD j pz).1
  | 0, i, hi, _ => absurd hi (Nat.not_lt_zero i)
  | j + 1, i, hi, hj => by
    have h1 := h (j + 1) (by omega) hj
    rw [Nat.add_sub_cancel] at h1
    by_cases e : i = j
    · subst e; exact h1
    · have := Rs.lt h j i (by omega) (by omega); omega
/-- Why a transaction is refused: 0 where it is not. -/
noncomputable def rf (S : St) (T : Int) (P : List Pt) : Int :=
  open Classical in
  if T ≤ S.last ∨ 1099511627776 < T then 11
  else if P = [] ∨ ¬ Rs P then 1
  else if (P.getD 0 pz).1 < 0 ∨ (S.n : Int) ≤ (P.getD (P.length - 1) pz).1 then 2
  else if ∃ p ∈ P, p.2.length ≠ 40 then 3
  else 0
/-- What holds of one that is not refused. -/
structure Fine (S : St) (T : Int) (P : List Pt) : Prop where
  t0 : S.last < T
  t1 : T ≤ 1099511627776
  ne : P ≠ []
  rs : Rs P
  lo : ∀ j, j < P.length → 0 ≤ (P.getD j pz).1
  hi : ∀ j, j < P.length → (P.getD j pz).1 < (S.n : Int)
  len : ∀ j, j < P.length → (P.getD j pz).2.length = 40
theorem pt_mem {P : List Pt} {j : Nat} (h : j < P.length) : P.getD j pz ∈ P := by
  rw [List.getD_eq_getElem?_getD, List.getElem?_eq_getElem h]; exact List.getElem_mem _
theorem fine_of {S : St} {T : Int} {P : List Pt} (h1 : ¬ (T ≤ S.last ∨ 1099511627776 < T)) (h2 : ¬ (P = [] ∨ ¬ Rs P)) (h3 : ¬ ((P.getD 0 pz).1 < 0 ∨ (S.n : Int) ≤ (P.getD (P.length - 1) pz).1)) (h4 : ¬ ∃ p ∈ P, p.2.length ≠ 40) : Fine S T P := by
  have hne : P ≠ [] := fun e => h2 (Or.inl e)
  have hrs : Rs P := Classical.byContradiction fun e => h2 (Or.inr e)
  have hp : 0 < P.length := List.length_pos_iff.2 hne
  refine ⟨by omega, by omega, hne, hrs, fun j hj => ?_, fun j hj => ?_, fun j hj => ?_⟩
  · by_cases e : j = 0
    · subst e; omega
    · have := hrs.lt j 0 (by omega) hj; omega
  · by_cases e : j = P.length - 1
    · subst e; omega
    · have := hrs.lt (P.length - 1) j (by omega) (by omega); omega
  · exact Classical.byContradiction fun e => h4 ⟨_, pt_mem hj, e⟩
theorem rf_time {S : St} {T : Int} {P : List Pt} (h : T ≤ S.last ∨ 1099511627776 < T) : rf S T P = 11 := if_pos h
theorem rf_arg {S : St} {T : Int} {P : List Pt} (h1 : ¬ (T ≤ S.last ∨ 1099511627776 < T)) (h : P = [] ∨ ¬ Rs P) : rf S T P = 1 := by
  unfold rf; rw [if_neg h1, if_pos h]
theorem rf_range {S : St} {T : Int} {P : List Pt} (h1 : ¬ (T ≤ S.last ∨ 1099511627776 < T)) (h2 : ¬ (P = [] ∨ ¬ Rs P)) (h : (P.getD 0 pz).1 < 0 ∨ (S.n : Int) ≤ (P.getD (P.length - 1) pz).1) : rf S T P = 2 := by
  unfold rf; rw [if_neg h1, if_neg h2, if_pos h]
theorem rf_len {S : St} {T : Int} {P : List Pt} (h1 : ¬ (T ≤ S.last ∨ 1099511627776 < T)) (h2 : ¬ (P = [] ∨ ¬ Rs P)) (h3 : ¬ ((P.getD 0 pz).1 < 0 ∨ (S.n : Int) ≤ (P.getD (P.length - 1) pz).1)) (h : ∃ p ∈ P, p.2.length ≠ 40) : rf S T P = 3 := by
  unfold rf; rw [if_neg h1, if_neg h2, if_neg h3, if_pos h]
theorem rf_ok {S : St} {T : Int} {P : List Pt} (h1 : ¬ (T ≤ S.last ∨ 1099511627776 < T)) (h2 : ¬ (P = [] ∨ ¬ Rs P)) (h3 : ¬ ((P.getD 0 pz).1 < 0 ∨ (S.n : Int) ≤ (P.getD (P.length - 1) pz).1)) (h4 : ¬ ∃ p ∈ P, p.2.length ≠ 40) : rf S T P = 0 := by
  unfold rf; rw [if_neg h1, if_neg h2, if_neg h3, if_neg h4]
theorem Fine.rf {S : St} {T : Int} {P : List Pt} (h : Fine S T P) : rf S T P = 0 := by
  have h1 := h.t0
  have h2 := h.t1
  have hp : 0 < P.length := List.length_pos_iff.2 h.ne
  refine rf_ok (by omega) (fun e => e.elim h.ne fun e => e h.rs) (fun e => ?_) (fun ⟨p, hp, e⟩ => ?_)
  · have a := h.lo 0 hp
    have b := h.hi (P.length - 1) (by omega)
    omega
  · obtain ⟨j, hj, rfl⟩ := List.mem_iff_getElem.1 hp
    have := h.len j hj
    rw [List.getD_eq_getElem?_getD, List.getElem?_eq_getElem hj] at this
    exact e this
theorem rf_cases (S : St) (T : Int) (P : List Pt) : (rf S T P = 0 ∧ Fine S T P) ∨ rf S T P = 11 ∨ rf S T P = 1 ∨ rf S T P = 2 ∨ rf S T P = 3 := by
  by_cases h1 : T ≤ S.last ∨ 1099511627776 < T
  · exact Or.inr (Or.inl (rf_time h1))
  by_cases h2 : P = [] ∨ ¬ Rs P
  · exact Or.inr (Or.inr (Or.inl (rf_arg h1 h2)))
  by_cases h3 : (P.getD 0 pz).1 < 0 ∨ (S.n : Int) ≤ (P.getD (P.length - 1) pz).1
  · exact Or.inr (Or.inr (Or.inr (Or.inl (rf_range h1 h2 h3))))
  by_cases h4 : ∃ p ∈ P, p.2.length ≠ 40
  · exact Or.inr (Or.inr (Or.inr (Or.inr (rf_len h1 h2 h3 h4))))
  · exact Or.inl ⟨rf_ok h1 h2 h3 h4, fine_of h1 h2 h3 h4⟩

/-- A block's versions behind the first k writes at one time: at most one more. -/
theorem ups_at (V : Nat → List Ver) (T : Int) (k : Nat) : ∀ (P : List Pt), Rs P → (ups V T P k = V k ∧ ∀ p ∈ P, p.1 ≠ (k : Int)) ∨ ∃ p ∈ P, p.1 = (k : Int) ∧ ups V T P k = V k ++ [(T, p.2)] := by
  intro P
  have key : ∀ m, m ≤ P.length → Rs P → (ups V T (P.take m) k = V k ∧ ∀ p ∈ P.take m, p.1 ≠ (k : Int)) ∨ ∃ j, j < m ∧ (P.getD j pz).1 = (k : Int) ∧ ups V T (P.take m) k = V k ++ [(T, (P.getD j pz).2)] := by
    intro m
    induction m with
    | zero => intro _ _; exact Or.inl ⟨by simp [ups], by simp⟩
    | succ m ih =>
      intro hm hr
      have hml : m < P.length := by omega
      rw [ups_take V T P m hml]
      unfold up1
      rcases ih (by omega) hr with ⟨e, hn⟩ | ⟨j, hj, e1, e2⟩
      · by_cases hk : (k : Int) = (P.getD m pz).1
        · rw [if_pos hk, e]
          exact Or.inr ⟨m, by omega, hk.symm, rfl⟩
        · rw [if_neg hk, e]
          refine Or.inl ⟨rfl, fun p hp => ?_⟩
          rw [List.take_succ_eq_append_getElem hml] at hp
          rcases List.mem_append.1 hp with hp | hp
          · exact hn p hp
          · have : p = P.getD m pz := by
              rw [List.getD_eq_getElem?_getD, List.getElem?_eq_getElem hml]; simpa using hp
            subst this
            exact fun e => hk e.symm
      · have hlt := hr.lt m j (by omega) hml
        rw [if_neg (by omega), e2]
        exact Or.inr ⟨j, by omega, e1, rfl⟩
  intro hr
  have := key P.length (Nat.le_refl _) hr
  rw [List.take_length] at this
  rcases this with h | ⟨j, hj, h1, h2⟩
  · exact Or.inl h
  · exact Or.inr ⟨_, pt_mem hj, h1, h2⟩
theorem up1_len (V : Nat → List Ver) (T : Int) (p : Pt) (k : Nat) : (up1 V T p k).length ≤ (V k).length + 1 := by
  unfold up1; split
  · simp
  · omega

theorem take_getD (P : List Pt) (m i : Nat) (h : i < m) : (P.take m).getD i pz = P.getD i pz := by
  simp only [List.getD_eq_getElem?_getD, List.getElem?_take, if_pos h]
theorem Rs.take {P : List Pt} (h : Rs P) (m : Nat) : Rs (P.take m) := fun j h1 hj => by
  rw [List.length_take] at hj
  rw [take_getD P m _ (by omega), take_getD P m _ (by omega)]
  exact h j h1 (by omega)
/-- The state behind a transaction's first m writes. -/
def apm (S : St) (T : Int) (P : List Pt) (m : Nat) : St := ⟨S.n, T, ups S.V T (P.take m), S.c + 1⟩
def ap (S : St) (T : Int) (P : List Pt) : St := ⟨S.n, T, ups S.V T P, S.c + 1⟩
theorem apm_all (S : St) (T : Int) (P : List Pt) : apm S T P P.length = ap S T P := by unfold apm ap; rw [List.take_length]
theorem apm_none (S : St) (T : Int) (P : List Pt) : (apm S T P 0).V = S.V := rfl
theorem mem_at {P : List Pt} {p : Pt} (h : p ∈ P) : ∃ j, j < P.length ∧ P.getD j pz = p := by
  obtain ⟨j, hj, rfl⟩ := List.mem_iff_getElem.1 h
  exact ⟨j, hj, by rw [List.getD_eq_getElem?_getD, List.getElem?_eq_getElem hj]; rfl⟩
theorem Fine.okm {S : St} {T : Int} {P : List Pt} (h : Fine S T P) (hS : Ok S) (hc : S.c < 1000) (hB : ∀ p ∈ P, ∀ c ∈ p.2, c < 256) (m : Nat) : Ok (apm S T P m) := by
  have ht := h.t0
  have h1 := h.t1
  have hl := hS.l0
  refine ⟨hS.n1, hS.n2, show 0 ≤ T by omega, h1, fun k v hv => ?_, fun k hk => ?_, fun k => ?_, show S.c + 1 ≤ 1000 by omega⟩
  · rcases ups_at S.V T k (P.take m) (h.rs.take m) with ⟨e, _⟩ | ⟨p, hp, _, e⟩
    · have hv' : v ∈ S.V k := by rw [← e]; exact hv
      have := hS.v k v hv'
      exact ⟨this.1, by have := this.2.1; show v.1 ≤ T; omega, this.2.2⟩
    · have hv' : v ∈ S.V k ++ [(T, p.2)] := by rw [← e]; exact hv
      rcases List.mem_append.1 hv' with hv' | hv'
      · have := hS.v k v hv'
        exact ⟨this.1, by have := this.2.1; show v.1 ≤ T; omega, this.2.2⟩
      · rw [List.mem_singleton] at hv'
        subst hv'
        have hp' := List.mem_of_mem_take hp
        obtain ⟨j, hj, rfl⟩ := mem_at hp'
        exact ⟨show 1 ≤ T by omega, Int.le_refl _, h.len j hj, fun c hc => hB (P.getD j pz) hp' c hc⟩
  · rcases ups_at S.V T k (P.take m) (h.rs.take m) with ⟨e, _⟩ | ⟨p, hp, e1, _⟩
    · exact e.trans (hS.e k hk)
    · obtain ⟨j, hj, rfl⟩ := mem_at (List.mem_of_mem_take hp)
      have := h.hi j hj
      have hk' : S.n ≤ k := hk
      omega
  · have hb := hS.b k
    rcases ups_at S.V T k (P.take m) (h.rs.take m) with ⟨e, _⟩ | ⟨p, _, _, e⟩
    · show (ups S.V T (P.take m) k).length ≤ S.c + 1; rw [e]; omega
    · show (ups S.V T (P.take m) k).length ≤ S.c + 1; rw [e, List.length_append]; simp; omega
theorem apm_step {S : St} {T : Int} {P : List Pt} {m k : Nat} (hm : m < P.length) (hk : (P.getD m pz).1 = (k : Int)) (j : Nat) : (apm S T P (m + 1)).V j = if j = k then (apm S T P m).V k ++ [(T, (P.getD m pz).2)] else (apm S T P m).V j := by
  show ups S.V T (P.take (m + 1)) j = if j = k then ups S.V T (P.take m) k ++ [(T, (P.getD m pz).2)] else ups S.V T (P.take m) j
  rw [ups_take S.V T P m hm]
  unfold up1
  by_cases e : j = k
  · subst e; rw [if_pos hk.symm, if_pos rfl]
  · rw [if_neg (by omega), if_neg e]

/-- The sum of f over the numbers ahead of n. -/
def sg (f : Nat → Nat) : Nat → Nat
  | 0 => 0
  | n + 1 => sg f n + f n
theorem sg_congr {f g : Nat → Nat} : ∀ n, (∀ k, k < n → f k = g k) → sg f n = sg g n
  | 0, _ => rfl
  | n + 1, h => by
    show sg f n + f n = sg g n + g n
    rw [sg_congr n fun k hk => h k (by omega), h n (by omega)]
theorem sg_zero : ∀ n, sg (fun _ => 0) n = 0
  | 0 => rfl
  | n + 1 => by show sg _ n + 0 = 0; rw [sg_zero n]
theorem sg_bump {f g : Nat → Nat} (i d : Nat) : ∀ n, i < n → (∀ k, k < n → g k = if k = i then f k + d else f k) → sg g n = sg f n + d
  | 0, h, _ => absurd h (Nat.not_lt_zero i)
  | n + 1, h, hg => by
    show sg g n + g n = sg f n + f n + d
    by_cases e : i = n
    · subst e
      rw [sg_congr (f := g) (g := f) i fun k hk => by rw [hg k (by omega), if_neg (by omega)], hg i (by omega), if_pos rfl]; omega
    · rw [sg_bump i d n (by omega) fun k hk => hg k (by omega), hg n (by omega), if_neg (fun h => e h.symm)]; omega
theorem sg_le {f g : Nat → Nat} : ∀ n, (∀ k, k < n → f k ≤ g k) → sg f n ≤ sg g n
  | 0, _ => Nat.le_refl _
  | n + 1, h => Nat.add_le_add (sg_le n fun k hk => h k (by omega)) (h n (by omega))
theorem sg_add (f g : Nat → Nat) : ∀ n, sg (fun k => f k + g k) n = sg f n + sg g n
  | 0 => rfl
  | n + 1 => by
    show sg (fun k => f k + g k) n + (f n + g n) = sg f n + f n + (sg g n + g n)
    rw [sg_add f g n]; omega
theorem sg_const (c : Nat) : ∀ n, sg (fun _ => c) n = n * c
  | 0 => by simp [sg]
  | n + 1 => by show sg _ n + c = _; rw [sg_const c n, Nat.succ_mul]
theorem sg_one {f : Nat → Nat} (k : Nat) : ∀ n, k < n → f k ≤ sg f n
  | 0, h => absurd h (Nat.not_lt_zero k)
  | n + 1, h => by
    show f k ≤ sg f n + f n
    by_cases e : k = n
    · subst e; omega
    · have := sg_one (f := f) k n (by omega); omega

end Go.Proofs.Ytjpoiijifnfjhaa
