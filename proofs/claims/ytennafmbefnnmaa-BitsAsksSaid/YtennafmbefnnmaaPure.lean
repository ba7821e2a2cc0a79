/- Proved: plain facts of numbers laid in groups of seven bits and in rows of bytes: what is laid is read, whatever stands behind; cut short it is not; none of two is the beginning of the other. Nothing of any program. -/
namespace Go.Proofs.Ytennafmbefnnmaa

/-- The groups of a number, the least first. -/
def vi (v : Nat) : List Nat := if v < 128 then [v] else (v % 128 + 128) :: vi (v / 128)
termination_by v
decreasing_by omega

theorem vi_lo {v : Nat} (h : v < 128) : vi v = [v] := by rw [vi, if_pos h]
theorem vi_hi {v : Nat} (h : 128 ≤ v) : vi v = (v % 128 + 128) :: vi (v / 128) := by rw [vi, if_neg (by omega)]

theorem vi_ind {P : Nat → Prop} (lo : ∀ v, v < 128 → P v) (hi : ∀ v, 128 ≤ v → P (v / 128) → P v) (v : Nat) : P v := by
  induction v using Nat.strongRecOn with
  | ind v ih =>
    by_cases h : v < 128
    · exact lo v h
    · exact hi v (by omega) (ih _ (by omega))

theorem vi_pos (v : Nat) : 0 < (vi v).length := by
  by_cases h : v < 128
  · rw [vi_lo h]; simp
  · rw [vi_hi (by omega)]; simp
theorem vi_byte (v : Nat) : ∀ c ∈ vi v, c < 256 := by
  induction v using vi_ind with
  | lo v h => intro c hc; rw [vi_lo h] at hc; simp at hc; omega
  | hi v h ih =>
    intro c hc
    rw [vi_hi h] at hc
    rcases List.mem_cons.1 hc with rfl | hc
    · omega
    · exact ih c hc
theorem vi_len (k : Nat) : ∀ v, v < 2 ^ (7 * (k + 1)) → (vi v).length ≤ k + 1 := by
  induction k with
  | zero => intro v h; rw [vi_lo (by omega)]; simp
  | succ k ih =>
    intro v h
    by_cases hv : v < 128
    · rw [vi_lo hv]; simp
    · rw [vi_hi (by omega)]
      have h2 : v / 128 < 2 ^ (7 * (k + 1)) := by
        rw [show 7 * (k + 1 + 1) = 7 * (k + 1) + 7 by omega, Nat.pow_add] at h
        exact Nat.div_lt_of_lt_mul (by omega)
      have := ih _ h2
      simp; omega
theorem vi_ten {v : Nat} (h : v < 18446744073709551616) : (vi v).length ≤ 10 := vi_len 9 v (by omega)
/-- All but the last have the bit 128, the last has it not. -/
theorem vi_more (v : Nat) : ∀ j, j + 1 < (vi v).length → 128 ≤ (vi v).getD j 0 := by
  induction v using vi_ind with
  | lo v h => intro j hj; rw [vi_lo h] at hj; simp at hj
  | hi v h ih =>
    intro j hj
    rw [vi_hi h] at hj ⊢
    cases j with
    | zero => simp
    | succ j =>
      simp only [List.length_cons] at hj
      simpa using ih j (by omega)
theorem vi_last (v : Nat) : (vi v).getD ((vi v).length - 1) 0 < 128 := by
  induction v using vi_ind with
  | lo v h => rw [vi_lo h]; simpa using h
  | hi v h ih =>
    rw [vi_hi h]
    have := vi_pos (v / 128)
    obtain ⟨n, hn⟩ : ∃ n, (vi (v / 128)).length = n + 1 := ⟨(vi (v / 128)).length - 1, by omega⟩
    rw [hn] at ih
    simp only [List.length_cons, hn]
    simpa using ih
/-- How many groups come behind. -/
def gv (x : Nat) : Nat := if x = 0 then 0 else (vi x).length
theorem gv_vi (v : Nat) : (vi v).length = 1 + gv (v / 128) := by
  by_cases h : v < 128
  · rw [vi_lo h, Nat.div_eq_of_lt h]; rfl
  · rw [vi_hi (by omega)]
    unfold gv
    rw [if_neg (by omega)]
    simp; omega
theorem gv_step {x : Nat} (h : 0 < x) : gv x = 1 + gv (x / 128) := by
  have : gv x = (vi x).length := by unfold gv; rw [if_neg (by omega)]
  rw [this, gv_vi]

/-- What is read from place i on, where v has been read. -/
def ug : Nat → Nat → List Nat → Nat × Nat
  | _, _, [] => (0, 0)
  | i, v, c :: l => if i = 9 ∧ 1 < c then (0, 0) else if 0 < i ∧ c = 0 then (0, 0) else if c < 128 then (v + c * 2 ^ (7 * i), i + 1) else ug (i + 1) (v + (c - 128) * 2 ^ (7 * i)) l
def uv (L : List Nat) : Nat × Nat := ug 0 0 L
theorem ug_nil (i v : Nat) : ug i v [] = (0, 0) := rfl
theorem ug_ten {i v c : Nat} {l : List Nat} (h : i = 9) (hc : 1 < c) : ug i v (c :: l) = (0, 0) := by rw [ug, if_pos ⟨h, hc⟩]
theorem ug_zero {i v c : Nat} {l : List Nat} (h : 0 < i) (hc : c = 0) : ug i v (c :: l) = (0, 0) := by rw [ug, if_neg (by omega), if_pos ⟨h, hc⟩]
theorem ug_end {i v c : Nat} {l : List Nat} (h9 : ¬ (i = 9 ∧ 1 < c)) (h0 : ¬ (0 < i ∧ c = 0)) (hc : c < 128) : ug i v (c :: l) = (v + c * 2 ^ (7 * i), i + 1) := by rw [ug, if_neg h9, if_neg h0, if_pos hc]
theorem ug_on {i v c : Nat} {l : List Nat} (h9 : i ≠ 9) (hc : 128 ≤ c) : ug i v (c :: l) = ug (i + 1) (v + (c - 128) * 2 ^ (7 * i)) l := by rw [ug, if_neg (by omega), if_neg (by omega), if_neg (by omega)]

theorem pow7 (i : Nat) : 2 ^ (7 * (i + 1)) = 128 * 2 ^ (7 * i) := by rw [Nat.mul_add, Nat.pow_add]; omega
theorem ug_vi (v : Nat) : ∀ (i a : Nat) (R : List Nat), v * 2 ^ (7 * i) < 18446744073709551616 → (i = 0 ∨ 0 < v) → ug i a (vi v ++ R) = (a + v * 2 ^ (7 * i), i + (vi v).length) := by
  induction v using vi_ind with
  | lo v h =>
    intro i a R hv h0
    rw [vi_lo h]
    exact ug_end (fun ⟨e, h1⟩ => by subst e; omega) (fun h => by omega) h
  | hi v h ih =>
    intro i a R hv h0
    have e9 : i ≠ 9 := fun e => by subst e; omega
    have hp : 0 < 2 ^ (7 * i) := Nat.two_pow_pos _
    have e1 : v / 128 * 2 ^ (7 * (i + 1)) = v / 128 * 128 * 2 ^ (7 * i) := by rw [pow7, Nat.mul_assoc]
    have e2 : v / 128 * 128 * 2 ^ (7 * i) + v % 128 * 2 ^ (7 * i) = v * 2 ^ (7 * i) := by
      rw [← Nat.add_mul]; congr 1; omega
    rw [vi_hi h, List.cons_append, ug_on e9 (by omega), ih (i + 1) _ R (by omega) (Or.inr (by omega))]
    rw [e1, Nat.add_sub_cancel, List.length_cons]
    simp only [Prod.mk.injEq]
    exact ⟨by omega, by omega⟩
theorem uv_vi {v : Nat} (h : v < 18446744073709551616) (R : List Nat) : uv (vi v ++ R) = (v, (vi v).length) := by
  have := ug_vi v 0 0 R (by simpa using h) (Or.inl rfl)
  simpa [uv] using this
theorem ug_none (L : List Nat) : ∀ i a, (∀ c ∈ L, 128 ≤ c) → ug i a L = (0, 0) := by
  induction L with
  | nil => intro i a _; rfl
  | cons c l ih =>
    intro i a h
    have hc := h c (by simp)
    by_cases e : i = 9
    · exact ug_ten e (by omega)
    · rw [ug_on e hc]; exact ih _ _ fun x hx => h x (by simp [hx])
theorem uv_cut (v k : Nat) (h : k < (vi v).length) : uv ((vi v).take k) = (0, 0) := by
  refine ug_none _ 0 0 fun c hc => ?_
  obtain ⟨j, hj, rfl⟩ := List.mem_iff_getElem.1 hc
  rw [List.length_take] at hj
  have := vi_more v j (by omega)
  rw [List.getD_eq_getElem?_getD, List.getElem?_eq_getElem (by omega)] at this
  rw [List.getElem_take]
  exact this
/-- None of two is the beginning of the other. -/
theorem vi_apart {u v : Nat} (hu : u < 18446744073709551616) (hv : v < 18446744073709551616) :
    (vi u).take (min (vi u).length (vi v).length) = (vi v).take (min (vi u).length (vi v).length) ↔ u = v := by
  constructor
  · intro h
    by_cases hl : (vi u).length ≤ (vi v).length
    · rw [Nat.min_eq_left hl, List.take_length] at h
      have h1 := uv_vi hu ((vi v).drop (vi u).length)
      have h2 := uv_vi hv []
      rw [List.append_nil] at h2
      have : vi u ++ (vi v).drop (vi u).length = vi v := by
        conv => lhs; lhs; rw [h]
        exact List.take_append_drop _ _
      rw [this, h2] at h1
      exact (congrArg Prod.fst h1).symm
    · rw [Nat.min_eq_right (by omega), List.take_length] at h
      have h1 := uv_vi hv ((vi u).drop (vi v).length)
      have h2 := uv_vi hu []
      rw [List.append_nil] at h2
      have : vi v ++ (vi u).drop (vi v).length = vi u := by
        conv => lhs; lhs; rw [← h]
        exact List.take_append_drop _ _
      rw [this, h2] at h1
      exact congrArg Prod.fst h1
  · rintro rfl; rfl

/-- So many bytes of a number, the least first. -/
def pt : Nat → Nat → List Nat
  | 0, _ => []
  | n + 1, v => v % 256 :: pt n (v / 256)
/-- The number of a row of bytes. -/
def gt : List Nat → Nat
  | [] => 0
  | c :: l => c + 256 * gt l
theorem pt_len (n v : Nat) : (pt n v).length = n := by
  induction n generalizing v with
  | zero => rfl
  | succ n ih => simp [pt, ih]
theorem pt_byte (n v : Nat) : ∀ c ∈ pt n v, c < 256 := by
  induction n generalizing v with
  | zero => intro c hc; cases hc
  | succ n ih =>
    intro c hc
    rcases List.mem_cons.1 hc with rfl | hc
    · omega
    · exact ih _ c hc
theorem pt_at (n v : Nat) : ∀ j, j < n → (pt n v).getD j 0 = v / 2 ^ (8 * j) % 256 := by
  induction n generalizing v with
  | zero => intro j h; omega
  | succ n ih =>
    intro j h
    cases j with
    | zero => simp [pt]
    | succ j =>
      have := ih (v / 256) j (by omega)
      simp only [pt, List.getD_cons_succ]
      rw [this, show 8 * (j + 1) = 8 + 8 * j by omega, Nat.pow_add, ← Nat.div_div_eq_div_mul]
theorem pt_more (n v : Nat) : pt (n + 1) v = pt n v ++ [v / 2 ^ (8 * n) % 256] := by
  induction n generalizing v with
  | zero => simp [pt]
  | succ n ih =>
    rw [pt, ih, pt, List.cons_append, show 8 * (n + 1) = 8 + 8 * n by omega, Nat.pow_add, ← Nat.div_div_eq_div_mul]
theorem gt_pt (n v : Nat) : gt (pt n v) = v % 2 ^ (8 * n) := by
  induction n generalizing v with
  | zero => simp [pt, gt, Nat.mod_one]
  | succ n ih =>
    rw [pt, gt, ih, show 8 * (n + 1) = 8 + 8 * n by omega, Nat.pow_add, Nat.mod_mul]
theorem pt_two (m n v : Nat) : pt (m + n) v = pt m v ++ pt n (v / 2 ^ (8 * m)) := by
  induction m generalizing v with
  | zero => simp [pt]
  | succ m ih =>
    rw [show m + 1 + n = (m + n) + 1 by omega, pt, ih, pt, List.cons_append, show 8 * (m + 1) = 8 + 8 * m by omega, Nat.pow_add, ← Nat.div_div_eq_div_mul]
theorem pt_mod (n v : Nat) : pt n (v % 2 ^ (8 * n)) = pt n v := by
  induction n generalizing v with
  | zero => rfl
  | succ n ih =>
    have e : 2 ^ (8 * (n + 1)) = 256 * 2 ^ (8 * n) := by rw [show 8 * (n + 1) = 8 + 8 * n by omega, Nat.pow_add]
    have hp : 0 < 2 ^ (8 * n) := Nat.two_pow_pos _
    rw [pt, pt, ← ih (v / 256), e]
    congr 1
    · exact Nat.mod_mul_right_mod _ _ _
    · congr 1
      rw [Nat.mod_mul_right_div_self]
theorem gt_lt (L : List Nat) (h : ∀ c ∈ L, c < 256) : gt L < 2 ^ (8 * L.length) := by
  induction L with
  | nil => simp [gt]
  | cons c l ih =>
    have := ih fun x hx => h x (by simp [hx])
    have hc := h c (by simp)
    rw [gt, List.length_cons, show 8 * (l.length + 1) = 8 + 8 * l.length by omega, Nat.pow_add]
    omega
/-- The number of the first k bytes, one byte more at its upper end. -/
theorem gt_app (L R : List Nat) : gt (L ++ R) = gt L + 2 ^ (8 * L.length) * gt R := by
  induction L with
  | nil => simp [gt]
  | cons c l ih =>
    rw [List.cons_append, gt, gt, ih, List.length_cons, show 8 * (l.length + 1) = 8 + 8 * l.length by omega, Nat.pow_add, Nat.mul_add, Nat.mul_assoc]
    omega
theorem take_more (L : List Nat) (k : Nat) (h : k < L.length) : L.take (k + 1) = L.take k ++ [L.getD k 0] := by
  rw [List.take_succ_eq_append_getElem h, List.getD_eq_getElem?_getD, List.getElem?_eq_getElem h]; rfl
theorem gt_take (L : List Nat) (k : Nat) (h : k < L.length) : gt (L.take (k + 1)) = gt (L.take k) + L.getD k 0 * 2 ^ (8 * k) := by
  rw [take_more L k h, gt_app, List.length_take, Nat.min_eq_left (by omega)]
  simp [gt, Nat.mul_comm]
theorem gt_drop (L : List Nat) (k : Nat) (h : k < L.length) : gt (L.drop k) = L.getD k 0 + 256 * gt (L.drop (k + 1)) := by
  rw [List.drop_eq_getElem_cons h, gt, List.getD_eq_getElem?_getD, List.getElem?_eq_getElem h]; rfl

end Go.Proofs.Ytennafmbefnnmaa
