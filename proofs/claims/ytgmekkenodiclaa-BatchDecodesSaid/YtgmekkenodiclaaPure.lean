/- Proved: plain facts of a register that is shifted bit by bit through a polynomial: it is linear, it never comes to nothing, one bit does not come back to itself within 1600 steps; rows of bytes, and what turns where one of them is turned. Nothing of any program. -/
namespace Go.Proofs.Ytgmekkenodiclaa

/-- So many bytes of a number, the least first. -/
def pt : Nat → Nat → List Nat
  | 0, _ => []
  | n + 1, v => v % 256 :: pt n (v / 256)
theorem pt_len (n v : Nat) : (pt n v).length = n := by
  induction n generalizing v with
  | zero => rfl
  | succ n ih => simp [pt, ih]
theorem pt_byte (n v : Nat) : ∀ c ∈ pt n v, c < 256 := by
  induction n generalizing v with
  | zero => intro c hc; cases hc
  | succ n ih =>
    intro c hc
    rcases List.mem_cons.1 hc with rfl | hc
    · omega
    · exact ih _ c hc
theorem take_more (L : List Nat) (k : Nat) (h : k < L.length) : L.take (k + 1) = L.take k ++ [L.getD k 0] := by
  rw [List.take_succ_eq_append_getElem h, List.getD_eq_getElem?_getD, List.getElem?_eq_getElem h]; rfl
theorem drop_one (L : List Nat) (k : Nat) (h : k < L.length) : L.drop k = L.getD k 0 :: L.drop (k + 1) := by
  rw [List.drop_eq_getElem_cons h, List.getD_eq_getElem?_getD, List.getElem?_eq_getElem h]; rfl

/-- The number of a row of bytes. -/
def gt : List Nat → Nat
  | [] => 0
  | c :: l => c + 256 * gt l
theorem pt_at (n v : Nat) : ∀ j, j < n → (pt n v).getD j 0 = v / 2 ^ (8 * j) % 256 := by
  induction n generalizing v with
  | zero => intro j h; omega
  | succ n ih =>
    intro j h
    cases j with
    | zero => simp [pt]
    | succ j =>
      have := ih (v / 256) j (by omega)
      simp only [pt, List.getD_cons_succ]
      rw [this, show 8 * (j + 1) = 8 + 8 * j by omega, Nat.pow_add, ← Nat.div_div_eq_div_mul]
theorem pt_more (n v : Nat) : pt (n + 1) v = pt n v ++ [v / 2 ^ (8 * n) % 256] := by
  induction n generalizing v with
  | zero => simp [pt]
  | succ n ih =>
    rw [pt, ih, pt, List.cons_append, show 8 * (n + 1) = 8 + 8 * n by omega, Nat.pow_add, ← Nat.div_div_eq_div_mul]
theorem gt_pt (n v : Nat) : gt (pt n v) = v % 2 ^ (8 * n) := by
  induction n generalizing v with
  | zero => simp [pt, gt, Nat.mod_one]
  | succ n ih =>
    rw [pt, gt, ih, show 8 * (n + 1) = 8 + 8 * n by omega, Nat.pow_add, Nat.mod_mul]
theorem pt_two (m n v : Nat) : pt (m + n) v = pt m v ++ pt n (v / 2 ^ (8 * m)) := by
  induction m generalizing v with
  | zero => simp [pt]
  | succ m ih =>
    rw [show m + 1 + n = (m + n) + 1 by omega, pt, ih, pt, List.cons_append, show 8 * (m + 1) = 8 + 8 * m by omega, Nat.pow_add, ← Nat.div_div_eq_div_mul]
theorem pt_mod (n v : Nat) : pt n (v % 2 ^ (8 * n)) = pt n v := by
  induction n generalizing v with
  | zero => rfl
  | succ n ih =>
    have e : 2 ^ (8 * (n + 1)) = 256 * 2 ^ (8 * n) := by rw [show 8 * (n + 1) = 8 + 8 * n by omega, Nat.pow_add]
    have hp : 0 < 2 ^ (8 * n) := Nat.two_pow_pos _
    rw [pt, pt, ← ih (v / 256), e]
    congr 1
    · exact Nat.mod_mul_right_mod _ _ _
    · congr 1
      rw [Nat.mod_mul_right_div_self]
theorem gt_lt (L : List Nat) (h : ∀ c ∈ L, c < 256) : gt L < 2 ^ (8 * L.length) := by
  induction L with
  | nil => simp [gt]
  | cons c l ih =>
    have := ih fun x hx => h x (by simp [hx])
    have hc := h c (by simp)
    rw [gt, List.length_cons, show 8 * (l.length + 1) = 8 + 8 * l.length by omega, Nat.pow_add]
    omega
/-- The number of the first k bytes, one byte more at its upper end. -/
theorem gt_app (L R : List Nat) : gt (L ++ R) = gt L + 2 ^ (8 * L.length) * gt R := by
  induction L with
  | nil => simp [gt]
  | cons c l ih =>
    rw [List.cons_append, gt, gt, ih, List.length_cons, show 8 * (l.length + 1) = 8 + 8 * l.length by omega, Nat.pow_add, Nat.mul_add, Nat.mul_assoc]
    omega
theorem gt_take (L : List Nat) (k : Nat) (h : k < L.length) : gt (L.take (k + 1)) = gt (L.take k) + L.getD k 0 * 2 ^ (8 * k) := by
  rw [take_more L k h, gt_app, List.length_take, Nat.min_eq_left (by omega)]
  simp [gt, Nat.mul_comm]
theorem gt_drop (L : List Nat) (k : Nat) (h : k < L.length) : gt (L.drop k) = L.getD k 0 + 256 * gt (L.drop (k + 1)) := by
  rw [List.drop_eq_getElem_cons h, gt, List.getD_eq_getElem?_getD, List.getElem?_eq_getElem h]; rfl

/-- One bit through the polynomial. -/
def bs (r : Nat) : Nat := if r % 2 = 1 then r / 2 ^^^ 2197175160 else r / 2
theorem bs_odd {r : Nat} (h : r % 2 = 1) : bs r = r / 2 ^^^ 2197175160 := if_pos h
theorem bs_even {r : Nat} (h : r % 2 = 0) : bs r = r / 2 := if_neg (by omega)
theorem xor_lt {a b : Nat} (ha : a < 4294967296) (hb : b < 4294967296) : a ^^^ b < 4294967296 := Nat.xor_lt_two_pow (n := 32) ha hb
theorem bs_lt {r : Nat} (h : r < 4294967296) : bs r < 4294967296 := by
  unfold bs; split
  · exact xor_lt (by omega) (by omega)
  · omega
theorem bs_xor (a b : Nat) : bs (a ^^^ b) = bs a ^^^ bs b := by
  have h1 := Nat.xor_div_two (a := a) (b := b)
  have h2 := Nat.xor_mod_two_eq_one (a := a) (b := b)
  unfold bs
  rw [h1]
  by_cases ha : a % 2 = 1 <;> by_cases hb : b % 2 = 1
  · rw [if_neg (by rw [h2]; simp [ha, hb]), if_pos ha, if_pos hb]
    rw [show a / 2 ^^^ 2197175160 ^^^ (b / 2 ^^^ 2197175160) = (a / 2 ^^^ b / 2) ^^^ (2197175160 ^^^ 2197175160) by ac_rfl, Nat.xor_self, Nat.xor_zero]
  · rw [if_pos (by rw [h2]; simp [ha, hb]), if_pos ha, if_neg hb]; ac_rfl
  · rw [if_pos (by rw [h2]; simp [ha, hb]), if_neg ha, if_pos hb]; ac_rfl
  · rw [if_neg (by rw [h2]; simp [ha, hb]), if_neg ha, if_neg hb]
theorem bs_zero : bs 0 = 0 := rfl
theorem xor_none {a b : Nat} (h : a ^^^ b = 0) : a = b := by
  have : a ^^^ b ^^^ b = b := by rw [h, Nat.zero_xor]
  rwa [Nat.xor_assoc, Nat.xor_self, Nat.xor_zero] at this
theorem bs_none {r : Nat} (h : r < 4294967296) (h0 : bs r = 0) : r = 0 := by
  by_cases ho : r % 2 = 1
  · rw [bs_odd ho] at h0
    have := xor_none h0
    omega
  · rw [bs_even (by omega)] at h0; omega
theorem bs_twice (u : Nat) : bs (2 * u) = u := by rw [bs_even (by omega)]; omega

/-- So many bits. -/
def it : Nat → Nat → Nat
  | 0, r => r
  | k + 1, r => it k (bs r)
theorem it_more (k r : Nat) : it (k + 1) r = it k (bs r) := rfl
theorem it_lt (k : Nat) : ∀ {r}, r < 4294967296 → it k r < 4294967296 := by
  induction k with
  | zero => exact fun h => h
  | succ k ih => exact fun h => ih (bs_lt h)
theorem it_xor (k : Nat) : ∀ a b, it k (a ^^^ b) = it k a ^^^ it k b := by
  induction k with
  | zero => exact fun _ _ => rfl
  | succ k ih => intro a b; rw [it, bs_xor, ih]; rfl
theorem it_none (k : Nat) : ∀ {r}, r < 4294967296 → it k r = 0 → r = 0 := by
  induction k with
  | zero => exact fun _ h => h
  | succ k ih => exact fun h h0 => bs_none h (ih (bs_lt h) h0)
theorem it_add (a b : Nat) : ∀ r, it (a + b) r = it b (it a r) := by
  induction a with
  | zero => intro r; rw [Nat.zero_add]; rfl
  | succ a ih => intro r; rw [show a + 1 + b = (a + b) + 1 by omega, it, ih]; rfl
theorem it_inj {k a b : Nat} (ha : a < 4294967296) (hb : b < 4294967296) (h : it k a = it k b) : a = b := by
  refine xor_none (it_none k (xor_lt ha hb) ?_)
  rw [it_xor, h, Nat.xor_self]
theorem it_pow (k : Nat) : ∀ u, it k (2 ^ k * u) = u := by
  induction k with
  | zero => intro u; show 1 * u = u; omega
  | succ k ih => intro u; rw [it, Nat.pow_succ, show 2 ^ k * 2 * u = 2 * (2 ^ k * u) by rw [Nat.mul_comm (2 ^ k) 2, Nat.mul_assoc], bs_twice, ih]
/-- Does none of so many steps lead to 1? -/
def far : Nat → Nat → Bool
  | 0, _ => true
  | n + 1, r => !(Nat.beq (bs r) 1) && far n (bs r)
theorem far_it (n : Nat) : ∀ r d, far n r = true → 0 < d → d ≤ n → it d r ≠ 1 := by
  induction n with
  | zero => intro r d _ h1 h2; omega
  | succ n ih =>
    intro r d hf h1 h2
    rw [far, Bool.and_eq_true] at hf
    obtain ⟨e, rfl⟩ : ∃ e, d = e + 1 := ⟨d - 1, by omega⟩
    rw [it]
    by_cases h0 : e = 0
    · subst h0
      intro h
      rw [show bs r = 1 from h] at hf
      exact absurd hf.1 (by decide)
    · exact ih _ e hf.2 (by omega) (by omega)
theorem far_one : far 1600 1 = true := by decide +kernel

/-- A row of bytes behind a register. -/
def by8 (r c : Nat) : Nat := it 8 (r ^^^ c)
theorem by8_eq (r c : Nat) : by8 r c = it 8 (r ^^^ c) := rfl
def rg (r : Nat) (L : List Nat) : Nat := L.foldl by8 r
theorem rg_nil (r : Nat) : rg r [] = r := rfl
theorem rg_cons (r c : Nat) (L : List Nat) : rg r (c :: L) = rg (it 8 (r ^^^ c)) L := by rw [← by8_eq]; exact List.foldl_cons ..
theorem rg_app (L M : List Nat) : ∀ r, rg r (L ++ M) = rg (rg r L) M := by
  induction L with
  | nil => intro r; rfl
  | cons c L ih => intro r; rw [List.cons_append, rg_cons, ih, rg_cons]
theorem rg_lt (L : List Nat) : ∀ {r}, r < 4294967296 → (∀ c ∈ L, c < 256) → rg r L < 4294967296 := by
  induction L with
  | nil => exact fun h _ => h
  | cons c L ih =>
    intro r h hL
    have := hL c (by simp)
    rw [rg_cons]; exact ih (it_lt 8 (xor_lt h (by omega))) fun x hx => hL x (by simp [hx])
theorem rg_dif (S : List Nat) : ∀ a d, rg (a ^^^ d) S = rg a S ^^^ it (8 * S.length) d := by
  induction S with
  | nil => intro a d; rfl
  | cons c S ih =>
    intro a d
    rw [rg_cons, rg_cons, show a ^^^ d ^^^ c = (a ^^^ c) ^^^ d by ac_rfl, it_xor, ih, List.length_cons, show 8 * (S.length + 1) = 8 + 8 * S.length by omega, it_add]
/-- A byte turned by x turns the register so. -/
theorem rg_set (L : List Nat) : ∀ (k x r : Nat), k < L.length → rg r (L.set k (L.getD k 0 ^^^ x)) = rg r L ^^^ it (8 * (L.length - k)) x := by
  induction L with
  | nil => intro k x r h; simp at h
  | cons c L ih =>
    intro k x r h
    cases k with
    | zero =>
      rw [List.set_cons_zero, List.getD_cons_zero, rg_cons, rg_cons, show r ^^^ (c ^^^ x) = (r ^^^ c) ^^^ x by ac_rfl, it_xor, rg_dif, ← it_add, List.length_cons]
      congr 2; omega
    | succ k =>
      rw [List.set_cons_succ, List.getD_cons_succ, rg_cons, rg_cons, ih k x _ (by simpa using h), List.length_cons]
      congr 2; omega
/-- The sum of a row of bytes. -/
def cr (L : List Nat) : Nat := 4294967295 ^^^ rg 4294967295 L
theorem cr_lt (L : List Nat) (h : ∀ c ∈ L, c < 256) : cr L < 4294967296 := xor_lt (by omega) (rg_lt L (by omega) h)
theorem un_un (x : Nat) : 4294967295 ^^^ (4294967295 ^^^ x) = x := by rw [← Nat.xor_assoc, Nat.xor_self, Nat.zero_xor]
theorem cr_reg (L : List Nat) : 4294967295 ^^^ cr L = rg 4294967295 L := un_un _
theorem cr_app (L M : List Nat) : 4294967295 ^^^ rg (4294967295 ^^^ cr L) M = cr (L ++ M) := by rw [cr_reg, cr, rg_app]
theorem cr_nil : cr [] = 0 := Nat.xor_self _
theorem cr_set (L : List Nat) (k x : Nat) (h : k < L.length) : cr (L.set k (L.getD k 0 ^^^ x)) = cr L ^^^ it (8 * (L.length - k)) x := by
  rw [cr, rg_set L k x _ h, cr, Nat.xor_assoc]
theorem xor_keep {a b : Nat} (h : a ^^^ b = a) : b = 0 := by
  have : a ^^^ (a ^^^ b) = b := by rw [← Nat.xor_assoc, Nat.xor_self, Nat.zero_xor]
  rw [h, Nat.xor_self] at this
  exact this.symm
/-- A byte turned is another sum. -/
theorem cr_byte (L : List Nat) (k x : Nat) (h : k < L.length) (h0 : 0 < x) (h1 : x < 256) : cr (L.set k (L.getD k 0 ^^^ x)) ≠ cr L := by
  rw [cr_set L k x h]
  intro e
  have := it_none _ (by omega) (xor_keep e)
  omega
theorem bit_pos (n i : Nat) (h : i < 8 * n) : it (8 * (n - i / 8)) (2 ^ (i % 8)) = it (8 * n - i) 1 := by
  have e : 8 * (n - i / 8) = i % 8 + (8 * n - i) := by omega
  have := it_pow (i % 8) 1
  rw [Nat.mul_one] at this
  rw [e, it_add, this]
theorem it_apart (n i j : Nat) (hn : n ≤ 200) (hij : i < j) (hj : j < 8 * n) : it (8 * n - i) 1 ≠ it (8 * n - j) 1 := by
  intro e
  rw [show 8 * n - i = (j - i) + (8 * n - j) by omega, it_add] at e
  exact far_it 1600 1 (j - i) far_one (by omega) (by omega) (it_inj (it_lt _ (by omega)) (by omega) e)
/-- The bit i of a row turned. -/
def tn (L : List Nat) (i : Nat) : List Nat := L.set (i / 8) (L.getD (i / 8) 0 ^^^ 2 ^ (i % 8))
theorem tn_len (L : List Nat) (i : Nat) : (tn L i).length = L.length := by simp [tn]
theorem cr_tn (L : List Nat) (i : Nat) (h : i < 8 * L.length) : cr (tn L i) = cr L ^^^ it (8 * L.length - i) 1 := by
  rw [tn, cr_set L _ _ (by omega), bit_pos _ _ h]
theorem cr_one (L : List Nat) (i : Nat) (h : i < 8 * L.length) : cr (tn L i) ≠ cr L := by
  rw [cr_tn L i h]
  intro e
  have := it_none _ (by omega) (xor_keep e)
  omega
theorem cr_two (L : List Nat) (i j : Nat) (hn : L.length ≤ 200) (hi : i < 8 * L.length) (hj : j < 8 * L.length) : cr (tn (tn L i) j) = cr L ↔ i = j := by
  rw [cr_tn _ j (by rw [tn_len]; exact hj), tn_len, cr_tn L i hi, Nat.xor_assoc]
  constructor
  · intro e
    have e2 := xor_none (xor_keep e)
    rcases Nat.lt_trichotomy i j with h | h | h
    · exact absurd e2 (it_apart _ i j hn h hj)
    · exact h
    · exact absurd e2.symm (it_apart _ j i hn h hi)
  · rintro rfl; rw [Nat.xor_self, Nat.xor_zero]

/-- Three rows put over each other. -/
def x3 : List Nat → List Nat → List Nat → List Nat
  | a :: A, b :: B, c :: C => (a ^^^ b ^^^ c) :: x3 A B C
  | _, _, _ => []
theorem x3_snoc (A : List Nat) : ∀ (B C : List Nat) (a b c : Nat), B.length = A.length → C.length = A.length → x3 (A ++ [a]) (B ++ [b]) (C ++ [c]) = x3 A B C ++ [a ^^^ b ^^^ c] := by
  induction A with
  | nil =>
    intro B C a b c hB hC
    have hB : B = [] := List.eq_nil_of_length_eq_zero hB
    have hC : C = [] := List.eq_nil_of_length_eq_zero hC
    subst hB hC; rfl
  | cons x A ih =>
    intro B C a b c hB hC
    match B, C, hB, hC with
    | y :: B, z :: C, hB, hC =>
      simp only [List.cons_append, x3]
      rw [ih B C a b c (by simpa using hB) (by simpa using hC)]
theorem x3_take (A B C : List Nat) (k : Nat) (h : k < A.length) (hB : B.length = A.length) (hC : C.length = A.length) :
    x3 (A.take (k + 1)) (B.take (k + 1)) (C.take (k + 1)) = x3 (A.take k) (B.take k) (C.take k) ++ [A.getD k 0 ^^^ B.getD k 0 ^^^ C.getD k 0] := by
  rw [take_more A k h, take_more B k (by omega), take_more C k (by omega)]
  exact x3_snoc _ _ _ _ _ _ (by simp; omega) (by simp; omega)
theorem x3_len (A : List Nat) : ∀ (B C : List Nat), B.length = A.length → C.length = A.length → (x3 A B C).length = A.length := by
  induction A with
  | nil => intro B C _ _; cases B <;> cases C <;> rfl
  | cons x A ih =>
    intro B C hB hC
    match B, C, hB, hC with
    | y :: B, z :: C, hB, hC => simp only [x3, List.length_cons]; rw [ih B C (by simpa using hB) (by simpa using hC)]
theorem xor_byte {a b : Nat} (ha : a < 256) (hb : b < 256) : a ^^^ b < 256 := Nat.xor_lt_two_pow (n := 8) ha hb
theorem x3_byte (A : List Nat) : ∀ (B C : List Nat), (∀ c ∈ A, c < 256) → (∀ c ∈ B, c < 256) → (∀ c ∈ C, c < 256) → ∀ c ∈ x3 A B C, c < 256 := by
  induction A with
  | nil => intro B C _ _ _ c hc; cases B <;> cases C <;> cases hc
  | cons x A ih =>
    intro B C hA hB hC c hc
    match B, C, hB, hC, hc with
    | [], C, _, _, hc => cases C <;> cases hc
    | _ :: _, [], _, _, hc => cases hc
    | y :: B, z :: C, hB, hC, hc =>
      rcases List.mem_cons.1 hc with rfl | hc
      · exact xor_byte (xor_byte (hA x (by simp)) (hB y (by simp))) (hC z (by simp))
      · exact ih B C (fun u hu => hA u (by simp [hu])) (fun u hu => hB u (by simp [hu])) (fun u hu => hC u (by simp [hu])) c hc
theorem rg_x3 (A : List Nat) : ∀ (B C : List Nat) (a b c : Nat), B.length = A.length → C.length = A.length → rg (a ^^^ b ^^^ c) (x3 A B C) = rg a A ^^^ rg b B ^^^ rg c C := by
  induction A with
  | nil =>
    intro B C a b c hB hC
    have hB : B = [] := List.eq_nil_of_length_eq_zero hB
    have hC : C = [] := List.eq_nil_of_length_eq_zero hC
    subst hB hC; rfl
  | cons x A ih =>
    intro B C a b c hB hC
    match B, C, hB, hC with
    | y :: B, z :: C, hB, hC =>
      rw [x3, rg_cons, rg_cons, rg_cons, rg_cons, show a ^^^ b ^^^ c ^^^ (x ^^^ y ^^^ z) = (a ^^^ x) ^^^ (b ^^^ y) ^^^ (c ^^^ z) by ac_rfl, it_xor, it_xor]
      exact ih B C _ _ _ (by simpa using hB) (by simpa using hC)
theorem cr_x3 (A B C : List Nat) (hB : B.length = A.length) (hC : C.length = A.length) : cr (x3 A B C) = cr A ^^^ cr B ^^^ cr C := by
  have h := rg_x3 A B C 4294967295 4294967295 4294967295 hB hC
  rw [Nat.xor_self, Nat.zero_xor] at h
  unfold cr
  rw [h]
  rw [show 4294967295 ^^^ rg 4294967295 A ^^^ (4294967295 ^^^ rg 4294967295 B) ^^^ (4294967295 ^^^ rg 4294967295 C) = (4294967295 ^^^ 4294967295) ^^^ (4294967295 ^^^ (rg 4294967295 A ^^^ rg 4294967295 B ^^^ rg 4294967295 C)) by ac_rfl, Nat.xor_self, Nat.zero_xor]

theorem byte_up (v : Nat) : v % 256 ^^^ 2 ^ 8 * (v / 256) = v := by
  have h1 := Nat.xor_mod_two_pow (a := v % 256) (b := 2 ^ 8 * (v / 256)) (n := 8)
  have h2 := Nat.xor_div_two_pow (a := v % 256) (b := 2 ^ 8 * (v / 256)) (n := 8)
  rw [show v % 256 % 2 ^ 8 = v % 256 by omega, show 2 ^ 8 * (v / 256) % 2 ^ 8 = 0 by omega, Nat.xor_zero] at h1
  rw [show v % 256 / 2 ^ 8 = 0 by omega, show 2 ^ 8 * (v / 256) / 2 ^ 8 = v / 256 by omega, Nat.zero_xor] at h2
  omega
theorem rg_pt (n : Nat) : ∀ r v, v < 2 ^ (8 * n) → rg r (pt n v) = it (8 * n) (r ^^^ v) := by
  induction n with
  | zero => intro r v h; have : v = 0 := by simpa using h
            subst this; rw [Nat.xor_zero]; rfl
  | succ n ih =>
    intro r v h
    have e : r ^^^ v = (r ^^^ v % 256) ^^^ 2 ^ 8 * (v / 256) := by rw [Nat.xor_assoc, byte_up]
    rw [pt, rg_cons, ih _ _ (by rw [show 8 * (n + 1) = 8 + 8 * n by omega, Nat.pow_add] at h; exact Nat.div_lt_of_lt_mul h), e, show 8 * (n + 1) = 8 + 8 * n by omega, it_add 8, it_xor 8 (r ^^^ v % 256), it_pow]
/-- A row with its own sum behind it has the sum of four noughts. -/
theorem cr_ends (L : List Nat) (h : ∀ c ∈ L, c < 256) : cr (L ++ pt 4 (cr L)) = cr (pt 4 0) := by
  have e : rg 4294967295 L ^^^ cr L = 4294967295 := by rw [cr, Nat.xor_comm, Nat.xor_assoc, Nat.xor_self, Nat.xor_zero]
  rw [show cr (L ++ pt 4 (cr L)) = 4294967295 ^^^ rg 4294967295 (L ++ pt 4 (cr L)) from rfl, rg_app, rg_pt 4 _ _ (cr_lt L h), e, show cr (pt 4 0) = 4294967295 ^^^ rg 4294967295 (pt 4 0) from rfl, rg_pt 4 _ 0 (by omega), Nat.xor_zero]

theorem cr_nine : cr [49, 50, 51, 52, 53, 54, 55, 56, 57] = 3808858755 := by decide +kernel

end Go.Proofs.Ytgmekkenodiclaa
