/- Proved: plain facts of a block of 64 bytes with a head and its sum: what was written is read again; what may be read is what would be written; a bit turned anywhere, or the byte 58, and it is none; unlike blocks are written unlike. Nothing of any program. -/
import Derived.Test.YtgmekkenodiclaaPure
namespace Go.Proofs.Ytgmekkenodiclaa

theorem pt_gt (L : List Nat) (h : ∀ c ∈ L, c < 256) : pt L.length (gt L) = L := by
  induction L with
  | nil => rfl
  | cons c l ih =>
    have hc := h c (by simp)
    rw [List.length_cons, pt, gt, show (c + 256 * gt l) % 256 = c by omega, show (c + 256 * gt l) / 256 = gt l by omega, ih fun x hx => h x (by simp [hx])]
theorem pt_gt' (n : Nat) (L : List Nat) (hn : L.length = n) (h : ∀ c ∈ L, c < 256) : pt n (gt L) = L := by
  subst hn; exact pt_gt L h
theorem gt_inj {L M : List Nat} (hl : L.length = M.length) (hL : ∀ c ∈ L, c < 256) (hM : ∀ c ∈ M, c < 256) (h : gt L = gt M) : L = M := by
  rw [← pt_gt L hL, ← pt_gt M hM, hl, h]

/-- What a block may be. -/
structure May (k e s l : Nat) (L : List Nat) : Prop where
  k1 : 1 ≤ k
  k4 : k ≤ 4
  e32 : e < 4294967296
  s40 : s ≤ 1099511627776
  l20 : l ≤ 1048576
  n : L.length ≤ 40
  b : ∀ c ∈ L, c < 256

/-- The sixty bytes ahead of the sum, and all of them. -/
def hd (k e s l : Nat) (L : List Nat) : List Nat := [k, L.length] ++ (pt 4 e ++ (pt 8 s ++ (pt 4 l ++ (L ++ List.replicate (42 - L.length) 0))))
def en (k e s l : Nat) (L : List Nat) : List Nat := hd k e s l L ++ pt 4 (cr (hd k e s l L))
theorem hd_len {k e s l : Nat} {L : List Nat} (h : L.length ≤ 40) : (hd k e s l L).length = 60 := by
  simp [hd, pt_len]; omega
theorem en_len {k e s l : Nat} {L : List Nat} (h : L.length ≤ 40) : (en k e s l L).length = 64 := by
  simp [en, hd_len h, pt_len]
theorem hd_byte {k e s l : Nat} {L : List Nat} (h : May k e s l L) : ∀ c ∈ hd k e s l L, c < 256 := by
  intro c hc
  have h1 := h.k4
  have h2 := h.n
  simp only [hd, List.mem_append, List.mem_cons, List.not_mem_nil, or_false] at hc
  rcases hc with (rfl | rfl) | hc | hc | hc | hc | hc
  · omega
  · omega
  · exact pt_byte _ _ _ hc
  · exact pt_byte _ _ _ hc
  · exact pt_byte _ _ _ hc
  · exact h.b _ hc
  · have := (List.mem_replicate.1 hc).2; omega
theorem en_byte {k e s l : Nat} {L : List Nat} (h : May k e s l L) : ∀ c ∈ en k e s l L, c < 256 := by
  intro c hc
  rcases List.mem_append.1 hc with hc | hc
  · exact hd_byte h c hc
  · exact pt_byte _ _ _ hc

/-- What stands in a row of 64 bytes. -/
def fk (P : List Nat) : Nat := P.getD 0 0
def fn (P : List Nat) : Nat := P.getD 1 0
def fe (P : List Nat) : Nat := gt ((P.drop 2).take 4)
def fs (P : List Nat) : Nat := gt ((P.drop 6).take 8)
def fl (P : List Nat) : Nat := gt ((P.drop 14).take 4)
def fb (P : List Nat) : List Nat := (P.drop 18).take (fn P)
def fz (P : List Nat) : List Nat := (P.drop (18 + fn P)).take (42 - fn P)
structure Good (P : List Nat) : Prop where
  k1 : 1 ≤ fk P
  k4 : fk P ≤ 4
  n : fn P ≤ 40
  s40 : fs P ≤ 1099511627776
  l20 : fl P ≤ 1048576
  z : ∀ c ∈ fz P, c = 0
  c : cr (P.take 60) = gt (P.drop 60)

theorem row_two (P : List Nat) (h : 2 ≤ P.length) : P.take 2 = [fk P, fn P] := by
  match P, h with
  | a :: b :: P, _ => simp [fk, fn]
theorem take_drop (P : List Nat) (a b : Nat) : P.drop a = (P.drop a).take b ++ P.drop (a + b) := by
  conv => lhs; rw [← List.take_append_drop b (P.drop a)]
  rw [List.drop_drop]
theorem take_take (P : List Nat) (a b m : Nat) (h : a + b ≤ m) : (P.take m).drop a = (P.drop a).take b ++ (P.take m).drop (a + b) := by
  rw [take_drop (P.take m) a b]
  congr 1
  rw [List.drop_take, List.take_take, Nat.min_eq_left (by omega)]
theorem head_parts (P : List Nat) (hP : P.length = 64) (hn : fn P ≤ 40) :
    P.take 60 = [fk P, fn P] ++ ((P.drop 2).take 4 ++ ((P.drop 6).take 8 ++ ((P.drop 14).take 4 ++ (fb P ++ fz P)))) := by
  have h0 := take_take P 0 2 60 (by omega)
  rw [List.drop_zero, List.drop_zero, row_two P (by omega)] at h0
  have h1 := take_take P 2 4 60 (by omega)
  have h2 := take_take P 6 8 60 (by omega)
  have h3 := take_take P 14 4 60 (by omega)
  have h4 := take_take P 18 (fn P) 60 (by omega)
  have h5 : (P.take 60).drop (18 + fn P) = fz P := by
    rw [List.drop_take, fz]; congr 1; omega
  rw [h0, show 0 + 2 = 2 from rfl, h1, show 2 + 4 = 6 from rfl, h2, show 6 + 8 = 14 from rfl, h3, show 14 + 4 = 18 from rfl, h4, h5]; rfl
theorem fb_len (P : List Nat) (hP : P.length = 64) (hn : fn P ≤ 40) : (fb P).length = fn P := by
  rw [fb, List.length_take, List.length_drop]; omega
theorem fz_len (P : List Nat) (hP : P.length = 64) (hn : fn P ≤ 40) : (fz P).length = 42 - fn P := by
  rw [fz, List.length_take, List.length_drop]; omega
theorem four_len (P : List Nat) (hP : P.length = 64) (a : Nat) (h : a ≤ 60) : ((P.drop a).take 4).length = 4 := by
  rw [List.length_take, List.length_drop]; omega
theorem eight_len (P : List Nat) (hP : P.length = 64) : ((P.drop 6).take 8).length = 8 := by
  rw [List.length_take, List.length_drop]; omega
theorem part_byte {P : List Nat} (h : ∀ c ∈ P, c < 256) (a b : Nat) : ∀ c ∈ (P.drop a).take b, c < 256 := fun c hc => h c (List.mem_of_mem_drop (List.mem_of_mem_take hc))
theorem part_pt {P : List Nat} (hB : ∀ c ∈ P, c < 256) (a b : Nat) (h : ((P.drop a).take b).length = b) : pt b (gt ((P.drop a).take b)) = (P.drop a).take b := pt_gt' _ _ h (part_byte hB _ _)
/-- The head of what stands there. -/
theorem head_of (P : List Nat) (hP : P.length = 64) (hB : ∀ c ∈ P, c < 256) (hn : fn P ≤ 40) :
    hd (fk P) (fe P) (fs P) (fl P) (fb P) = [fk P, fn P] ++ ((P.drop 2).take 4 ++ ((P.drop 6).take 8 ++ ((P.drop 14).take 4 ++ (fb P ++ List.replicate (42 - fn P) 0)))) := by
  rw [hd, fb_len P hP hn, fe, fs, fl, part_pt hB 2 4 (four_len P hP _ (by omega)), part_pt hB 6 8 (eight_len P hP), part_pt hB 14 4 (four_len P hP _ (by omega))]
theorem zero_row {L : List Nat} {n : Nat} (hl : L.length = n) : (∀ c ∈ L, c = 0) ↔ L = List.replicate n 0 := by
  rw [List.eq_replicate_iff]; exact ⟨fun h => ⟨hl, h⟩, fun h => h.2⟩
/-- What is written of what stands there is what stands there, just if the noughts and the sum are right. -/
theorem en_of (P : List Nat) (hP : P.length = 64) (hB : ∀ c ∈ P, c < 256) (hn : fn P ≤ 40) :
    en (fk P) (fe P) (fs P) (fl P) (fb P) = P ↔ (∀ c ∈ fz P, c = 0) ∧ cr (P.take 60) = gt (P.drop 60) := by
  have h1 := head_parts P hP hn
  have h2 := head_of P hP hB hn
  have hd60 : (P.drop 60).length = 4 := by rw [List.length_drop]; omega
  have hdB : ∀ c ∈ P.drop 60, c < 256 := fun c hc => hB c (List.mem_of_mem_drop hc)
  have htB : ∀ c ∈ P.take 60, c < 256 := fun c hc => hB c (List.mem_of_mem_take hc)
  have hcr := cr_lt _ htB
  rw [zero_row (fz_len P hP hn)]
  constructor
  · intro h
    have hl : (hd (fk P) (fe P) (fs P) (fl P) (fb P)).length = 60 := hd_len (by rw [fb_len P hP hn]; exact hn)
    have t : hd (fk P) (fe P) (fs P) (fl P) (fb P) = P.take 60 := by
      have := congrArg (List.take 60) h
      rwa [en, List.take_left' hl] at this
    have d : pt 4 (cr (P.take 60)) = P.drop 60 := by
      have := congrArg (List.drop 60) h
      rwa [en, List.drop_left' hl, t] at this
    refine ⟨?_, ?_⟩
    · rw [h2, h1] at t
      simp only [List.append_cancel_left_eq] at t
      exact t.symm
    · rw [← d, gt_pt, Nat.mod_eq_of_lt (by omega)]
  · rintro ⟨z, c⟩
    have t : hd (fk P) (fe P) (fs P) (fl P) (fb P) = P.take 60 := by rw [h2, h1, z]
    rw [en, t, c, pt_gt' 4 _ hd60 hdB]
    exact List.take_append_drop _ _
theorem good_may {P : List Nat} (hP : P.length = 64) (hB : ∀ c ∈ P, c < 256) (h : Good P) : May (fk P) (fe P) (fs P) (fl P) (fb P) where
  k1 := h.k1
  k4 := h.k4
  e32 := by
    have := gt_lt _ (part_byte hB 2 4)
    rw [four_len P hP _ (by omega)] at this
    exact this
  s40 := h.s40
  l20 := h.l20
  n := by rw [fb_len P hP h.n]; exact h.n
  b := part_byte hB _ _

/-- What was written, part by part. -/
theorem en_two (k e s l : Nat) (L : List Nat) : (en k e s l L).drop 2 = pt 4 e ++ (pt 8 s ++ (pt 4 l ++ (L ++ List.replicate (42 - L.length) 0))) ++ pt 4 (cr (hd k e s l L)) := by
  simp [en, hd]
theorem drop_more {P A B : List Nat} {a b : Nat} (h : P.drop a = A ++ B) (hl : A.length = b) : P.drop (a + b) = B ∧ (P.drop a).take b = A := by
  rw [← List.drop_drop, h]
  exact ⟨List.drop_left' hl, List.take_left' hl⟩
theorem en_parts (k e s l : Nat) (L : List Nat) (hn : L.length ≤ 40) :
    fk (en k e s l L) = k ∧ fn (en k e s l L) = L.length ∧ ((en k e s l L).drop 2).take 4 = pt 4 e ∧ ((en k e s l L).drop 6).take 8 = pt 8 s ∧ ((en k e s l L).drop 14).take 4 = pt 4 l ∧ fb (en k e s l L) = L ∧ fz (en k e s l L) = List.replicate (42 - L.length) 0 ∧ (en k e s l L).take 60 = hd k e s l L ∧ (en k e s l L).drop 60 = pt 4 (cr (hd k e s l L)) := by
  have h2 := en_two k e s l L
  rw [List.append_assoc] at h2
  obtain ⟨h6, t2⟩ := drop_more h2 (pt_len 4 e)
  rw [List.append_assoc] at h6
  obtain ⟨h14, t6⟩ := drop_more h6 (pt_len 8 s)
  rw [List.append_assoc] at h14
  obtain ⟨h18, t14⟩ := drop_more h14 (pt_len 4 l)
  rw [List.append_assoc] at h18
  obtain ⟨h60, t18⟩ := drop_more h18 rfl
  obtain ⟨_, tz⟩ := drop_more h60 (List.length_replicate ..)
  have hfn : fn (en k e s l L) = L.length := by simp [fn, en, hd]
  refine ⟨by simp [fk, en, hd], hfn, t2, t6, t14, ?_, ?_, List.take_left' (hd_len hn), List.drop_left' (hd_len hn)⟩
  · rw [fb, hfn]; exact t18
  · rw [fz, hfn]; exact tz
theorem en_good {k e s l : Nat} {L : List Nat} (h : May k e s l L) : Good (en k e s l L) ∧ fk (en k e s l L) = k ∧ fe (en k e s l L) = e ∧ fs (en k e s l L) = s ∧ fl (en k e s l L) = l ∧ fb (en k e s l L) = L := by
  obtain ⟨p1, p2, p3, p4, p5, p6, p7, p8, p9⟩ := en_parts k e s l L h.n
  have q3 : fe (en k e s l L) = e := by rw [fe, p3, gt_pt]; exact Nat.mod_eq_of_lt h.e32
  have q4 : fs (en k e s l L) = s := by rw [fs, p4, gt_pt]; have := h.s40; exact Nat.mod_eq_of_lt (by omega)
  have q5 : fl (en k e s l L) = l := by rw [fl, p5, gt_pt]; have := h.l20; exact Nat.mod_eq_of_lt (by omega)
  refine ⟨⟨by rw [p1]; exact h.k1, by rw [p1]; exact h.k4, by rw [p2]; exact h.n, by rw [q4]; exact h.s40, by rw [q5]; exact h.l20, ?_, ?_⟩, p1, q3, q4, q5, p6⟩
  · rw [p7]; intro c hc; exact (List.mem_replicate.1 hc).2
  · rw [p8, p9, gt_pt]; exact (Nat.mod_eq_of_lt (cr_lt _ (hd_byte h))).symm
/-- Unlike blocks are written unlike. -/
theorem en_inj {k e s l k' e' s' l' : Nat} {L L' : List Nat} (h : May k e s l L) (h' : May k' e' s' l' L') : en k e s l L = en k' e' s' l' L' ↔ k = k' ∧ e = e' ∧ s = s' ∧ l = l' ∧ L = L' := by
  constructor
  · intro he
    obtain ⟨_, a1, a2, a3, a4, a5⟩ := en_good h
    obtain ⟨_, b1, b2, b3, b4, b5⟩ := en_good h'
    rw [he] at a1 a2 a3 a4 a5
    exact ⟨a1.symm.trans b1, a2.symm.trans b2, a3.symm.trans b3, a4.symm.trans b4, a5.symm.trans b5⟩
  · rintro ⟨rfl, rfl, rfl, rfl, rfl⟩; rfl

theorem good_58 {P : List Nat} (hP : P.length = 64) (h : Good P) : P.getD 58 0 = 0 := by
  have hn := h.n
  refine h.z _ ?_
  have hl := fz_len P hP hn
  have e : (fz P)[58 - (18 + fn P)]'(by omega) = P.getD 58 0 := by
    rw [List.getD_eq_getElem?_getD, List.getElem?_eq_getElem (by omega)]
    simp only [fz, List.getElem_take, List.getElem_drop, Option.getD_some]
    congr 1; omega
  rw [← e]
  exact List.getElem_mem _
theorem tn_byte {P : List Nat} (hB : ∀ c ∈ P, c < 256) (i : Nat) : ∀ c ∈ tn P i, c < 256 := by
  intro c hc
  rcases List.mem_or_eq_of_mem_set hc with h | rfl
  · exact hB c h
  · refine xor_byte ?_ (Nat.lt_of_lt_of_le (Nat.pow_lt_pow_right (by omega) (Nat.mod_lt i (by omega : 8 > 0))) (by omega))
    rw [List.getD_eq_getElem?_getD]
    by_cases hj : i / 8 < P.length
    · rw [List.getElem?_eq_getElem hj]; exact hB _ (List.getElem_mem hj)
    · rw [List.getElem?_eq_none (by omega)]; show 0 < 256; omega
theorem tn_ne (P : List Nat) (i : Nat) (h : i < 8 * P.length) : tn P i ≠ P := by
  intro e
  have h1 : i / 8 < P.length := by omega
  have e2 := congrArg (fun L : List Nat => L.getD (i / 8) 0) e
  simp only [tn, List.getD_eq_getElem?_getD, List.getElem?_set_self h1, Option.getD_some] at e2
  have := xor_keep e2
  have h3 := Nat.two_pow_pos (i % 8)
  omega
theorem tn_take (P : List Nat) (i n : Nat) (h : i < 8 * n) : (tn P i).take n = tn (P.take n) i ∧ (tn P i).drop n = P.drop n := by
  have hi : i / 8 < n := by omega
  constructor
  · rw [tn, tn, List.take_set]
    congr 2
    simp only [List.getD_eq_getElem?_getD, List.getElem?_take, if_pos hi]
  · rw [tn, List.drop_set, if_pos hi]
theorem tn_drop (P : List Nat) (i n : Nat) (h : 8 * n ≤ i) : (tn P i).take n = P.take n ∧ (tn P i).drop n = tn (P.drop n) (i - 8 * n) := by
  have e1 : (i - 8 * n) / 8 = i / 8 - n := by omega
  have e2 : (i - 8 * n) % 8 = i % 8 := by omega
  have e3 : n + (i / 8 - n) = i / 8 := by omega
  constructor
  · rw [tn, List.take_set, List.set_eq_of_length_le (by rw [List.length_take]; omega)]
  · rw [tn, tn, e1, e2, List.drop_set, if_neg (by omega)]
    congr 2
    simp only [List.getD_eq_getElem?_getD, List.getElem?_drop, e3]
/-- One bit turned, anywhere, and it is none. -/
theorem tn_bad {P : List Nat} (hP : P.length = 64) (hB : ∀ c ∈ P, c < 256) (hg : Good P) (i : Nat) (hi : i < 512) : ¬ Good (tn P i) := by
  intro h
  have hc := h.c
  by_cases h60 : i < 8 * 60
  · obtain ⟨t, d⟩ := tn_take P i 60 h60
    rw [t, d, ← hg.c] at hc
    exact cr_one _ i (by rw [List.length_take]; omega) hc
  · obtain ⟨t, d⟩ := tn_drop P i 60 (by omega)
    rw [t, d, hg.c] at hc
    have hdB : ∀ c ∈ P.drop 60, c < 256 := fun c hc => hB c (List.mem_of_mem_drop hc)
    refine tn_ne (P.drop 60) (i - 8 * 60) (by rw [List.length_drop]; omega) ?_
    exact (gt_inj (by rw [tn_len]) hdB (tn_byte hdB _) hc).symm

end Go.Proofs.Ytgmekkenodiclaa
