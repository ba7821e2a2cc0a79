/- Proved: plain facts of how a last block's body divides blocks among transactions: what stands there is one batch's, or no batch's. -/
import Derived.Test.YtgmekkenodiclaaBat
namespace Go.Proofs.Ytgmekkenodiclaa

/-- A batch with that first time, those blocks, those gaps' bytes and those numbers. -/
structure Of (f : Int) (P : List Pt) (G N : List Nat) (L : List Tx) : Prop where
  bk : ∃ s, Bk s L
  ff : t0 L = f
  gg : gp f L = G
  nn : cn L = N
  pp : fla L = P
theorem Of.len {f : Int} {P : List Pt} {G N : List Nat} {L : List Tx} (h : Of f P G N L) : N.length = L.length ∧ G.length = 2 * L.length := by
  rw [← h.nn, ← h.gg, cn_len, gp_len]; exact ⟨rfl, rfl⟩
theorem pt_pair (v : Nat) : pt 2 v = [v % 256, v / 256 % 256] := rfl
theorem two_of (v : Nat) (h : v ≤ 65535) : v % 256 + 256 * (v / 256 % 256) = v := by omega
theorem app_two {A : List Nat} {n x y : Nat} (h : A.length = n) : (A ++ [x, y]).getD n 0 = x ∧ (A ++ [x, y]).getD (n + 1) 0 = y := by
  subst h
  constructor
  · rw [List.getD_eq_getElem?_getD, List.getElem?_append_right (Nat.le_refl _), Nat.sub_self]; rfl
  · rw [List.getD_eq_getElem?_getD, List.getElem?_append_right (by omega), Nat.add_sub_cancel_left]; rfl
theorem take_getD {G : List Nat} {k j : Nat} (h : j < k) : (G.take k).getD j 0 = G.getD j 0 := by
  simp only [List.getD_eq_getElem?_getD, List.getElem?_take, if_pos h]
theorem tx_split {L : List Tx} {i : Nat} (h : i < L.length) : L.take (i + 1) = L.take i ++ [L.getD i txz] := by
  rw [List.take_succ_eq_append_getElem h, List.getD_eq_getElem?_getD, List.getElem?_eq_getElem h]; rfl
theorem Of.gap {f : Int} {P : List Pt} {G N : List Nat} {L : List Tx} (h : Of f P G N L) {i : Nat} (hi : i < L.length) :
    ∃ v : Nat, v ≤ 65535 ∧ (L.getD i txz).1 = lt_ f (L.take i) + (v : Int) ∧ (i = 0 → v = 0) ∧ G.getD (2 * i) 0 = v % 256 ∧ G.getD (2 * i + 1) 0 = v / 256 % 256 := by
  obtain ⟨s, hb⟩ := h.bk
  have h1 : gp f (L.take (i + 1)) = G.take (2 * (i + 1)) := by rw [gp_take, h.gg]
  rw [tx_split hi, gp_snoc, pt_pair] at h1
  obtain ⟨v, hv⟩ : ∃ v, v = ((L.getD i txz).1 - lt_ f (L.take i)).toNat := ⟨_, rfl⟩
  rw [← hv] at h1
  have hl : (gp f (L.take i)).length = 2 * i := by rw [gp_len, List.length_take, Nat.min_eq_left (by omega)]
  have h2 := app_two (x := v % 256) (y := v / 256 % 256) hl
  rw [h1, take_getD (by omega), take_getD (by omega)] at h2
  have h3 : 0 ≤ (L.getD i txz).1 - lt_ f (L.take i) ∧ (L.getD i txz).1 - lt_ f (L.take i) ≤ 65535 ∧ (i = 0 → (L.getD i txz).1 - lt_ f (L.take i) = 0) := by
    cases i with
    | zero => have := h.ff; simp only [t0] at this; simp only [List.take_zero, lt_]; omega
    | succ j =>
      rw [lt_take f L j (by omega)]
      have h4 := hb.gap j hi
      have h5 := (hb.od (j + 1) hi).lo
      simp only [la] at h5
      omega
  exact ⟨v, by omega, by omega, fun e => by have := h3.2.2 e; omega, h2.1, h2.2⟩
theorem Of.cut {f : Int} {P : List Pt} {G N : List Nat} {L : List Tx} (h : Of f P G N L) (i : Nat) : P = fla (L.take i) ++ fla (L.drop i) := by
  rw [← fla_app, List.take_append_drop, h.pp]
theorem Of.puts {f : Int} {P : List Pt} {G N : List Nat} {L : List Tx} (h : Of f P G N L) {i : Nat} (hi : i < L.length) :
    N.getD i 0 = (L.getD i txz).2.length ∧ tot (L.take i) + N.getD i 0 ≤ P.length ∧ (L.getD i txz).2 = (P.drop (tot (L.take i))).take (N.getD i 0) := by
  have h1 : N.getD i 0 = (L.getD i txz).2.length := by
    rw [← h.nn, cn, List.getD_eq_getElem?_getD, List.getElem?_map, List.getD_eq_getElem?_getD, List.getElem?_eq_getElem hi]; rfl
  have h2 : L.drop i = L.getD i txz :: L.drop (i + 1) := by
    rw [List.drop_eq_getElem_cons hi, List.getD_eq_getElem?_getD, List.getElem?_eq_getElem hi]; rfl
  have h3 := h.cut i
  have h4 : P.drop (tot (L.take i)) = (L.getD i txz).2 ++ fla (L.drop (i + 1)) := by
    rw [h3, List.drop_left' (fla_len _), h2, fla_cons]
  refine ⟨h1, ?_, ?_⟩
  · have h5 := congrArg List.length h3
    rw [h2, fla_cons, List.length_append, List.length_append, fla_len] at h5
    omega
  · rw [h4, h1, List.take_left' rfl]

/-- Part of the way through: i transactions T, the last time t. -/
structure Jr (f : Int) (P : List Pt) (G N : List Nat) (i : Nat) (T : List Tx) (t : Int) : Prop where
  len : T.length = i
  tt : t = lt_ f T
  le : tot T ≤ P.length
  pp : fla T = P.take (tot T)
  of : ∀ L, Of f P G N L → T = L.take i
theorem Jr.start (f : Int) (P : List Pt) (G N : List Nat) : Jr f P G N 0 [] f := ⟨rfl, rfl, Nat.zero_le _, by simp [tot, fla_nil], fun L _ => by simp⟩
/-- A time behind t that is right for each batch. -/
def Tm (f : Int) (P : List Pt) (G N : List Nat) (i : Nat) (t t' : Int) : Prop := ∀ L, Of f P G N L → t' = t + ((G.getD (2 * i) 0 + 256 * G.getD (2 * i + 1) 0 : Nat) : Int)
theorem Jr.step {f : Int} {P : List Pt} {G N : List Nat} {i : Nat} {T : List Tx} {t t' : Int} {n : Nat} (h : Jr f P G N i T t) (hi : i < N.length) (hn : N.getD i 0 = n) (hl : n ≤ P.length - tot T) (ht : Tm f P G N i t t') :
    Jr f P G N (i + 1) (T ++ [(t', (P.drop (tot T)).take n)]) t' := by
  have hle := h.le
  have hk : ((P.drop (tot T)).take n).length = n := by rw [List.length_take, List.length_drop]; omega
  have htt : tot (T ++ [(t', (P.drop (tot T)).take n)]) = tot T + n := by rw [tot_app]; simp only [tot]; omega
  refine ⟨by rw [List.length_append, h.len]; rfl, (lt_snoc f T (t', (P.drop (tot T)).take n)).symm, by rw [htt]; omega, ?_, fun L hL => ?_⟩
  · rw [fla_app, h.pp, htt, List.take_add]
    congr 1
    show _ ++ [] = _
    rw [List.append_nil]
  · have hiL : i < L.length := by have := hL.len.1; omega
    have e := h.of L hL
    rw [tx_split hiL, ← e]
    congr 2
    obtain ⟨v, hv, h1, _, h3, h4⟩ := hL.gap hiL
    obtain ⟨_, _, h7⟩ := hL.puts hiL
    have h8 := ht L hL
    rw [h3, h4, two_of v hv, h.tt, e] at h8
    rw [← e, hn] at h7
    exact Prod.ext (h8.trans h1.symm) h7.symm
/-- A number that is more than the blocks that are left: it is no batch's. -/
theorem Jr.far {f : Int} {P : List Pt} {G N : List Nat} {i : Nat} {T : List Tx} {t : Int} (h : Jr f P G N i T t) (hi : i < N.length) (hl : P.length - tot T < N.getD i 0) : ∀ L, ¬ Of f P G N L := fun L hL => by
  have hiL : i < L.length := by have := hL.len.1; omega
  have e := h.of L hL
  obtain ⟨_, h6, _⟩ := hL.puts hiL
  rw [← e] at h6
  omega
theorem of_first {f : Int} {P : List Pt} {G N : List Nat} {v : Nat} (hv : v = G.getD 0 0 + 256 * G.getD 1 0) (h0 : v ≠ 0) : ∀ L, ¬ Of f P G N L := fun L hL => by
  obtain ⟨s, hb⟩ := hL.bk
  obtain ⟨u, hu, _, h2, h3, h4⟩ := hL.gap (i := 0) hb.ne
  have := h2 rfl
  subst this
  simp only [Nat.mul_zero, Nat.zero_add] at h3 h4
  rw [h3, h4] at hv
  exact h0 hv
/-- At the end: the batch, or none. -/
theorem Jr.all {f : Int} {P : List Pt} {G N : List Nat} {T : List Tx} {t : Int} (h : Jr f P G N N.length T t) : ∀ L, Of f P G N L → T = L := fun L hL => by
  have := h.of L hL
  rwa [hL.len.1, List.take_length] at this
theorem Jr.rest {f : Int} {P : List Pt} {G N : List Nat} {T : List Tx} {t : Int} (h : Jr f P G N N.length T t) (hr : tot T ≠ P.length) : ∀ L, ¬ Of f P G N L := fun L hL => by
  have e := h.all L hL
  have := hL.pp
  rw [← e] at this
  exact hr (by rw [← fla_len, this])
theorem Jr.done {f : Int} {P : List Pt} {G N : List Nat} {i : Nat} {T : List Tx} {t : Int} (h : Jr f P G N i T t) (hr : tot T = P.length) : fla T = P := by
  rw [h.pp, hr, List.take_length]

/-- More of it: the numbers and the gaps are what they would be written as. -/
structure Jl (f : Int) (G N : List Nat) (i : Nat) (T : List Tx) (t : Int) : Prop where
  nn : cn T = N.take i
  ff : 0 < i → t0 T = f
  gg : 0 ≤ f → f ≤ 1099511627776 → gp f T = G.take (2 * i) ∧ f ≤ t ∧ t ≤ f + 65535 * (i : Int)
theorem Jl.start (f : Int) (G N : List Nat) : Jl f G N 0 [] f := ⟨by simp [Go.Proofs.Ytgmekkenodiclaa.cn], fun h => absurd h (Nat.lt_irrefl 0), fun _ _ => ⟨by simp [gp], Int.le_refl _, by omega⟩⟩
theorem Jl.step {f : Int} {P : List Pt} {G N : List Nat} {i : Nat} {T : List Tx} {t t' : Int} {n : Nat} (h : Jr f P G N i T t) (h' : Jl f G N i T t) (hi : i < N.length) (hG : G.length = 2 * N.length) (hB : ∀ c ∈ G, c < 256) (hn : N.getD i 0 = n) (hl : n ≤ P.length - tot T)
    (h0 : i = 0 → t' = f) (ht : 0 ≤ f → f ≤ 1099511627776 → t' = t + ((G.getD (2 * i) 0 + 256 * G.getD (2 * i + 1) 0 : Nat) : Int)) : Jl f G N (i + 1) (T ++ [(t', (P.drop (tot T)).take n)]) t' := by
  have hle := h.le
  have hk : ((P.drop (tot T)).take n).length = n := by rw [List.length_take, List.length_drop]; omega
  refine ⟨?_, fun _ => ?_, fun a b => ?_⟩
  · rw [cn_app, h'.nn, List.take_succ_eq_append_getElem hi]
    congr 1
    show [((P.drop (tot T)).take n).length] = _
    rw [hk, ← hn, List.getD_eq_getElem?_getD, List.getElem?_eq_getElem hi]; rfl
  · rcases Nat.eq_zero_or_pos i with e | e
    · have hT : T = [] := List.eq_nil_of_length_eq_zero (by rw [h.len, e])
      rw [hT]; exact h0 e
    · have := h'.ff e
      rw [← this]
      show ((T ++ _).getD 0 txz).1 = (T.getD 0 txz).1
      rw [List.getD_eq_getElem?_getD, List.getElem?_append_left (by rw [h.len]; exact e), List.getD_eq_getElem?_getD]
  · obtain ⟨g1, g2, g3⟩ := h'.gg a b
    have h4 := ht a b
    have b1 : G.getD (2 * i) 0 < 256 := by
      rw [List.getD_eq_getElem?_getD, List.getElem?_eq_getElem (by omega)]; exact hB _ (List.getElem_mem _)
    have b2 : G.getD (2 * i + 1) 0 < 256 := by
      rw [List.getD_eq_getElem?_getD, List.getElem?_eq_getElem (by omega)]; exact hB _ (List.getElem_mem _)
    refine ⟨?_, by omega, by push_cast; omega⟩
    rw [gp_snoc, g1, ← h.tt]
    have e1 : (t' - t).toNat = G.getD (2 * i) 0 + 256 * G.getD (2 * i + 1) 0 := by omega
    rw [show ((t', (P.drop (tot T)).take n) : Tx).1 = t' from rfl, e1, pt_pair, show 2 * (i + 1) = 2 * i + 1 + 1 by omega, List.take_succ_eq_append_getElem (by omega), List.take_succ_eq_append_getElem (by omega), List.append_assoc]
    congr 1
    have x1 : G[2 * i]'(by omega) = G.getD (2 * i) 0 := by rw [List.getD_eq_getElem?_getD, List.getElem?_eq_getElem (by omega)]; rfl
    have x2 : G[2 * i + 1]'(by omega) = G.getD (2 * i + 1) 0 := by rw [List.getD_eq_getElem?_getD, List.getElem?_eq_getElem (by omega)]; rfl
    rw [x1, x2]
    show [_, _] = [_, _]
    congr 1
    · omega
    · congr 1; omega
/-- A body in its parts. -/
theorem of_bd {s : Int} {L : List Tx} {P : List Pt} {B : List Nat} (h : Bk s L) (hb : bd L = B) (hp : fla L = P) : B.length = 9 + 3 * L.length ∧ B.getD 8 0 = L.length ∧ (gt (B.take 8) : Int) = t0 L ∧ Of (t0 L) P ((B.drop 9).take (2 * L.length)) (B.drop (9 + 2 * L.length)) L := by
  subst hb
  obtain ⟨p1, p2, p3, p4⟩ := bd_parts L
  refine ⟨bd_len L, p2, ?_, ⟨⟨s, h⟩, rfl, p3.symm, p4.symm, hp⟩⟩
  have h0 := h.t0
  rw [p1, gt_pt, Nat.mod_eq_of_lt (by omega)]; omega
/-- Parts that are a body. -/
theorem bd_of {s : Int} {T : List Tx} {B : List Nat} {c : Nat} (h : Bk s T) (hl : B.length = 9 + 3 * c) (hB : ∀ x ∈ B, x < 256) (h8 : B.getD 8 0 = c) (hc : T.length = c) (hf : (gt (B.take 8) : Int) = t0 T) (hg : gp (t0 T) T = (B.drop 9).take (2 * c)) (hn : cn T = B.drop (9 + 2 * c)) : bd T = B := by
  have h0 := h.t0
  have e1 : pt 8 (t0 T).toNat = B.take 8 := by
    have : (t0 T).toNat = gt (B.take 8) := by omega
    rw [this]
    exact pt_gt' 8 _ (by rw [List.length_take]; omega) fun c hc => hB c (List.mem_of_mem_take hc)
  have e2 : B.drop 9 = (B.drop 9).take (2 * c) ++ B.drop (9 + 2 * c) := take_drop B 9 (2 * c)
  have e3 : B.drop 8 = B.getD 8 0 :: B.drop 9 := drop_one B 8 (by omega)
  rw [bd, e1, hg, hn, hc, ← e2, ← h8, ← e3, List.take_append_drop]

end Go.Proofs.Ytgmekkenodiclaa
