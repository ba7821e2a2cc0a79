/- Proved: plain facts on a book of open handles: opening, closing, the least time. No program is named. -/
import Derived.RowKit3
namespace Go.Proofs.Ytjgmgkglpfcihaa

/-- A book: how many may be there, how many numbers were given, who is there, each one's time. -/
structure St where
  most : Int
  g : Nat
  H : List Int
  t : Int → Int

/-- Handles rise, were given, and have times that may be. -/
structure Ok (S : St) : Prop where
  up : S.H.Pairwise (· < ·)
  rng : ∀ h ∈ S.H, 1 ≤ h ∧ h ≤ (S.g : Int)
  tm : ∀ h ∈ S.H, 0 ≤ S.t h ∧ S.t h ≤ 1099511627776
  g1 : S.g ≤ 1000000

def st0 (m : Int) : St := ⟨m, 0, [], fun _ => 0⟩
/-- One more is there. -/
def op (S : St) (x : Int) : St := ⟨S.most, S.g + 1, S.H ++ [(S.g : Int) + 1], fun h => if h = (S.g : Int) + 1 then x else S.t h⟩
/-- All but one. -/
def dl (H : List Int) (h : Int) : List Int := H.filter fun x => decide (x ≠ h)
def cl (S : St) (h : Int) : St := ⟨S.most, S.g, dl S.H h, S.t⟩
/-- A handle's time; 0 of one that is not there. -/
def tm (S : St) (h : Int) : Int := if h ∈ S.H then S.t h else 0
/-- The least of now and all times. -/
def lo (S : St) (now : Int) : Int := (S.H.map S.t).foldl min now

theorem tm_in {S : St} {h : Int} (hh : h ∈ S.H) : tm S h = S.t h := if_pos hh
theorem tm_out {S : St} {h : Int} (hh : ¬ h ∈ S.H) : tm S h = 0 := if_neg hh
theorem st0_ok (m : Int) : Ok (st0 m) := ⟨List.Pairwise.nil, fun _ h => (nomatch h), fun _ h => (nomatch h), Nat.zero_le _⟩
theorem Ok.nodup {S : St} (h : Ok S) : S.H.Nodup := h.up.imp fun hab => by omega
theorem Ok.new {S : St} (h : Ok S) : ¬ ((S.g : Int) + 1) ∈ S.H := fun hm => by have := (h.rng _ hm).2; omega
theorem op_ok {S : St} (h : Ok S) {x : Int} (h0 : 0 ≤ x) (h1 : x ≤ 1099511627776) (hg : S.g < 1000000) : Ok (op S x) := by
  refine ⟨?_, fun k hk => ?_, fun k hk => ?_, hg⟩
  · show (S.H ++ [(S.g : Int) + 1]).Pairwise (· < ·)
    refine List.pairwise_append.2 ⟨h.up, List.pairwise_singleton _ _, fun a ha b hb => ?_⟩
    rw [List.mem_singleton] at hb
    have := (h.rng a ha).2
    omega
  · have hk' : k ∈ S.H ++ [(S.g : Int) + 1] := hk
    show 1 ≤ k ∧ k ≤ ((S.g + 1 : Nat) : Int)
    rcases List.mem_append.1 hk' with h1 | h1
    · have := h.rng k h1; omega
    · rw [List.mem_singleton] at h1; omega
  · have hk' : k ∈ S.H ++ [(S.g : Int) + 1] := hk
    show 0 ≤ (if k = (S.g : Int) + 1 then x else S.t k) ∧ (if k = (S.g : Int) + 1 then x else S.t k) ≤ 1099511627776
    rcases List.mem_append.1 hk' with h2 | h2
    · rw [if_neg (fun e => h.new (by rw [← e]; exact h2))]; exact h.tm k h2
    · rw [List.mem_singleton] at h2; rw [if_pos h2]; exact ⟨h0, h1⟩
theorem mem_dl {H : List Int} {h x : Int} : x ∈ dl H h ↔ x ∈ H ∧ x ≠ h := by unfold dl; rw [List.mem_filter]; simp
theorem cl_ok {S : St} (h : Ok S) (k : Int) : Ok (cl S k) :=
  ⟨h.up.filter _, fun x hx => h.rng x (mem_dl.1 hx).1, fun x hx => h.tm x (mem_dl.1 hx).1, h.g1⟩
theorem dl_not {H : List Int} {h : Int} (hh : ¬ h ∈ H) : dl H h = H := List.filter_eq_self.2 fun x hx => by
  simp only [decide_eq_true_eq]; intro e; exact hh (by rw [← e]; exact hx)
theorem cl_not {S : St} {h : Int} (hh : ¬ h ∈ S.H) : cl S h = S := by unfold cl; rw [dl_not hh]
/-- The one at a place is left out. -/
theorem dl_at : ∀ {H : List Int} {k : Nat} {h : Int}, H.Nodup → H[k]? = some h → H.take k ++ H.drop (k + 1) = dl H h
  | [], _, _, _, e => by simp at e
  | x :: H, 0, h, hn, e => by
    simp only [List.getElem?_cons_zero, Option.some.injEq] at e
    subst e
    have h1 : ¬ x ∈ H := (List.nodup_cons.1 hn).1
    unfold dl
    rw [List.filter_cons, if_neg (by simp)]
    show H = _
    exact (dl_not h1).symm
  | x :: H, k + 1, h, hn, e => by
    rw [List.getElem?_cons_succ] at e
    have h1 : ¬ x ∈ H := (List.nodup_cons.1 hn).1
    have hx : x ≠ h := fun e' => h1 (by rw [e']; exact List.mem_of_getElem? e)
    show x :: (H.take k ++ H.drop (k + 1)) = _
    rw [dl_at (List.nodup_cons.1 hn).2 e]
    unfold dl
    rw [List.filter_cons, if_pos (by simpa using hx)]
theorem dl_len {H : List Int} {h : Int} (hn : H.Nodup) (hh : h ∈ H) : (dl H h).length + 1 = H.length := by
  obtain ⟨k, hk, e⟩ := List.mem_iff_getElem.1 hh
  have := dl_at hn (show H[k]? = some h by rw [List.getElem?_eq_getElem hk, e])
  rw [← this, List.length_append, List.length_take, List.length_drop]
  omega
theorem map_dl {H : List Int} {t : Int → Int} {k : Nat} {h : Int} (hn : H.Nodup) (e : H[k]? = some h) : (H.map t).take k ++ (H.map t).drop (k + 1) = (dl H h).map t := by
  rw [← dl_at hn e, List.map_append, List.map_take, List.map_drop]
theorem op_map {S : St} (h : Ok S) (x : Int) : (op S x).H.map (op S x).t = S.H.map S.t ++ [x] := by
  show (S.H ++ [(S.g : Int) + 1]).map (fun h => if h = (S.g : Int) + 1 then x else S.t h) = _
  rw [List.map_append]
  congr 1
  · refine List.map_congr_left fun k hk => ?_
    rw [if_neg (fun e => h.new (by rw [← e]; exact hk))]
  · simp
theorem tm_op {S : St} {x k : Int} : tm (op S x) k = if k = (S.g : Int) + 1 then x else tm S k := by
  show (if k ∈ S.H ++ [(S.g : Int) + 1] then (if k = (S.g : Int) + 1 then x else S.t k) else 0) = _
  by_cases e : k = (S.g : Int) + 1
  · rw [if_pos (List.mem_append.2 (Or.inr (by rw [e]; exact List.mem_singleton.2 rfl))), if_pos e, if_pos e]
  · rw [if_neg e, if_neg e]
    unfold tm
    by_cases hk : k ∈ S.H
    · rw [if_pos hk, if_pos (List.mem_append.2 (Or.inl hk))]
    · rw [if_neg hk, if_neg (fun hm => (List.mem_append.1 hm).elim hk fun h1 => e (List.mem_singleton.1 h1))]
theorem tm_cl {S : St} {h k : Int} : tm (cl S h) k = if k = h then 0 else tm S k := by
  show (if k ∈ dl S.H h then S.t k else 0) = _
  by_cases e : k = h
  · rw [if_neg (fun hm => (mem_dl.1 hm).2 e), if_pos e]
  · rw [if_neg e]
    unfold tm
    by_cases hk : k ∈ S.H
    · rw [if_pos hk, if_pos (mem_dl.2 ⟨hk, e⟩)]
    · rw [if_neg hk, if_neg (fun hm => hk (mem_dl.1 hm).1)]

theorem fold_le : ∀ (L : List Int) (a : Int), L.foldl min a ≤ a
  | [], _ => Int.le_refl _
  | x :: L, a => by
    show L.foldl min (min a x) ≤ a
    have := fold_le L (min a x)
    omega
theorem fold_le_all : ∀ (L : List Int) (a : Int), ∀ x ∈ L, L.foldl min a ≤ x
  | [], _, _, h => (nomatch h)
  | y :: L, a, x, h => by
    show L.foldl min (min a y) ≤ x
    rcases List.mem_cons.1 h with e | e
    · have := fold_le L (min a y); omega
    · exact fold_le_all L (min a y) x e
theorem fold_is : ∀ (L : List Int) (a : Int), L.foldl min a = a ∨ L.foldl min a ∈ L
  | [], _ => Or.inl rfl
  | y :: L, a => by
    show L.foldl min (min a y) = a ∨ L.foldl min (min a y) ∈ y :: L
    rcases fold_is L (min a y) with h | h
    · rcases Int.le_total a y with h1 | h1
      · left; rw [h]; omega
      · right; rw [h, Int.min_eq_right h1]; exact List.mem_cons_self ..
    · right; exact List.mem_cons_of_mem _ h
theorem lo_le (S : St) (now : Int) : lo S now ≤ now := fold_le _ _
theorem lo_all (S : St) (now : Int) {h : Int} (hh : h ∈ S.H) : lo S now ≤ S.t h := fold_le_all _ _ _ (List.mem_map.2 ⟨h, hh, rfl⟩)
theorem lo_is (S : St) (now : Int) : lo S now = now ∨ ∃ h ∈ S.H, lo S now = S.t h := by
  rcases fold_is (S.H.map S.t) now with h | h
  · exact Or.inl h
  · obtain ⟨k, hk, e⟩ := List.mem_map.1 h
    exact Or.inr ⟨k, hk, e.symm⟩
/-- The one least. -/
theorem lo_one {S : St} {now x : Int} (h1 : x ≤ now) (h2 : ∀ h ∈ S.H, x ≤ S.t h) (h3 : x = now ∨ ∃ h ∈ S.H, x = S.t h) : x = lo S now := by
  have hx : x ≤ lo S now := by
    rcases lo_is S now with e | ⟨h, hh, e⟩
    · omega
    · have := h2 h hh; omega
  have hy : lo S now ≤ x := by
    rcases h3 with e | ⟨h, hh, e⟩
    · have := lo_le S now; omega
    · have := lo_all S now hh; omega
  omega
/-- Closing one lowers nothing. -/
theorem lo_cl (S : St) (now h : Int) : lo S now ≤ lo (cl S h) now := by
  rcases lo_is (cl S h) now with e | ⟨k, hk, e⟩
  · rw [e]; exact lo_le S now
  · rw [e]; exact lo_all S now (mem_dl.1 hk).1
theorem take_one (L : List Int) (k : Nat) (h : k < L.length) : L.take (k + 1) = L.take k ++ [L.getD k 0] := by
  rw [List.take_succ_eq_append_getElem h, List.getD_eq_getElem?_getD, List.getElem?_eq_getElem h]; rfl

end Go.Proofs.Ytjgmgkglpfcihaa
