/- Proved: plain facts of a batch of transactions: when it may be; the blocks that are its encoding; what stands at the start of a row of blocks: a batch, its part, or neither, and never two of them. -/
import Derived.Test.YtgmekkenodiclaaTx
import Derived.Test.YtgmekkenodiclaaFrm
namespace Go.Proofs.Ytgmekkenodiclaa

/-- How many blocks they write, all together. -/
def tot : List Tx → Nat
  | [] => 0
  | x :: L => x.2.length + tot L
theorem tot_app : ∀ (L R : List Tx), tot (L ++ R) = tot L + tot R
  | [], R => by simp [tot]
  | x :: L, R => by simp only [List.cons_append, tot, tot_app L R]; omega
theorem tot_take {L : List Tx} {k : Nat} (h : k < L.length) : tot (L.take (k + 1)) = tot (L.take k) + (L.getD k txz).2.length := by
  rw [List.take_succ_eq_append_getElem h, tot_app, List.getD_eq_getElem?_getD, List.getElem?_eq_getElem h]; rfl
theorem tot_mem : ∀ {L : List Tx} {x : Tx}, x ∈ L → x.2.length ≤ tot L
  | [], _, h => by cases h
  | y :: L, x, h => by
    rcases List.mem_cons.1 h with rfl | h
    · exact Nat.le_add_right _ _
    · have := tot_mem h; simp only [tot]; omega
theorem tot_le (L : List Tx) (k : Nat) : tot (L.take k) ≤ tot L := by
  have := tot_app (L.take k) (L.drop k)
  rw [List.take_append_drop] at this; omega

/-- All blocks that they write, one behind the other. -/
def fla (L : List Tx) : List Pt := L.flatMap fun x => x.2
theorem fla_nil : fla [] = [] := rfl
theorem fla_cons (x : Tx) (L : List Tx) : fla (x :: L) = x.2 ++ fla L := rfl
theorem fla_app (L M : List Tx) : fla (L ++ M) = fla L ++ fla M := List.flatMap_append
theorem fla_len : ∀ L, (fla L).length = tot L
  | [] => rfl
  | x :: L => by rw [fla_cons, List.length_append, fla_len L]; rfl
theorem fla_mem {L : List Tx} {p : Pt} : p ∈ fla L ↔ ∃ x ∈ L, p ∈ x.2 := List.mem_flatMap
/-- The bytes of the gaps, behind the time b. -/
def gp : Int → List Tx → List Nat
  | _, [] => []
  | b, x :: l => pt 2 (x.1 - b).toNat ++ gp x.1 l
/-- The last time, or b. -/
def lt_ : Int → List Tx → Int
  | b, [] => b
  | _, x :: l => lt_ x.1 l
theorem lt_snoc : ∀ (b : Int) (L : List Tx) (x : Tx), lt_ b (L ++ [x]) = x.1
  | _, [], _ => rfl
  | _, y :: L, x => by rw [List.cons_append, lt_]; exact lt_snoc y.1 L x
theorem gp_snoc : ∀ (b : Int) (L : List Tx) (x : Tx), gp b (L ++ [x]) = gp b L ++ pt 2 (x.1 - lt_ b L).toNat
  | b, [], x => by simp [gp, lt_]
  | b, y :: L, x => by rw [List.cons_append, gp, gp_snoc y.1 L x, gp, lt_, List.append_assoc]
theorem gp_len : ∀ (b : Int) (L : List Tx), (gp b L).length = 2 * L.length
  | _, [] => rfl
  | b, x :: L => by rw [gp, List.length_append, gp_len, pt_len, List.length_cons]; omega
theorem gp_byte : ∀ (b : Int) (L : List Tx), ∀ c ∈ gp b L, c < 256
  | _, [], _, h => by cases h
  | b, x :: L, c, h => by
    rcases List.mem_append.1 h with h | h
    · exact pt_byte _ _ _ h
    · exact gp_byte _ _ _ h
theorem gp_take : ∀ (b : Int) (L : List Tx) (k : Nat), gp b (L.take k) = (gp b L).take (2 * k)
  | b, [], k => by simp [gp]
  | b, x :: L, 0 => by simp [gp]
  | b, x :: L, k + 1 => by
    rw [List.take_succ_cons, gp, gp, gp_take x.1 L k, List.take_append, pt_len, List.take_of_length_le (l := pt 2 (x.1 - b).toNat) (by rw [pt_len]; omega), show 2 * (k + 1) - 2 = 2 * k by omega]
theorem lt_take : ∀ (b : Int) (L : List Tx) (k : Nat), k < L.length → lt_ b (L.take (k + 1)) = (L.getD k txz).1 := fun b L k h => by
  rw [List.take_succ_eq_append_getElem h, lt_snoc, List.getD_eq_getElem?_getD, List.getElem?_eq_getElem h]; rfl
/-- How many blocks each writes; the first time. -/
def cn (L : List Tx) : List Nat := L.map fun x => x.2.length
def t0 (L : List Tx) : Int := (L.getD 0 txz).1
/-- The body of the last block of a batch. -/
def bd (L : List Tx) : List Nat := pt 8 (t0 L).toNat ++ (L.length :: (gp (t0 L) L ++ cn L))
theorem cn_len (L : List Tx) : (cn L).length = L.length := by simp [cn]
theorem bd_len (L : List Tx) : (bd L).length = 9 + 3 * L.length := by
  simp only [bd, List.length_append, List.length_cons, pt_len, gp_len, cn_len]; omega
theorem cn_app (L M : List Tx) : cn (L ++ M) = cn L ++ cn M := by simp [cn]
theorem cn_take (L : List Tx) (k : Nat) : cn (L.take k) = (cn L).take k := by simp [cn, List.map_take]
theorem bd_parts (L : List Tx) : (bd L).take 8 = pt 8 (t0 L).toNat ∧ (bd L).getD 8 0 = L.length ∧ ((bd L).drop 9).take (2 * L.length) = gp (t0 L) L ∧ (bd L).drop (9 + 2 * L.length) = cn L := by
  have h8 : (pt 8 (t0 L).toNat).length = 8 := pt_len _ _
  have h9 : (bd L).drop 9 = gp (t0 L) L ++ cn L := by
    have : bd L = (pt 8 (t0 L).toNat ++ [L.length]) ++ (gp (t0 L) L ++ cn L) := by simp [bd]
    rw [this]; exact List.drop_left' (by simp [pt_len])
  refine ⟨List.take_left' h8, ?_, ?_, ?_⟩
  · rw [bd, List.getD_eq_getElem?_getD, List.getElem?_append_right (by omega), h8]; rfl
  · rw [h9]; exact List.take_left' (gp_len _ _)
  · rw [← List.drop_drop, h9]; exact List.drop_left' (gp_len _ _)

/-- A batch that may be. -/
structure Bk (s : Int) (L : List Tx) : Prop where
  s1 : 1 ≤ s
  s2 : s ≤ 1099511627776
  ne : 1 ≤ L.length
  n8 : L.length ≤ 8
  od : Od L
  gap : ∀ j, j + 1 < L.length → (L.getD (j + 1) txz).1 - (L.getD j txz).1 ≤ 65535
  n32 : tot L ≤ 32
  n16 : ∀ x ∈ L, x.2.length ≤ 16
  lba : ∀ x ∈ L, ∀ p ∈ x.2, 0 ≤ p.1 ∧ p.1 ≤ 1048576
  n40 : ∀ x ∈ L, ∀ p ∈ x.2, p.2.length = 40
noncomputable def bkB (s : Int) (L : List Tx) : Bool := @decide (Bk s L) (Classical.propDecidable _)
theorem bkB_yes {s : Int} {L : List Tx} (h : Bk s L) : bkB s L = true := @decide_eq_true _ (Classical.propDecidable _) h
theorem bkB_no {s : Int} {L : List Tx} (h : ¬ Bk s L) : bkB s L = false := @decide_eq_false _ (Classical.propDecidable _) h
theorem bkB_iff {s : Int} {L : List Tx} : bkB s L = true ↔ Bk s L := @decide_eq_true_iff _ (Classical.propDecidable _)
/-- What a Check tells: 0 or 1. -/
noncomputable def kd (s : Int) (L : List Tx) : Int := if bkB s L then 0 else 1
theorem kd_yes {s : Int} {L : List Tx} (h : Bk s L) : kd s L = 0 := if_pos (bkB_yes h)
theorem kd_no {s : Int} {L : List Tx} (h : ¬ Bk s L) : kd s L = 1 := if_neg (by rw [bkB_no h]; decide)
theorem Bk.t0 {s : Int} {L : List Tx} (h : Bk s L) : 0 < t0 L ∧ t0 L ≤ 1099511627776 := by
  have := h.od 0 h.ne
  exact ⟨this.lo, this.hi⟩
theorem Bk.tot1 {s : Int} {L : List Tx} (h : Bk s L) : 1 ≤ tot L := by
  have h0 := h.ne
  have h1 := (h.od 0 h0).ne
  have h2 := tot_mem (tx_mem (L := L) (j := 0) h0)
  have := List.length_pos_iff.2 h1
  omega
theorem Bk.time {s : Int} {L : List Tx} (h : Bk s L) {j : Nat} (hj : j < L.length) : 0 < (L.getD j txz).1 ∧ (L.getD j txz).1 ≤ 1099511627776 := by
  have h1 := (h.od j hj).hi
  refine ⟨?_, h1⟩
  clear h1
  induction j with
  | zero => exact h.t0.1
  | succ j ih => have h1 := ih (by omega); have h2 := (h.od (j + 1) hj).lo; simp only [la] at h2; omega
/-- All bytes are bytes. -/
def Pb (P : List Pt) : Prop := ∀ p ∈ P, ∀ c ∈ p.2, c < 256
/-- The blocks of an encoding. -/
def dr (e s : Nat) (P : List Pt) : List (List Nat) := P.map fun p => en 1 e s p.1.toNat p.2
def cm (e s : Nat) (L : List Tx) : List Nat := en 2 e s (tot L) (bd L)
def eb (e s : Nat) (L : List Tx) : List (List Nat) := dr e s (fla L) ++ [cm e s L]
theorem dr_len (e s : Nat) (P : List Pt) : (dr e s P).length = P.length := by simp [dr]
theorem eb_len (e s : Nat) (L : List Tx) : (eb e s L).length = tot L + 1 := by simp [eb, dr_len, fla_len]
theorem cn_le {L : List Tx} (h : ∀ x ∈ L, x.2.length ≤ 16) : ∀ c ∈ cn L, c < 256 := fun c hc => by
  obtain ⟨x, hx, rfl⟩ := List.mem_map.1 hc
  have := h x hx; omega
theorem bd_byte {s : Int} {L : List Tx} (h : Bk s L) : ∀ c ∈ bd L, c < 256 := fun c hc => by
  rcases List.mem_append.1 hc with hc | hc
  · exact pt_byte _ _ _ hc
  · rcases List.mem_cons.1 hc with rfl | hc
    · have := h.n8; omega
    · rcases List.mem_append.1 hc with hc | hc
      · exact gp_byte _ _ _ hc
      · exact cn_le h.n16 _ hc
theorem may_d {s : Nat} {L : List Tx} (h : Bk s L) (hb : Pb (fla L)) {e : Nat} (he : e < 4294967296) {p : Pt} (hp : p ∈ fla L) : May 1 e s p.1.toNat p.2 := by
  obtain ⟨x, hx, hpx⟩ := fla_mem.1 hp
  have h1 := h.lba x hx p hpx
  have h2 := h.n40 x hx p hpx
  have h3 := h.s2
  exact ⟨by omega, by omega, he, by omega, by omega, by omega, hb p hp⟩
theorem may_c {s : Nat} {L : List Tx} (h : Bk s L) {e : Nat} (he : e < 4294967296) : May 2 e s (tot L) (bd L) := by
  have h1 := h.n8
  have h2 := h.n32
  have h3 := h.s2
  exact ⟨by omega, by omega, he, by omega, by omega, by rw [bd_len]; omega, bd_byte h⟩
theorem eb_row {s : Nat} {L : List Tx} (h : Bk s L) (hb : Pb (fla L)) {e : Nat} (he : e < 4294967296) : ∀ r ∈ eb e s L, r.length = 64 ∧ ∀ c ∈ r, c < 256 := fun r hr => by
  rcases List.mem_append.1 hr with hr | hr
  · obtain ⟨p, hp, rfl⟩ := List.mem_map.1 hr
    exact ⟨en_len (may_d h hb he hp).n, en_byte (may_d h hb he hp)⟩
  · rw [List.mem_singleton.1 hr]
    exact ⟨en_len (may_c h he).n, en_byte (may_c h he)⟩

/-- A block that may be, of a kind, with an epoch and a number. -/
structure Dt (k e s : Nat) (R : List Nat) : Prop where
  n : R.length = 64
  g : Good R
  k : fk R = k
  e : fe R = e
  s : fs R = s
theorem dt_en {k e s l : Nat} {B : List Nat} (h : May k e s l B) : Dt k e s (en k e s l B) := by
  obtain ⟨a, b, c, d, _, _⟩ := en_good h
  exact ⟨en_len h.n, a, b, c, d⟩
theorem Dt.en {k e s : Nat} {R : List Nat} (h : Dt k e s R) (hB : ∀ c ∈ R, c < 256) : R = en k e s (fl R) (fb R) := by
  have := (en_of R h.n hB h.g.n).2 ⟨h.g.z, h.g.c⟩
  rw [h.k, h.e, h.s] at this
  exact this.symm
/-- What data blocks tell. -/
def pq (r : List Nat) : Pt := ((fl r : Int), fb r)
def pts (R : List (List Nat)) : List Pt := R.map pq
def rz : List Nat := []
theorem row_mem {R : List (List Nat)} {j : Nat} (h : j < R.length) : R.getD j rz ∈ R := by
  rw [List.getD_eq_getElem?_getD, List.getElem?_eq_getElem h]; exact List.getElem_mem _
theorem dr_pts {e s : Nat} : ∀ {R : List (List Nat)}, (∀ r ∈ R, Dt 1 e s r) → (∀ r ∈ R, ∀ c ∈ r, c < 256) → dr e s (pts R) = R
  | [], _, _ => rfl
  | r :: R, h, hB => by
    have h1 := (h r (by simp)).en (hB r (by simp))
    have h2 := dr_pts (R := R) (fun x hx => h x (by simp [hx])) (fun x hx => hB x (by simp [hx]))
    show en 1 e s ((fl r : Int)).toNat (fb r) :: dr e s (pts R) = r :: R
    rw [h2, Int.toNat_natCast, ← h1]

/-- The row begins with the encoding of a batch. -/
structure Rok (R : List (List Nat)) (e s : Nat) (L : List Tx) : Prop where
  bk : Bk s L
  pb : Pb (fla L)
  e32 : e < 4294967296
  n : tot L + 1 ≤ R.length
  tk : R.take (tot L + 1) = eb e s L
/-- The first k are data blocks like the first one. -/
def Dk (R : List (List Nat)) (k : Nat) : Prop := ∀ j, j < k → Dt 1 (fe (R.getD 0 rz)) (fs (R.getD 0 rz)) (R.getD j rz)
theorem Dk.zero (R : List (List Nat)) : Dk R 0 := fun j h => absurd h (Nat.not_lt_zero j)
theorem Dk.more {R : List (List Nat)} {k : Nat} (h : Dk R k) (h1 : Dt 1 (fe (R.getD 0 rz)) (fs (R.getD 0 rz)) (R.getD k rz)) : Dk R (k + 1) := fun j hj => by
  by_cases e : j = k
  · rw [e]; exact h1
  · exact h j (by omega)
theorem row_take {R : List (List Nat)} {k j : Nat} (h : j < k) : (R.take k).getD j rz = R.getD j rz := by
  simp only [List.getD_eq_getElem?_getD, List.getElem?_take, if_pos h]
theorem Rok.rows {R : List (List Nat)} {e s : Nat} {L : List Tx} (h : Rok R e s L) : (∀ j, j < tot L → Dt 1 e s (R.getD j rz)) ∧ R.getD (tot L) rz = cm e s L := by
  have hx : ∀ j, j < tot L + 1 → R.getD j rz = (eb e s L).getD j rz := fun j hj => by rw [← h.tk, row_take hj]
  have hl : (dr e s (fla L)).length = tot L := by rw [dr_len, fla_len]
  constructor
  · intro j hj
    have hjl : j < (fla L).length := by rw [fla_len]; exact hj
    rw [hx j (by omega), eb, List.getD_eq_getElem?_getD, List.getElem?_append_left (by omega), dr, List.getElem?_map, List.getElem?_eq_getElem hjl]
    exact dt_en (may_d h.bk h.pb h.e32 (List.getElem_mem hjl))
  · rw [hx _ (by omega), eb, List.getD_eq_getElem?_getD, List.getElem?_append_right (by omega), hl, Nat.sub_self]; rfl
theorem Rok.last {R : List (List Nat)} {e s : Nat} {L : List Tx} (h : Rok R e s L) : Dt 2 e s (R.getD (tot L) rz) ∧ fl (R.getD (tot L) rz) = tot L ∧ fb (R.getD (tot L) rz) = bd L := by
  rw [h.rows.2, cm]
  have := en_good (may_c h.bk h.e32)
  exact ⟨dt_en (may_c h.bk h.e32), this.2.2.2.2.1, this.2.2.2.2.2⟩
theorem Rok.head {R : List (List Nat)} {e s : Nat} {L : List Tx} (h : Rok R e s L) : fe (R.getD 0 rz) = e ∧ fs (R.getD 0 rz) = s := by
  have h1 := h.rows.1 0 h.bk.tot1
  exact ⟨h1.e, h1.s⟩
theorem pts_dr {e s : Nat} {L : List Tx} (h : Bk s L) (hb : Pb (fla L)) (he : e < 4294967296) : pts (dr e s (fla L)) = fla L := by
  unfold pts dr
  rw [List.map_map]
  refine (List.map_congr_left fun p hp => ?_).trans (List.map_id _)
  have h1 := en_good (may_d h hb he hp)
  obtain ⟨x, hx, hpx⟩ := fla_mem.1 hp
  have h2 := h.lba x hx p hpx
  simp only [Function.comp, pq, id, h1.2.2.2.2.1, h1.2.2.2.2.2]
  obtain ⟨a, b⟩ := p
  simp only [Prod.mk.injEq, and_true]
  simp only at h2
  omega
theorem Rok.pts {R : List (List Nat)} {e s : Nat} {L : List Tx} (h : Rok R e s L) : pts (R.take (tot L)) = fla L := by
  have : R.take (tot L) = dr e s (fla L) := by
    have h1 := congrArg (List.take (tot L)) h.tk
    rw [List.take_take, Nat.min_eq_left (by omega), eb, List.take_left' (by rw [dr_len, fla_len])] at h1
    exact h1
  rw [this]; exact pts_dr h.bk h.pb h.e32
/-- The first block that is no data block of the batch is the batch's last one. -/
theorem Rok.ends {R : List (List Nat)} {e s : Nat} {L : List Tx} (h : Rok R e s L) {k : Nat} (hd : Dk R k) (hk : k ≤ R.length) (hn : k < R.length → ¬ Dt 1 (fe (R.getD 0 rz)) (fs (R.getD 0 rz)) (R.getD k rz)) : k = tot L := by
  have h1 := h.head
  rcases Nat.lt_trichotomy k (tot L) with h2 | h2 | h2
  · have h3 := h.rows.1 k h2
    have h4 := h.n
    exact absurd (by rw [h1.1, h1.2]; exact h3) (hn (by omega))
  · exact h2
  · have h3 := (hd (tot L) h2).k
    have h4 := h.last.1.k
    omega
theorem Rok.one {R : List (List Nat)} {e s e' s' : Nat} {L L' : List Tx} (h : Rok R e s L) (h' : Rok R e' s' L') (hinj : tot L = tot L' → fla L = fla L' → bd L = bd L' → L = L') : e = e' ∧ s = s' ∧ L = L' := by
  have h1 := h.head
  have h2 := h'.head
  have hd : Dk R (tot L) := fun j hj => by rw [h1.1, h1.2]; exact h.rows.1 j hj
  have hn := h.n
  have h3 := h'.ends hd (by omega) fun _ hx => by have h4 := h.last.1.k; have h5 := hx.k; omega
  refine ⟨h1.1.symm.trans h2.1, h1.2.symm.trans h2.2, hinj h3 ?_ ?_⟩
  · rw [← h.pts, ← h'.pts, h3]
  · rw [← h.last.2.2, ← h'.last.2.2, h3]
/-- A batch found. -/
theorem rok_of {R : List (List Nat)} (hB : ∀ r ∈ R, ∀ c ∈ r, c < 256) {k e s : Nat} {L : List Tx} (hk : k < R.length) (hd : ∀ j, j < k → Dt 1 e s (R.getD j rz)) (hc : Dt 2 e s (R.getD k rz)) (hl : fl (R.getD k rz) = k) (hb : Bk s L) (h1 : bd L = fb (R.getD k rz)) (h2 : fla L = pts (R.take k)) : Rok R e s L := by
  have ht : tot L = k := by rw [← fla_len, h2]; simp [Go.Proofs.Ytgmekkenodiclaa.pts]; omega
  have hm : ∀ r ∈ R.take k, r ∈ R := fun r hr => List.mem_of_mem_take hr
  have he : e < 4294967296 := by
    rw [← hc.e]
    exact (good_may hc.n (hB _ (row_mem hk)) hc.g).e32
  refine ⟨hb, ?_, he, by omega, ?_⟩
  · rw [h2]
    intro p hp
    obtain ⟨r, hr, rfl⟩ := List.mem_map.1 hp
    exact part_byte (hB r (hm r hr)) _ _
  · rw [ht, List.take_succ_eq_append_getElem hk, eb, h2]
    congr 1
    · refine (dr_pts (fun r hr => ?_) fun r hr => hB r (hm r hr)).symm
      obtain ⟨j, hj, rfl⟩ := List.getElem_of_mem hr
      rw [List.length_take] at hj
      have := hd j (by omega)
      rw [List.getD_eq_getElem?_getD, List.getElem?_eq_getElem (by omega)] at this
      simpa using this
    · have h3 : R.getD k rz = R[k] := by rw [List.getD_eq_getElem?_getD, List.getElem?_eq_getElem hk]; rfl
      have h4 := hc.en (hB _ (row_mem hk))
      rw [hl, ← h1] at h4
      rw [cm, ht, ← h4, h3]

end Go.Proofs.Ytgmekkenodiclaa
