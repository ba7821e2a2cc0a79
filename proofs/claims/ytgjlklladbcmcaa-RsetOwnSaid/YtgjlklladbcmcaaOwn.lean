/- Proved: plain facts on the law RsetOwn's states: a map with two blocks, a buffer with one. -/
import Derived.Test.YtgjlklladbcmcaaLim
namespace Go.Proofs.Ytgjlklladbcmcaa
open Go.RowKit
open Iv (Nm Is Vm nf nf_is is_one is_len)

/-- The map of the law: two blocks of the time 3. -/
def mo (x : Nat) : Em.St := Em.ap (Em.st0 20) 3 [((x : Int), bk 50), ((x : Int) + 1, bk 51)]
theorem mo_fine (x : Nat) (hx : x < 19) : Em.Fine (Em.st0 20) 3 [((x : Int), bk 50), ((x : Int) + 1, bk 51)] := by
  refine ⟨by show (0 : Int) < 3; omega, by omega, by simp, fun j h1 h2 => ?_, fun j h => ?_, fun j h => ?_, fun j h => ?_⟩
  · have h2 : j < 2 := h2
    obtain rfl : j = 1 := by omega
    show (x : Int) < (x : Int) + 1
    omega
  · have h : j < 2 := h
    match j, h with
    | 0, _ => show (0 : Int) ≤ (x : Int); omega
    | 1, _ => show (0 : Int) ≤ (x : Int) + 1; omega
  · have h : j < 2 := h
    match j, h with
    | 0, _ => show (x : Int) < ((20 : Nat) : Int); omega
    | 1, _ => show (x : Int) + 1 < ((20 : Nat) : Int); omega
  · have h : j < 2 := h
    match j, h with
    | 0, _ => exact bk_len 50
    | 1, _ => exact bk_len 51
theorem mo_took (x : Nat) (hx : x < 19) : Em.took (Em.st0 20) 3 [((x : Int), bk 50), ((x : Int) + 1, bk 51)] = mo x := Em.took_ok (mo_fine x hx).rf
theorem mo_x (x : Nat) : (mo x).V x = [(3, bk 50)] := by
  show (if ((x : Nat) : Int) = (x : Int) + 1 then _ else (if ((x : Nat) : Int) = (x : Int) then [] ++ [((3 : Int), bk 50)] else [])) = _
  rw [if_neg (by omega), if_pos rfl]; rfl
theorem mo_y (x : Nat) : (mo x).V (x + 1) = [(3, bk 51)] := by
  show (if ((x + 1 : Nat) : Int) = (x : Int) + 1 then (if ((x + 1 : Nat) : Int) = (x : Int) then [] ++ [((3 : Int), bk 50)] else []) ++ [((3 : Int), bk 51)] else _) = _
  rw [if_pos (by omega), if_neg (by omega)]; rfl
theorem rdv_one (d : List Nat) : (Em.rdv [(3, d)] 5).2 = d := by
  have : Em.rdv [((3 : Int), d)] 5 = (3, d) := by
    have := Em.rdv_app_now [] (((3 : Int), d) : Em.Ver) 5 (by show (3 : Int) ≤ 5; omega)
    simpa using this
  rw [this]
/-- A buffer in which at most the block x was written. -/
structure Bx (x : Nat) (B : St) : Prop where
  ok : Ok B
  n : B.n = 20
  most : B.most = 16
  no : ∀ k, k ≠ x → B.g k = []
theorem bx_start (x : Nat) : Bx x (st0 20 16) := ⟨st0_ok (by omega) (by omega) (by omega), rfl, rfl, fun _ _ => rfl⟩
theorem bx_us {x : Nat} {B : St} (hn : ∀ k, k ≠ x → B.g k = []) : (us B).length ≤ 1 := by
  have h : ∀ k ∈ us B, k = x := fun k hk => Classical.byContradiction fun e => (mem_us.1 hk).2 (hn k e)
  have hs : us B ⊆ [x] := fun k hk => by rw [h k hk]; exact List.mem_singleton.2 rfl
  exact (List.Nodup.length_le_of_subset (us_nodup B) hs)
theorem bx_g (x : Nat) (B : St) (d : List Nat) (k : Nat) : (upS B [((x : Int), d)]).g k = if k = x then d else B.g k := by
  show (if (k : Int) = (x : Int) then d else B.g k) = _
  by_cases e : k = x
  · rw [if_pos e, if_pos (by omega)]
  · rw [if_neg e, if_neg (by omega)]
theorem bx_no {x : Nat} {B : St} (h : Bx x B) (d : List Nat) : ∀ k, k ≠ x → (upS B [((x : Int), d)]).g k = [] := fun k hk => by rw [bx_g, if_neg hk]; exact h.no k hk
theorem bx_fine {x : Nat} {B : St} (h : Bx x B) (hx : x < 19) {d : List Nat} (hd : d.length = 40) : Fine B [((x : Int), d)] :=
  ⟨⟨by simp, fun p hp => by rw [List.mem_singleton] at hp; subst hp; rw [h.n]; simp only; omega, fun p hp => by rw [List.mem_singleton] at hp; subst hp; exact hd⟩, by unfold Un; simp, by rw [h.most]; have := bx_us (bx_no h d); omega⟩
theorem bx_more {x : Nat} {B : St} (h : Bx x B) (hx : x < 19) {d : List Nat} (hd : d.length = 40 ∧ AllB d) : Bx x (upS B [((x : Int), d)]) :=
  ⟨up_ok h.ok (bx_fine h hx hd.1) (fun p hp => by rw [List.mem_singleton] at hp; subst hp; exact hd.2), h.n, h.most, bx_no h d⟩
/-- What the law reads: the two blocks. -/
theorem own_sees {x : Nat} {B : St} (h : Bx x B) : sees (mo x) B 5 x 2 = [if B.g x = [] then ⟨(x : Int), bk 50, false⟩ else ⟨(x : Int), B.g x, true⟩, ⟨(x : Int) + 1, bk 51, false⟩] := by
  show [see (mo x) B 5 x, see (mo x) B 5 (x + 1)] = _
  have e1 : see (mo x) B 5 x = if B.g x = [] then ⟨(x : Int), bk 50, false⟩ else ⟨(x : Int), B.g x, true⟩ := by
    unfold see
    rw [mo_x, rdv_one]
  have e2 : see (mo x) B 5 (x + 1) = ⟨(x : Int) + 1, bk 51, false⟩ := by
    rw [see_map (h.no (x + 1) (by omega)), mo_y, rdv_one]; rfl
  rw [e1, e2]
/-- The read set of the law: nothing, or the two blocks. -/
def Lx (x : Nat) (L : List (Int × Int)) : Prop := L = [] ∨ L = [((x : Int), (2 : Int))]
theorem lx_nf {x : Nat} {L : List (Int × Int)} (h : Lx x L) (hx : x < 19) : nf (L ++ [((x : Int), (2 : Int))]) = [((x : Int), (2 : Int))] := by
  have hv : Vm ((x : Int), (2 : Int)) := by unfold Vm; simp only; omega
  have hM : Is (L ++ [((x : Int), (2 : Int))]) [((x : Int), (2 : Int))] := by
    refine ⟨Nm.one hv, fun y => ?_⟩
    rcases h with rfl | rfl
    · rfl
    · rw [Iv.in_app]; exact ⟨Or.inl, fun h => h.elim id id⟩
  have hvl : ∀ e ∈ L ++ [((x : Int), (2 : Int))], Vm e := fun e he => by
    rcases List.mem_append.1 he with he | he
    · rcases h with rfl | rfl
      · cases he
      · rw [List.mem_singleton] at he; subst he; exact hv
    · rw [List.mem_singleton] at he; subst he; exact hv
  exact is_one (nf_is hvl) hM
theorem lx_code {x : Nat} {L : List (Int × Int)} (h : Lx x L) (hx : x < 19) : rcode (mo x).n L (x : Int) 2 = 0 :=
  rcode_ok (by omega) (show (0 : Int) ≤ (x : Int) ∧ (x : Int) + 2 ≤ ((20 : Nat) : Int) by omega) (by rw [lx_nf h hx]; simp)
theorem lx_more {x : Nat} {L : List (Int × Int)} (h : Lx x L) (hx : x < 19) : Lx x (rdL (mo x).n L (x : Int) 2) := by
  unfold rdL; rw [if_pos (lx_code h hx), lx_nf h hx]; exact Or.inr rfl
theorem own_bytes {x : Nat} {B : St} {L : List (Int × Int)} (h : Bx x B) (hl : Lx x L) (hx : x < 19) : rdB (mo x) B 5 L (x : Int) 2 = (if B.g x = [] then bk 50 else B.g x) ++ bk 51 := by
  unfold rdB
  rw [if_pos (lx_code hl hx), Int.toNat_natCast, show (2 : Int).toNat = 2 from rfl, own_sees h]
  by_cases e : B.g x = []
  · rw [if_pos e, if_pos e]; unfold byt; simp
  · rw [if_neg e, if_neg e]; unfold byt; simp
theorem own_reads {x : Nat} {B : St} {L : List (Int × Int)} {R : List Rd} (h : Bx x B) (hl : Lx x L) (hx : x < 19) : rdR (mo x) B 5 L R (x : Int) 2 = R ++ [if B.g x = [] then ⟨(x : Int), bk 50, false⟩ else ⟨(x : Int), B.g x, true⟩, ⟨(x : Int) + 1, bk 51, false⟩] := by
  unfold rdR
  rw [if_pos (lx_code hl hx), Int.toNat_natCast, show (2 : Int).toNat = 2 from rfl, own_sees h]
/-- How many of the reads were one's own. -/
def cn (R : List Rd) : Nat := (R.filter fun r => r.o).length
theorem cn_app (R T : List Rd) : cn (R ++ T) = cn R + cn T := by unfold cn; rw [List.filter_append, List.length_append]
theorem cn_take (R : List Rd) (k : Nat) (h : k < R.length) : cn (R.take (k + 1)) = cn (R.take k) + if (R.getD k rz).o then 1 else 0 := by
  rw [List.take_succ_eq_append_getElem h, cn_app, List.getD_eq_getElem?_getD, List.getElem?_eq_getElem h]
  congr 1
  unfold cn
  rw [List.filter_cons]
  simp only [Option.getD_some, List.filter_nil]
  split <;> rfl
theorem cn_le (R : List Rd) : cn R ≤ R.length := List.length_filter_le _ _
theorem own_cn {x : Nat} {B : St} {L : List (Int × Int)} {R : List Rd} (h : Bx x B) (hl : Lx x L) (hx : x < 19) : cn (rdR (mo x) B 5 L R (x : Int) 2) = cn R + (if B.g x = [] then 0 else 1) := by
  rw [own_reads h hl hx, cn_app]
  by_cases e : B.g x = []
  · rw [if_pos e, if_pos e]; rfl
  · rw [if_neg e, if_neg e]; rfl

end Go.Proofs.Ytgjlklladbcmcaa
