/- Proved: what a step's transaction turns a map into, taken in or refused; the steps played one after another. -/
import Derived.Test.YtjpoiijifnfjhaaTot
namespace Go.Proofs.Ytjpoiijifnfjhaa
open Go.RowKit

/-- The state behind a transaction, taken in or not. -/
noncomputable def took (S : St) (T : Int) (P : List Pt) : St := open Classical in if rf S T P = 0 then ap S T P else S
theorem took_ok {S : St} {T : Int} {P : List Pt} (h : rf S T P = 0) : took S T P = ap S T P := if_pos h
theorem took_no {S : St} {T : Int} {P : List Pt} (h : ¬ rf S T P = 0) : took S T P = S := if_neg h
theorem took_n (S : St) (T : Int) (P : List Pt) : (took S T P).n = S.n := by unfold took; split <;> rfl
theorem took_c (S : St) (T : Int) (P : List Pt) : (took S T P).c ≤ S.c + 1 := by
  unfold took; split
  · exact Nat.le_refl _
  · omega
theorem fine_rf {S : St} {T : Int} {P : List Pt} (h : rf S T P = 0) : Fine S T P := by
  rcases rf_cases S T P with h1 | h1 | h1 | h1 | h1
  · exact h1.2
  all_goals omega
/-- The call tells z and leaves the map in the state S'. -/
def Told (z : Int) (F : Nat → Prop) (b : Nat) (S' : St) (w : World) (e : Ending) (w' : World) : Prop := ∃ F', e = .returned (.int .i64 z) ∧ Mp w' b S' F' ∧ Did F w F' w'
theorem apply_any {w0 w : World} {b : Nat} {S : St} {F : Nat → Prop} (hm : Mp w b S F) (hA : At w0 w) (hF : ∀ g, F g → w0.heap.size ≤ g) (T : Int) (A : Option Addr) (P : List Pt) (n c : Nat) (hn : P.length = n) (hl : n ≤ 1000000) (hv : PV w0 A P) (hB : PB P) (hc : S.c < 1000) :
    Calls Try.prog 11 #[.pointer (some ⟨b, 0, none⟩), .agg #[.int .i64 T, .slice A n c]] w (Told (rf S T P) F b (took S T P) w) := by
  obtain ⟨mb, D, hd, h⟩ := hm
  by_cases h0 : rf S T P = 0
  · refine (apply_ok h T A P n c hn hl (fun W hW => hv.on (hW.at_ hA hF)) (fun p hp => (hB p hp).1) (fine_rf h0) h0 hc).mono ?_
    rintro e w' ⟨F', rfl, hm', hd'⟩
    rw [h0, took_ok h0]
    exact ⟨F', rfl, hm', hd'⟩
  · refine (apply_no (some ⟨b, 0, none⟩) T A n c (rf S T P) h0 (fun W hW => refuses_any (h.on hW) T A P n c hn (hv.on (hA.next hW)) hl)).mono ?_
    rintro e w' ⟨rfl, hA'⟩
    rw [took_no h0]
    exact ⟨F, rfl, ⟨mb, D, hd, h.on hA'⟩, Did.of_at hA'⟩

/-- The state behind the first i steps, of which those of kind 1 alone do something. -/
noncomputable def plays (S : St) (L : List Stp) : Nat → St
  | 0 => S
  | i + 1 => open Classical in if (L.getD i sz).kind = 1 then took (plays S L i) (L.getD i sz).time (L.getD i sz).puts else plays S L i
theorem plays_one {S : St} {L : List Stp} {i : Nat} (h : (L.getD i sz).kind = 1) : plays S L (i + 1) = took (plays S L i) (L.getD i sz).time (L.getD i sz).puts := if_pos h
theorem plays_not {S : St} {L : List Stp} {i : Nat} (h : ¬ (L.getD i sz).kind = 1) : plays S L (i + 1) = plays S L i := if_neg h
theorem plays_n (S : St) (L : List Stp) : ∀ i, (plays S L i).n = S.n
  | 0 => rfl
  | i + 1 => by
    by_cases h : (L.getD i sz).kind = 1
    · rw [plays_one h, took_n, plays_n S L i]
    · rw [plays_not h, plays_n S L i]
theorem plays_c (S : St) (L : List Stp) : ∀ i, (plays S L i).c ≤ S.c + i
  | 0 => Nat.le_refl _
  | i + 1 => by
    have h0 := plays_c S L i
    by_cases h : (L.getD i sz).kind = 1
    · rw [plays_one h]
      have := took_c (plays S L i) (L.getD i sz).time (L.getD i sz).puts
      omega
    · rw [plays_not h]; omega

theorem rd_late {S : St} {T : Int} {P : List Pt} (hf : Fine S T P) (t : Int) (h : t < T) (k : Nat) : rdv ((ap S T P).V k) t = rdv (S.V k) t := by
  rcases ups_at S.V T k P hf.rs with ⟨e, _⟩ | ⟨p, _, _, e⟩
  · show rdv (ups S.V T P k) t = _; rw [e]
  · show rdv (ups S.V T P k) t = _; rw [e]; exact rdv_app_late _ _ _ h

theorem rows_info : (Try.prog.info? 36).map (fun i => (i.zero, i.size, i.bytes)) = some (some (.slice none 0 0), 1, 24) := by kernel_rfl
theorem make_rows (w : World) : (Instr.makeSlice 29 (.int .i64 20) (.int .i64 20)).run Try.prog w =
    .ok (.slice (some ⟨w.heap.size, 0, none⟩) 20 20) (w.alloc (.cells (madeCells (Value.slice none 0 0).cells 20) 36)) := by
  obtain ⟨i0, hi, hz0, hz1, hz2⟩ := info_parts rows_info
  have h := run_make (P := Try.prog) w 29 36 i0 (.slice none 0 0) Try.underlying29 hi hz0 .i64 .i64 20 20 (by omega) (by omega) (by rw [hz2]; decide) (by omega)
  rw [h, hz1]
  rfl
/-- The block g holds 20 slices of bytes that read as Q's in the memory there was. -/
def WT (w0 w : World) (g : Nat) (Q : Nat → List Nat) : Prop := ∃ cs, w.heap[g]? = some (.cells cs 36 (0, 0)) ∧ cs.size = 20 ∧ ∀ k, k < 20 → ∃ A c, cs[k]? = some (.slice A (Q k).length c) ∧ BV w0 A (Q k)
theorem rows_made : madeCells (Value.slice none 0 0).cells 20 = (List.replicate 20 (Value.slice none 0 0)).toArray := by
  apply Array.toList_inj.1
  show (madeCells #[Value.slice none 0 0] 20).toList = _
  rw [toList_madeCells_one]
theorem WT.made (w0 w : World) : WT w0 (w.alloc (.cells (madeCells (Value.slice none 0 0).cells 20) 36)) w.heap.size fun _ => [] := by
  refine ⟨_, heap_alloc_new w _, by rw [rows_made]; rfl, fun k hk => ⟨none, 0, ?_, BV.nil _ _⟩⟩
  rw [rows_made, List.getElem?_toArray, List.getElem?_replicate, if_pos hk]; rfl
theorem WT.keep {w0 w w' : World} {g : Nat} {Q : Nat → List Nat} (h : WT w0 w g Q) {F : Nat → Prop} (hm : Mv F w w') (hF : ¬ F g) : WT w0 w' g Q := by
  obtain ⟨cs, h1, h2⟩ := h
  exact ⟨cs, hm.keep h1 hF, h2⟩
theorem WT.on {w0 w w' : World} {g : Nat} {Q : Nat → List Nat} (h : WT w0 w g Q) (hA : At w w') : WT w0 w' g Q := by
  obtain ⟨cs, h1, h2⟩ := h
  exact ⟨cs, hA.keep h1, h2⟩
theorem WT.at_ {w0 w : World} {g : Nat} {Q : Nat → List Nat} (h : WT w0 w g Q) (k : Nat) (hk : k < 20) : ∃ A c, w.cell? ⟨g, k, none⟩ = some (.slice A (Q k).length c) ∧ w.frozen? ⟨g, k, none⟩ = false ∧ BV w0 A (Q k) := by
  obtain ⟨cs, h1, h2, h3⟩ := h
  obtain ⟨A, c, h4, h5⟩ := h3 k hk
  exact ⟨A, c, (cell_at h1 k).trans h4, free_at h1 k, h5⟩
theorem WT.lt {w0 w : World} {g : Nat} {Q : Nat → List Nat} (h : WT w0 w g Q) : g < w.heap.size := by
  obtain ⟨cs, h1, _⟩ := h
  exact lt_heap h1
theorem WT.set {w0 w : World} {g : Nat} {Q : Nat → List Nat} (h : WT w0 w g Q) (k : Nat) (hk : k < 20) (A : Option Addr) (D : List Nat) (c : Nat) (hb : BV w0 A D) : WT w0 (w.setCell ⟨g, k, none⟩ (.slice A D.length c)) g fun i => if i = k then D else Q i := by
  obtain ⟨cs, h1, h2, h3⟩ := h
  refine ⟨_, heap_set h1 k _, by simpa using h2, fun i hi => ?_⟩
  by_cases e : i = k
  · subst e
    refine ⟨A, c, ?_, ?_⟩
    · show _ = some (Value.slice A (if i = i then D else Q i).length c)
      rw [if_pos rfl, Array.getElem?_setIfInBounds_self_of_lt (by omega)]
    · show BV w0 A (if i = i then D else Q i)
      rw [if_pos rfl]; exact hb
  · obtain ⟨A', c', h4, h5⟩ := h3 i hi
    refine ⟨A', c', ?_, ?_⟩
    · show _ = some (Value.slice A' (if i = k then D else Q i).length c')
      rw [if_neg e, Array.getElem?_setIfInBounds_ne (fun x => e x.symm)]; exact h4
    · show BV w0 A' (if i = k then D else Q i)
      rw [if_neg e]; exact h5
/-- What is meant by a row that may be nothing. -/
def wb (Q : List Nat) : List Nat := if Q = [] then zv.2 else Q
theorem wb_nil : wb [] = zv.2 := rfl
theorem wb_of {Q : List Nat} (h : Q ≠ []) : wb Q = Q := if_neg h

end Go.Proofs.Ytjpoiijifnfjhaa
