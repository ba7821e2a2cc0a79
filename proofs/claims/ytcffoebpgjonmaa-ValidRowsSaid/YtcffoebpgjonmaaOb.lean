/- Proved: what becomes of a map behind Apply, taken in or refused; objects that lie in blocks of their own, apart from each other. -/
import Derived.Test.YtcffoebpgjonmaaEAp
namespace Go.Proofs.Ytcffoebpgjonmaa
open Go.RowKit

namespace Em
/-- The state behind a transaction, taken in or not. -/
noncomputable def took (S : St) (T : Int) (P : List Pt) : St := open Classical in if rf S T P = 0 then ap S T P else S
theorem took_ok {S : St} {T : Int} {P : List Pt} (h : rf S T P = 0) : took S T P = ap S T P := if_pos h
theorem took_no {S : St} {T : Int} {P : List Pt} (h : ¬ rf S T P = 0) : took S T P = S := if_neg h
theorem took_n (S : St) (T : Int) (P : List Pt) : (took S T P).n = S.n := by unfold took; split <;> rfl
theorem took_c (S : St) (T : Int) (P : List Pt) : (took S T P).c ≤ S.c + 1 := by
  unfold took; split
  · exact Nat.le_refl _
  · omega
theorem fine_rf {S : St} {T : Int} {P : List Pt} (h : rf S T P = 0) : Fine S T P := by
  rcases rf_cases S T P with h1 | h1 | h1 | h1 | h1
  · exact h1.2
  all_goals omega
theorem rd_late {S : St} {T : Int} {P : List Pt} (hf : Fine S T P) (t : Int) (h : t < T) (k : Nat) : rdv ((ap S T P).V k) t = rdv (S.V k) t := by
  rcases ups_at S.V T k P hf.rs with ⟨e, _⟩ | ⟨p, _, _, e⟩
  · show rdv (ups S.V T P k) t = _; rw [e]
  · show rdv (ups S.V T P k) t = _; rw [e]; exact rdv_app_late _ _ _ h
theorem rd_took {S : St} {T : Int} {P : List Pt} (t : Int) (h : t < T) (k : Nat) : rdv ((took S T P).V k) t = rdv (S.V k) t := by
  by_cases h0 : rf S T P = 0
  · rw [took_ok h0]; exact rd_late (fine_rf h0) t h k
  · rw [took_no h0]
/-- The call tells z and leaves the map in the state S'. -/
def Told (z : Int) (F : Nat → Prop) (b : Nat) (S' : St) (w : World) (e : Ending) (w' : World) : Prop := ∃ F', e = .returned (.int .i64 z) ∧ Mp w' b S' F' ∧ Did F w F' w'
theorem apply_any {w0 w : World} {b : Nat} {S : St} {F : Nat → Prop} (hm : Mp w b S F) (hA : At w0 w) (hF : ∀ g, F g → w0.heap.size ≤ g) (T : Int) (A : Option Addr) (P : List Pt) (n c : Nat) (hn : P.length = n) (hl : n ≤ 1000000) (hv : PV w0 A P) (hB : AllBy P) (hc : S.c < 20000) :
    Calls Try.prog 12 #[.pointer (some ⟨b, 0, none⟩), .agg #[.int .i64 T, .slice A n c]] w (Told (rf S T P) F b (took S T P) w) := by
  obtain ⟨mb, D, hd, h⟩ := hm
  by_cases h0 : rf S T P = 0
  · refine (apply_ok h T A P n c hn hl (fun W hW => hv.on (hW.at_ hA hF)) hB (fine_rf h0) h0 hc).mono ?_
    rintro e w' ⟨F', rfl, hm', hd'⟩
    rw [h0, took_ok h0]
    exact ⟨F', rfl, hm', hd'⟩
  · refine (apply_no (some ⟨b, 0, none⟩) T A n c (rf S T P) h0 (fun W hW => refuses_any (h.on hW) T A P n c hn (hv.on (hA.next hW)) hl)).mono ?_
    rintro e w' ⟨rfl, hA'⟩
    rw [took_no h0]
    exact ⟨F, rfl, ⟨mb, D, hd, h.on hA'⟩, Did.of_at hA'⟩
/-- The same, where the vector is known to stay whatever the map does. -/
theorem apply_far {w : World} {b : Nat} {S : St} {F : Nat → Prop} (hm : Mp w b S F) (T : Int) (A : Option Addr) (P : List Pt) (n c : Nat) (hn : P.length = n) (hl : n ≤ 1000000) (hv : ∀ W, Mv F w W → PV W A P) (hB : AllBy P) (hc : S.c < 20000) :
    Calls Try.prog 12 #[.pointer (some ⟨b, 0, none⟩), .agg #[.int .i64 T, .slice A n c]] w (Told (rf S T P) F b (took S T P) w) := by
  obtain ⟨mb, D, hd, h⟩ := hm
  by_cases h0 : rf S T P = 0
  · refine (apply_ok h T A P n c hn hl hv hB (fine_rf h0) h0 hc).mono ?_
    rintro e w' ⟨F', rfl, hm', hd'⟩
    rw [h0, took_ok h0]
    exact ⟨F', rfl, hm', hd'⟩
  · refine (apply_no (some ⟨b, 0, none⟩) T A n c (rf S T P) h0 (fun W hW => refuses_any (h.on hW) T A P n c hn (hv W (Mv.of_below F hW)) hl)).mono ?_
    rintro e w' ⟨rfl, hA'⟩
    rw [took_no h0]
    exact ⟨F, rfl, ⟨mb, D, hd, h.on hA'⟩, Did.of_at hA'⟩
theorem Mp.on {w w' : World} {b : Nat} {S : St} {F : Nat → Prop} (h : Mp w b S F) (hA : At w w') : Mp w' b S F := by
  obtain ⟨mb, D, hd, h⟩ := h; exact ⟨mb, D, hd, h.on hA⟩
theorem Mp.mv {w w' : World} {b : Nat} {S : St} {F G : Nat → Prop} (h : Mp w b S F) (hm : Mv G w w') (hG : ∀ g, F g → ¬ G g) : Mp w' b S F := by
  obtain ⟨mb, D, hd, h⟩ := h; exact ⟨mb, D, hd, h.mv hm hG⟩
theorem Mp.ft {w : World} {b : Nat} {S : St} {F : Nat → Prop} (h : Mp w b S F) : ∀ g, F g → g < w.heap.size := by
  obtain ⟨mb, D, hd, h⟩ := h; exact h.ft
theorem Mp.ok {w : World} {b : Nat} {S : St} {F : Nat → Prop} (h : Mp w b S F) : Ok S := by
  obtain ⟨mb, D, hd, h⟩ := h; exact h.ok
end Em
open Em (Did)

/-- The blocks of an object numbered i become G. -/
def upd (F : Nat → Nat → Prop) (i : Nat) (G : Nat → Prop) : Nat → Nat → Prop := fun j => if j = i then G else F j
theorem upd_at (F : Nat → Nat → Prop) (i : Nat) (G : Nat → Prop) : upd F i G i = G := if_pos rfl
theorem upd_ne (F : Nat → Nat → Prop) {i j : Nat} (G : Nat → Prop) (h : j ≠ i) : upd F i G j = F j := if_neg h
/-- Objects of a call's own, each in blocks of its own. -/
structure Al (w0 w : World) (F : Nat → Nat → Prop) : Prop where
  lt : ∀ i g, F i g → g < w.heap.size
  ge : ∀ i g, F i g → w0.heap.size ≤ g
  dis : ∀ i j g, F i g → F j g → i = j
  at_ : At w0 w
section
variable {w0 w w' : World} {F : Nat → Nat → Prop}
theorem Al.start (w : World) : Al w w (fun _ _ => False) := ⟨fun _ _ h => h.elim, fun _ _ h => h.elim, fun _ _ _ h => h.elim, At.start w⟩
theorem Al.on (h : Al w0 w F) (hA : At w w') : Al w0 w' F := ⟨fun i g hg => Nat.lt_of_lt_of_le (h.lt i g hg) hA.size, h.ge, h.dis, h.at_.next hA⟩
theorem Al.far (h : Al w0 w F) {i j : Nat} (hij : i ≠ j) : ∀ g, F i g → ¬ F j g := fun g h1 h2 => hij (h.dis i j g h1 h2)
theorem Al.back {wa : World} (h : Al w0 w F) (hA : At wa w0) : Al wa w F := ⟨h.lt, fun i g hg => Nat.le_trans hA.size (h.ge i g hg), h.dis, hA.next h.at_⟩
theorem Al.step (h : Al w0 w F) (i : Nat) {G : Nat → Prop} (hd : Did (F i) w G w') (hG : ∀ g, G g → g < w'.heap.size) : Al w0 w' (upd F i G) := by
  have hs := hd.mv.size
  refine ⟨fun j g hg => ?_, fun j g hg => ?_, fun j k g hj hk => ?_, hd.at_ h.at_ (h.ge i)⟩
  · by_cases e : j = i
    · subst e; rw [upd_at] at hg; exact hG g hg
    · rw [upd_ne _ _ e] at hg; have := h.lt j g hg; omega
  · by_cases e : j = i
    · subst e; rw [upd_at] at hg
      rcases hd.new g hg with h1 | h1
      · exact h.ge j g h1
      · have := h.at_.size; omega
    · rw [upd_ne _ _ e] at hg; exact h.ge j g hg
  · by_cases ej : j = i
    · by_cases ek : k = i
      · rw [ej, ek]
      · subst ej
        rw [upd_at] at hj
        rw [upd_ne _ _ ek] at hk
        rcases hd.new g hj with h1 | h1
        · exact h.dis j k g h1 hk
        · have := h.lt k g hk; omega
    · by_cases ek : k = i
      · subst ek
        rw [upd_at] at hk
        rw [upd_ne _ _ ej] at hj
        rcases hd.new g hk with h1 | h1
        · exact h.dis j k g hj h1
        · have := h.lt j g hj; omega
      · rw [upd_ne _ _ ej] at hj
        rw [upd_ne _ _ ek] at hk
        exact h.dis j k g hj hk
/-- An object's own step does not touch what lies in another one's blocks. -/
theorem Al.keep (h : Al w0 w F) {i j : Nat} (hij : i ≠ j) : ∀ g, F i g → ¬ F j g := h.far hij
end

end Go.Proofs.Ytcffoebpgjonmaa
