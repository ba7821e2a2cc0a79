/- Proved: for every 64-bit word and every slice of bytes the law FbitsFrom returns true and leaves its arguments and all memory that there was as it was (From, Encode and Decode answer as the document's own answers do); no condition. -/
import Derived.Test.YtmdnahbopjkjhaaFrom
import Derived.ProofKit
namespace Go.Proofs.Ytmdnahbopjkjhaa
open Go.ChangeShapes Go.WideShapes Go.ChangeAt Go.RowKit

theorem fbitsFrom_own : ownKnob Try.prog.godebug = none := by kernel_rfl
theorem fbitsFrom_laidOut : laidOutB Try.prog = true := by kernel_rfl

theorem cells_u8 : Try.prog.cellsOf 5 = 1 := by kernel_rfl

theorem u8_nat (zs : List Int) (j : Nat) (hj : j < zs.length) (hw : ∀ n ∈ zs, (Lit.int .u8 n).wf = true) : ∃ y : Nat, zs.getD j 0 = (y : Int) ∧ y < 256 := by
  have h := hw (zs.getD j 0) (by rw [List.getD_eq_getElem?_getD, List.getElem?_eq_getElem hj]; exact List.getElem_mem hj)
  simp only [Lit.wf, IntKind.min, IntKind.max, IntKind.signed, IntKind.bits, Bool.and_eq_true] at h
  have h1 := h.1
  have h2 := h.2
  simp at h1 h2
  exact ⟨(zs.getD j 0).toNat, by simp; omega, by simp; omega⟩

/-- Decode and its twin answer alike at every slice of bytes that was read. -/
theorem both (H : Type) (enc : TypeId × Value → H) (W : World) (a0 : Option Addr) (len cap fuel : Nat) (x : DataW H × List MemPlace)
    (hf : DataW.trod enc Try.prog W 0 (fun _ => true) true fuel 29 [.slice a0 len cap] = some x) :
    ∃ v er, v < 18446744073709551616 ∧ (Calls Try.prog 24 #[.slice a0 len cap] W fun e w' => e = .returned (.tuple #[.float .f64 v, .int .i64 er]) ∧ W = w') ∧
      (Calls Try.prog 25 #[.slice a0 len cap] W fun e w' => e = .returned (.tuple #[.float .f64 v, .int .i64 er]) ∧ W = w') := by
  by_cases h8 : len = 8
  · subst h8
    rcases open_ints Try.underlying29 Try.underlying5 cells_u8 hf with ⟨hcs, _⟩ | ⟨a, len', cap', zs, hcs, _, hl, hm, hz, _, hcell, hwz⟩
    · simp at hcs
    · simp at hcs
      obtain ⟨rfl, rfl, rfl⟩ := hcs
      simp only [if_true] at hz
      obtain ⟨b, off, spot⟩ := a
      have hspot : spot = none := by simpa [Addr.add] using World.cell?_spot (hcell 0 (by omega))
      subst hspot
      have hc : ∀ j, j < 8 → W.cell? ⟨b, off + j, none⟩ = some (.int .u8 (zs.getD j 0)) := fun j hj => by
        rw [← Go.WideShapes.add_plain]; exact hcell j (by omega)
      obtain ⟨y0, e0, b0⟩ := u8_nat zs 0 (by omega) hwz
      obtain ⟨y1, e1, b1⟩ := u8_nat zs 1 (by omega) hwz
      obtain ⟨y2, e2, b2⟩ := u8_nat zs 2 (by omega) hwz
      obtain ⟨y3, e3, b3⟩ := u8_nat zs 3 (by omega) hwz
      obtain ⟨y4, e4, b4⟩ := u8_nat zs 4 (by omega) hwz
      obtain ⟨y5, e5, b5⟩ := u8_nat zs 5 (by omega) hwz
      obtain ⟨y6, e6, b6⟩ := u8_nat zs 6 (by omega) hwz
      obtain ⟨y7, e7, b7⟩ := u8_nat zs 7 (by omega) hwz
      have c0 := hc 0 (by omega)
      have c1 := hc 1 (by omega)
      have c2 := hc 2 (by omega)
      have c3 := hc 3 (by omega)
      have c4 := hc 4 (by omega)
      have c5 := hc 5 (by omega)
      have c6 := hc 6 (by omega)
      have c7 := hc 7 (by omega)
      rw [e0] at c0
      rw [e1] at c1
      rw [e2] at c2
      rw [e3] at c3
      rw [e4] at c4
      rw [e5] at c5
      rw [e6] at c6
      rw [e7] at c7
      obtain ⟨v, hv⟩ : ∃ v : Nat, v = (((((((y0 * 256 + y1) * 256 + y2) * 256 + y3) * 256 + y4) * 256 + y5) * 256 + y6) * 256 + y7) := ⟨_, rfl⟩
      have hvl : v < 18446744073709551616 := by omega
      have D := decode8 b off cap y0 y1 y2 y3 y4 y5 y6 y7 v W c0 c1 c2 c3 c4 c5 c6 c7 b0 b1 b2 b3 b4 b5 b6 b7 hv
      have R := rdecode8 b off cap y0 y1 y2 y3 y4 y5 y6 y7 v W c0 c1 c2 c3 c4 c5 c6 c7 b0 b1 b2 b3 b4 b5 b6 b7 hv
      unfold decR at D R
      by_cases hq : Fl.isN v = true ∧ v ≠ 9221120237041090560
      · rw [if_pos hq] at D R
        exact ⟨0, 13, by decide, D, R⟩
      · rw [if_neg hq] at D R
        exact ⟨cb v, 0, cb_lt v hvl, D, R⟩
  · exact ⟨0, 13, by decide, decode_no a0 len cap h8 W, rdecode_no a0 len cap h8 W⟩

set_option maxRecDepth 100000 in
theorem fbitsFrom_lifted (os : Os) (started : os.Started) (H : Type) (enc : TypeId × Value → H) :
    ReturnsInHanded {} Try.checked os 4 .any (Rows.fbitsFromSpec.pre6 enc Try.prog Try.f4 Rows.fbitsFromRow.domain false) (Rows.fbitsFromSpec.post enc Try.prog Try.f4 false true false false) := by
  refine returnsInHanded_of_change (C := Try.checked) fbitsFrom_own started (by kernel_rfl) Try.func4
    (ChangeSpec.witness6 (enc := enc) (C := Try.checked) false ⟨#[], #[.int .u64 0, .slice none 0 0], []⟩ 8 (by kernel_rfl) (by kernel_rfl) (by kernel_rfl) (by kernel_rfl)) ?_
  intro W base args ds gs before hval0 hW hcnd _
  have hval : ∀ (j : Nat) t v, Try.f4.params[j]? = some t → args[j]? = some v → Value.okWide Try.prog W .any base t v := hval0
  have hW' := hW
  obtain ⟨p, q, hA0, hV, rfl, hfz, hnd⟩ := hW
  have hA : DataW.TrodAll enc Try.prog W 0 (fun _ => true) true Try.f4.params.toList args.toList ds p := hA0
  rw [Try.params4] at hA hval
  obtain ⟨v0, v1, d0, d1, p0, p1, rfl, rfl, rfl, h0, h1⟩ := trodAll_two hA
  obtain ⟨rfl, rfl⟩ := trodVars_none hV
  obtain ⟨n, rfl, rfl, rfl, wn⟩ := open_int Try.underlying24 (hval 0 24 v0 rfl rfl) h0
  obtain ⟨a0, len, cap, rfl⟩ := okWide_slice Try.underlying29 (hval 1 29 v1 rfl rfl)
  have h1k := h1
  obtain ⟨fuel, hf⟩ := h1
  clear hA0 hval0
  simp only [List.append_nil, List.nil_append] at hW'
  have hlt : ∀ x ∈ p1, x.block < W.heap.size := fun x hx => by simpa using hW'.lt x hx
  have hargs : ∀ (W' : World), Below W.heap.size W W' → DataW.Trod enc Try.prog W' 0 (fun b => decide (b < W.heap.size)) true 29 (.slice a0 len cap) d1 p1 :=
    fun W' hn => Below.trod fbitsFrom_laidOut (by kernel_rfl) (of_decide_eq_true (by kernel_rfl)) h1k hn hlt
  have walk : Calls Try.prog 4 #[.int .u64 n, .slice a0 len cap] W fun e w' => e = .returned (.bool true) ∧ Below W.heap.size W w' := by
    by_cases hl : 300 < len
    · exact from_long n a0 len cap hl W
    · obtain ⟨v, er, hv, D, R⟩ := both H enc W a0 len cap fuel _ (by simpa [Value.cells] using hf)
      exact from_core n wn a0 len cap v er (by omega) hv W D R
  refine walk.mono fun e W' ⟨he, hw⟩ => ?_
  subst he
  exact ⟨_, rfl, _, _, _, [], [] ++ p1, [], hW', trodAll_mk1 (shut_bool Try.underlying4 true), trodAll_mk2 (shut_int Try.underlying24 wn) (hargs _ hw), rfl, hw.frame _, fun h => by cases h⟩

theorem fbitsFrom_holds : Rows.FbitsFromSaid :=
  OpenClaim.holds_of_wide 4 Try.f4 rfl rfl rfl rfl rfl rfl rfl ⟨rfl, rfl, rfl, rfl, rfl⟩ rfl rfl rfl rfl rfl (by kernel_rfl) Try.func4 (by kernel_rfl)
    (of_decide_eq_true (by kernel_rfl)) (by unfold Func.isWrapper; first | (rw [if_pos (by decide +kernel)]; kernel_rfl) | (rw [if_neg (by decide +kernel)]; exact ⟨rfl, rfl⟩))
    (fun os started H enc _ => fbitsFrom_lifted os started H enc)

end Go.Proofs.Ytmdnahbopjkjhaa
