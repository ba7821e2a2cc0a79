/- Proved: awake gives true: one text, one number and one rounding as the document has them; what is made lies in new blocks. -/
import Derived.Test.YtlbnfnfenphfbaaGreatDoorPrs
namespace Go.Proofs.YtlbnfnfenphfbaaGreatDoor
open Go.RowKit Fl Tx

theorem toInt_num (n : String) (way : Ieee.Toward) (x : Nat) (h : ∀ s t, FloatKind.f64.decode x ≠ .nan s t) :
    Extern.MathFloor.toIntegral n way #[.float .f64 x] = pure (Value.float .f64 (FloatKind.f64.encode ((FloatKind.f64.decode x).integral way))) := by
  change ((match FloatKind.f64.decode x with
    | .nan s t => (if FloatKind.f64.format.quiet t = t then pure (Value.float .f64 x) else do
        let kept ← choose (.extern "math.Floor,Ceil,Trunc,RoundToEven.signallingNaN kept" 2)
        pure (Value.float .f64 (if kept == 1 then x else FloatKind.f64.encode (.nan s (FloatKind.f64.format.quiet t)))))
    | d => pure (Value.float .f64 (FloatKind.f64.encode (d.integral way)))) : Sem Value) = _
  cases hx : FloatKind.f64.decode x with
  | nan s t => exact absurd hx (h s t)
  | number s m i => rfl
  | infinity s => rfl

theorem not_nan (b : Nat) (hb : b < 18446744073709551616) (hn : isN b = false) : ∀ s t, FloatKind.f64.decode b ≠ .nan s t := fun s t h => by
  have := read_eq b hb
  have hm : ¬ 9218868437227405312 < b % 9223372036854775808 := by simpa [isN] using hn
  have h' : Ieee.double.read b = .nan s t := h
  rw [this] at h'
  split at h'
  · cases h'
  · rw [if_pos (by omega)] at h'; cases h'

/-- RoundToEven of a number that is no NaN. -/
theorem rte_num (b : Nat) (hb : b < 18446744073709551616) (hn : isN b = false) (w : World) : (callFunc 28 #[.float .f64 b]).run Tryz.prog w = .ok (.value (.float .f64 (FloatKind.f64.encode ((FloatKind.f64.decode b).integral .even)))) w := by
  rw [run_callFunc_extern Tryz.func28 (by kernel_rfl) (by kernel_rfl) (by kernel_rfl) (e := Extern.MathFloor.toIntegral "math.RoundToEven" .even) (by kernel_rfl)]
  rw [toInt_num _ _ _ (not_nan b hb hn)]
  rfl

theorem round25 (w : World) : Calls Tryz.prog 14 #[.float .f64 4612811918334230528] w fun e w' => e = .returned (.float .f64 4611686018427387904) ∧ w = w' := by
  have h := fun w => rte_num 4612811918334230528 (by decide) (by decide) w
  have hc : FloatKind.f64.encode ((FloatKind.f64.decode 4612811918334230528).integral .even) = 4611686018427387904 := by decide +kernel
  rw [hc] at h
  have hq : Hid (cb 4611686018427387904 = 4611686018427387904) := Lib.hid (by decide)
  clear hc
  go_enter Tryz.func14, Tryz.ntmps14
  go_wp2_with (go_at_call 27; refine (canon_any _ (by decide) _).mono ?_; rintro e w' ⟨rfl, rfl⟩)
  go_ret
  exact ⟨by have := hq.out; simp [this], rfl⟩

theorem text_one : text 4607182418800017408 = [49, 112, 48] := by
  have h : Lib.itoa (expo 4607182418800017408) = [48] := by
    rw [show expo 4607182418800017408 = 0 from by decide, itoa_etx 0 (by decide) (by decide)]; rfl
  have e : text 4607182418800017408 = body 4607182418800017408 := by decide +kernel
  rw [e]
  unfold body
  rw [h]; rfl
theorem text_m34 : text 13828302655841107968 = [45, 49, 46, 56, 112, 45, 49] := by
  have h : Lib.itoa (expo 4604930618986332160) = [45, 49] := by
    rw [show expo 4604930618986332160 = -1 from by decide, itoa_etx (-1) (by decide) (by decide)]; rfl
  have e : text 13828302655841107968 = 45 :: body 4604930618986332160 := by decide +kernel
  rw [e]
  unfold body
  rw [h]; decide +kernel

set_option maxHeartbeats 400000 in
theorem awake_any (w : World) (hE : Env w) : Calls Tryz.prog 6 #[] w fun e w' => e = .returned (.bool true) ∧ Below w.heap.size w w' := by
  have hp : ∀ w, Env w → Calls Tryz.prog 7 #[.string ⟨#[45, 49, 46, 56, 112, 45, 49]⟩] w fun e w' => e = .returned (.tuple #[.float .f64 13828302655841107968, .int .i64 0]) ∧ Below w.heap.size w w' := fun w hE => by
    refine (parse_any ⟨#[45, 49, 46, 56, 112, 45, 49]⟩ (by decide) w hE).mono ?_
    rintro e w' ⟨⟨b, hc, ht, rfl⟩ | ⟨hno, rfl⟩, hb⟩
    · have : cb b = cb 13828302655841107968 := text_inj _ _ hc.2 (by decide) (by rw [← ht, text_m34])
      rw [hc.1] at this
      rw [this]
      exact ⟨rfl, hb⟩
    · exact absurd text_m34.symm (hno 13828302655841107968 ⟨by decide, by decide⟩)
  have ht : ∀ w, Env w → Calls Tryz.prog 9 #[.float .f64 4607182418800017408] w fun e w' => e = .returned (.string ⟨#[49, 112, 48]⟩) ∧ Below w.heap.size w w' := fun w hE => by
    refine (text_any _ (by decide) w hE).mono ?_
    rintro e w' ⟨S, rfl, hS, _, hb⟩
    rw [hS.out, text_one]
    exact ⟨rfl, hb⟩
  have o1 : FloatKind.f64.format.order 13828302655841107968 13828302655841107968 = some .eq := ord_self _ (by decide) (by decide)
  have o2 : FloatKind.f64.format.order 4611686018427387904 4611686018427387904 = some .eq := ord_self _ (by decide) (by decide)
  go_enter Tryz.func6, Tryz.ntmps6
  go_wp2_with (first | (go_at_call 7; refine (hp _ hE).mono ?_; rintro e w' ⟨rfl, hb⟩) | (go_at_call 9; refine (ht _ (hE.below hb)).mono ?_; rintro e w' ⟨rfl, hb2⟩) | (go_at_call 14; refine (round25 _).mono ?_; rintro e w' ⟨rfl, rfl⟩))
  go_ret
  exact ⟨rfl, hb.trans (hb2.mono hb.size)⟩

end Go.Proofs.YtlbnfnfenphfbaaGreatDoor
