/- Proved: awake and small of the laws about scores; what Use and Score answer, with their errors, each as a plain function. -/
import Derived.Test.YtefpaagbopmmlaaScr
namespace Go.Proofs.Ytefpaagbopmmlaa
open Go.RowKit Fl

/-- What stood at the law's beginning stands. -/
def At (w0 w : World) : Prop := Below w0.heap.size w0 w
theorem At.start (w : World) : At w w := Below.refl _ _
theorem At.next {w0 w w' : World} (h : At w0 w) (h' : Below w.heap.size w w') : At w0 w' := h.trans (h'.mono h.size)
theorem At.boxed {w0 w : World} (h : At w0 w) (o : Obj) : At w0 (w.alloc o) := h.next (below_alloc w o)

def uw (l s t : Int) : Nat := if Vld l s t then useV l s else 0
def uc (l s t : Int) : Int := if Vld l s t then 0 else 1
def sw' (l s t now : Int) : Nat := if Jdg l s t now then scV l s t now else 0
def sc (l s t now : Int) : Int := if Jdg l s t now then 0 else 1
theorem uw_lt (l s t : Int) : uw l s t < 18446744073709551616 := by
  unfold uw; split
  · exact useV_lt (by assumption)
  · omega
theorem sw_lt' (l s t now : Int) : sw' l s t now < 18446744073709551616 := by
  unfold sw'; split
  · exact scV_lt (by assumption)
  · omega
theorem use_any (l s t : Int) (w : World) : Calls Try.prog 9 #[zv l s t] w (Gives (.tuple #[.float .f64 (uw l s t), .int .i64 (uc l s t)]) w) := by
  unfold uw uc
  by_cases h : Vld l s t
  · rw [if_pos h, if_pos h]; exact use_yes l s t w h
  · rw [if_neg h, if_neg h]; exact use_no l s t w h
theorem ruse_any (l s t : Int) (w : World) : Calls Try.prog 10 #[zv l s t] w (Gives (.tuple #[.float .f64 (uw l s t), .int .i64 (uc l s t)]) w) := by
  unfold uw uc
  by_cases h : Vld l s t
  · rw [if_pos h, if_pos h]; exact ruse_yes l s t w h
  · rw [if_neg h, if_neg h]; exact ruse_no l s t w h
theorem score_any (l s t now : Int) (w : World) : Calls Try.prog 11 #[zv l s t, .int .i64 now] w (Gives (.tuple #[.float .f64 (sw' l s t now), .int .i64 (sc l s t now)]) w) := by
  unfold sw' sc
  by_cases h : Jdg l s t now
  · rw [if_pos h, if_pos h]; exact score_yes l s t now w h
  · rw [if_neg h, if_neg h]; exact score_no l s t now w h
theorem rscore_any (l s t now : Int) (w : World) : Calls Try.prog 12 #[zv l s t, .int .i64 now] w (Gives (.tuple #[.float .f64 (sw' l s t now), .int .i64 (sc l s t now)]) w) := by
  unfold sw' sc
  by_cases h : Jdg l s t now
  · rw [if_pos h, if_pos h]; exact rscore_yes l s t now w h
  · rw [if_neg h, if_neg h]; exact rscore_no l s t now w h

theorem six : scV 1 4 0 10 = 4618441417868443648 := by decide +kernel
set_option maxHeartbeats 400000 in
theorem awake_any (w : World) : Calls Try.prog 14 #[] w (Gives (.bool true) w) := by
  have hs := fun w => score_yes 1 4 0 10 w ⟨⟨by omega, by omega, by omega, by omega, by omega⟩, by omega, by omega⟩
  rw [six] at hs
  unfold zv at hs
  have HS := Lib.hid hs
  clear hs
  have o1 : FloatKind.f64.format.order 4618441417868443648 4618441417868443648 = some .eq := ord_self _ (by decide) (by decide)
  go_enter Try.func14, Try.ntmps14
  go_wp2_with (go_at_call 11; refine (HS.out _).mono ?_; rintro e w2 ⟨rfl, hb⟩; have HB := Lib.hid hb; clear hb)
  go_ret
  exact ⟨rfl, HB.out⟩

set_option maxHeartbeats 400000 in
theorem small_any (a : Option Addr) (n cap : Nat) (w : World) :
    Calls Try.prog 15 #[.slice a n cap] w fun e w' => e = .returned (.bool (decide (n ≤ 200))) ∧ w = w' := by
  go_enter Try.func15, Try.ntmps15
  go_wp2
  go_ret
  exact ⟨by
    have : decide ((n : Int) ≤ 200) = decide (n ≤ 200) := by rw [decide_eq_decide]; omega
    rw [← this]; rfl, rfl⟩

theorem rsame_self (q : Nat) (h : q < 18446744073709551616) (w : World) :
    Calls Try.prog 13 #[.float .f64 q, .float .f64 q] w fun e w' => e = .returned (.bool true) ∧ w = w' := by
  have := rsame_any q q h h w
  rw [show smB q q = true by unfold smB; exact decide_eq_true rfl] at this
  exact this

end Go.Proofs.Ytefpaagbopmmlaa
