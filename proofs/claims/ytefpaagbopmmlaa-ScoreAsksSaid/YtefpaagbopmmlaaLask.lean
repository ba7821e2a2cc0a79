/- Proved: the law ScoreAsks answers true at all zones and times. -/
import Derived.Test.YtefpaagbopmmlaaAwk
namespace Go.Proofs.Ytefpaagbopmmlaa
open Go.RowKit Fl

set_option maxHeartbeats 4000000 in
theorem lask_any (l s t now : Int) (w : World) : Calls Try.prog 3 #[zv l s t, .int .i64 now] w (Gives (.bool true) w) := by
  have h1 := fun w => use_any l s t w
  have h2 := fun w => ruse_any l s t w
  have h3 := fun w => score_any l s t now w
  have h4 := fun w => rscore_any l s t now w
  have u1 := uw_lt l s t
  have u2 := sw_lt' l s t now
  generalize uw l s t = a at *
  generalize uc l s t = b at *
  generalize sw' l s t now = c at *
  generalize sc l s t now = d at *
  unfold zv at *
  have H1 := Lib.hid h1
  have H2 := Lib.hid h2
  have H3 := Lib.hid h3
  have H4 := Lib.hid h4
  clear h1 h2 h3 h4
  have hA : At (w.alloc (.cells #[.int .i64 l, .int .i64 s, .int .i64 t] 23)) (w.alloc (.cells #[.int .i64 l, .int .i64 s, .int .i64 t] 23)) := At.start _
  go_enter Try.func3, Try.ntmps3
  go_wp2_with (first
    | (go_at_call 9; refine (H1.out _).mono ?_; rintro e w' ⟨rfl, hq⟩; replace hA := At.next hA hq; obtain ⟨c0, c1, c2, _⟩ := box_at hA; clear hq)
    | (go_at_call 10; refine (H2.out _).mono ?_; rintro e w' ⟨rfl, hq⟩; replace hA := At.next hA hq; obtain ⟨c0, c1, c2, _⟩ := box_at hA; clear hq)
    | (go_at_call 11; refine (H3.out _).mono ?_; rintro e w' ⟨rfl, hq⟩; replace hA := At.next hA hq; obtain ⟨c0, c1, c2, _⟩ := box_at hA; clear hq)
    | (go_at_call 12; refine (H4.out _).mono ?_; rintro e w' ⟨rfl, hq⟩; replace hA := At.next hA hq; obtain ⟨c0, c1, c2, _⟩ := box_at hA; clear hq)
    | (go_at_call 13; refine (rsame_self _ (by assumption) _).mono ?_; rintro e w' ⟨rfl, rfl⟩)
    | (go_at_call 14; refine (awake_any _).mono ?_; rintro e w' ⟨rfl, hq⟩; replace hA := At.next hA hq; obtain ⟨_, _, _, hfin⟩ := box_at hA; clear hq))
  go_ret
  exact ⟨rfl, hfin⟩

end Go.Proofs.Ytefpaagbopmmlaa
