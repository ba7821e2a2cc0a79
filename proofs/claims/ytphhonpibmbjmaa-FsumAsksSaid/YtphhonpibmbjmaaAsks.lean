/- Proved: the law FsumAsks answers true at all lists, and leaves what there was as it was: the landed Sum, Mean, Spread and Dot give what the document's own give. -/
import Derived.Test.YtphhonpibmbjmaaAwk
namespace Go.Proofs.Ytphhonpibmbjmaa
open Go.RowKit Fl

set_option maxHeartbeats 2000000 in
theorem asks_big (a b : Option Addr) (n cap m cap2 : Nat) (h : 300 < n ∨ 300 < m) (w : World) :
    Calls Try.prog 3 #[.slice a n cap, .slice b m cap2] w fun e w' => e = .returned (.bool true) ∧ Below w.heap.size w w' := by
  by_cases h1 : n ≤ 300
  · have q1 : decide (n ≤ 300) = true := decide_eq_true h1
    have q2 : decide (m ≤ 300) = false := decide_eq_false (by omega)
    clear h1 h
    go_enter Try.func3, Try.ntmps3
    go_wp2_with (first | (go_at_call 12; refine (small_any _ _ _ _).mono ?_; rintro e w' ⟨rfl, rfl⟩) | (go_at_call 13; refine (awake_any _).mono ?_; rintro e w' ⟨rfl, hb⟩))
    go_ret
    exact ⟨rfl, hb⟩
  · have q1 : decide (n ≤ 300) = false := decide_eq_false h1
    clear h1 h
    go_enter Try.func3, Try.ntmps3
    go_wp2_with (first | (go_at_call 12; refine (small_any _ _ _ _).mono ?_; rintro e w' ⟨rfl, rfl⟩) | (go_at_call 13; refine (awake_any _).mono ?_; rintro e w' ⟨rfl, hb⟩))
    go_ret
    exact ⟨rfl, hb⟩

set_option maxHeartbeats 4000000 in
theorem asks_small (a b : Option Addr) (n cap m cap2 : Nat) (A B : List Nat) (h : n ≤ 300) (h2 : m ≤ 300) (hA : A.length = n) (w : World) (hv : View w (.slice a n cap) A) (hu : View w (.slice b m cap2) B)
    (hf : ∀ x ∈ A, x < 18446744073709551616) :
    Calls Try.prog 3 #[.slice a n cap, .slice b m cap2] w fun e w' => e = .returned (.bool true) ∧ Below w.heap.size w w' := by
  have hb : A.length ≤ 1000000 := by omega
  have q1 : decide (n ≤ 300) = true := decide_eq_true h
  have q2 : decide (m ≤ 300) = true := decide_eq_true h2
  have H1 := Lib.hid (fun w' (h : At w w') => mean_u (h.view hv) hb hf)
  have H2 := Lib.hid (fun w' (h : At w w') => rmean_u (h.view hv) hb hf)
  have H3 := Lib.hid (fun w' (h : At w w') => spread_u (h.view hv) hb hf)
  have H4 := Lib.hid (fun w' (h : At w w') => rspread_u (h.view hv) hb hf)
  have H5 := Lib.hid (fun w' (h : At w w') => dot_u (h.view hv) (h.view hu) hb)
  have H6 := Lib.hid (fun w' (h : At w w') => rdot_u (h.view hv) (h.view hu) hb)
  have H7 := Lib.hid (fun w' (h : At w w') => sum_u (h.view hv) hb hf)
  have H8 := Lib.hid (fun w' (h : At w w') => rsum_u (h.view hv) hb hf)
  have l1 := mv_lt A
  have l2 := sv_lt A
  have l3 := dv_lt A B
  have l4 := (sum_can A).2
  have hA0 := At.start w
  generalize mv A = p1 at *
  generalize sv' A = p2 at *
  generalize mc A = p3 at *
  generalize dv A B = p4 at *
  generalize dc A B = p5 at *
  generalize sumW A = p6 at *
  clear hv hu hf hb hA h h2
  go_enter Try.func3, Try.ntmps3
  go_wp2_with (first
    | (go_at_call 12; refine (small_any _ _ _ _).mono ?_; rintro e w' ⟨rfl, rfl⟩)
    | (go_at_call 14; refine (H1.out _ (by assumption)).mono ?_; rintro e w' ⟨rfl, hb⟩; have hA := At.next (w0 := w) (by assumption) hb; clear hb)
    | (go_at_call 15; refine (H2.out _ (by assumption)).mono ?_; rintro e w' ⟨rfl, hb⟩; have hA := At.next (w0 := w) (by assumption) hb; clear hb)
    | (go_at_call 16; refine (H3.out _ (by assumption)).mono ?_; rintro e w' ⟨rfl, hb⟩; have hA := At.next (w0 := w) (by assumption) hb; clear hb)
    | (go_at_call 17; refine (H4.out _ (by assumption)).mono ?_; rintro e w' ⟨rfl, hb⟩; have hA := At.next (w0 := w) (by assumption) hb; clear hb)
    | (go_at_call 18; refine (H5.out _ (by assumption)).mono ?_; rintro e w' ⟨rfl, hb⟩; have hA := At.next (w0 := w) (by assumption) hb; clear hb)
    | (go_at_call 19; refine (H6.out _ (by assumption)).mono ?_; rintro e w' ⟨rfl, hb⟩; have hA := At.next (w0 := w) (by assumption) hb; clear hb)
    | (go_at_call 21; refine (H7.out _ (by assumption)).mono ?_; rintro e w' ⟨rfl, hb⟩; have hA := At.next (w0 := w) (by assumption) hb; clear hb)
    | (go_at_call 22; refine (H8.out _ (by assumption)).mono ?_; rintro e w' ⟨rfl, hb⟩; have hA := At.next (w0 := w) (by assumption) hb; clear hb)
    | (go_at_call 20; refine (rsame_self _ (by assumption) _).mono ?_; rintro e w' ⟨rfl, rfl⟩)
    | (go_at_call 13; refine (awake_any _).mono ?_; rintro e w' ⟨rfl, hb⟩; have hA := At.next (w0 := w) (by assumption) hb; clear hb))
  go_ret
  exact ⟨rfl, (by assumption : At w _)⟩

end Go.Proofs.Ytphhonpibmbjmaa
