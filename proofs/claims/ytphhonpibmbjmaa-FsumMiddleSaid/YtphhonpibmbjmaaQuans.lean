/- Proved: the law FsumQuantiles answers true at any list and number, and leaves what there was as it was. -/
import Derived.Test.YtphhonpibmbjmaaRquan
namespace Go.Proofs.Ytphhonpibmbjmaa
open Go.RowKit Fl

theorem sm_read {a b : Nat} (h : cb a = cb b) : smB a b = true := by unfold smB; exact decide_eq_true h

set_option maxHeartbeats 2000000 in
theorem quans_big (a : Option Addr) (n cap q : Nat) (h : 300 < n) (w : World) :
    Calls Try.prog 4 #[.slice a n cap, .float .f64 q] w fun e w' => e = .returned (.bool true) ∧ Below w.heap.size w w' := by
  have q1 : decide (n ≤ 300) = false := decide_eq_false (by omega)
  clear h
  go_enter Try.func4, Try.ntmps4
  go_wp2_with (first | (go_at_call 12; refine (small_any _ _ _ _).mono ?_; rintro e w' ⟨rfl, rfl⟩) | (go_at_call 13; refine (awake_any _).mono ?_; rintro e w' ⟨rfl, hb⟩))
  go_ret
  exact ⟨rfl, hb⟩

set_option maxHeartbeats 2000000 in
theorem quans_small (a : Option Addr) (n cap q : Nat) (A : List Nat) (h : n ≤ 300) (hA : A.length = n) (hq : q < 18446744073709551616) (w : World) (hv : View w (.slice a n cap) A) (hf : ∀ x ∈ A, x < 18446744073709551616) :
    Calls Try.prog 4 #[.slice a n cap, .float .f64 q] w fun e w' => e = .returned (.bool true) ∧ Below w.heap.size w w' := by
  have hb : A.length ≤ 1000000 := by omega
  have q1 : decide (n ≤ 300) = true := decide_eq_true h
  have H1 := Lib.hid (fun w' (h : At w w') => quan_any _ A q w' (h.view hv) hb hf hq)
  have H2 := Lib.hid (fun w' (h : At w w') => rquan_any _ A q w' (h.view hv) hb hf hq)
  have hA0 := At.start w
  generalize hcc : qc A.length q = c at *
  have HCC := Lib.hid hcc
  clear hv hf hb hA h hcc
  go_enter Try.func4, Try.ntmps4
  go_wp2_with (first
    | (go_at_call 12; refine (small_any _ _ _ _).mono ?_; rintro e w' ⟨rfl, rfl⟩)
    | (go_at_call 23; refine (H1.out _ (by assumption)).mono ?_; rintro e w1 ⟨⟨r1, R1, rfl, hs1, hr1, hl1⟩, hb⟩; have hA := At.next (w0 := w) (by assumption) hb; have HS1 := Lib.hid hs1; have HR1 := Lib.hid hr1; clear hb hs1 hr1; rw [HCC.out])
    | (go_at_call 24; refine (H2.out _ (by assumption)).mono ?_; rintro e w2 ⟨⟨r2, R2, rfl, hs2, hr2, hl2⟩, hb⟩; have hA := At.next (w0 := w) (by assumption) hb; have HS2 := Lib.hid hs2; have HR2 := Lib.hid hr2; clear hb hs2 hr2; rw [HCC.out])
    | (go_at_call 20; refine (rsame_val r1 r2 hl1 hl2 true (Lib.hid (sm_read (by rw [HR1.out, HR2.out]; exact qa_unique HS1.out HS2.out q))) _).mono ?_; rintro e w' ⟨rfl, rfl⟩)
    | (go_at_call 13; refine (awake_any _).mono ?_; rintro e w' ⟨rfl, hb⟩; have hA := At.next (w0 := w) (by assumption) hb; clear hb))
  go_ret
  exact ⟨rfl, (by assumption : At w _)⟩

end Go.Proofs.Ytphhonpibmbjmaa
