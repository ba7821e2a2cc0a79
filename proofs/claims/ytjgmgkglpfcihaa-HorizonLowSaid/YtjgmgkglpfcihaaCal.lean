/- Proved: a book's calls: Count, At, Open, Close, Low. -/
import Derived.Test.YtjgmgkglpfcihaaBk
namespace Go.Proofs.Ytjgmgkglpfcihaa
open Go.RowKit

/-- What At and Close tell of a handle. -/
def cd (S : St) (h : Int) : Int := if h ∈ S.H then 0 else 14
theorem cd_in {S : St} {h : Int} (hh : h ∈ S.H) : cd S h = 0 := if_pos hh
theorem cd_out {S : St} {h : Int} (hh : ¬ h ∈ S.H) : cd S h = 14 := if_neg hh

section
variable {w : World} {b mb : Nat} {S : St} {D : DataW Value}
set_option maxHeartbeats 400000 in
theorem all_bk (h : Mq w b S mb D) : Calls Try.prog 23 #[.pointer (some ⟨b, 0, none⟩)] w fun e w' => e = .returned (.map (some mb)) ∧ w = w' := by
  obtain ⟨-, -, c0⟩ := h.cells
  go_enter Try.func23, Try.ntmps23
  go_wp2
  go_ret
  exact ⟨rfl, rfl⟩
set_option maxHeartbeats 400000 in
theorem all_nil (w : World) : Calls Try.prog 23 #[.pointer none] w fun e w' => e = .returned (.map none) ∧ w = w' := by
  go_enter Try.func23, Try.ntmps23
  go_wp2
  go_ret
  exact ⟨rfl, rfl⟩
set_option maxHeartbeats 400000 in
theorem count_bk (h : Bk w b mb S) : Calls Try.prog 18 #[.pointer (some ⟨b, 0, none⟩)] w fun e w' => e = .returned (.int .i64 (S.H.length : Int)) ∧ w = w' := by
  obtain ⟨D, h⟩ := h
  have HA := Lib.hid (all_bk h)
  have hlen := h.own.len Try.underlying48 3
  rw [h.size] at hlen
  clear h
  go_enter Try.func18, Try.ntmps18
  go_wp2_with fail
  refine HA.out.mono ?_
  rintro e w' ⟨rfl, rfl⟩
  go_wp2
  go_ret
  exact ⟨rfl, rfl⟩
set_option maxHeartbeats 400000 in
theorem count_nil (w : World) : Calls Try.prog 18 #[.pointer none] w fun e w' => e = .returned (.int .i64 0) ∧ w = w' := by
  have HA := Lib.hid (all_nil w)
  have hlen := Maps.len_nil (P := Try.prog) (w := w) Try.underlying48 3
  go_enter Try.func18, Try.ntmps18
  go_wp2_with fail
  refine HA.out.mono ?_
  rintro e w' ⟨rfl, rfl⟩
  go_wp2
  go_ret
  exact ⟨rfl, rfl⟩
set_option maxHeartbeats 400000 in
theorem at_bk (h : Bk w b mb S) (k : Int) (hk : (ky k).wf = true) : Calls Try.prog 14 #[.pointer (some ⟨b, 0, none⟩), .int .i64 k] w fun e w' => e = .returned (.tuple #[.int .i64 (tm S k), .int .i64 (cd S k)]) ∧ w = w' := by
  obtain ⟨D, h⟩ := h
  have HA := Lib.hid (all_bk h)
  have hlk := h.look hk
  clear h hk
  by_cases hm : k ∈ S.H
  · rw [cd_in hm]
    rw [decide_eq_true hm] at hlk
    clear hm
    go_enter Try.func14, Try.ntmps14
    go_wp2_with fail
    refine HA.out.mono ?_
    rintro e w' ⟨rfl, rfl⟩
    go_wp2
    go_ret2
    exact ⟨rfl, rfl⟩
  · rw [cd_out hm, tm_out hm]
    rw [decide_eq_false hm] at hlk
    clear hm
    go_enter Try.func14, Try.ntmps14
    go_wp2_with fail
    refine HA.out.mono ?_
    rintro e w' ⟨rfl, rfl⟩
    go_wp2
    go_ret2
    exact ⟨rfl, rfl⟩
set_option maxHeartbeats 400000 in
theorem at_nil (k : Int) (hk : (ky k).wf = true) (w : World) : Calls Try.prog 14 #[.pointer none, .int .i64 k] w fun e w' => e = .returned (.tuple #[.int .i64 0, .int .i64 14]) ∧ w = w' := by
  have HA := Lib.hid (all_nil w)
  have hlk := Maps.look_nil (P := Try.prog) (w := w) true int_key Try.underlying48 (zero_int w) (key_of hk)
  rw [if_pos rfl] at hlk
  clear hk
  go_enter Try.func14, Try.ntmps14
  go_wp2_with fail
  refine HA.out.mono ?_
  rintro e w' ⟨rfl, rfl⟩
  go_wp2
  go_ret2
  exact ⟨rfl, rfl⟩
end

section
variable {w : World} {b mb : Nat} {S : St}
set_option maxHeartbeats 400000 in
theorem open_arg (p : Option Addr) (x : Int) (hx : ¬ (0 ≤ x ∧ x ≤ 1099511627776)) (w : World) : Calls Try.prog 10 #[.pointer p, .int .i64 x] w fun e w' => e = .returned (.tuple #[.int .i64 0, .int .i64 1]) ∧ w = w' := by
  by_cases h0 : 0 ≤ x
  · have h1 : (1099511627776 : Int) < x := by omega
    clear hx
    go_enter Try.func10, Try.ntmps10
    go_wp2
    go_ret2
    exact ⟨rfl, rfl⟩
  · have h1 : x < 0 := by omega
    clear hx h0
    go_enter Try.func10, Try.ntmps10
    go_wp2
    go_ret2
    exact ⟨rfl, rfl⟩
set_option maxHeartbeats 400000 in
theorem open_nil (x : Int) (h0 : 0 ≤ x) (h1 : x ≤ 1099511627776) (w : World) : Calls Try.prog 10 #[.pointer none, .int .i64 x] w fun e w' => e = .returned (.tuple #[.int .i64 0, .int .i64 6]) ∧ At w w' := by
  have g0 : decide (x < 0) = false := decide_eq_false (by omega)
  have g1 : decide ((1099511627776 : Int) < x) = false := decide_eq_false (by omega)
  clear h0 h1
  go_enter Try.func10, Try.ntmps10
  go_wp2_with fail
  go_quiet (fail)
  go_wp2
  go_ret2
  exact ⟨rfl, (At.start w).drewN _⟩
set_option maxHeartbeats 1000000 in
theorem open_many (h : Bk w b mb S) (x : Int) (h0 : 0 ≤ x) (h1 : x ≤ 1099511627776) (hr : ¬ (S.H.length : Int) < S.most) : Calls Try.prog 10 #[.pointer (some ⟨b, 0, none⟩), .int .i64 x] w fun e w' => e = .returned (.tuple #[.int .i64 0, .int .i64 6]) ∧ At w w' := by
  have g0 : decide (x < 0) = false := decide_eq_false (by omega)
  have g1 : decide ((1099511627776 : Int) < x) = false := decide_eq_false (by omega)
  have g2 : S.most ≤ (S.H.length : Int) := by omega
  have HC := Lib.hid (count_bk (h.on ((At.start w).drewN 1)))
  obtain ⟨c0, -, -⟩ := h.choose_spec.cells
  have HA := Lib.hid ((At.start w).drewN 1)
  clear h0 h1 hr h
  generalize S.most = m at g2 c0
  generalize S.H.length = n at g2 HC
  go_enter Try.func10, Try.ntmps10
  go_wp2_with fail
  go_region_held3 (fun w' => w'.cell? ⟨b, 0, none⟩ = some (.int .i64 m)) (go_keep)
    (first | (go_at_call 18; refine HC.out.mono ?_; rintro e w' ⟨rfl, rfl⟩))
  go_wp2
  go_ret2
  exact ⟨rfl, HA.out⟩
end

end Go.Proofs.Ytjgmgkglpfcihaa
