/- Proved: what a map tells of its last time; its own versions; the newest one of a block that has any. -/
import Derived.Test.YtcffoebpgjonmaaEAp
namespace Go.Proofs.Ytcffoebpgjonmaa.Em
open Go.RowKit

section
variable {w : World} {b : Nat} {S : St} {F : Nat → Prop} {mb : Nat} {D : DataW Value} {hd : Nat → Value}
set_option maxHeartbeats 400000 in
theorem last_mp (h : Mq w b S F mb D hd) : Calls Try.prog 21 #[.pointer (some ⟨b, 0, none⟩)] w fun e w' => e = .returned (.int .i64 S.last) ∧ w = w' := by
  obtain ⟨-, -, c0⟩ := h.cells
  go_enter Try.func21, Try.ntmps21
  go_wp2
  go_ret
  exact ⟨rfl, rfl⟩
set_option maxHeartbeats 400000 in
theorem all_mp (h : Mq w b S F mb D hd) : Calls Try.prog 74 #[.pointer (some ⟨b, 0, none⟩)] w fun e w' => e = .returned (.map (some mb)) ∧ w = w' := by
  obtain ⟨-, c0, -⟩ := h.cells
  go_enter Try.func74, Try.ntmps74
  go_wp2
  go_ret
  exact ⟨rfl, rfl⟩
end

set_option maxHeartbeats 1000000 in
set_option maxRecDepth 100000 in
/-- The newest one of a block that has any. -/
theorem newest_any {w : World} {A : Option Addr} {L : List Ver} (h : VV w A L) (hV : AllV L) (h0 : 0 < L.length) (hl : L.length ≤ 100000) (c : Nat) :
    Calls Try.prog 68 #[.slice A L.length c] w (Gives (.agg (vc (nw L)).toArray) w) := by
  obtain ⟨g, o, rfl, hgl, hc⟩ := h.pos h0
  have hr := hc (L.length - 1) (by omega)
  have hv := hV.at (L.length - 1)
  obtain ⟨m, hm⟩ : ∃ m, m = L.length - 1 := ⟨_, rfl⟩
  obtain ⟨n, hn⟩ : ∃ n, n = L.length := ⟨_, rfl⟩
  have hnw : nw L = L.getD m zv := by rw [hm]; rfl
  rw [← hm] at hr hv
  rw [← hn] at h0 hl ⊢
  obtain ⟨v, hve⟩ : ∃ v, v = L.getD m zv := ⟨_, rfl⟩
  rw [← hve] at hr hv
  rw [hnw, ← hve]
  have hmn : (n : Int) - 1 = (m : Int) := by omega
  have g1 : (0 : Int) ≤ (m : Int) := by omega
  have g2 : (m : Int) < (n : Int) := by omega
  have HR := Lib.hid hr
  have HV := Lib.hid hv
  have HG := Lib.hid hgl
  clear h hV hc hm hn hnw hve hr hv hgl
  go_enter Try.func68, Try.ntmps68
  go_wp2_with (first | (refine load_ver rfl (.tmp 7) rfl g (o + m * 41) rfl v HV.out (range_alloc HR.out _) ?_) | (refine store_ver rfl (.tmp 2) (.tmp 8) rfl v HV.out w _ rfl rfl rfl rfl ?_))
  refine bodyPost_ret (results_ver rfl _ _ w.heap.size v rfl HV.out (heap_alloc_new _ _)) rfl ⟨rfl, ?_⟩
  exact (Below.refl _ _).alloc (Nat.le_refl _) _

theorem field_time (v : Ver) (h : v.2.length = 40) (w : World) : (Instr.field 70 (.agg (vc v).toArray) 0).run Try.prog w = .ok (.int .i64 v.1) w := by
  obtain ⟨t, L⟩ := v
  obtain ⟨a0, a1, a2, a3, a4, a5, a6, a7, a8, a9, b0, b1, b2, b3, b4, b5, b6, b7, b8, b9, c0, c1, c2, c3, c4, c5, c6, c7, c8, c9, d0, d1, d2, d3, d4, d5, d6, d7, d8, d9, rfl⟩ := forty h
  kernel_rfl

end Go.Proofs.Ytcffoebpgjonmaa.Em
