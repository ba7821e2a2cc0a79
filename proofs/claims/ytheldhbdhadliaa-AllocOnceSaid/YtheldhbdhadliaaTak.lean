/- Proved: what leastWorn, Take, Free and Mark of the landed allocator do, with an allocator and with none. -/
import Derived.Test.YtheldhbdhadliaaLan
namespace Go.Proofs.Ytheldhbdhadliaa
open Go.RowKit

/-- A call answers v and leaves the allocator so, with no other block written than its zones'. -/
def Turns (b z n sp : Nat) (v : Value) (L : List St) (w : World) (e : Ending) (w' : World) : Prop := e = .returned v ∧ Al w' b z n sp L ∧ Mv (fun g => g = z) w w'
/-- What the least worn one is found to be. -/
def Told (L : List St) (n : Nat) (w : World) (e : Ending) (w' : World) : Prop := ∃ x : Int, e = .returned (.int .i64 x) ∧ Found L n x ∧ At w w'

section
variable {w : World} {b z n sp : Nat} {L : List St}
set_option maxHeartbeats 1000000 in
set_option maxRecDepth 100000 in
theorem least_al (h : Al w b z n sp L) : Calls Try.prog 24 #[.pointer (some ⟨b, 0, none⟩)] w (Told L n w) := by
  obtain ⟨c0, _⟩ := h.cells
  have htop := h.top
  have H := Lib.hid h
  clear h
  go_enter Try.func24, Try.ntmps24
  go_wp2
  go_step3
  go_wp2
  go_step3
  go_wp2
  go_loopw [3, 11] (fun v c wr => ∃ (k : Nat) (x : Int), k ≤ n ∧ c = .int .i64 (k : Int) ∧ v = .int .i64 x ∧ Hid (Found L k x ∧ At w wr)) (fun _ c _ => n - (intOf c).toNat)
  case atStart => exact ⟨0, -1, by omega, rfl, rfl, Lib.hid ⟨Found.start L, At.start w⟩⟩
  case round =>
    clear c0
    obtain ⟨k, x, hk, rfl, rfl, HF⟩ := hrel
    by_cases hlt : k < n
    · have hv := H.out.on HF.out.2
      obtain ⟨c0, _⟩ := hv.cells
      have ct := hv.ct hlt
      have cw := hv.cw hlt
      have g1 : (0 : Int) ≤ (k : Int) := by omega
      have g2 : (k : Int) < (n : Int) := by omega
      obtain ⟨y, hy⟩ : ∃ y, y = (sa L k).w := ⟨_, rfl⟩
      rw [← hy] at cw
      have HAT := fun t m => Lib.hid (At.drewN (At.next HF.out.2 ((At.start wr).alloc (.cells #[.bool t, .int .i64 (y : Int)] 55))) m)
      by_cases ht : (sa L k).t = true
      · have HR : Hid (Found L (k + 1) x) := Lib.hid (HF.out.1.taken ht)
        have HA := HAT true
        have HAA := Lib.hid HA
        rw [ht] at ct
        clear ht hy hv HF HAT HA
        go_wp2
        go_quiet (fail)
        go_wp2
        go_roundw
        case rel => exact ⟨k + 1, x, by omega, by go_num, rfl, Lib.hid ⟨HR.out, (HAA.out _).out⟩⟩
        case measure => simp [intOf]; omega
      · have ht : (sa L k).t = false := by simpa using ht
        rcases HF.out.1 with ⟨rfl, hall⟩ | ⟨m, rfl, hm⟩
        · have HR : Hid (Found L (k + 1) (k : Int)) := Lib.hid (Found.first (Or.inl ⟨rfl, hall⟩) ht)
          have HA := HAT false
          have HAA := Lib.hid HA
          rw [ht] at ct
          clear ht hy hv HF HAT HA hall
          go_wp2
          go_quiet (fail)
          go_wp2
          go_roundw
          case rel => exact ⟨k + 1, _, by omega, by go_num, rfl, Lib.hid ⟨HR.out, (HAA.out _).out⟩⟩
          case measure => simp [intOf]; omega
        · have hmk := hm.1
          have cm := hv.cw (show m < n by omega)
          obtain ⟨u, hu⟩ : ∃ u, u = (sa L m).w := ⟨_, rfl⟩
          rw [← hu] at cm
          have hv2 := hv.on ((At.start wr).alloc (.cells #[.bool false, .int .i64 (y : Int)] 55))
          obtain ⟨d0, _⟩ := hv2.cells
          have dm := hv2.cw (show m < n by omega)
          rw [← hu] at dm
          have g3 : (0 : Int) ≤ (m : Int) := by omega
          have g4 : (m : Int) < (n : Int) := by omega
          have HA := HAT false
          have HAA := Lib.hid HA
          rw [ht] at ct
          by_cases hw : u ≤ y
          · have HR : Hid (Found L (k + 1) (m : Int)) := Lib.hid (Found.stays hm (by rw [← hu, ← hy]; exact hw))
            have t1 : decide (u ≤ y) = true := decide_eq_true hw
            clear ht hy hv hv2 HF HAT HA hm hu hw
            go_wp2
            go_quiet (fail)
            go_wp2
            go_roundw
            case rel => exact ⟨k + 1, _, by omega, by go_num, rfl, Lib.hid ⟨HR.out, (HAA.out _).out⟩⟩
            case measure => simp [intOf]; omega
          · have HR : Hid (Found L (k + 1) (k : Int)) := Lib.hid (Found.less hm ht (by rw [← hu, ← hy]; omega))
            have t1 : decide (u ≤ y) = false := decide_eq_false hw
            clear ht hy hv hv2 HF HAT HA hm hu hw
            go_wp2
            go_quiet (fail)
            go_wp2
            go_roundw
            case rel => exact ⟨k + 1, _, by omega, by go_num, rfl, Lib.hid ⟨HR.out, (HAA.out _).out⟩⟩
            case measure => simp [intOf]; omega
    · have hkn : k = n := by omega
      subst hkn
      go_wp2
      rw [Exit.noGoto_ret]
      go_ret
      exact ⟨x, rfl, HF.out⟩

/-- None is taken. -/
theorem take_none (h : Al w b z n sp L) (r : Bool) (hr : nf L = 0 ∨ r = false ∧ nf L ≤ sp) : Calls Try.prog 11 #[.pointer (some ⟨b, 0, none⟩), .bool r] w (Turns b z n sp (.tuple #[.int .i64 0, .int .i64 9]) L w) := by
  have H := Lib.hid h
  clear h
  obtain ⟨m, hm⟩ : ∃ m, m = nf L := ⟨_, rfl⟩
  rw [← hm] at hr
  have HM := Lib.hid hm
  clear hm
  by_cases h0 : m = 0
  · subst h0
    clear hr
    go_enter Try.func11, Try.ntmps11
    go_wp2_with fail
    refine (count_al H.out).mono ?_
    rintro e w' ⟨rfl, ha⟩
    rw [← HM.out]
    have H2 : Hid (Al w' b z n sp L ∧ Mv (fun g => g = z) w w') := Lib.hid ⟨H.out.on ha, Mv.of_at _ ha⟩
    clear ha
    go_wp2
    go_ret2
    exact ⟨rfl, H2.out⟩
  · obtain ⟨rfl, hle⟩ := hr.resolve_left h0
    have t0 : ((m : Int) == 0) = false := by simp; omega
    have t1 : decide (m ≤ sp) = true := decide_eq_true hle
    clear hr
    go_enter Try.func11, Try.ntmps11
    go_wp2_with fail
    refine (count_al H.out).mono ?_
    rintro e w' ⟨rfl, ha⟩
    rw [← HM.out]
    have H2 : Hid (Al w' b z n sp L ∧ Mv (fun g => g = z) w w') := Lib.hid ⟨H.out.on ha, Mv.of_at _ ha⟩
    obtain ⟨c0, c1⟩ := H2.out.1.cells
    clear ha
    go_wp2
    go_ret2
    exact ⟨rfl, H2.out⟩
/-- The least worn one is taken. -/
theorem take_some (h : Al w b z n sp L) (r : Bool) (k : Nat) (h0 : 0 < nf L) (hr : r = false → sp < nf L) (hk : Least L n k) : Calls Try.prog 11 #[.pointer (some ⟨b, 0, none⟩), .bool r] w (Turns b z n sp (.tuple #[.int .i64 (k : Int), .int .i64 0]) (tk L k) w) := by
  have HL : Hid (∀ x, Found L n x → x = (k : Int)) := Lib.hid fun x hx => by
    obtain ⟨m, rfl, hm⟩ := Found.end_ (by rw [h.len]; exact hx) h0
    rw [h.len] at hm
    rw [least_one hm hk]
  have hkn := hk.1
  have H := Lib.hid h
  clear h hk
  obtain ⟨m, hm⟩ : ∃ m, m = nf L := ⟨_, rfl⟩
  rw [← hm] at hr h0
  have HM := Lib.hid hm
  have t0 : ((m : Int) == 0) = false := by simp; omega
  have HT : Hid (r = false → decide (m ≤ sp) = false) := Lib.hid fun e => decide_eq_false (by have := hr e; omega)
  have g1 : (0 : Int) ≤ (k : Int) := by omega
  have g2 : (k : Int) < (n : Int) := by omega
  clear hm hr
  cases r
  all_goals
    try have t1 := HT.out rfl
    go_enter Try.func11, Try.ntmps11
    go_wp2_with fail
    refine (count_al H.out).mono ?_
    rintro e w1 ⟨rfl, ha⟩
    rw [← HM.out]
    have H2 : Hid (Al w1 b z n sp L ∧ At w w1) := Lib.hid ⟨H.out.on ha, ha⟩
    obtain ⟨c0, c1⟩ := H2.out.1.cells
    clear ha
    go_wp2_with fail
    refine (least_al H2.out.1).mono ?_
    rintro e w2 ⟨x, rfl, hf, ha⟩
    obtain rfl := HL.out x hf
    have H3 : Hid (Al w2 b z n sp L ∧ At w w2) := Lib.hid ⟨H2.out.1.on ha, H2.out.2.next ha⟩
    obtain ⟨d0, d1⟩ := H3.out.1.cells
    have f0 := H3.out.1.zfree (k * 2)
    have H4 : Hid (Al (w2.setCell ⟨z, k * 2, none⟩ (.bool true)) b z n sp (tk L k) ∧ Mv (fun g => g = z) w (w2.setCell ⟨z, k * 2, none⟩ (.bool true))) :=
      Lib.hid ⟨H3.out.1.take k, Mv.set (F := fun g => g = z) (Mv.of_at _ H3.out.2) (p := ⟨z, k * 2, none⟩) rfl _⟩
    have dt := H3.out.1.ct hkn
    clear hf ha c0 c1 H2
    go_wp2
    go_ret2
    exact ⟨rfl, H4.out⟩

theorem free_arg (h : Al w b z n sp L) (k : Int) (hk : ¬ (0 ≤ k ∧ k < (n : Int))) : Calls Try.prog 13 #[.pointer (some ⟨b, 0, none⟩), .int .i64 k] w fun e w' => e = .returned (.int .i64 1) ∧ w = w' := by
  go_enter Try.func13, Try.ntmps13
  go_wp2_with (go_at_call 25; refine (has_no h k hk).mono ?_; rintro e w' ⟨rfl, rfl⟩)
  go_ret
  exact ⟨rfl, rfl⟩
theorem mark_arg (h : Al w b z n sp L) (k : Int) (hk : ¬ (0 ≤ k ∧ k < (n : Int))) : Calls Try.prog 15 #[.pointer (some ⟨b, 0, none⟩), .int .i64 k] w fun e w' => e = .returned (.int .i64 1) ∧ w = w' := by
  go_enter Try.func15, Try.ntmps15
  go_wp2_with (go_at_call 25; refine (has_no h k hk).mono ?_; rintro e w' ⟨rfl, rfl⟩)
  go_ret
  exact ⟨rfl, rfl⟩
theorem free_none (h : Al w b z n sp L) (k : Nat) (hk : k < n) (ht : (sa L k).t = false) : Calls Try.prog 13 #[.pointer (some ⟨b, 0, none⟩), .int .i64 (k : Int)] w fun e w' => e = .returned (.int .i64 14) ∧ w = w' := by
  obtain ⟨c0, _⟩ := h.cells
  have ct := h.ct hk
  rw [ht] at ct
  have g1 : (0 : Int) ≤ (k : Int) := by omega
  have g2 : (k : Int) < (n : Int) := by omega
  have H := Lib.hid h
  clear h ht
  go_enter Try.func13, Try.ntmps13
  go_wp2_with (go_at_call 25; refine (has_yes H.out k hk).mono ?_; rintro e w' ⟨rfl, rfl⟩)
  go_ret
  exact ⟨rfl, rfl⟩
theorem mark_none (h : Al w b z n sp L) (k : Nat) (hk : k < n) (ht : (sa L k).t = true) : Calls Try.prog 15 #[.pointer (some ⟨b, 0, none⟩), .int .i64 (k : Int)] w fun e w' => e = .returned (.int .i64 14) ∧ w = w' := by
  obtain ⟨c0, _⟩ := h.cells
  have ct := h.ct hk
  rw [ht] at ct
  have g1 : (0 : Int) ≤ (k : Int) := by omega
  have g2 : (k : Int) < (n : Int) := by omega
  have H := Lib.hid h
  clear h ht
  go_enter Try.func15, Try.ntmps15
  go_wp2_with (go_at_call 25; refine (has_yes H.out k hk).mono ?_; rintro e w' ⟨rfl, rfl⟩)
  go_ret
  exact ⟨rfl, rfl⟩
theorem mark_ok (h : Al w b z n sp L) (k : Nat) (hk : k < n) (ht : (sa L k).t = false) : Calls Try.prog 15 #[.pointer (some ⟨b, 0, none⟩), .int .i64 (k : Int)] w (Turns b z n sp (.int .i64 0) (tk L k) w) := by
  obtain ⟨c0, _⟩ := h.cells
  have ct := h.ct hk
  rw [ht] at ct
  have f0 := h.zfree (k * 2)
  have g1 : (0 : Int) ≤ (k : Int) := by omega
  have g2 : (k : Int) < (n : Int) := by omega
  have H := Lib.hid h
  have H4 : Hid (Al (w.setCell ⟨z, k * 2, none⟩ (.bool true)) b z n sp (tk L k) ∧ Mv (fun g => g = z) w (w.setCell ⟨z, k * 2, none⟩ (.bool true))) :=
    Lib.hid ⟨h.take k, Mv.set (F := fun g => g = z) (Mv.refl _ _) (p := ⟨z, k * 2, none⟩) rfl _⟩
  clear h ht
  go_enter Try.func15, Try.ntmps15
  go_wp2_with (go_at_call 25; refine (has_yes H.out k hk).mono ?_; rintro e w' ⟨rfl, rfl⟩)
  go_ret
  exact ⟨rfl, H4.out⟩
theorem free_ok (h : Al w b z n sp L) (k : Nat) (hk : k < n) (ht : (sa L k).t = true) (hw : (sa L k).w ≤ 1000000) : Calls Try.prog 13 #[.pointer (some ⟨b, 0, none⟩), .int .i64 (k : Int)] w (Turns b z n sp (.int .i64 0) (fre L k) w) := by
  obtain ⟨c0, _⟩ := h.cells
  have ct := h.ct hk
  rw [ht] at ct
  have f0 := h.zfree (k * 2)
  have f1 := h.zfree (k * 2 + 1)
  have cw := h.cw hk
  have g1 : (0 : Int) ≤ (k : Int) := by omega
  have g2 : (k : Int) < (n : Int) := by omega
  have hn := h.bz
  have hs := (h.setT k false)
  obtain ⟨d0, _⟩ := hs.cells
  have dw := hs.cw hk
  rw [sa_set _ _ _ _ (by rw [h.len]; exact hk), if_pos rfl] at dw
  simp only at dw
  have H := Lib.hid h
  have H4 : Hid (Al ((w.setCell ⟨z, k * 2, none⟩ (.bool false)).setCell ⟨z, k * 2 + 1, none⟩ (.int .i64 (((sa L k).w : Int) + 1))) b z n sp (fre L k) ∧ Mv (fun g => g = z) w ((w.setCell ⟨z, k * 2, none⟩ (.bool false)).setCell ⟨z, k * 2 + 1, none⟩ (.int .i64 (((sa L k).w : Int) + 1)))) :=
    Lib.hid ⟨h.free k hk, Mv.set (F := fun g => g = z) (Mv.set (F := fun g => g = z) (Mv.refl _ _) (p := ⟨z, k * 2, none⟩) rfl _) (p := ⟨z, k * 2 + 1, none⟩) rfl _⟩
  generalize (sa L k).w = x at cw dw hw H4
  clear h hs ht
  go_enter Try.func13, Try.ntmps13
  go_wp2_with (go_at_call 25; refine (has_yes H.out k hk).mono ?_; rintro e w' ⟨rfl, rfl⟩)
  go_ret
  exact ⟨rfl, H4.out⟩
end

theorem take_nil (r : Bool) (w : World) : Calls Try.prog 11 #[.pointer none, .bool r] w fun e w' => e = .returned (.tuple #[.int .i64 0, .int .i64 9]) ∧ w = w' := by
  go_enter Try.func11, Try.ntmps11
  go_wp2_with (go_at_call 17; refine (count_nil _).mono ?_; rintro e w' ⟨rfl, rfl⟩)
  go_ret2
  exact ⟨rfl, rfl⟩
theorem free_nil (k : Int) (w : World) : Calls Try.prog 13 #[.pointer none, .int .i64 k] w fun e w' => e = .returned (.int .i64 1) ∧ w = w' := by
  go_enter Try.func13, Try.ntmps13
  go_wp2_with (go_at_call 25; refine (has_nil _ _).mono ?_; rintro e w' ⟨rfl, rfl⟩)
  go_ret
  exact ⟨rfl, rfl⟩
theorem mark_nil (k : Int) (w : World) : Calls Try.prog 15 #[.pointer none, .int .i64 k] w fun e w' => e = .returned (.int .i64 1) ∧ w = w' := by
  go_enter Try.func15, Try.ntmps15
  go_wp2_with (go_at_call 25; refine (has_nil _ _).mono ?_; rintro e w' ⟨rfl, rfl⟩)
  go_ret
  exact ⟨rfl, rfl⟩

end Go.Proofs.Ytheldhbdhadliaa
