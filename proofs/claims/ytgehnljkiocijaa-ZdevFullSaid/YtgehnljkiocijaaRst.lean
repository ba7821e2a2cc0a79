/- Proved: what Reset, settle, Flush and Geometry do with a device. -/
import Derived.Test.YtgehnljkiocijaaNew
import Derived.Deep.RegionHeld3
import Derived.Deep.DrawnRows
namespace Go.Proofs.Ytgehnljkiocijaa
open Go.RowKit

set_option maxHeartbeats 1000000 in
set_option maxRecDepth 100000 in
theorem reset_dv {w : World} {b z sz ops rds : Nat} {S : Nat → Zr} (h : Dv w b z sz ops rds S) (ho : ops ≤ 1000000) (k : Nat) (hk : k < 8) :
    Calls Try.prog 11 #[.pointer (some ⟨b, 0, none⟩), .int .i64 (k : Int)] w fun e w' => e = .returned (.int .i64 0) ∧ Dv w' b z sz (ops + 1) rds (up S k Zr.none) ∧ Did w b z S (up S k Zr.none) w' := by
  have H := Lib.hid h
  have g1 : (0 : Int) ≤ (k : Int) := by omega
  have g2 : (k : Int) < 8 := by omega
  clear h
  go_enter Try.func11, Try.ntmps11
  go_wp2_with (go_at_call 26; refine (has_dv H.out k hk).mono ?_; rintro e w' ⟨rfl, rfl⟩)
  refine (start_dv H.out ho).mono ?_
  rintro e w1 ⟨rfl, hv, hd⟩
  obtain ⟨⟨c, hc1, hc2, c0⟩, -⟩ := hv.cells
  have cr := hv.zrow hk
  have cd := hv.zdur hk
  have fr := hv.zfree (k * 2)
  have fd := hv.zfree (k * 2 + 1)
  obtain ⟨hv2, hd2⟩ := hv.clear_ hk
  have HV2 := Lib.hid hv2
  have HD2 := Lib.hid (hd.trans hd2)
  clear hv hd hv2 hd2
  go_wp2
  go_ret
  exact ⟨rfl, HV2.out, HD2.out⟩

/-- All zones last, from the first one on. -/
def fl (S : Nat → Zr) (k : Nat) : Nat → Zr := fun j => if j < k then { S j with d := (S j).n } else S j
theorem fl_zero (S : Nat → Zr) : fl S 0 = S := by funext j; simp [fl]
theorem fl_more (S : Nat → Zr) (k : Nat) : up (fl S k) k { fl S k k with d := (fl S k k).n } = fl S (k + 1) := by
  funext j
  by_cases h : j = k
  · subst h; rw [up_same]; simp [fl]
  · rw [up_other _ _ h]
    by_cases h2 : j < k
    · simp [fl, h2, show j < k + 1 by omega]
    · simp [fl, h2, show ¬ j < k + 1 by omega]
theorem fl_same (S : Nat → Zr) (k : Nat) (h : (fl S k k).d = (fl S k k).n) : fl S (k + 1) = fl S k := by
  funext j
  by_cases h1 : j = k
  · subst h1
    have e1 : fl S j j = S j := by simp [fl]
    have e2 : fl S (j + 1) j = { S j with d := (S j).n } := by simp [fl]
    rw [e1] at h ⊢
    rw [e2, ← h]
  · by_cases h2 : j < k
    · simp [fl, h2, show j < k + 1 by omega]
    · simp [fl, h2, show ¬ j < k + 1 by omega]
/-- All zones last. -/
def fs (S : Nat → Zr) : Nat → Zr := fl S 8
theorem fs_at (S : Nat → Zr) (k : Nat) (h : k < 8) : fs S k = { S k with d := (S k).n } := by simp [fs, fl, h]

theorem fl_row (S : Nat → Zr) (k j : Nat) : (fl S k j).g = (S j).g ∧ (fl S k j).n = (S j).n ∧ (fl S k j).c = (S j).c ∧ (fl S k j).L = (S j).L := by
  by_cases h : j < k <;> simp [fl, h]

set_option maxHeartbeats 1000000 in
set_option maxRecDepth 100000 in
theorem settle_dv {w : World} {b z sz ops rds : Nat} {S : Nat → Zr} (h : Dv w b z sz ops rds S) :
    Calls Try.prog 33 #[.pointer (some ⟨b, 0, none⟩)] w fun e w' => e = .returned (.tuple #[]) ∧ Dv w' b z sz ops rds (fs S) ∧ Did w b z S (fs S) w' := by
  obtain ⟨⟨c, hc1, hc2, c0⟩, -⟩ := h.cells
  have HS : Hid (Dv w b z sz ops rds (fl S 0) ∧ Did w b z S (fl S 0) w) := Lib.hid (by rw [fl_zero]; exact ⟨h, Did.refl _ _ _ _⟩)
  clear h
  go_enter Try.func33, Try.ntmps33
  go_wp2
  go_step3
  go_wp2
  go_step3
  go_wp2
  go_loopw [9] (fun c9 wr => ∃ k : Nat, k ≤ 8 ∧ c9 = .int .i64 (k : Int) ∧ Hid (Dv wr b z sz ops rds (fl S k) ∧ Did w b z S (fl S k) wr)) (fun c9 _ => 8 - (intOf c9).toNat)
  case atStart => exact ⟨0, by omega, rfl, HS⟩
  case round =>
    clear c0 HS
    obtain ⟨k, hk, rfl, HR⟩ := hrel
    by_cases hlt : k < 8
    · obtain ⟨hv, hd⟩ := HR.out
      obtain ⟨⟨c, hc1, hc2, c0⟩, -⟩ := hv.cells
      have cr := hv.zrow hlt
      have cd := hv.zdur hlt
      have fd := hv.zfree (k * 2 + 1)
      obtain ⟨n, hn⟩ : ∃ n, n = (fl S k k).n := ⟨_, rfl⟩
      obtain ⟨g, hg⟩ : ∃ g, g = (fl S k k).g := ⟨_, rfl⟩
      obtain ⟨cc, hcc⟩ : ∃ cc, cc = (fl S k k).c := ⟨_, rfl⟩
      obtain ⟨d, hdd⟩ : ∃ d, d = (fl S k k).d := ⟨_, rfl⟩
      rw [← hn, ← hg, ← hcc] at cr
      rw [← hdd] at cd
      have g1 : (0 : Int) ≤ (k : Int) := by omega
      have g2 : (k : Int) < 8 := by omega
      by_cases hdn : d = n
      · have HR2 : Hid (∀ m, Dv (wr.drewN m) b z sz ops rds (fl S (k + 1)) ∧ Did w b z S (fl S (k + 1)) (wr.drewN m)) := Lib.hid fun m => by
          rw [fl_same S k (by rw [← hn, ← hdd, hdn])]; exact ⟨hv.on ((At.start _).drewN m), hd.next ((At.start _).drewN m)⟩
        have nb : ((d : Int) == (n : Int)) = true := by rw [hdn]; simp
        clear hv hd hn hg hcc hdd hdn HR
        go_wp2
        go_quiet (fail)
        go_wp2
        go_roundw
        case rel => exact ⟨k + 1, by omega, by go_num, Lib.hid (HR2.out _)⟩
        case measure => simp [intOf]; omega
      · have nb : ((d : Int) == (n : Int)) = false := by simp; omega
        have HR2 : Hid (∀ m, Dv ((wr.drewN m).setCell ⟨z, k * 2 + 1, none⟩ (.int .i64 (n : Int))) b z sz ops rds (fl S (k + 1)) ∧ Did w b z S (fl S (k + 1)) ((wr.drewN m).setCell ⟨z, k * 2 + 1, none⟩ (.int .i64 (n : Int)))) := Lib.hid fun m => by
          have hs := (hv.on ((At.start _).drewN m)).setDur hlt n (by rw [hn]; exact Nat.le_refl _)
          have hm : Did (wr.drewN m) b z (fl S k) (fl S (k + 1)) ((wr.drewN m).setCell ⟨z, k * 2 + 1, none⟩ (.int .i64 (n : Int))) := by
            refine ⟨(Mv.refl _ (wr.drewN m)).set (Or.inl (Or.inr (Or.inl rfl))) _, fun g hg => Or.inl ?_⟩
            rw [← fl_more] at hg
            exact ft_dur.1 hg
          rw [hn, fl_more S k, ← hn] at hs
          exact ⟨hs, (hd.next ((At.start _).drewN m)).trans hm⟩
        clear hv hd hn hg hcc hdd hdn HR
        go_wp2
        go_quiet (fail)
        go_wp2
        go_roundw
        case rel => exact ⟨k + 1, by omega, by go_num, Lib.hid (HR2.out _)⟩
        case measure => simp [intOf]; omega
    · have hk8 : k = 8 := by omega
      subst hk8
      go_wp2
      rw [Exit.noGoto_normal]
      go_end0
      exact ⟨rfl, HR.out⟩

theorem flush_dv {w : World} {b z sz ops rds : Nat} {S : Nat → Zr} (h : Dv w b z sz ops rds S) (ho : ops ≤ 1000000) :
    Calls Try.prog 21 #[.pointer (some ⟨b, 0, none⟩)] w fun e w' => e = .returned (.int .i64 0) ∧ Dv w' b z sz (ops + 1) rds (fs S) ∧ Did w b z S (fs S) w' := by
  have H := Lib.hid h
  clear h
  go_enter Try.func21, Try.ntmps21
  go_wp2_with (go_at_call 28; refine (none_dv H.out).mono ?_; rintro e w' ⟨rfl, rfl⟩)
  refine (start_dv H.out ho).mono ?_
  rintro e w1 ⟨rfl, hv, hd⟩
  have HV := Lib.hid hv
  have HD := Lib.hid hd
  clear hv hd
  go_wp2_with fail
  refine (settle_dv HV.out).mono ?_
  rintro e w2 ⟨rfl, hv, hd⟩
  have HV2 := Lib.hid hv
  have HD2 := Lib.hid (HD.out.trans hd)
  clear hv hd
  go_wp2
  go_ret
  exact ⟨rfl, HV2.out, HD2.out⟩

set_option maxHeartbeats 1000000 in
set_option maxRecDepth 100000 in
theorem geometry_dv {w : World} {b z sz ops rds : Nat} {S : Nat → Zr} (h : Dv w b z sz ops rds S) :
    Calls Try.prog 20 #[.pointer (some ⟨b, 0, none⟩)] w (Gives (.agg #[.int .i64 8, .int .i64 (sz : Int)]) w) := by
  obtain ⟨⟨c, hc1, hc2, c0⟩, c1, -⟩ := h.cells
  have hlt := h.lt b (Or.inl rfl)
  have A1 : Hid (At w (w.alloc (.cells #[.int .i64 0, .int .i64 0] 29))) := Lib.hid ((At.start w).alloc _)
  have H := Lib.hid (h.on A1.out)
  have A2 : Hid (At w (w.alloc (.cells #[.int .i64 8, .int .i64 (sz : Int)] 29)).drew) := Lib.hid (((At.start w).alloc _).drewN 1)
  have n0 := World.new_ne w ⟨b, 0, none⟩ c0
  have n1 := World.new_ne w ⟨b, 1, none⟩ c1
  clear h
  go_enter Try.func20, Try.ntmps20
  go_wp2_with (go_at_call 28; refine (none_dv H.out).mono ?_; rintro e w' ⟨rfl, rfl⟩)
  go_region
  go_wp2
  exact bodyPost_ret (v := .agg #[.int .i64 8, .int .i64 (sz : Int)]) (by simp [results, Try.results20, go_sem]) rfl ⟨rfl, A2.out⟩

end Go.Proofs.Ytgehnljkiocijaa
