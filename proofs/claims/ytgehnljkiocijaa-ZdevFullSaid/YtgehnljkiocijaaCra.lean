/- Proved: what Crash hands back where nothing more than what lasts is picked: a device of its own with the blocks that last. -/
import Derived.Test.YtgehnljkiocijaaKep
namespace Go.Proofs.Ytgehnljkiocijaa
open Go.RowKit
attribute [local go_sem ↓] Go.wp_at_zero Go.wp_at_succ

/-- What is appended of nothing is nothing. -/
theorem run_none (t ty e : TypeId) (i : TypeInfo) (ht : Try.prog.underlying t = some (.slice e)) (hi : Try.prog.info? e = some i) (A : Option Addr) (c : Nat) (w : World) :
    (Builtin.append_ #[t, t] ty #[.slice none 0 0, .slice A 0 c]).run Try.prog w = .ok (.slice none 0 0) w := by
  rcases A with _ | a
  · simp [Builtin.append_, run_underlying ht, sizeOf, typeInfo, hi, Builtin.lenOf, Builtin.firstCells]
  · simp [Builtin.append_, run_underlying ht, sizeOf, typeInfo, hi, Builtin.lenOf, Builtin.firstCells, loadCells, loadCellsFrom]
theorem step_none {ops : Array Oper} {o : Oper} {a : Act} {w : World} {K : Act → World → Prop} {Q : Exit → Act → World → Prop} {E : Prop} (hgd : o.guard = none) (s x : Operand)
    (ho : o.op = .call { callee := .builtin .append, args := #[s, x], argTypes := #[52, 52] }) (A : Option Addr) (m c : Nat) (hm : m = 0) (hs : a.eval s = .slice none 0 0) (hx : a.eval x = .slice A m c)
    (h : K (a.put o.dst (.slice none 0 0)) w) : if Region.wanted o (yielded ops a.tmps) = true then Oper.wp Try.prog o a w K Q else E := by
  subst hm
  obtain ⟨i, z, hi, _⟩ := block_parts
  have hw : Region.wanted o (yielded ops a.tmps) = true := by simp [Region.wanted, hgd]
  rw [if_pos hw]
  have hrun := run_none 52 o.type 60 i Try.underlying52 hi A c w
  unfold Oper.wp
  simp [execOp, ho, resolve, invoke, builtin, hs, hx, hrun, Result.andThen]
  exact h

/-- The zones of the new device when k of them are filled. -/
def Kp (S S' : Nat → Zr) (k : Nat) : Prop := (∀ j, j < k → (S' j).n = (S j).d ∧ (S' j).L = (S j).L.take (64 * (S j).d) ∧ (S' j).d = 0) ∧ ∀ j, k ≤ j → j < 8 → S' j = Zr.none
theorem Kp.start (S : Nat → Zr) : Kp S (fun _ => Zr.none) 0 := ⟨fun _ h => absurd h (Nat.not_lt_zero _), fun _ _ _ => rfl⟩
theorem Kp.next {S S' : Nat → Zr} {k : Nat} (h : Kp S S' k) {r : Zr} (h1 : r.n = (S k).d) (h2 : r.L = (S k).L.take (64 * (S k).d)) (h3 : r.d = 0) : Kp S (up S' k r) (k + 1) :=
  ⟨fun j hj => by
    by_cases e : j = k
    · subst e; rw [up_same]; exact ⟨h1, h2, h3⟩
    · rw [up_other _ _ e]; exact h.1 j (by omega), fun j hj hj8 => by rw [up_other _ _ (by omega)]; exact h.2 j (by omega) hj8⟩

/-- The two devices of a crash under way: the old one as it was, the new one in memory of the call's own. -/
structure Cr (w : World) (b z sz ops rds : Nat) (S : Nat → Zr) (b' z' k : Nat) (S' : Nat → Zr) (wr : World) : Prop where
  old : Dv wr b z sz ops rds S
  new : Dv wr b' z' sz 0 0 S'
  kp : Kp S S' k
  ft : ∀ g, Ft b' z' S' g → w.heap.size ≤ g
  stands : At w wr
theorem Cr.next {w : World} {b z sz ops rds : Nat} {S : Nat → Zr} {b' z' k : Nat} {S' : Nat → Zr} {wr wx : World} (h : Cr w b z sz ops rds S b' z' k S' wr) (ha : At wr wx) : Cr w b z sz ops rds S b' z' k S' wx :=
  ⟨h.old.on ha, h.new.on ha, h.kp, h.ft, h.stands.next ha⟩

theorem Cr.put {w : World} {b z sz ops rds : Nat} {S : Nat → Zr} {b' z' k : Nat} {S' : Nat → Zr} {wr wx : World} (h : Cr w b z sz ops rds S b' z' k S' wr) (hlt : ∀ g, Ft b z S g → g < w.heap.size) (hk : k < 8) {r : Zr} (ha : At wr wx) (hz : Zn wx r) (h1 : r.n = (S k).d) (h2 : r.L = (S k).L.take (64 * (S k).d)) (h3 : r.d = 0) (hg : ∀ a, r.g = some a → wr.heap.size ≤ a.block) :
    Cr w b z sz ops rds S b' z' (k + 1) (up S' k r) (wx.setCell ⟨z', k * 2, none⟩ (sl r)) := by
  have hd : (S' k).d = 0 := by rw [h.kp.2 k (Nat.le_refl _) hk]; rfl
  have hle : r.n ≤ sz := by rw [h1]; exact Nat.le_trans (h.old.dur k hk) (h.old.le k hk)
  obtain ⟨hv, hd2⟩ := h.new.setRow hk (Mv.of_below _ ha) hz (by rw [h3, hd]) hle (by omega) (fun a ha => Or.inr (hg a ha))
  obtain ⟨hs, hf⟩ := hd2.at_ h.stands h.ft
  have hap : ∀ g, Ft b z S g → ¬ Ft b' z' S' g := fun g hg hg' => by
    have := hlt g hg
    have := h.ft g hg'
    omega
  exact ⟨(hd2.other h.old hap).1, hv, h.kp.next h1 h2 h3, hf, hs⟩

set_option maxHeartbeats 2000000 in
set_option maxRecDepth 100000 in
theorem crash_dv {w : World} {b z sz ops rds : Nat} {S : Nat → Zr} (h : Dv w b z sz ops rds S) (A1 A2 : Option Addr) (n1 c1 n2 c2 : Nat) (v1 v2 : Int) (hP : Fz w A1 n1 v1) (hT : Fz w A2 n2 v2) (hv1 : ∀ k, k < 8 → v1 = 0 ∨ (S k).d = (S k).n) (hv2 : ∀ k, k < 8 → v2 = 0 ∨ (S k).d = (S k).n) :
    Calls Try.prog 18 #[.pointer (some ⟨b, 0, none⟩), .slice A1 n1 c1, .slice A2 n2 c2] w fun e w' => ∃ b' z' S', e = .returned (.pointer (some ⟨b', 0, none⟩)) ∧ Dv w' b' z' sz 0 0 S' ∧ (∀ k, k < 8 → (S' k).n = (S k).d ∧ (S' k).L = (S k).L.take (64 * (S k).d) ∧ (S' k).d = (S k).d) ∧ (∀ g, Ft b' z' S' g → w.heap.size ≤ g) ∧ At w w' := by
  obtain ⟨i0, zv, hi0, hz0, hz1, hz2, hz3⟩ := block_parts
  have hlt := h.lt
  have htop := h.top
  have H := Lib.hid h
  have HP := Lib.hid hP
  have HT := Lib.hid hT
  have HV := Lib.hid (And.intro hv1 hv2)
  have HLT := Lib.hid hlt
  have HI := Lib.hid hi0
  have HZ := Lib.hid (And.intro hz0 (And.intro hz1 (And.intro hz2 hz3)))
  clear h hP hT hv1 hv2 hlt hi0 hz0 hz1 hz2 hz3
  go_enter Try.func18, Try.ntmps18
  go_wp2
  go_step3
  go_wp2_with (go_at_call 28; refine (none_dv H.out).mono ?_; rintro e w' ⟨rfl, rfl⟩)
  refine (geometry_dv H.out).mono ?_
  rintro e w1 ⟨rfl, a1⟩
  have HA1 := Lib.hid a1
  clear a1
  go_wp2_with fail
  refine (empty_any sz htop w1).mono ?_
  rintro e w2 ⟨b', z', rfl, hn⟩
  have HC : Hid (Cr w b z sz ops rds S b' z' 0 (fun _ => Zr.none) w2) := Lib.hid ⟨(H.out.on HA1.out).on hn.stands, hn.dv, Kp.start S, fun g hg => Nat.le_trans HA1.out.size (hn.ft g hg), At.next HA1.out hn.stands⟩
  obtain ⟨⟨c, hc1, hc2, c0⟩, -⟩ := HC.out.old.cells
  clear hn
  go_wp2
  go_step3
  go_wp2
  go_loopw [22] (fun c22 wr => ∃ (k : Nat) (S' : Nat → Zr), k ≤ 8 ∧ c22 = .int .i64 (k : Int) ∧ Hid (Cr w b z sz ops rds S b' z' k S' wr)) (fun c22 _ => 8 - (intOf c22).toNat)
  case atStart => exact ⟨0, _, by omega, rfl, HC⟩
  case round =>
    clear c0 HC
    obtain ⟨k, S', hk, rfl, HR⟩ := hrel
    by_cases hlt : k < 8
    · have cr := HR.out.old.zrow hlt
      have cd := HR.out.old.zdur hlt
      obtain ⟨n, hn⟩ : ∃ n, n = (S k).n := ⟨_, rfl⟩
      obtain ⟨g, hg⟩ : ∃ g, g = (S k).g := ⟨_, rfl⟩
      obtain ⟨cc, hcc⟩ : ∃ cc, cc = (S k).c := ⟨_, rfl⟩
      obtain ⟨d, hd⟩ : ∃ d, d = (S k).d := ⟨_, rfl⟩
      rw [← hn, ← hg, ← hcc] at cr
      rw [← hd] at cd
      have g1 : (0 : Int) ≤ (k : Int) := by omega
      have g2 : (k : Int) < 8 := by omega
      have hdn : d ≤ n := by rw [hd, hn]; exact HR.out.old.dur k hlt
      have hns : n ≤ sz := by rw [hn]; exact HR.out.old.le k hlt
      have hcap := (HR.out.old.row k hlt).cap
      rw [← hn, ← hcc] at hcap
      have hv1 : v1 = 0 ∨ d = n := by rw [hd, hn]; exact HV.out.1 k hlt
      have hv2 : v2 = 0 ∨ d = n := by rw [hd, hn]; exact HV.out.2 k hlt
      have HN := Lib.hid (And.intro hn (And.intro hg (And.intro hcc hd)))
      have HV1 := Lib.hid hv1
      have HV2 := Lib.hid hv2
      obtain ⟨lb, hlb⟩ : ∃ lb, lb = wr.heap.size := ⟨_, rfl⟩
      obtain ⟨wa, hwa⟩ : ∃ wa, wa = wr.alloc (.cells #[.slice g n cc, .int .i64 (d : Int)] 54) := ⟨_, rfl⟩
      have hbx : wa.heap[lb]? = some (.cells #[.slice g n cc, .int .i64 (d : Int)] 54 (0, 0)) := by rw [hwa, hlb]; exact heap_alloc_new _ _
      have hla := lt_heap hbx
      have l0 : wa.cell? ⟨lb, 0, none⟩ = some (.slice g n cc) := by rw [cell_at hbx]; rfl
      have l1 : wa.cell? ⟨lb, 1, none⟩ = some (.int .i64 (d : Int)) := by rw [cell_at hbx]; rfl
      have hat : At wr wa := by rw [hwa]; exact (At.start _).alloc _
      have HC2 := Lib.hid (HR.out.next hat)
      have HF1 : Hid (∀ w', At wa w' → Fz w' A1 n1 v1) := Lib.hid fun w' h' => HP.out.on (HC2.out.stands.next h')
      have HF2 : Hid (∀ w', At w w' → Fz w' A2 n2 v2) := Lib.hid fun w' h' => HT.out.on h'
      have HLB := Lib.hid hlb
      have HWA := Lib.hid hwa
      have HBX := Lib.hid hbx
      have HCR := HR
      clear hn hg hcc hd hv1 hv2 hwa hlb hbx hat HR
      go_wp2
      rw [← HWA.out, ← HLB.out]
      clear cr cd
      go_region_held3 (fun w' => w'.cell? ⟨lb, 0, none⟩ = some (.slice g n cc) ∧ w'.cell? ⟨lb, 1, none⟩ = some (.int .i64 (d : Int)))
        (first | (go_split_ands; exact ⟨by assumption, by assumption⟩) | exact ⟨l0, l1⟩ | exact ⟨(Below.cell a5 (p := ⟨lb, 0, none⟩) hla).trans l0, (Below.cell a5 (p := ⟨lb, 1, none⟩) hla).trans l1⟩)
        (first
          | (go_at_call 31; refine (forzone_any (HF1.out wa.drew ((At.start wa).drewN 1)) k hlt).mono ?_; rintro e w' ⟨rfl, rfl⟩)
          | (go_at_call 30; refine (kept_any g n cc d v1 hdn (by omega) HV1.out wa.drew).mono ?_; rintro e w5 ⟨rfl, a5⟩))
      have HC5 := Lib.hid ((HC2.out.next ((At.start wa).drewN 1)).next a5)
      have m0 := (Below.cell a5 (p := ⟨lb, 0, none⟩) hla).trans l0
      have m1 := (Below.cell a5 (p := ⟨lb, 1, none⟩) hla).trans l1
      have hlb5 := Nat.lt_of_lt_of_le hla a5.size
      have HBX5 : Hid (w5.heap[lb]? = some (.cells #[.slice g n cc, .int .i64 (d : Int)] 54 (0, 0))) := Lib.hid ((a5.block lb hla).trans HBX.out)
      have HA5 : Hid (At wa w5) := Lib.hid (At.next ((At.start wa).drewN 1) a5)
      obtain ⟨⟨c, hc1, hc2, c0⟩, -⟩ := HC5.out.new.cells
      have er := HC5.out.new.zrow hlt
      rw [HC5.out.kp.2 k (Nat.le_refl _) hlt] at er
      have er : w5.cell? ⟨z', k * 2, none⟩ = some (.slice none 0 0) := er
      have fr := HC5.out.new.zfree (k * 2)
      have hzl := HC5.out.new.lt z' (Or.inr (Or.inl rfl))
      have hlz : lb ≠ z' := fun e => by
        have h1 := HC2.out.new.lt z' (Or.inr (Or.inl rfl))
        have h2 : z' < wr.heap.size := (HCR.out.new.lt z' (Or.inr (Or.inl rfl)))
        have := HLB.out
        omega
      have HLZ := Lib.hid hlz
      have q1 : (0 : Int) ≤ (d : Int) := by omega
      have q2 : (d : Int) ≤ (cc : Int) := by omega
      clear a5 hla l0 l1 hlz
      go_wp2
      by_cases hd0 : d = 0
      · have HD0 := Lib.hid hd0
        clear hd0
        go_region_law ((refine step_none (by rfl) (.tmp 42) (.tmp 46) (by rfl) g d cc HD0.out (by rfl) (by rfl) ?_))
        all_goals
          have HC7 : Hid (Cr w b z sz ops rds S b' z' (k + 1) (up S' k ⟨none, 0, 0, 0, []⟩) (w5.setCell ⟨z', k * 2, none⟩ (.slice none 0 0)).drew) := Lib.hid ((HC5.out.put HLT.out hlt (At.start w5) (Zn.none_ _ 0) (by rw [← HN.out.2.2.2]; exact HD0.out.symm) (by rw [← HN.out.2.2.2, HD0.out]; rfl) rfl (fun a ha => by cases ha)).next ((At.start _).drewN 1))
          have HB7 : Hid ((w5.setCell ⟨z', k * 2, none⟩ (.slice none 0 0)).drew.heap[lb]? = some (.cells #[.slice g n cc, .int .i64 (d : Int)] 54 (0, 0))) := Lib.hid ((Below.heap_setCell w5 ⟨z', k * 2, none⟩ _ lb HLZ.out).trans HBX5.out)
          obtain ⟨w7, hw7⟩ : ∃ w7, w7 = (w5.setCell ⟨z', k * 2, none⟩ (.slice none 0 0)).drew := ⟨_, rfl⟩
          rw [← hw7] at HC7 HB7 ⊢
          clear hw7
          have l7 : w7.cell? ⟨lb, 0, none⟩ = some (.slice g n cc) := by rw [cell_at HB7.out]; rfl
          by_cases hdn2 : d = n
          · have nb : ((d : Int) == (n : Int)) = true := by rw [hdn2]; simp
            clear hdn2
            go_wp2
            go_roundw
            case rel => exact ⟨k + 1, _, by omega, by go_num, HC7⟩
            case measure => simp [intOf]; omega
          · have nb : ((d : Int) == (n : Int)) = false := by simp; omega
            have hv0 : v2 = 0 := HV2.out.resolve_right hdn2
            have hfz := HF2.out w7 HC7.out.stands
            rw [hv0] at hfz
            have HFZ := Lib.hid hfz
            clear hdn2 hv0 hfz
            go_wp2_with (go_at_call 31; refine (forzone_any HFZ.out k hlt).mono ?_; rintro e w' ⟨rfl, rfl⟩)
            go_roundw
            case rel => exact ⟨k + 1, _, by omega, by go_num, HC7⟩
            case measure => simp [intOf]; omega
      · have hp : 0 < d := Nat.pos_of_ne_zero hd0
        obtain ⟨gb, hgb, hsrc, hsl⟩ : ∃ gb, g = some ⟨gb, 0, none⟩ ∧ (∀ j u, (((S k).L.take (64 * d)).map bt)[j]? = some u → w5.drew.cell? ((⟨gb, 0, none⟩ : Addr).add j) = some u) ∧ (((S k).L.take (64 * d)).map bt).length = d * 64 := by
          rcases HC5.out.old.row k hlt with ⟨h1, _⟩ | ⟨h0, gb, hgb, hown⟩
          · have := HN.out.1
            omega
          · refine ⟨gb, by rw [HN.out.2.1]; exact hgb, fun j u hu => ?_, ?_⟩
            · have hb : (sl (S k)).ownBlock = some gb := by unfold sl; rw [hgb]; rfl
              refine hown.cells hb j u ?_
              rw [List.map_take, List.getElem?_take] at hu
              split at hu
              · exact hu
              · cases hu
            · have hl := (HC5.out.old.row k hlt).len
              have := HN.out.1
              rw [List.length_map, List.length_take, hl]
              omega
        subst hgb
        have HSRC := Lib.hid hsrc
        have HSL := Lib.hid hsl
        clear hd0 hsrc hsl
        go_region_law ((refine step_append_lies _ (by rfl) (.tmp 42) (.tmp 46) 52 (by rfl) 0 60 i0 zv 64 64 Try.underlying52 HI.out HZ.out.1 HZ.out.2.1 HZ.out.2.2.1 HZ.out.2.2.2 (by omega) (.slice none 0 0) 0 [] (by rfl) (World.ownsRow_nil _ _ _ _) ⟨gb, 0, none⟩ d cc (((S k).L.take (64 * d)).map bt) (by rfl) HSL.out HSRC.out (bt_one _) hp (by unfold maxLen; omega) (by omega) (Nat.zero_le _) w5.heap.size (by rfl) ?_; intro gg cap w6 hown1 hgrow hat2 hlt6; have er6 := (hgrow.cell_far ⟨z', k * 2, none⟩ hzl (fun e => by cases e)).trans er; have fr6 := (hgrow.frozen_far ⟨z', k * 2, none⟩ hzl (fun e => by cases e)).trans fr))
        all_goals
          have ha6 : At w5 w6 := Below.grown ((At.start w5).drewN 1) hgrow (Nat.le_refl _) (fun i hi => by cases hi)
          have hz6 : Zn w6 ⟨some ⟨gg, 0, none⟩, d, cap, 0, (S k).L.take (64 * d)⟩ := Or.inr ⟨hp, gg, rfl, by
            rw [Nat.zero_add, List.nil_append] at hown1
            exact hown1⟩
          have HC7 := Lib.hid (HC5.out.put HLT.out hlt ha6 hz6 HN.out.2.2.2 (by rw [← HN.out.2.2.2]) rfl (fun a ha => by
            injection ha with ha
            subst ha
            rcases hat2 with h | h
            · cases h
            · exact Nat.le_of_eq h.symm))
          have HB7 : Hid ((w6.setCell ⟨z', k * 2, none⟩ (sl ⟨some ⟨gg, 0, none⟩, d, cap, 0, (S k).L.take (64 * d)⟩)).heap[lb]? = some (.cells #[.slice (some ⟨gb, 0, none⟩) n cc, .int .i64 (d : Int)] 54 (0, 0))) := Lib.hid ((Below.heap_setCell w6 ⟨z', k * 2, none⟩ _ lb HLZ.out).trans ((ha6.block lb hlb5).trans HBX5.out))
          unfold sl at HC7 HB7
          obtain ⟨w7, hw7⟩ : ∃ w7, w7 = w6.setCell ⟨z', k * 2, none⟩ (.slice (some ⟨gg, 0, none⟩) d cap) := ⟨_, rfl⟩
          rw [← hw7] at HC7 HB7 ⊢
          clear hw7 ha6 hz6 hown1 hgrow hat2 hlt6 er6 fr6
          have l7 : w7.cell? ⟨lb, 0, none⟩ = some (.slice (some ⟨gb, 0, none⟩) n cc) := by rw [cell_at HB7.out]; rfl
          by_cases hdn2 : d = n
          · have nb : ((d : Int) == (n : Int)) = true := by rw [hdn2]; simp
            clear hdn2
            go_wp2
            go_roundw
            case rel => exact ⟨k + 1, _, by omega, by go_num, HC7⟩
            case measure => simp [intOf]; omega
          · have nb : ((d : Int) == (n : Int)) = false := by simp; omega
            have hv0 : v2 = 0 := HV2.out.resolve_right hdn2
            have hfz := HF2.out w7 HC7.out.stands
            rw [hv0] at hfz
            have HFZ := Lib.hid hfz
            clear hdn2 hv0 hfz
            go_wp2_with (go_at_call 31; refine (forzone_any HFZ.out k hlt).mono ?_; rintro e w' ⟨rfl, rfl⟩)
            go_roundw
            case rel => exact ⟨k + 1, _, by omega, by go_num, HC7⟩
            case measure => simp [intOf]; omega
    · have hk8 : k = 8 := by omega
      subst hk8
      go_wp2_with fail
      refine (settle_dv HR.out.new).mono ?_
      rintro e w5 ⟨rfl, hv, hd⟩
      have hfin : (∀ k, k < 8 → (fs S' k).n = (S k).d ∧ (fs S' k).L = (S k).L.take (64 * (S k).d) ∧ (fs S' k).d = (S k).d) ∧ (∀ g, Ft b' z' (fs S') g → w.heap.size ≤ g) ∧ At w w5 := by
        obtain ⟨ha, hf⟩ := hd.at_ HR.out.stands HR.out.ft
        refine ⟨fun k hk => ?_, hf, ha⟩
        rw [fs_at S' k hk]
        obtain ⟨e1, e2, _⟩ := HR.out.kp.1 k hk
        exact ⟨e1, e2, e1⟩
      have HF := Lib.hid (And.intro hv hfin)
      clear hv hd hfin
      go_wp2
      rw [Exit.noGoto_ret]
      go_ret
      exact ⟨b', z', _, rfl, HF.out⟩

end Go.Proofs.Ytgehnljkiocijaa
