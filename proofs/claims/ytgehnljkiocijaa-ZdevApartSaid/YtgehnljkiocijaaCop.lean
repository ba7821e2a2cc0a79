/- Proved: what Copy hands back: a device of its own in the same state. -/
import Derived.Test.YtgehnljkiocijaaClo
namespace Go.Proofs.Ytgehnljkiocijaa
open Go.RowKit
attribute [local go_sem ↓] Go.wp_at_zero Go.wp_at_succ

/-- The zones of the copy when k of them have a row of their own. -/
def Kc (B : Nat) (S S' : Nat → Zr) (k : Nat) : Prop := (∀ j, j < k → (S' j).n = (S j).n ∧ (S' j).d = (S j).d ∧ (S' j).L = (S j).L ∧ ∀ a, (S' j).g = some a → B ≤ a.block) ∧ ∀ j, k ≤ j → j < 8 → S' j = S j
structure Cp (w : World) (b z sz ops rds : Nat) (S : Nat → Zr) (b' z' k : Nat) (S' : Nat → Zr) (wr : World) : Prop where
  old : Dv wr b z sz ops rds S
  new : Dv wr b' z' sz ops rds S'
  kc : Kc w.heap.size S S' k
  lb : w.heap.size ≤ b'
  lz : w.heap.size ≤ z'
  stands : At w wr
theorem Cp.next {w : World} {b z sz ops rds : Nat} {S : Nat → Zr} {b' z' k : Nat} {S' : Nat → Zr} {wr wx : World} (h : Cp w b z sz ops rds S b' z' k S' wr) (ha : At wr wx) : Cp w b z sz ops rds S b' z' k S' wx :=
  ⟨h.old.on ha, h.new.on ha, h.kc, h.lb, h.lz, h.stands.next ha⟩
theorem Cp.skip {w : World} {b z sz ops rds : Nat} {S : Nat → Zr} {b' z' k : Nat} {S' : Nat → Zr} {wr : World} (h : Cp w b z sz ops rds S b' z' k S' wr) (hk : k < 8) (h0 : (S k).n = 0) : Cp w b z sz ops rds S b' z' (k + 1) S' wr := by
  refine ⟨h.old, h.new, ⟨fun j hj => ?_, fun j hj hj8 => h.kc.2 j (by omega) hj8⟩, h.lb, h.lz, h.stands⟩
  by_cases e : j = k
  · subst e
    rw [h.kc.2 j (Nat.le_refl _) hk]
    refine ⟨rfl, rfl, rfl, fun a ha => ?_⟩
    rcases h.old.row j hk with ⟨_, h2, _⟩ | ⟨h1, _⟩
    · rw [h2] at ha; cases ha
    · omega
  · exact h.kc.1 j (by omega)
theorem Cp.put {w : World} {b z sz ops rds : Nat} {S : Nat → Zr} {b' z' k : Nat} {S' : Nat → Zr} {wr wx : World} (h : Cp w b z sz ops rds S b' z' k S' wr) (hlt : ∀ g, Ft b z S g → g < w.heap.size) (hk : k < 8) {r : Zr} (ha : At wr wx) (hz : Zn wx r) (h1 : r.n = (S k).n) (h2 : r.d = (S k).d) (h3 : r.L = (S k).L) (hg : ∀ a, r.g = some a → wr.heap.size ≤ a.block) :
    Cp w b z sz ops rds S b' z' (k + 1) (up S' k r) (wx.setCell ⟨z', k * 2, none⟩ (sl r)) := by
  have hs := h.kc.2 k (Nat.le_refl _) hk
  have hv := (h.new.setRow hk (Mv.of_below _ ha) hz (by rw [h2, hs]) (by rw [h1]; exact h.old.le k hk) (by rw [h1, h2]; exact h.old.dur k hk) (fun a ha => Or.inr (hg a ha))).1
  refine ⟨?_, hv, ⟨fun j hj => ?_, fun j hj hj8 => ?_⟩, h.lb, h.lz, ?_⟩
  · refine (h.old.on ha).keep (F := fun g => g = z') (Mv.set (F := fun g => g = z') (Mv.refl _ wx) (p := ⟨z', k * 2, none⟩) (Or.inl rfl) _) (fun g hg he => ?_)
    have := hlt g hg
    have := h.lz
    omega
  · by_cases e : j = k
    · subst e
      rw [up_same]
      exact ⟨h1, h2, h3, fun a ha => Nat.le_trans h.stands.size (hg a ha)⟩
    · rw [up_other _ _ e]; exact h.kc.1 j (by omega)
  · rw [up_other _ _ (by omega)]; exact h.kc.2 j (by omega) hj8
  · exact Below.setCell (p := ⟨z', k * 2, none⟩) (h.stands.next ha) h.lz _

theorem Cp.start {w w1 w2 : World} {b z sz ops rds c z' cap b' : Nat} {S : Nat → Zr} {T : List Value} (hv : Dv w1 b z sz ops rds S) (hlt : ∀ g, Ft b z S g → g < w.heap.size) (hb : w.heap.size ≤ b') (hbx : w1.heap[b']? = some (.cells #[.slice (some ⟨z, 0, none⟩) 8 c, .int .i64 (sz : Int), .int .i64 (ops : Int), .int .i64 (rds : Int), .int .i64 (-1), .bool false] 57 (0, 0)))
    (hz' : w2.heap[z']? = some (.cells (zc S ++ T).toArray 54 (0, 0))) (hge : w1.heap.size ≤ z') (h8 : 8 ≤ cap) (hmx : cap ≤ maxLen) (a1 : At w w1) (a2 : At w1 w2) :
    Cp w b z sz ops rds S b' z' 0 S (w2.setCell ⟨b', 0, none⟩ (.slice (some ⟨z', 0, none⟩) 8 cap)) := by
  have hb2 := (a2.block b' (lt_heap hbx)).trans hbx
  have hne : z' ≠ b' := cells_ne hz' hb2 (by decide)
  have hm : Mv (fun g => g = b') w2 (w2.setCell ⟨b', 0, none⟩ (.slice (some ⟨z', 0, none⟩) 8 cap)) := Mv.set (F := fun g => g = b') (Mv.refl _ w2) (p := ⟨b', 0, none⟩) (Or.inl rfl) _
  have hold : Dv (w2.setCell ⟨b', 0, none⟩ (.slice (some ⟨z', 0, none⟩) 8 cap)) b z sz ops rds S := (hv.on a2).keep hm (fun g hg he => by
    have := hlt g hg
    omega)
  refine ⟨hold, ⟨⟨cap, h8, hmx, ?_⟩, ⟨T, ?_⟩, hold.row, hold.sep, hold.le, hold.dur, hold.top⟩, ⟨fun j hj => absurd hj (Nat.not_lt_zero j), fun j _ _ => rfl⟩, hb, Nat.le_trans a1.size hge, ?_⟩
  · rw [heap_set hb2]; rfl
  · exact (Below.heap_setCell _ _ _ _ hne).trans hz'
  · exact Below.setCell (p := ⟨b', 0, none⟩) (At.next a1 a2) hb _

set_option maxHeartbeats 2000000 in
set_option maxRecDepth 100000 in
theorem copy_dv {w : World} {b z sz ops rds : Nat} {S : Nat → Zr} (h : Dv w b z sz ops rds S) :
    Calls Try.prog 19 #[.pointer (some ⟨b, 0, none⟩)] w fun e w' => ∃ b' z' S', e = .returned (.pointer (some ⟨b', 0, none⟩)) ∧ Dv w' b' z' sz ops rds S' ∧ (∀ k, k < 8 → (S' k).n = (S k).n ∧ (S' k).d = (S k).d ∧ (S' k).L = (S k).L) ∧ (∀ g, Ft b' z' S' g → w.heap.size ≤ g) ∧ At w w' := by
  obtain ⟨⟨c, hc1, hc2, c0⟩, c1, c2, c3, c4, c5⟩ := h.cells
  have hlt := h.lt
  have hbl := hlt b (Or.inl rfl)
  have htop := h.top
  obtain ⟨b', hb'⟩ : ∃ b', b' = w.heap.size := ⟨_, rfl⟩
  obtain ⟨w1, hw1⟩ : ∃ w1, w1 = w.alloc (.cells #[.slice (some ⟨z, 0, none⟩) 8 c, .int .i64 (sz : Int), .int .i64 (ops : Int), .int .i64 (rds : Int), .int .i64 (-1), .bool false] 57) := ⟨_, rfl⟩
  have a1 : At w w1 := by rw [hw1]; exact (At.start w).alloc _
  have hbx : w1.heap[b']? = some (.cells #[.slice (some ⟨z, 0, none⟩) 8 c, .int .i64 (sz : Int), .int .i64 (ops : Int), .int .i64 (rds : Int), .int .i64 (-1), .bool false] 57 (0, 0)) := by rw [hw1, hb']; exact heap_alloc_new _ _
  have hv1 := h.on a1
  obtain ⟨T, hz1⟩ := hv1.zon
  obtain ⟨⟨c', _, _, d0⟩, -⟩ := hv1.cells
  have hcc : c' = c := by
    have := (Below.cell a1 (p := ⟨b, 0, none⟩) hbl).trans c0
    rw [d0] at this
    injection this with this
    injection this
  subst hcc
  have HZ1 := Lib.hid hz1
  have HBX := Lib.hid hbx
  have HV1 := Lib.hid hv1
  have HA1 := Lib.hid a1
  have HW1 := Lib.hid hw1
  have HB' := Lib.hid hb'
  have H := Lib.hid h
  have HLT := Lib.hid hlt
  clear h hlt a1 hbx hv1 hz1 hw1 hb'
  go_enter Try.func19, Try.ntmps19
  go_wp2
  go_step3
  go_wp2_with (go_at_call 28; refine (none_dv H.out).mono ?_; rintro e w' ⟨rfl, rfl⟩)
  rw [← HW1.out, ← HB'.out]
  refine (clone_zones HZ1.out).mono ?_
  rintro e w2 ⟨z', cap, rfl, hge, h8, hmx, ⟨T', hz'⟩, a2⟩
  have hb2 := (a2.block b' (lt_heap HBX.out)).trans HBX.out
  have e0 : w2.cell? ⟨b', 0, none⟩ = some (.slice (some ⟨z, 0, none⟩) 8 c') := by rw [cell_at hb2]; rfl
  have f0 := free_at hb2 0
  have HC := Lib.hid (Cp.start HV1.out HLT.out (Nat.le_of_eq HB'.out.symm) HBX.out hz' hge h8 hmx HA1.out a2)
  obtain ⟨w3, hw3⟩ : ∃ w3, w3 = w2.setCell ⟨b', 0, none⟩ (.slice (some ⟨z', 0, none⟩) 8 cap) := ⟨_, rfl⟩
  rw [← hw3] at HC
  obtain ⟨⟨c3', _, _, e1⟩, -⟩ := HC.out.old.cells
  have HW3 := Lib.hid hw3
  clear hge h8 hmx hz' a2 hb2 hw3
  go_wp2_with fail
  rw [← HW3.out]
  go_wp2
  go_step3
  go_wp2
  go_loopw [22] (fun c22 wr => ∃ (k : Nat) (S' : Nat → Zr), k ≤ 8 ∧ c22 = .int .i64 (k : Int) ∧ Hid (Cp w b z sz ops rds S b' z' k S' wr)) (fun c22 _ => 8 - (intOf c22).toNat)
  case atStart => exact ⟨0, S, by omega, rfl, HC⟩
  case round =>
    clear e0 f0 e1 c0 c1 c2 c3 c4 c5 d0 HC
    obtain ⟨k, S', hk, rfl, HR⟩ := hrel
    by_cases hlt : k < 8
    · have cr := HR.out.old.zrow hlt
      have cd := HR.out.old.zdur hlt
      obtain ⟨⟨cb, _, _, nb0⟩, -⟩ := HR.out.new.cells
      have hns := HR.out.old.le k hlt
      have hzn := HR.out.old.row k hlt
      obtain ⟨n, hn⟩ : ∃ n, n = (S k).n := ⟨_, rfl⟩
      obtain ⟨g, hg⟩ : ∃ g, g = (S k).g := ⟨_, rfl⟩
      obtain ⟨cc, hcc⟩ : ∃ cc, cc = (S k).c := ⟨_, rfl⟩
      obtain ⟨d, hd⟩ : ∃ d, d = (S k).d := ⟨_, rfl⟩
      rw [← hn, ← hg, ← hcc] at cr
      rw [← hd] at cd
      rw [← hn] at hns
      have g1 : (0 : Int) ≤ (k : Int) := by omega
      have g2 : (k : Int) < 8 := by omega
      have HN := Lib.hid (And.intro hn (And.intro hg (And.intro hcc hd)))
      obtain ⟨lb, hlb⟩ : ∃ lb, lb = wr.heap.size := ⟨_, rfl⟩
      obtain ⟨wa, hwa⟩ : ∃ wa, wa = wr.alloc (.cells #[.slice g n cc, .int .i64 (d : Int)] 54) := ⟨_, rfl⟩
      have hbx : wa.heap[lb]? = some (.cells #[.slice g n cc, .int .i64 (d : Int)] 54 (0, 0)) := by rw [hwa, hlb]; exact heap_alloc_new _ _
      have hla := lt_heap hbx
      have l0 : wa.cell? ⟨lb, 0, none⟩ = some (.slice g n cc) := by rw [cell_at hbx]; rfl
      have hat : At wr wa := by rw [hwa]; exact (At.start _).alloc _
      have HCA := Lib.hid (HR.out.next hat)
      have HLB := Lib.hid hlb
      have HWA := Lib.hid hwa
      by_cases h0 : n = 0
      · have HCN := Lib.hid (HCA.out.skip hlt (by rw [← hn]; exact h0))
        have nb : ((n : Int) == 0) = true := by rw [h0]; rfl
        clear hn hg hcc hd hzn hlb hwa hbx hat HR h0 nb0 HCA
        go_wp2
        rw [← HWA.out]
        go_roundw
        case rel => exact ⟨k + 1, S', by omega, by go_num, HCN⟩
        case measure => simp [intOf]; omega
      · have nb : ((n : Int) == 0) = false := by simp; omega
        obtain ⟨gb, hgb, hown⟩ : ∃ gb, g = some ⟨gb, 0, none⟩ ∧ wr.ownsRow 0 60 64 (.slice g n cc) n ((S k).L.map bt) := by
          rcases hzn with ⟨h1, _⟩ | ⟨_, gb, hgb, hown⟩
          · omega
          · refine ⟨gb, by rw [hg]; exact hgb, ?_⟩
            unfold sl at hown
            rw [hn, hg, hcc]; exact hown
        subst hgb
        have hlb0 : w.heap.size ≤ lb := by rw [hlb]; exact HR.out.stands.size
        have hna := (Below.cell hat (p := ⟨b', 0, none⟩) (HR.out.new.lt b' (Or.inl rfl))).trans nb0
        have hba := HCA.out.new.lt b' (Or.inl rfl)
        have hza := HCA.out.new.lt z' (Or.inr (Or.inl rfl))
        have hzb : z' ≠ b' := HCA.out.new.bz.symm
        have hzl : z' ≠ lb := fun e => by
          have := HR.out.new.lt z' (Or.inr (Or.inl rfl))
          omega
        have ea := HCA.out.new.zrow hlt
        rw [HCA.out.kc.2 k (Nat.le_refl _) hlt, ← hn, ← hg, ← hcc] at ea
        have fa := HCA.out.new.zfree (k * 2)
        have HO := Lib.hid ((hown.alloc (.cells #[.slice (some ⟨gb, 0, none⟩) n cc, .int .i64 (d : Int)] 54)))
        rw [← hwa] at HO
        have HX := Lib.hid (And.intro hzb (And.intro hzl hna))
        have hp : 0 < n := Nat.pos_of_ne_zero h0
        clear hn hg hcc hd hzn hlb hwa hbx hat HR h0 hown hzb hzl nb0 hlb0
        go_wp2_with fail
        rw [← HWA.out, ← HLB.out]
        clear cr cd
        go_region_held3 (fun w' => w'.cell? ⟨b', 0, none⟩ = some (.slice (some ⟨z', 0, none⟩) 8 cb) ∧ w'.cell? ⟨lb, 0, none⟩ = some (.slice (some ⟨gb, 0, none⟩) n cc))
          (first
            | (go_split_ands; exact ⟨by assumption, by assumption⟩)
            | exact ⟨HX.out.2.2, l0⟩
            | exact ⟨(Below.cell a5 (p := ⟨b', 0, none⟩) hba).trans HX.out.2.2, (Below.cell a5 (p := ⟨lb, 0, none⟩) hla).trans l0⟩
            | exact ⟨(World.cell?_setCell_other _ _ _ _ (by intro e; injection e with e1 _; exact HX.out.1 e1)).trans ((Below.cell a5 (p := ⟨b', 0, none⟩) hba).trans HX.out.2.2), (World.cell?_setCell_other _ _ _ _ (by intro e; injection e with e1 _; exact HX.out.2.1 e1)).trans ((Below.cell a5 (p := ⟨lb, 0, none⟩) hla).trans l0)⟩)
          (first
            | (go_at_call 35; refine (clone_blocks (w := wa.drew) hp (by omega) HO.out).mono ?_; rintro e w5 ⟨g5, c5, rfl, hge5, ho5, a5⟩; have e5 := (Below.cell a5 (p := ⟨z', k * 2, none⟩) hza).trans ea; have f5 := (Below.frozen a5 (p := ⟨z', k * 2, none⟩) hza).trans fa))
        have hcn := (HCA.out.next ((At.start wa).drewN 1)).put HLT.out hlt (r := ⟨some ⟨g5, 0, none⟩, n, c5, d, (S k).L⟩) a5 (Or.inr ⟨hp, g5, rfl, ho5⟩) HN.out.1 HN.out.2.2.2 rfl (fun a ha => by
          injection ha with ha
          subst ha
          exact hge5)
        unfold sl at hcn
        have HCN := Lib.hid hcn
        clear hcn hge5 ho5 a5 e5 f5
        go_wp2
        go_roundw
        case rel => exact ⟨k + 1, _, by omega, by go_num, HCN⟩
        case measure => simp [intOf]; omega
    · have hk8 : k = 8 := by omega
      subst hk8
      have HF : Hid (Dv wr b' z' sz ops rds S' ∧ (∀ k, k < 8 → (S' k).n = (S k).n ∧ (S' k).d = (S k).d ∧ (S' k).L = (S k).L) ∧ (∀ g, Ft b' z' S' g → w.heap.size ≤ g) ∧ At w wr) := Lib.hid ⟨HR.out.new, fun k hk => ⟨(HR.out.kc.1 k hk).1, (HR.out.kc.1 k hk).2.1, (HR.out.kc.1 k hk).2.2.1⟩, fun g hg => by
        rcases hg with rfl | rfl | ⟨j, hj, a, ha, rfl⟩
        · exact HR.out.lb
        · exact HR.out.lz
        · exact (HR.out.kc.1 j hj).2.2.2 a ha, HR.out.stands⟩
      clear HR
      go_wp2
      rw [Exit.noGoto_ret]
      go_ret
      exact ⟨b', z', S', rfl, HF.out⟩

end Go.Proofs.Ytgehnljkiocijaa
