/- Proved: the landed book and the document's own beside each other; the law HorizonPlays' walk. -/
import Derived.Test.YtjgmgkglpfcihaaDon
import Derived.Test.YtjgmgkglpfcihaaIn
import Derived.Deep.RegionHeld3
import Derived.Deep.Cut
import Derived.Deep.CutRange
namespace Go.Proofs.Ytjgmgkglpfcihaa
open Go.RowKit

/-- The two books; S and T are their states. -/
structure Py (w0 : World) (b mb d : Nat) (S T : St) (wr : World) : Prop where
  hs : Hs w0 b mb S wr
  rb : Rb wr d T
  nd : w0.heap.size ≤ d
section
variable {w0 wr wx : World} {b mb d : Nat} {S T S' T' : St}
theorem Py.on (h : Py w0 b mb d S T wr) (ha : At wr wx) : Py w0 b mb d S T wx := ⟨h.hs.on ha, h.rb.on ha, h.nd⟩
theorem Py.ne (h : Py w0 b mb d S T wr) : d ≠ b ∧ d ≠ mb := by
  obtain ⟨cs, hd⟩ := h.rb.box
  exact ⟨cells_ne hd h.hs.bk.box (by decide), h.hs.bk.far hd⟩
theorem Py.turnB (h : Py w0 b mb d S T wr) (hb : Hs w0 b mb S' wx) (hm : Mv (Bf b mb) wr wx) : Py w0 b mb d S' T wx :=
  ⟨hb, h.rb.mv hm (fun g cs m hg e => e.elim (cells_ne hg h.hs.bk.box (by decide)) (h.hs.bk.far hg)) (fun e => e.elim h.ne.1 h.ne.2), h.nd⟩
theorem Py.turnR (h : Py w0 b mb d S T wr) (hr : Rb wx d T') (hm : Mv (fun g => g = d) wr wx) : Py w0 b mb d S T' wx :=
  ⟨⟨h.hs.bk.mv hm (fun e => h.ne.1 e.symm) (fun e => h.ne.2 e.symm), hm.at_ h.hs.stands (by rintro g rfl; exact h.nd), h.hs.nb, h.hs.nm⟩, hr, h.nd⟩
theorem Py.openB (h : Py w0 b mb d S T wr) (x : Int) (hg : S.g < 1000000) : Calls Try.prog 10 #[.pointer (some ⟨b, 0, none⟩), .int .i64 x] wr fun e w' => e = .returned (.tuple #[.int .i64 (oh S x), .int .i64 (oe S x)]) ∧ Py w0 b mb d (oS S x) T w' :=
  (open_all h.hs.bk x hg).mono fun _ _ ⟨he, hb, hm⟩ => ⟨he, h.turnB (h.hs.turn hb hm) hm⟩
theorem Py.openR (h : Py w0 b mb d S T wr) (x : Int) (hg : T.g < 1000000) : Calls Try.prog 11 #[.pointer (some ⟨d, 0, none⟩), .int .i64 x] wr fun e w' => e = .returned (.tuple #[.int .i64 (oh T x), .int .i64 (oe T x)]) ∧ Py w0 b mb d S (oS T x) w' :=
  (ropen_rb h.rb x hg).mono fun _ _ ⟨he, hb, hm⟩ => ⟨he, h.turnR hb hm⟩
theorem Py.closeB (h : Py w0 b mb d S T wr) (k : Int) (hk : Kw k) : Calls Try.prog 12 #[.pointer (some ⟨b, 0, none⟩), .int .i64 k] wr fun e w' => e = .returned (.int .i64 (cd S k)) ∧ Py w0 b mb d (cl S k) T w' :=
  (close_bk h.hs.bk k hk).mono fun _ _ ⟨he, hb, hm⟩ => ⟨he, h.turnB (h.hs.turn hb hm) hm⟩
theorem Py.closeR (h : Py w0 b mb d S T wr) (k : Int) : Calls Try.prog 13 #[.pointer (some ⟨d, 0, none⟩), .int .i64 k] wr fun e w' => e = .returned (.int .i64 (cd T k)) ∧ Py w0 b mb d S (cl T k) w' :=
  (close_rb h.rb k).mono fun _ _ ⟨he, hb, hm⟩ => ⟨he, h.turnR hb hm⟩
/-- The document's new book. -/
theorem py_start {m : Int} (h : Bk wr b mb (st0 m)) (h1 : w0.heap.size ≤ b) (h2 : w0.heap.size ≤ mb) (h3 : At w0 wr) :
    Py w0 b mb wr.heap.size (st0 m) (st0 m) (wr.alloc (.cells #[.int .i64 m, .slice none 0 0, .slice none 0 0, .int .i64 0] 29)) :=
  ⟨⟨h.on ((At.start wr).alloc _), h3.alloc _, h1, h2⟩, Rb.rows (S := st0 m) (st0_ok m) (heap_alloc_new wr _) (IR.nil _) (IR.nil _), h3.size⟩
end

/-- What the two answer alike in one state. -/
theorem plays_tail {w0 wc : World} {b mb d : Nat} {S : St} (h : Py w0 b mb d S S wc) (y now : Int) (hy : Kw y) (hg : S.g ≤ 1000000) : ∃ (n : Nat) (t1 t2 lw : Int) (A : Option Addr) (c : Nat),
    Hid (Calls Try.prog 14 #[.pointer (some ⟨b, 0, none⟩), .int .i64 y] wc fun e w' => e = .returned (.tuple #[.int .i64 t1, .int .i64 t2]) ∧ wc = w') ∧
    Hid (Calls Try.prog 15 #[.pointer (some ⟨d, 0, none⟩), .int .i64 y] wc fun e w' => e = .returned (.tuple #[.int .i64 t1, .int .i64 t2]) ∧ wc = w') ∧
    Hid (∀ W, At wc W → Calls Try.prog 16 #[.pointer (some ⟨b, 0, none⟩), .int .i64 now] W (Gives (.int .i64 lw) W)) ∧
    Hid (∀ W, At wc W → Calls Try.prog 17 #[.pointer (some ⟨d, 0, none⟩), .int .i64 now] W fun e w' => e = .returned (.int .i64 lw) ∧ W = w') ∧
    Hid (∀ W, At wc W → Calls Try.prog 18 #[.pointer (some ⟨b, 0, none⟩)] W fun e w' => e = .returned (.int .i64 (n : Int)) ∧ W = w') ∧
    Hid (∀ W, At wc W → Calls Try.prog 20 #[.pointer (some ⟨b, 0, none⟩)] W fun e w' => ∃ A6 c6, e = .returned (.slice A6 n c6) ∧ IV w' A6 S.H ∧ At W w') ∧
    Hid (∀ W A6 c6, At wc W → IV W A6 S.H → Calls Try.prog 19 #[.slice A6 n c6, .slice A n c] W (Gives (.bool true) W)) ∧
    Hid (∀ W, At wc W → W.cell? ⟨d, 1, none⟩ = some (.slice A n c)) := by
  obtain ⟨A, c, B, e, hq⟩ := h.rb
  have hl := ok_len hq.ok
  refine ⟨S.H.length, tm S y, cd S y, lo S now, A, c, Lib.hid (at_bk h.hs.bk y hy), Lib.hid (at_rb h.rb y), Lib.hid fun W hW => low_bk (h.hs.bk.on hW) now, Lib.hid fun W hW => low_rb (h.rb.on hW) now, Lib.hid fun W hW => count_bk (h.hs.bk.on hW), Lib.hid fun W hW => ?_, Lib.hid fun W A6 c6 hW hi => ?_, Lib.hid fun W hW => ?_⟩
  · exact (list_bk (h.hs.bk.on hW)).mono fun e w' ⟨A6, c6, he, _, hi, _, ha⟩ => ⟨A6, c6, he, hi, ha⟩
  · exact ints_same A6 A S.H.length c6 c S.H W (by omega) rfl hi (hq.hs.on hW).iv
  · exact (cell_at (hW.keep hq.box) 1).trans rfl

theorem plays_long (M now : Int) (A : Option Addr) (u c : Nat) (h : ¬ (u ≤ 300 ∧ M ≤ 1000)) (w : World) : Calls Try.prog 3 #[.int .i64 M, .slice A u c, .int .i64 now] w (Gives (.bool true) w) := by
  have HG := Lib.hid awake_any
  by_cases h1 : u ≤ 300
  · have h5 : decide ((300 : Int) < (u : Int)) = false := decide_eq_false (by omega)
    have h6 : (1000 : Int) < M := by omega
    clear h
    go_enter Try.func3, Try.ntmps3
    go_wp2_with (go_at_call 8; refine (HG.out _).mono ?_; rintro e w' ⟨rfl, hb⟩)
    go_ret
    exact ⟨rfl, hb⟩
  · have h5 : decide ((300 : Int) < (u : Int)) = true := decide_eq_true (by omega)
    clear h
    go_enter Try.func3, Try.ntmps3
    go_wp2_with (go_at_call 8; refine (HG.out _).mono ?_; rintro e w' ⟨rfl, hb⟩)
    go_ret
    exact ⟨rfl, hb⟩

set_option maxHeartbeats 4000000 in
set_option maxRecDepth 100000 in
theorem plays_in (M now : Int) (A : Option Addr) (u c : Nat) (Z : List (Int × Int)) (h1 : u ≤ 300) (h2 : M ≤ 1000) (hl : Z.length = u) (hk : ∀ s ∈ Z, Kw s.2) (w : World) (hv : SV w A Z) : Calls Try.prog 3 #[.int .i64 M, .slice A u c, .int .i64 now] w (Gives (.bool true) w) := by
  have h5 : decide ((300 : Int) < (u : Int)) = false := decide_eq_false (by omega)
  have h6 : decide ((1000 : Int) < M) = false := decide_eq_false (by omega)
  have HL := Lib.hid hl
  have HK := Lib.hid hk
  have HV := Lib.hid hv
  have HG := Lib.hid awake_any
  clear hl hv hk h2
  go_enter Try.func3, Try.ntmps3
  go_wp2_with fail
  refine (new_any M w).mono ?_
  rintro e w1 ⟨b, mb, rfl, hb, hb1, hb2, hA⟩
  have HP0 := Lib.hid (py_start hb hb1 hb2 hA)
  clear hb hb1 hb2 hA
  obtain ⟨d, hd⟩ : ∃ d, d = w1.heap.size := ⟨_, rfl⟩
  rw [← hd] at HP0
  go_wp2
  rw [← hd]
  clear hd
  go_loopw [9] (fun c9 wr => ∃ (i : Nat) (S : St), i ≤ u ∧ c9 = .int .i64 (i : Int) ∧ Hid (Py w b mb d S S wr ∧ S.g ≤ i)) (fun c9 _ => u - (RowKit.intOf c9).toNat)
  case atStart => exact ⟨0, st0 M, by omega, rfl, Lib.hid ⟨HP0.out, Nat.le_refl _⟩⟩
  case round =>
    clear HP0
    obtain ⟨i, S, hi, rfl, HP⟩ := hrel
    by_cases hlt : i < u
    · obtain ⟨lb, off, rfl, hlb, hcs⟩ := HV.out.pos (by rw [HL.out]; omega)
      have HKW : Hid (Kw (Z.getD i (0, 0)).2) := Lib.hid (kw_step HK.out i)
      have HCX : Hid (∀ W, At w W → W.cell? ⟨lb, off + i * 2, none⟩ = some (.int .i64 (Z.getD i (0, 0)).1) ∧ W.cell? ⟨lb, off + i * 2 + 1, none⟩ = some (.int .i64 (Z.getD i (0, 0)).2)) := Lib.hid fun W hW =>
        ⟨(Below.cell hW (p := ⟨lb, off + i * 2, none⟩) hlb).trans (hcs i (by rw [HL.out]; exact hlt)).1, (Below.cell hW (p := ⟨lb, off + i * 2 + 1, none⟩) hlb).trans (hcs i (by rw [HL.out]; exact hlt)).2⟩
      obtain ⟨x, hx⟩ : ∃ x, x = (Z.getD i (0, 0)).1 := ⟨_, rfl⟩
      obtain ⟨y, hy⟩ : ∃ y, y = (Z.getD i (0, 0)).2 := ⟨_, rfl⟩
      rw [← hx, ← hy] at HCX
      rw [← hy] at HKW
      obtain ⟨hc, hc2⟩ := HCX.out wr HP.out.1.hs.stands
      have g1 : (0 : Int) ≤ (i : Int) := by omega
      have g2 : (i : Int) < (u : Int) := by omega
      clear hcs hlb hx hy
      go_upto_if 42 with fail
      go_cut [10, 11, 12, 13] from 31 to 142 (fun s10 s11 s12 s13 wx => ∃ S' : St, Hid (Py w b mb d S' S' wx ∧ S'.g ≤ i + 1))
      case first =>
        by_cases hx1 : x = 1
        · subst hx1
          obtain ⟨z1, z2, HOB, HOR⟩ : ∃ z1 z2 : Int, Hid (∀ T W, Py w b mb d S T W → Calls Try.prog 10 #[.pointer (some ⟨b, 0, none⟩), .int .i64 y] W fun e w' => e = .returned (.tuple #[.int .i64 z1, .int .i64 z2]) ∧ Py w b mb d (oS S y) T w') ∧ Hid (∀ T W, Py w b mb d T S W → Calls Try.prog 11 #[.pointer (some ⟨d, 0, none⟩), .int .i64 y] W fun e w' => e = .returned (.tuple #[.int .i64 z1, .int .i64 z2]) ∧ Py w b mb d T (oS S y) w') :=
            ⟨oh S y, oe S y, Lib.hid fun T W hW => hW.openB y (by have := HP.out.2; omega), Lib.hid fun T W hW => hW.openR y (by have := HP.out.2; omega)⟩
          have nb1 : (z1 != z1) = false := by simp
          have nb2 : (z2 != z2) = false := by simp
          have HG1 : Hid ((oS S y).g ≤ i + 1) := Lib.hid (by have h1 := oS_g S y; have h2 := HP.out.2; omega)
          go_wp2_with fail
          refine (HOB.out _ _ HP.out.1).mono ?_
          rintro e w3 ⟨rfl, hp3⟩
          have HP3 := Lib.hid hp3
          obtain ⟨-, hc3⟩ := HCX.out w3 hp3.hs.stands
          clear hp3
          go_wp2_with fail
          refine (HOR.out _ _ HP3.out).mono ?_
          rintro e w4 ⟨rfl, hp4⟩
          have HP4 := Lib.hid hp4
          clear hp4
          go_wp2
          go_meet
          case rel => exact ⟨_, Lib.hid ⟨HP4.out, HG1.out⟩⟩
        · obtain ⟨z, HCB, HCR⟩ : ∃ z : Int, Hid (∀ T W, Py w b mb d S T W → Calls Try.prog 12 #[.pointer (some ⟨b, 0, none⟩), .int .i64 y] W fun e w' => e = .returned (.int .i64 z) ∧ Py w b mb d (cl S y) T w') ∧ Hid (∀ T W, Py w b mb d T S W → Calls Try.prog 13 #[.pointer (some ⟨d, 0, none⟩), .int .i64 y] W fun e w' => e = .returned (.int .i64 z) ∧ Py w b mb d T (cl S y) w') :=
            ⟨cd S y, Lib.hid fun T W hW => hW.closeB y HKW.out, Lib.hid fun T W hW => hW.closeR y⟩
          have nb1 : (z != z) = false := by simp
          have hxb : (x == 1) = false := by simpa using hx1
          have HPD := Lib.hid (HP.out.1.on ((At.start wr).drewN 1))
          clear hx1
          go_wp2_with fail
          go_region_held3 (fun w' => w'.cell? ⟨lb, off + i * 2 + 1, none⟩ = some (.int .i64 y)) (go_keep)
            (first
              | (go_at_call 12; refine (HCB.out _ _ HQ3.out).mono ?_; rintro e w4 ⟨rfl, hp4⟩; obtain ⟨-, hc4⟩ := HCX.out w4 hp4.hs.stands; have HP4 := Lib.hid hp4; clear hp4)
              | (go_at_call 13; refine (HCR.out _ _ HP3.out).mono ?_; rintro e w4 ⟨rfl, hp4⟩; obtain ⟨-, hc4⟩ := HCX.out w4 hp4.hs.stands; have HP4 := Lib.hid hp4; clear hp4)
              | (go_at_call 12; refine (HCB.out _ _ HPD.out).mono ?_; rintro e w3 ⟨rfl, hp3⟩; obtain ⟨-, hc3⟩ := HCX.out w3 hp3.hs.stands; have HP3 := Lib.hid hp3; clear hp3)
              | (go_at_call 13; refine (HCR.out _ _ HPD.out).mono ?_; rintro e w3 ⟨rfl, hp3⟩; obtain ⟨-, hc3⟩ := HCX.out w3 hp3.hs.stands; have HQ3 := Lib.hid hp3; clear hp3))
          all_goals
            go_wp2
            go_meet
            case rel => exact ⟨_, Lib.hid ⟨HP4.out, by show S.g ≤ i + 1; have := HP.out.2; omega⟩⟩
      obtain ⟨S', HQ⟩ := hcut
      obtain ⟨-, hc2⟩ := HCX.out wc HQ.out.1.hs.stands
      obtain ⟨n, t1, t2, lw, A', c', HAB, HAR, HLB, HLR, HCN, HLS, HIS, HC1⟩ := plays_tail HQ.out.1 y now HKW.out (by have := HQ.out.2; omega)
      have nb1 : (t1 != t1) = false := by simp
      have nb2 : (t2 != t2) = false := by simp
      have nb3 : (lw != lw) = false := by simp
      have nb4 : ((n : Int) != (n : Int)) = false := by simp
      have HD0 : Hid (At wc wc.drew) := Lib.hid ((At.start wc).drewN 1)
      have hd1 := HC1.out wc (At.start wc)
      clear HP hc
      go_wp2_with fail
      refine HAB.out.mono ?_
      rintro e w' ⟨rfl, rfl⟩
      go_wp2_with fail
      refine HAR.out.mono ?_
      rintro e w' ⟨rfl, rfl⟩
      clear hc2 HAB HAR HCX HV HKW
      go_wp2_with fail
      go_region_held3 (fun w' => w'.cell? ⟨d, 1, none⟩ = some (.slice A' n c')) (go_keep)
        (first
          | (go_at_call 16; refine (HLB.out _ HD0.out).mono ?_; rintro e w5 ⟨rfl, ha5⟩; have HA5 := Lib.hid (HD0.out.next ha5); have hd5 := HC1.out w5 HA5.out; clear ha5)
          | (go_at_call 17; refine (HLR.out _ HA5.out).mono ?_; rintro e w' ⟨rfl, rfl⟩)
          | (go_at_call 17; refine (HLR.out _ HD0.out).mono ?_; rintro e w' ⟨rfl, rfl⟩)
          | (go_at_call 18; refine (HCN.out _ HA5.out).mono ?_; rintro e w' ⟨rfl, rfl⟩)
          | (go_at_call 20; refine (HLS.out _ HA5.out).mono ?_; rintro e w6 ⟨A6, c6, rfl, hi6, ha6⟩; have HA6 := Lib.hid (HA5.out.next ha6); have HI6 := Lib.hid hi6; have hd6 := HC1.out w6 HA6.out; clear ha6 hi6)
          | (go_at_call 19; refine (HIS.out _ _ _ HA6.out HI6.out).mono ?_; rintro e w7 ⟨rfl, ha7⟩; have HA7 := Lib.hid (HA6.out.next ha7); have hd7 := HC1.out w7 HA7.out; clear ha7))
      all_goals
        go_wp2
        go_roundw
        case rel => exact ⟨i + 1, S', by omega, by go_num, Lib.hid ⟨HQ.out.1.on HA7.out, HQ.out.2⟩⟩
        case measure => simp [RowKit.intOf]; omega
    · have HA := Lib.hid HP.out.1.hs.stands
      clear HP
      go_wp2_with fail
      refine (HG.out _).mono ?_
      rintro e w9 ⟨rfl, ha⟩
      have HA9 : Hid (At w w9) := Lib.hid (HA.out.next ha)
      clear ha
      go_wp2
      go_ret
      exact ⟨rfl, HA9.out⟩

theorem plays_any (M now : Int) (A : Option Addr) (u c : Nat) (Z : List (Int × Int)) (hl : Z.length = u) (hk : ∀ s ∈ Z, Kw s.2) (w : World) (hv : SV w A Z) : Calls Try.prog 3 #[.int .i64 M, .slice A u c, .int .i64 now] w (Gives (.bool true) w) := by
  by_cases h : u ≤ 300 ∧ M ≤ 1000
  · exact plays_in M now A u c Z h.1 h.2 hl hk w hv
  · exact plays_long M now A u c h w

end Go.Proofs.Ytjgmgkglpfcihaa
