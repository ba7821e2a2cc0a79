/- Proved: what the document's own EncodeBatch answers of a batch that may be: its blocks, in rows of its own. -/
import Derived.Test.YtgmekkenodiclaaRe2
import Derived.Test.YtgmekkenodiclaaRck
import Derived.Test.YtgmekkenodiclaaRrw
namespace Go.Proofs.Ytgmekkenodiclaa
open Go.RowKit

/-- Bytes, in a row of the call's own. -/
def ucs (x : Nat) : List Value := [bt x]
def ugd (_ : Nat → Prop) (_ : World) (_ : Nat) : Prop := True
theorem info_ub : (Try.prog.info? 5).map (fun i => (i.zero, i.size, i.bytes)) = some (some (.int .u8 0), 1, 1) := by kernel_rfl
theorem kU : Kn 39 5 1 1 ucs ugd := ⟨Try.underlying39, info_of info_ub rfl, by omega, by omega, fun _ => rfl, fun _ u hu => by rw [List.mem_singleton.1 hu]; rfl, fun _ _ _ _ _ _ => trivial, fun _ _ _ _ _ _ => trivial⟩
abbrev OU := @Ow Nat 5 1 ucs ugd
theorem ucs_map : ∀ L : List Nat, L.flatMap ucs = L.map bt
  | [] => rfl
  | x :: L => by rw [List.flatMap_cons, ucs_map L]; rfl
theorem OU.of {w0 w : World} {B n c g : Nat} {L : List Nat} (h : w.ownsRow B 5 1 (.slice (some ⟨g, 0, none⟩) n c) n (L.map bt)) (hB : w0.heap.size ≤ B) (hA : At w0 w) : OU w0 w (.slice (some ⟨g, 0, none⟩) n c) L := by
  have hl : L.length = n := by have := h.1; simpa using this
  refine ⟨?_, fun _ _ => trivial, fun g' hg => Nat.le_trans hB (h.lt g' hg).1, hA⟩
  rw [ucs_map, hl]
  exact own_low h (Nat.zero_le _)
theorem OU.bv {w0 w : World} {B : Option Addr} {n c : Nat} {L : List Nat} (h : OU w0 w (.slice B n c) L) : BV w B L := by
  have h1 := h.row
  rw [ucs_map] at h1
  obtain ⟨A', c', he, hc, hn, _⟩ := h.form
  injection he with e1 e2 e3
  rw [← e2] at h1
  exact (own_bv h1).2
theorem bytes_src {w : World} {A : Option Addr} {L : List Nat} (h : BV w A L) (h0 : 0 < L.length) : ∀ a, A = some a → ∀ j u, (L.flatMap ucs)[j]? = some u → w.cell? (a.add j) = some u := fun a ha j u hj => by
  obtain ⟨ad, he, _, hc⟩ := h.cells h0
  rw [ha] at he
  injection he with he
  subst he
  rw [ucs_map] at hj
  exact hc j u hj
/-- Rows of bytes, and bytes beside them. -/
structure Tb (w wr : World) (vA : Value) (lA : List Rl) (vE : Value) (lE : List Nat) : Prop where
  a : @Ow Rl 39 1 rcs (gx (ob vE) rgd) w wr vA lA
  e : OU w wr vE lE
theorem Tb.on {w wr wx : World} {vA vE : Value} {lA : List Rl} {lE : List Nat} (h : Tb w wr vA lA vE lE) (hA : At wr wx) : Tb w wx vA lA vE lE := ⟨h.a.on (kR.x _) hA, h.e.on kU hA⟩
theorem Tb.stepA {w wy w' : World} {vA vE vA' : Value} {lA lA' : List Rl} {lE : List Nat} (h : Tb w wy vA lA vE lE) (hG : Gr 39 1 rcs (gx (ob vE) rgd) w wy vA w' vA' lA') : Tb w w' vA' lA' vE lE := by
  refine ⟨hG.ow, ⟨⟨h.e.row.1, ?_⟩, fun _ _ => trivial, h.e.new, hG.ow.at_⟩⟩
  rcases h.e.row.2 with h1 | ⟨g, cap, cur, hv', hB, hh, hr⟩
  · exact Or.inl h1
  · exact Or.inr ⟨g, cap, cur, hv', hB, hG.mv.keep hh (own_two h.e.row h.a.row (by decide) g (by rw [hv']; rfl)), hr⟩
theorem Tb.stepE {w wy w' : World} {vA vE vE' : Value} {lA : List Rl} {lE lE' : List Nat} (h : Tb w wy vA lA vE lE) (hG : Gr 5 1 ucs ugd w wy vE w' vE' lE') : Tb w w' vA lA vE' lE' := by
  have h1 : @Ow Rl 39 1 rcs (gx (fun j => ob vE j ∨ j = wy.heap.size) rgd) w wy vA lA := ⟨h.a.row, fun x hx => kR.re _ _ _ _ (h.a.gd x hx) fun g hg ho => by
    rcases ho with ho | ho | ho
    · exact Or.inl ho
    · exact Or.inr ho
    · omega, h.a.new, h.a.at_⟩
  have h2 := h1.mvx kR hG.mv (fun g hg => Or.inl hg) (fun g hg => own_two h.e.row h.a.row (by decide) g hg) hG.ow.at_
  refine ⟨⟨h2.row, fun x hx => kR.re _ _ _ _ (h2.gd x hx) fun g _ ho => ?_, h2.new, h2.at_⟩, hG.ow⟩
  rcases ho with ho | ho
  · exact Or.inl ho
  · rcases hG.at_ with e | e
    · exact Or.inr (Or.inl (by unfold ob at ho ⊢; rw [← e]; exact ho))
    · unfold ob at ho
      rw [e] at ho
      injection ho with ho
      exact Or.inr (Or.inr ho.symm)
theorem Tb.fresh {w wr w' wy : World} {vA vE : Value} {lA : List Rl} {lE : List Nat} (h : Tb w wr vA lA vE lE) {g c : Nat} {L : List Nat} (hv : BV w' (some ⟨g, 0, none⟩) L) (hc : L.length ≤ c) (hg : wr.heap.size ≤ g) (hA : At w' wy) : gx (ob vE) rgd (ob vA) wy (L, some ⟨g, 0, none⟩, c) := by
  refine (kR.x _).mv _ _ _ _ (show gx (ob vE) rgd (ob vA) w' (L, some ⟨g, 0, none⟩, c) from ⟨?_, hc⟩) (Mv.of_below _ hA)
  rcases hv with h1 | ⟨b, o, he, h2, h4⟩
  · exact Or.inl h1
  · injection he with he
    injection he with e1 e2
    subst e1 e2
    refine Or.inr ⟨g, 0, rfl, h2, fun ho => ?_, h4⟩
    rcases ho with ho | ho
    · have := (h.a.row.lt g ho).2; omega
    · have := (h.e.row.lt g ho).2; omega
theorem fla_more {L : List Tx} {k : Nat} (h : k < L.length) : fla (L.take (k + 1)) = fla (L.take k) ++ (L.getD k txz).2 := by
  rw [tx_split h, fla_app]
  show _ ++ (_ ++ []) = _
  rw [List.append_nil]
theorem dr_app (e s : Nat) (P Q : List Pt) : dr e s (P ++ Q) = dr e s P ++ dr e s Q := by simp [dr]
theorem pt_split {P : List Pt} {j : Nat} (h : j < P.length) : P.take (j + 1) = P.take j ++ [P.getD j pz] := by
  rw [List.take_succ_eq_append_getElem h, List.getD_eq_getElem?_getD, List.getElem?_eq_getElem h]; rfl

set_option maxHeartbeats 1000000 in
set_option maxRecDepth 100000 in
theorem reb_no (s ep : Int) (A : Option Addr) (L : List Tx) (n c : Nat) (hn : L.length = n) (hn2 : n ≤ 1000000) (ht : tot L ≤ 1000000) (h : ¬ (Bk s L ∧ 0 ≤ ep ∧ ep ≤ 4294967295)) (w : World) (hv : TV w A L) :
    Calls Try.prog 25 #[.agg #[.int .i64 s, .slice A n c], .int .i64 ep] w fun x w' => x = .returned (.tuple #[.slice none 0 0, .int .i64 1]) ∧ At w w' := by
  obtain ⟨q, hq⟩ : ∃ q, w.heap.size = q := ⟨_, rfl⟩
  obtain ⟨wz, hwz⟩ : ∃ wz, w.alloc (.cells #[.int .i64 s, .slice A n c] 27) = wz := ⟨_, rfl⟩
  have HAZ : Hid (At w wz) := Lib.hid (by rw [← hwz]; exact (At.start w).alloc _)
  have HQ : Hid (Bb wz q s (.slice A n c)) := Lib.hid (by rw [← hwz, ← hq]; exact bb_new _ _ _)
  have HCK := Lib.hid (rcheck_any s A L n c hn hn2 ht wz (hv.on HAZ.out))
  obtain ⟨b0, b1⟩ := HQ.out.cells
  clear hn hv
  by_cases hb : Bk s L
  · have h2 := HCK.out
    rw [kd_yes hb] at h2
    have HCK := Lib.hid h2
    have h3 : ¬ (0 ≤ ep ∧ ep ≤ 4294967295) := fun h4 => h ⟨hb, h4⟩
    clear h h2 hb
    by_cases e0 : ep < 0
    · have z1 : decide (ep < 0) = true := decide_eq_true e0
      clear h3
      go_enter Try.func25, Try.ntmps25
      go_wp2_with fail
      refine HCK.out.mono ?_
      rintro e w1 ⟨rfl, hA1⟩
      have HA1 := Lib.hid hA1
      clear hA1
      go_wp2_with fail
      go_ret2
      exact ⟨rfl, HAZ.out.next HA1.out⟩
    · have z1 : decide (ep < 0) = false := decide_eq_false e0
      have z2 : decide (4294967295 < ep) = true := decide_eq_true (by omega)
      clear h3
      go_enter Try.func25, Try.ntmps25
      go_wp2_with fail
      refine HCK.out.mono ?_
      rintro e w1 ⟨rfl, hA1⟩
      have HA1 := Lib.hid hA1
      clear hA1
      go_wp2_with fail
      go_ret2
      exact ⟨rfl, HAZ.out.next HA1.out⟩
  · have h2 := HCK.out
    rw [kd_no hb] at h2
    have HCK := Lib.hid h2
    clear h h2 hb
    go_enter Try.func25, Try.ntmps25
    go_wp2_with fail
    refine HCK.out.mono ?_
    rintro e w1 ⟨rfl, hA1⟩
    have HA1 := Lib.hid hA1
    clear hA1
    go_wp2_with fail
    go_ret2
    exact ⟨rfl, HAZ.out.next HA1.out⟩

set_option maxHeartbeats 8000000 in
set_option maxRecDepth 100000 in
theorem reb_yes (sn en_ : Nat) (A : Option Addr) (L : List Tx) (n c : Nat) (hn : L.length = n) (hb : Bk (sn : Int) L) (hpb : Pb (fla L)) (he : en_ < 4294967296) (t : Nat) (htt : tot L + 1 = t) (w : World) (hv : TV w A L) :
    Calls Try.prog 25 #[.agg #[.int .i64 (sn : Int), .slice A n c], .int .i64 (en_ : Int)] w fun x w' => ∃ (B : Option Addr) (d : Nat) (l : List Rl), x = .returned (.tuple #[.slice B t d, .int .i64 0]) ∧ l.length = t ∧ l.map (·.1) = eb en_ sn L ∧ OR w w' (.slice B t d) l := by
  have HN := Lib.hid hn
  have HBK := Lib.hid hb
  have HPB := Lib.hid hpb
  have hn8 : n ≤ 8 := by rw [← hn]; exact hb.n8
  have hn1 : 1 ≤ n := by rw [← hn]; exact hb.ne
  have ht32 := hb.n32
  obtain ⟨q, hq⟩ : ∃ q, w.heap.size = q := ⟨_, rfl⟩
  obtain ⟨wz, hwz⟩ : ∃ wz, w.alloc (.cells #[.int .i64 (sn : Int), .slice A n c] 27) = wz := ⟨_, rfl⟩
  have HAZ : Hid (At w wz) := Lib.hid (by rw [← hwz]; exact (At.start w).alloc _)
  have HQ : Hid (Bb wz q (sn : Int) (.slice A n c)) := Lib.hid (by rw [← hwz, ← hq]; exact bb_new _ _ _)
  have HV := Lib.hid (hv.on HAZ.out)
  have h2 := rcheck_any (sn : Int) A L n c hn (by omega) (by omega) wz HV.out
  rw [kd_yes hb] at h2
  have HCK := Lib.hid h2
  obtain ⟨b0, b1⟩ := HQ.out.cells
  have ht0 := hb.t0
  obtain ⟨v, hv0⟩ : ∃ v : Nat, (v : Int) = t0 L := ⟨(t0 L).toNat, by omega⟩
  have HV0 := Lib.hid hv0
  obtain ⟨gb, o, rfl, hg, hc⟩ := HV.out.pos (by omega)
  have hk0 := (hc 0 (by omega)).1
  rw [Nat.zero_mul, Nat.add_zero] at hk0
  have HK0 : Hid (∀ W, At wz W → W.cell? ⟨gb, o, none⟩ = some (.int .i64 (v : Int))) := Lib.hid fun W hW => (Below.cell hW (p := ⟨gb, o, none⟩) hg).trans (by rw [hv0]; exact hk0)
  have v64 : IntKind.u64.wrap (v : Int) = (v : Int) := by rw [IntKind.wrap_u64]; omega
  have n8w : IntKind.u8.wrap (n : Int) = (n : Int) := by rw [IntKind.wrap_u8]; omega
  have hnp : (0 : Int) < (n : Int) := by omega
  have z1 : decide ((en_ : Int) < 0) = false := decide_eq_false (by omega)
  have z2 : decide (4294967295 < (en_ : Int)) = false := decide_eq_false (by omega)
  have HC : Hid (∀ W, At wz W → W.cell? ⟨q, 0, none⟩ = some (.int .i64 (sn : Int)) ∧ W.cell? ⟨q, 1, none⟩ = some (.slice (some ⟨gb, o, none⟩) n c)) := Lib.hid fun W hW => (HQ.out.on hW).cells
  have HTT := Lib.hid htt
  have HP8 := Lib.hid (fun W => rput_o v 8 (by omega) (by omega) W)
  have HE32 := Lib.hid he
  have HT32 := Lib.hid ht32
  clear hn hb hpb h2 hv hc hg hk0 ht0 hv0 htt he
  go_enter Try.func25, Try.ntmps25
  go_wp2_with fail
  refine HCK.out.mono ?_
  rintro x w1 ⟨rfl, hA1⟩
  have HA1 : Hid (At wz w1) := Lib.hid hA1
  clear hA1 b0 b1
  obtain ⟨b0, b1⟩ := HC.out w1 HA1.out
  have k0 := HK0.out w1 HA1.out
  go_wp2_with fail
  refine (HP8.out _).mono ?_
  rintro x w2 ⟨g2, c2, rfl, ho2, hA2⟩
  have HA2 : Hid (At wz w2) := Lib.hid (HA1.out.next hA2)
  have HE2 : Hid (OU wz w2 (.slice (some ⟨g2, 0, none⟩) 8 c2) (pt 8 v)) := Lib.hid (OU.of ho2 HA1.out.size HA2.out)
  clear ho2 hA2 b0 b1 k0
  obtain ⟨b0, b1⟩ := HC.out w2 HA2.out
  go_wp2_with (at_builtin; refine Ow.append kU rfl (HE2.out.on kU ((At.start w2).alloc (.cells #[.int .u8 (n : Int)] 5))) (.tmp 34) (.tmp 39) rfl 8 1 9 (pt_len 8 v) rfl (some ⟨w2.heap.size, 0, none⟩) 1 [n] rfl (fun _ _ => trivial) rfl (fun h => by cases h) (one_laid w2 _ n #[.int .u8 (n : Int)] rfl) rfl (by omega) ?_; intro A3 c3 w3 HG3)
  go_loopw [7, 8] (fun c7 c8 wr => ∃ (k m d : Nat) (B : Option Addr) (lE : List Nat), k ≤ n ∧ c8 = .int .i64 (k : Int) ∧ c7 = .slice B m d ∧ m ≤ 1000 ∧ Hid (lE.length = m ∧ m = 9 + 2 * k ∧ lE = (pt 8 v ++ [n]) ++ gp (t0 L) (L.take k)) ∧ Hid (OU wz wr (.slice B m d) lE)) (fun _ c8 _ => n - (RowKit.intOf c8).toNat)
  case atStart => exact ⟨0, 9, c3, A3, _, Nat.zero_le _, rfl, rfl, by omega, Lib.hid ⟨by rw [List.length_append, pt_len]; rfl, rfl, by simp [gp]⟩, Lib.hid HG3.out.ow⟩
  case round =>
    clear b0 b1
    obtain ⟨k, m, d, B, lE, hk, rfl, rfl, hm, HL, HO⟩ := hrel
    have HA : Hid (At wz wr) := Lib.hid HO.out.at_
    obtain ⟨b0, b1⟩ := HC.out wr HA.out
    by_cases hlt : k < n
    · have hkL : k < L.length := by rw [HN.out]; exact hlt
      obtain ⟨gb', o', he, hg, hc⟩ := (HV.out.on HA.out).pos (by omega)
      injection he with he
      injection he with he1 he2
      subst he1 he2
      obtain ⟨k1, _⟩ := hc k hkL
      obtain ⟨u, hu, hu1, hu2, hu3⟩ := gap_of HBK.out hkL
      have htm := HBK.out.time hkL
      have HU2 := Lib.hid hu2
      have HP2 := Lib.hid (fun W => rput_any u 2 (by omega) (by omega) W)
      have u64 : IntKind.u64.wrap (u : Int) = (u : Int) := by rw [IntKind.wrap_u64]; omega
      have hm2 : m + 2 ≤ 1000000 := by omega
      have g1 : (0 : Int) ≤ (k : Int) := by omega
      have g2 : (k : Int) < (n : Int) := by omega
      by_cases e0 : k = 0
      · have y1 : decide ((0 : Int) < (k : Int)) = false := decide_eq_false (by omega)
        have y1b : decide (0 < k) = false := decide_eq_false (by omega)
        have hu0 : u = 0 := by
          rw [lt_all _ _ _ hkL, if_pos e0] at hu1
          have : (L.getD k txz).1 = t0 L := by rw [e0]; rfl
          omega
        subst hu0
        have HP0 : Hid (∀ W, Calls Try.prog 44 #[.int .u64 0, .int .i64 2] W (Lays (pt 2 0) W)) := Lib.hid fun W => HP2.out W
        clear hc hg k1 hu1 hu2 hu3 htm hkL e0
        go_wp2_with fail
        refine (HP0.out _).mono ?_
        rintro x w4 ⟨g4, c4, rfl, h4, v4, a4⟩
        rw [pt_len] at h4 ⊢
        have HO4 := Lib.hid (HO.out.on kU a4)
        have HV4 := Lib.hid v4
        clear v4 a4 h4
        go_wp2_with (at_builtin; refine Ow.append kU rfl HO4.out (.tmp 64) (.tmp 67) rfl m 2 (m + 2) HL.out.1 rfl (some ⟨g4, 0, none⟩) c4 (pt 2 0) rfl (fun _ _ => trivial) (pt_len 2 0) (fun h => by cases h) (bytes_src HV4.out (by rw [pt_len]; omega)) rfl hm2 ?_; intro A5 c5 w5 HG5)
        go_roundw
        case rel => exact ⟨k + 1, m + 2, c5, A5, _, by omega, by go_num, rfl, by have := HL.out.2.1; omega, Lib.hid ⟨by rw [List.length_append, pt_len, HL.out.1], by have := HL.out.2.1; omega, by rw [HL.out.2.2, HU2.out, List.append_assoc]⟩, Lib.hid HG5.out.ow⟩
        case measure => simp [RowKit.intOf]; omega
      · have y1 : decide ((0 : Int) < (k : Int)) = true := decide_eq_true (by omega)
        have y1b : decide (0 < k) = true := decide_eq_true (by omega)
        obtain ⟨p, hp⟩ : ∃ p, p + 1 = k := ⟨k - 1, by omega⟩
        have k2 := (hc p (by omega)).1
        have htm2 := HBK.out.time (show p < L.length by omega)
        rw [lt_all _ _ _ hkL, if_neg e0, show k - 1 = p by omega] at hu1
        obtain ⟨x, hx⟩ : ∃ x, x = (L.getD k txz).1 := ⟨_, rfl⟩
        obtain ⟨y, hy⟩ : ∃ y, y = (L.getD p txz).1 := ⟨_, rfl⟩
        rw [← hx] at k1 hu1 htm
        rw [← hy] at k2 hu1 htm2
        have hwrap : IntKind.i64.wrap (x - y) = (u : Int) := by rw [IntWalk.i64_in _ (by omega)]; exact hu1
        have hp1 : (k : Int) - 1 = (p : Int) := by omega
        have hp2 : IntKind.i64.wrap (p : Int) = (p : Int) := IntWalk.i64_in _ (by omega)
        have g3 : (0 : Int) ≤ (p : Int) := by omega
        have g4 : (p : Int) < (n : Int) := by omega
        have HRZ : Hid (∀ z, At wr (wr.drewN z)) := Lib.hid fun z => (At.start wr).drewN z
        clear hc hg hu2 hu3 hx hy hkL e0 hp htm htm2 hu1
        go_wp2_with fail
        go_quiet (fail)
        go_wp2_with fail
        refine (HP2.out _).mono ?_
        rintro x w4 ⟨g5, c4, rfl, h4, v4, a4⟩
        rw [pt_len] at h4 ⊢
        have HO4 := Lib.hid (HO.out.on kU ((HRZ.out _).next a4))
        have HV4 := Lib.hid v4
        clear v4 a4 h4
        go_wp2_with (at_builtin; refine Ow.append kU rfl HO4.out (.tmp 64) (.tmp 67) rfl m 2 (m + 2) HL.out.1 rfl (some ⟨g5, 0, none⟩) c4 (pt 2 u) rfl (fun _ _ => trivial) (pt_len 2 u) (fun h => by cases h) (bytes_src HV4.out (by rw [pt_len]; omega)) rfl hm2 ?_; intro A5 c5 w5 HG5)
        go_roundw
        case rel => exact ⟨k + 1, m + 2, c5, A5, _, by omega, by go_num, rfl, by have := HL.out.2.1; omega, Lib.hid ⟨by rw [List.length_append, pt_len, HL.out.1], by have := HL.out.2.1; omega, by rw [HL.out.2.2, HU2.out, List.append_assoc]⟩, Lib.hid HG5.out.ow⟩
        case measure => simp [RowKit.intOf]; omega
    · have hkn : k = n := by omega
      subst hkn
      have HX : Hid (lE.length = m ∧ m = 9 + 2 * k ∧ lE ++ cn L = bd L) := Lib.hid ⟨HL.out.1, HL.out.2.1, by
        have h1 := HL.out.2.2
        rw [List.take_of_length_le (Nat.le_of_eq HN.out)] at h1
        rw [h1, show v = (t0 L).toNat by have := HV0.out; omega, ← HN.out, bd]
        simp⟩
      have HT0 : Hid (Tb wz wr (.slice none 0 0) [] (.slice B m d) lE) := Lib.hid ⟨Ow.nil' HA.out, HO.out⟩
      obtain ⟨X, hX⟩ : ∃ X, X = lE := ⟨_, rfl⟩
      have HX2 : Hid (X.length = 9 + 2 * k ∧ X ++ cn L = bd L) := Lib.hid (by rw [hX]; exact ⟨by rw [HX.out.1, HX.out.2.1], HX.out.2.2⟩)
      have HXE := Lib.hid hX
      have HM0 := Lib.hid HX.out.2.1
      have HLE := Lib.hid HX.out.1
      clear hX HL HO HX
      go_wp2_with fail
      go_loopw [6, 7, 10] (fun c6 c7 c10 wr => ∃ (i m d a e : Nat) (B6 B : Option Addr) (lA : List Rl) (lE : List Nat), i ≤ k ∧ c10 = .int .i64 (i : Int) ∧ c6 = .slice B6 a e ∧ c7 = .slice B m d ∧ m ≤ 1000 ∧ a ≤ 32 ∧ Hid (lE.length = m ∧ m = 9 + 2 * k + i ∧ lE = X ++ (cn L).take i) ∧ Hid (lA.length = a ∧ a = tot (L.take i) ∧ lA.map (·.1) = dr en_ sn (fla (L.take i))) ∧ Hid (Tb wz wr (.slice B6 a e) lA (.slice B m d) lE)) (fun _ _ c10 _ => k - (RowKit.intOf c10).toNat)
      case atStart => exact ⟨0, m, d, 0, 0, none, B, [], lE, Nat.zero_le _, rfl, rfl, rfl, hm, by omega, Lib.hid ⟨HLE.out, by have := HM0.out; omega, by rw [← HXE.out]; simp⟩, Lib.hid ⟨rfl, rfl, by simp [dr, fla_nil]⟩, HT0⟩
      case round =>
        clear b0 b1 HT0 HXE HM0 HLE
        clear hm
        obtain ⟨i, m, d, a, e, B6, B, lA, lE, hi, rfl, rfl, rfl, hm, ha, HL, HR, HT⟩ := hrel
        have HA : Hid (At wz wr) := Lib.hid HT.out.e.at_
        obtain ⟨b0, b1⟩ := HC.out wr HA.out
        by_cases hlt : i < k
        · have hiL : i < L.length := by rw [HN.out]; exact hlt
          obtain ⟨gb', o', he, hg, hc⟩ := HV.out.pos (by omega)
          injection he with he
          injection he with he1 he2
          subst he1 he2
          obtain ⟨_, Bp, cb, k2, hpv⟩ := hc i hiL
          have h16 := HBK.out.n16 _ (tx_mem hiL)
          have hcm := cn_more hiL
          have hfl := fla_more hiL
          have htk := tot_take hiL
          have htl := tot_le L (i + 1)
          have hmem : ∀ x ∈ (L.getD i txz).2, x ∈ fla L := fun x hx => fla_mem.2 ⟨_, tx_mem hiL, hx⟩
          obtain ⟨P, hP⟩ : ∃ P, P = (L.getD i txz).2 := ⟨_, rfl⟩
          rw [← hP] at k2 hpv h16 hcm hfl htk hmem
          obtain ⟨p, hp⟩ : ∃ p, P.length = p := ⟨_, rfl⟩
          rw [hp] at k2 h16 hcm htk
          have HCM := Lib.hid hcm
          have HFL := Lib.hid hfl
          have HTK := Lib.hid htk
          have HTL := Lib.hid htl
          have HPM := Lib.hid hmem
          have HP := Lib.hid hp
          have HPV : Hid (∀ W, At wz W → PV W Bp P) := Lib.hid fun W hW => hpv.on hW
          have HK2 : Hid (∀ W, At wz W → W.cell? ⟨gb, o + i * 2 + 1, none⟩ = some (.slice Bp p cb)) := Lib.hid fun W hW => (Below.cell hW (p := ⟨gb, o + i * 2 + 1, none⟩) hg).trans k2
          have f2 := HK2.out wr HA.out
          have hu8 : IntKind.u8.wrap (p : Int) = (p : Int) := by rw [IntKind.wrap_u8]; omega
          have g1 : (0 : Int) ≤ (i : Int) := by omega
          have g2 : (i : Int) < (k : Int) := by omega
          have hm1 : m + 1 ≤ 1000000 := by omega
          have HTY := Lib.hid (HT.out.on ((At.start wr).alloc (.cells #[.int .u8 (p : Int)] 5)))
          clear hc hg k2 hpv hcm hfl htk htl hmem hP hp hiL
          go_wp2_with (at_builtin; refine Ow.append kU rfl HTY.out.e (.tmp 76) (.tmp 85) rfl m 1 (m + 1) HL.out.1 rfl (some ⟨wr.heap.size, 0, none⟩) 1 [p] rfl (fun _ _ => trivial) rfl (fun h => by cases h) (one_laid wr _ p #[.int .u8 (p : Int)] rfl) rfl hm1 ?_; intro A5 c5 w5 HG5)
          have HT5 := Lib.hid (HTY.out.stepE HG5.out)
          have HA5 : Hid (At wz w5) := Lib.hid HT5.out.e.at_
          clear b0 b1 f2
          go_loopw [6, 11] (fun c6 c11 wr => ∃ (j a2 e : Nat) (B6 : Option Addr) (lA2 : List Rl), j ≤ p ∧ c11 = .int .i64 (j : Int) ∧ c6 = .slice B6 a2 e ∧ a2 ≤ 32 ∧ Hid (lA2.length = a2 ∧ a2 = a + j ∧ lA2.map (·.1) = dr en_ sn (fla (L.take i)) ++ dr en_ sn (P.take j)) ∧ Hid (Tb wz wr (.slice B6 a2 e) lA2 (.slice A5 (m + 1) c5) (lE ++ [p]))) (fun _ c11 _ => p - (RowKit.intOf c11).toNat)
          case atStart => exact ⟨0, a, e, B6, lA, Nat.zero_le _, rfl, rfl, ha, Lib.hid ⟨HR.out.1, rfl, by rw [HR.out.2.2]; simp [dr]⟩, HT5⟩
          case round =>
            obtain ⟨j, a2, e2, B62, lA2, hj, rfl, rfl, ha2, HR2, HT2⟩ := hrel
            have HA2 : Hid (At wz wr) := Lib.hid HT2.out.e.at_
            obtain ⟨b0, b1⟩ := HC.out wr HA2.out
            have f2 := HK2.out wr HA2.out
            by_cases hjp : j < p
            · have hjP : j < P.length := by rw [HP.out]; exact hjp
              obtain ⟨gp, op, rfl, hgp, hcp⟩ := (HPV.out wz (At.start wz)).pos (by omega)
              obtain ⟨p1, Bd, cd, p2, hbv⟩ := hcp j hjP
              have hpm := HPM.out _ (pt_mem hjP)
              have hmay := may_d HBK.out HPB.out HE32.out hpm
              have hspl := pt_split hjP
              obtain ⟨y, hy, hyP⟩ := fla_mem.1 hpm
              have hlb := HBK.out.lba y hy _ hyP
              have h40 := HBK.out.n40 y hy _ hyP
              obtain ⟨D, hD⟩ : ∃ D, D = (P.getD j pz).2 := ⟨_, rfl⟩
              obtain ⟨lb, hlb2⟩ : ∃ lb : Nat, lb = (P.getD j pz).1.toNat := ⟨_, rfl⟩
              have hlb3 : (P.getD j pz).1 = (lb : Int) := by omega
              have hdr : dr en_ sn [P.getD j pz] = [en 1 en_ sn lb D] := by rw [hD, hlb2]; rfl
              rw [h40] at p2
              rw [hlb3] at p1
              rw [← hlb2, ← hD] at hmay
              rw [← hD] at hbv h40
              obtain ⟨gd, od, rfl, _, _⟩ := hbv.pos (by omega)
              have hEL := en_len (k := 1) (e := en_) (s := sn) (l := lb) (L := D) hmay.n
              have hAd : At wz wr.drew := HA2.out.drewN 1
              have HEN : Hid (Calls Try.prog 42 #[.agg #[.int .i64 1, .int .i64 (en_ : Int), .int .i64 (sn : Int), .int .i64 (lb : Int), .slice (some ⟨gd, od, none⟩) 40 cd]] wr.drew fun x w' => ∃ g c', x = .returned (.tuple #[.slice (some ⟨g, 0, none⟩) 64 c', .int .i64 0]) ∧ BV w' (some ⟨g, 0, none⟩) (en 1 en_ sn lb D) ∧ At wr.drew w' ∧ 64 ≤ c' ∧ wr.drew.heap.size ≤ g) := Lib.hid (rencode_yes2 1 en_ sn lb (some ⟨gd, od, none⟩) 40 cd D hmay h40 (fun h => by cases h) wr.drew (hbv.below hAd))
              have HDR := Lib.hid hdr
              have HSP := Lib.hid hspl
              have HEL := Lib.hid hEL
              have HCP : Hid (∀ W, At wz W → W.cell? ⟨gp, op + j * 2, none⟩ = some (.int .i64 (lb : Int)) ∧ W.cell? ⟨gp, op + j * 2 + 1, none⟩ = some (.slice (some ⟨gd, od, none⟩) 40 cd)) := Lib.hid fun W hW => ⟨(Below.cell hW (p := ⟨gp, op + j * 2, none⟩) hgp).trans p1, (Below.cell hW (p := ⟨gp, op + j * 2 + 1, none⟩) hgp).trans p2⟩
              obtain ⟨q1, q2⟩ := HCP.out wr HA2.out
              have g3 : (0 : Int) ≤ (j : Int) := by omega
              have g4 : (j : Int) < (p : Int) := by omega
              have ha6 : a2 + 1 ≤ 1000000 := by omega
              clear hcp hpm hmay hspl hy hyP hlb h40 hD hlb2 hlb3 hdr hbv p1 p2 hEL hAd hgp hjP
              go_wp2_with fail
              go_region_held3 (fun w' => w'.cell? ⟨q, 0, none⟩ = some (.int .i64 (sn : Int)) ∧ w'.cell? ⟨q, 1, none⟩ = some (.slice (some ⟨gb, o, none⟩) k c) ∧ w'.cell? ⟨gb, o + i * 2 + 1, none⟩ = some (.slice (some ⟨gp, op, none⟩) p cb) ∧ w'.cell? ⟨gp, op + j * 2, none⟩ = some (.int .i64 (lb : Int)) ∧ w'.cell? ⟨gp, op + j * 2 + 1, none⟩ = some (.slice (some ⟨gd, od, none⟩) 40 cd)) (first | go_keep | exact HS4.out)
                (first
                  | (go_at_call 42; (with_reducible refine HEN.out.mono ?_); rintro x w6 ⟨g6, c6, rfl, hv6, hA6, hc6, hg6⟩; have HA6 : Hid (At wr w6) := Lib.hid (((At.start wr).drewN 1).next hA6); have HA6z : Hid (At wz w6) := Lib.hid (HA2.out.next HA6.out); have HS4 := Lib.hid (And.intro (HC.out w6 HA6z.out).1 (And.intro (HC.out w6 HA6z.out).2 (And.intro (HK2.out w6 HA6z.out) (HCP.out w6 HA6z.out)))); have HV6 := Lib.hid (And.intro hv6 (And.intro hc6 (show wr.heap.size ≤ g6 from hg6))); clear hv6 hc6 hg6 hA6))
              all_goals
                go_wp2_with (at_builtin; refine Ow.append (kR.x _) rfl ((HT2.out.on HA6.out).on ((At.start w6).alloc (.cells #[.slice (some ⟨g6, 0, none⟩) 64 c6] 39))).a (.tmp 126) (.tmp 128) rfl a2 1 (a2 + 1) HR2.out.1 rfl (some ⟨w6.heap.size, 0, none⟩) 1 [(en 1 en_ sn lb D, some ⟨g6, 0, none⟩, c6)] rfl (fun x hx => by rw [List.mem_singleton.1 hx]; exact HT2.out.fresh HV6.out.1 (by rw [HEL.out]; exact HV6.out.2.1) HV6.out.2.2 ((At.start w6).alloc _)) rfl (fun h => by cases h) (one_laid w6 _ _ #[.slice (some ⟨g6, 0, none⟩) 64 c6] (by show [Value.slice _ _ _] = _; rw [HEL.out])) rfl ha6 ?_; intro A9 c9 w9 HG9)
                go_roundw
                case rel => exact ⟨j + 1, a2 + 1, c9, A9, _, by omega, by go_num, rfl, by have h1 := HR2.out.2.1; have h2 := HTK.out; have h3 := HTL.out; have h4 := HR.out.2.1; have h5 := HT32.out; omega, Lib.hid ⟨by rw [List.length_append, HR2.out.1]; rfl, by have h1 := HR2.out.2.1; omega, by rw [List.map_append, HR2.out.2.2, HSP.out, dr_app, HDR.out, List.append_assoc]; rfl⟩, Lib.hid (((HT2.out.on HA6.out).on ((At.start w6).alloc _)).stepA HG9.out)⟩
                case measure => simp [RowKit.intOf]; omega
            · have hjp2 : j = p := by omega
              subst hjp2
              go_wp2_with fail
              go_roundw
              case rel => exact ⟨i + 1, m + 1, c5, a2, e2, B62, A5, lA2, _, by omega, by go_num, rfl, rfl, by have := HL.out.2.1; omega, ha2, Lib.hid ⟨by rw [List.length_append, HL.out.1]; rfl, by have := HL.out.2.1; omega, by rw [HL.out.2.2, HCM.out, List.append_assoc]⟩, Lib.hid ⟨HR2.out.1, by have h1 := HR2.out.2.1; have h2 := HTK.out; have h3 := HR.out.2.1; omega, by rw [HR2.out.2.2, HFL.out, dr_app, List.take_of_length_le (Nat.le_of_eq HP.out)]⟩, HT2⟩
              case measure => simp [RowKit.intOf]; omega
        · have hik : i = k := by omega
          subst hik
          have HB : Hid (lE = bd L ∧ m = 9 + 3 * i) := Lib.hid ⟨by rw [HL.out.2.2, List.take_of_length_le (by rw [cn_len]; exact Nat.le_of_eq HN.out)]; exact HX2.out.2, by have := HL.out.2.1; omega⟩
          have HRR : Hid (a = tot L ∧ lA.map (·.1) = dr en_ sn (fla L)) := Lib.hid (by
            have h1 := HR.out.2.1
            have h2 := HR.out.2.2
            rw [List.take_of_length_le (Nat.le_of_eq HN.out)] at h1 h2
            exact ⟨h1, h2⟩)
          have hmay := may_c HBK.out HE32.out
          rw [← HRR.out.1] at hmay
          have hEL := en_len (k := 2) (e := en_) (s := sn) (l := a) (L := bd L) hmay.n
          have HBV := Lib.hid (OU.bv HT.out.e)
          have HEN : Hid (Calls Try.prog 42 #[.agg #[.int .i64 2, .int .i64 (en_ : Int), .int .i64 (sn : Int), .int .i64 (a : Int), .slice B m d]] wr fun x w' => ∃ g c', x = .returned (.tuple #[.slice (some ⟨g, 0, none⟩) 64 c', .int .i64 0]) ∧ BV w' (some ⟨g, 0, none⟩) (en 2 en_ sn a (bd L)) ∧ At wr w' ∧ 64 ≤ c' ∧ wr.heap.size ≤ g) := Lib.hid (rencode_yes2 2 en_ sn a B m d (bd L) hmay (by rw [← HB.out.1, HL.out.1]) (fun h => by
            obtain ⟨A', c', he', _, hz, _⟩ := HT.out.e.form
            injection he' with e1 e2 e3
            rw [e2, e3]; exact hz (e1.symm.trans h)) wr (by rw [← HB.out.1]; exact HBV.out))
          have HEL := Lib.hid hEL
          have ha1 : a + 1 = t := by have h1 := HRR.out.1; have h2 := HTT.out; omega
          have ht6 : t ≤ 1000000 := by omega
          clear hmay hEL
          go_wp2_with fail
          refine HEN.out.mono ?_
          rintro x w6 ⟨g6, c6, rfl, hv6, hA6, hc6, hg6⟩
          have HA6 := Lib.hid hA6
          have HV6 := Lib.hid (And.intro hv6 (And.intro hc6 hg6))
          clear hv6 hA6 hc6 hg6 b0 b1
          go_wp2_with (at_builtin; refine Ow.append (kR.x _) rfl ((HT.out.on HA6.out).on ((At.start w6).alloc (.cells #[.slice (some ⟨g6, 0, none⟩) 64 c6] 39))).a (.tmp 141) (.tmp 143) rfl a 1 t HR.out.1 rfl (some ⟨w6.heap.size, 0, none⟩) 1 [(en 2 en_ sn a (bd L), some ⟨g6, 0, none⟩, c6)] rfl (fun x hx => by rw [List.mem_singleton.1 hx]; exact HT.out.fresh HV6.out.1 (by rw [HEL.out]; exact HV6.out.2.1) HV6.out.2.2 ((At.start w6).alloc _)) rfl (fun h => by cases h) (one_laid w6 _ _ #[.slice (some ⟨g6, 0, none⟩) 64 c6] (by show [Value.slice _ _ _] = _; rw [HEL.out])) ha1 ht6 ?_; intro A9 c9 w9 HG9)
          try rw [Exit.noGoto_ret]
          go_ret2
          exact ⟨A9, c9, _, rfl, by rw [List.length_append, HR.out.1]; exact ha1, by rw [List.map_append, HRR.out.2, HRR.out.1]; rfl, (HG9.out.ow.weak kR).base HAZ.out⟩

end Go.Proofs.Ytgmekkenodiclaa
