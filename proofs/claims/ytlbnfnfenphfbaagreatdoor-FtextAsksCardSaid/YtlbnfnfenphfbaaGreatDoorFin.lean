/- Proved: the landed readFrac and finite read a text as the plain functions 'rfL' and 'finL' of its bytes say; what is made lies in new blocks. -/
import Derived.Test.YtlbnfnfenphfbaaGreatDoorPu
import Derived.Test.YtlbnfnfenphfbaaGreatDoorText
namespace Go.Proofs.YtlbnfnfenphfbaaGreatDoor
open Go.RowKit Fl Tx

theorem bytes_below (w : World) (t : TypeId) (s : ByteArray) : Below w.heap.size w (Lib.bytesWorld w t s) := by
  refine ⟨rfl, rfl, rfl, ?_, fun j hj => Lib.bytesWorld_at_old w t s j hj⟩
  rw [Lib.bytesWorld_size]; omega

theorem below_drewN {B : Nat} {a w : World} (h : Below B a w) (n : Nat) : Below B a (w.drewN n) := ⟨h.os, h.tape, h.output, h.size, h.block⟩

theorem repeat48 : ∀ c : Nat, Lib.repeatL [48] c = List.replicate c 48
  | 0 => rfl
  | c + 1 => by
    have := repeat48 c
    simp only [Lib.repeatL, this, List.replicate_succ]; rfl

/-- A fraction's digits read. -/
def rfL (l : List UInt8) : Option Nat := if 13 < l.length then none else pu 0 (l ++ List.replicate (13 - l.length) 48)

theorem rfL_lt (l : List UInt8) (u : Nat) (h : rfL l = some u) : u < 4503599627370496 := by
  unfold rfL at h
  split at h
  · cases h
  · have := pu_lt _ 0 u h
    rw [List.length_append, List.length_replicate, show l.length + (13 - l.length) = 13 by omega] at this
    simpa using this

set_option maxHeartbeats 1000000 in
theorem sp_ok (t : ByteArray) (hne : t.size ≠ 0) (hmax : t.size ≤ 13) (u : Nat) (h : pu 0 t.data.toList = some u) (w : World) :
    Calls Tryz.prog 49 #[.string t, .int .i64 16, .int .i64 52] w fun e w' => e = .returned (.tuple #[.int .u64 u, .nilIface]) ∧ Below w.heap.size w w' := by
  have hI := pu_any t hne hmax w
  rw [h] at hI
  have hI : Calls Tryz.prog 68 #[.string t, .int .i64 16, .int .i64 52] w fun e w' => e = .returned (.tuple #[.int .u64 u, .nilIface]) ∧ Below w.heap.size w w' := hI.mono fun e w' ⟨he, hw⟩ => ⟨he, hw ▸ bytes_below w _ t⟩
  clear h
  go_enter Tryz.func49, Tryz.ntmps49
  go_wp2_with (go_at_call 68; refine hI.mono ?_; rintro e w' ⟨rfl, hb⟩)
  go_ret2
  exact ⟨rfl, hb⟩

set_option maxHeartbeats 1000000 in
theorem sp_bad (t : ByteArray) (hne : t.size ≠ 0) (hmax : t.size ≤ 13) (h : pu 0 t.data.toList = none) (w : World) (hE : Env w) :
    Calls Tryz.prog 49 #[.string t, .int .i64 16, .int .i64 52] w fun e w' => ∃ T p, e = .returned (.tuple #[.int .u64 0, .iface T p]) ∧ Below w.heap.size w w' := by
  have hI := pu_any t hne hmax w
  rw [h] at hI
  have hI : Calls Tryz.prog 68 #[.string t, .int .i64 16, .int .i64 52] w fun e w' => e = .returned (.tuple #[.int .u64 0, .iface 84 (.int .i64 2)]) ∧ Below w.heap.size w w' := hI.mono fun e w' ⟨he, hw⟩ => ⟨he, hw ▸ bytes_below w _ t⟩
  have hT : ∀ w, Env w → Calls Tryz.prog 51 #[.string ⟨#[80, 97, 114, 115, 101, 85, 105, 110, 116]⟩, .string t, .int .i64 16, .int .i64 52, .iface 84 (.int .i64 2)] w fun e w' => ∃ T p, e = .returned (.iface T p) ∧ Below w.heap.size w w' := fun w hE => by
    obtain ⟨tp, p, hv⟩ := hE.synt
    refine (Tryz.strconv_toError_syntax _ t 16 52 _ w (by omega) hv (.inr ⟨tp, p, rfl⟩)).mono ?_
    rintro e w' ⟨N, rfl, _, _, hb⟩
    exact ⟨_, _, rfl, hb⟩
  clear h
  go_enter Tryz.func49, Tryz.ntmps49
  go_wp2_with (first | (go_at_call 68; refine hI.mono ?_; rintro e w' ⟨rfl, hb⟩) | (go_at_call 51; refine (hT _ (hE.below hb)).mono ?_; rintro e w' ⟨T, p, rfl, hb2⟩))
  go_ret2
  exact ⟨T, p, rfl, hb.trans (hb2.mono hb.size)⟩

/-- What readFrac hands back. -/
def rfV (r : Option Nat) : Value := match r with
  | some n => .tuple #[.int .u64 n, .bool true]
  | none => .tuple #[.int .u64 0, .bool false]

set_option maxHeartbeats 1000000 in
theorem rf_any (s : ByteArray) (hs : s.size ≤ 100000) (w : World) (hE : Env w) :
    Calls Tryz.prog 34 #[.string s] w fun e w' => e = .returned (rfV (rfL s.data.toList)) ∧ Below w.heap.size w w' := by
  have hlen : s.data.toList.length = s.size := by rw [Lib.size_eq]
  by_cases h13 : 13 < s.size
  · have HR : Hid (rfL s.data.toList = none) := Lib.hid (by unfold rfL; rw [if_pos (by omega)])
    go_enter Tryz.func34, Tryz.ntmps34
    go_wp2
    go_ret2
    exact ⟨by rw [HR.out]; rfl, Below.refl _ _⟩
  · have hR : rfL s.data.toList = pu 0 (s.data.toList ++ List.replicate (13 - s.size) 48) := by unfold rfL; rw [if_neg (by omega), hlen]
    obtain ⟨Z, hZ⟩ : ∃ Z : ByteArray, Z = ⟨(List.replicate (13 - s.size) 48).toArray⟩ := ⟨_, rfl⟩
    have hZs : Z.size = 13 - s.size := by rw [hZ, size_mk']; simp
    have hrep : ∀ w, Calls Tryz.prog 48 #[.string ⟨#[48]⟩, .int .i64 (13 - (s.size : Int))] w fun e w' => e = .returned (.string Z) ∧ Below w.heap.size w w' := fun w => by
      have := Tryz.strings_Repeat ⟨#[48]⟩ (13 - s.size) w (by omega) (by have : (⟨#[48]⟩ : ByteArray).size = 1 := rfl; rw [this, Nat.one_mul]; omega)
      rw [show ((13 - s.size : Nat) : Int) = 13 - (s.size : Int) by omega, show (⟨#[48]⟩ : ByteArray).data.toList = [48] from rfl, repeat48, ← hZ] at this
      exact this
    have hts : (s ++ Z).size = 13 := by rw [ByteArray.size_append]; omega
    have htl : (s ++ Z).data.toList = s.data.toList ++ List.replicate (13 - s.size) 48 := by rw [hZ]; simp
    rw [← htl] at hR
    obtain ⟨t, ht⟩ : ∃ t, t = s ++ Z := ⟨_, rfl⟩
    have hZle : Z.size ≤ 13 := by omega
    have hsle : s.size ≤ 13 := by omega
    rw [← ht] at hR hts
    cases hp : pu 0 t.data.toList with
    | none =>
      rw [hp] at hR
      have HR := Lib.hid hR
      have hpu := fun w hE => sp_bad t (by omega) (by omega) hp w hE
      rw [ht] at hpu
      clear hR hp hZs htl hts ht hZ hlen
      go_enter Tryz.func34, Tryz.ntmps34
      go_wp2_with (first | (go_at_call 48; refine (hrep _).mono ?_; rintro e w' ⟨rfl, hb⟩) | (go_at_call 49; refine (hpu _ (hE.below hb)).mono ?_; rintro e w' ⟨T, p, rfl, hb2⟩))
      go_quiet (fail)
      go_wp2
      go_ret2
      exact ⟨by rw [HR.out]; rfl, below_drewN (hb.trans (hb2.mono hb.size)) _⟩
    | some u =>
      rw [hp] at hR
      have HR := Lib.hid hR
      have hpu := fun w => sp_ok t (by omega) (by omega) u hp w
      rw [ht] at hpu
      clear hR hp hZs htl hts ht hZ hlen
      go_enter Tryz.func34, Tryz.ntmps34
      go_wp2_with (first | (go_at_call 48; refine (hrep _).mono ?_; rintro e w' ⟨rfl, hb⟩) | (go_at_call 49; refine (hpu _).mono ?_; rintro e w' ⟨rfl, hb2⟩))
      go_quiet (fail)
      go_wp2
      go_ret2
      exact ⟨by rw [HR.out]; rfl, below_drewN (hb.trans (hb2.mono hb.size)) _⟩

/-- The bits of the only number whose text it may be. -/
def finL (l : List UInt8) : Option Nat :=
  let c1 := Lib.cut (Lib.trimPrefix l [45]) [112]
  let c2 := Lib.cut c1.1 [46]
  match rfL c2.2.1, Lib.atoiAll c1.2.1 with
  | some b, .ok e => if -1022 ≤ e ∧ e ≤ 1023 then some ((if Lib.hasPrefix l [45] = true then 9223372036854775808 else 0) + ((if c2.1 = [49] then (e + 1023).toNat * 4503599627370496 else 0) + b)) else none
  | _, _ => none

/-- What finite hands back. -/
def finV (r : Option Nat) : Value := match r with
  | some n => .tuple #[.float .f64 (cb n), .bool true]
  | none => .tuple #[.float .f64 0, .bool false]

theorem cut_le (s : List UInt8) (c : UInt8) : (Lib.cut s [c]).1.length ≤ s.length ∧ (Lib.cut s [c]).2.1.length ≤ s.length := by
  unfold Lib.cut
  split
  · simp; omega
  · simp
theorem trimPrefix_le (s p : List UInt8) : (Lib.trimPrefix s p).length ≤ s.length := by
  unfold Lib.trimPrefix; split
  · simp
  · exact Nat.le_refl _

set_option maxHeartbeats 2000000 in
set_option maxRecDepth 100000 in
theorem fin_any (s : ByteArray) (hs : s.size ≤ 100000) (w : World) (hE : Env w) :
    Calls Tryz.prog 17 #[.string s] w fun e w' => e = .returned (finV (finL s.data.toList)) ∧ Below w.heap.size w w' := by
  have hlen : s.data.toList.length = s.size := by rw [Lib.size_eq]
  obtain ⟨n, hn⟩ : ∃ n, n = Lib.hasPrefix s.data.toList [45] := ⟨_, rfl⟩
  obtain ⟨R, hR⟩ : ∃ R : ByteArray, R = ⟨(Lib.trimPrefix s.data.toList [45]).toArray⟩ := ⟨_, rfl⟩
  have hRl : R.data.toList = Lib.trimPrefix s.data.toList [45] := by rw [hR]
  have hRs : R.size ≤ 100000 := by rw [hR, size_mk']; have := trimPrefix_le s.data.toList [45]; omega
  obtain ⟨H, hH⟩ : ∃ H : ByteArray, H = ⟨(Lib.cut R.data.toList [112]).1.toArray⟩ := ⟨_, rfl⟩
  obtain ⟨T, hT⟩ : ∃ T : ByteArray, T = ⟨(Lib.cut R.data.toList [112]).2.1.toArray⟩ := ⟨_, rfl⟩
  have hRll : R.data.toList.length = R.size := by rw [Lib.size_eq]
  have hc1 := cut_le R.data.toList 112
  have hHl : H.data.toList = (Lib.cut R.data.toList [112]).1 := by rw [hH]
  have hTl : T.data.toList = (Lib.cut R.data.toList [112]).2.1 := by rw [hT]
  have hHs : H.size ≤ 100000 := by rw [hH, size_mk']; omega
  have hTs : T.size ≤ 100000 := by rw [hT, size_mk']; omega
  obtain ⟨L, hL⟩ : ∃ L : ByteArray, L = ⟨(Lib.cut H.data.toList [46]).1.toArray⟩ := ⟨_, rfl⟩
  obtain ⟨G, hG⟩ : ∃ G : ByteArray, G = ⟨(Lib.cut H.data.toList [46]).2.1.toArray⟩ := ⟨_, rfl⟩
  have hHll : H.data.toList.length = H.size := by rw [Lib.size_eq]
  have hc2 := cut_le H.data.toList 46
  have hLl : L.data.toList = (Lib.cut H.data.toList [46]).1 := by rw [hL]
  have hGl : G.data.toList = (Lib.cut H.data.toList [46]).2.1 := by rw [hG]
  have hGs : G.size ≤ 100000 := by rw [hG, size_mk']; omega
  have hcp : ∀ w, Calls Tryz.prog 32 #[.string s, .string ⟨#[45]⟩] w fun e w' => e = .returned (.tuple #[.string R, .bool n]) ∧ w = w' := fun w => by
    refine (Tryz.strings_CutPrefix s ⟨#[45]⟩ w).mono ?_
    rintro e w' ⟨rfl, rfl⟩
    exact ⟨by rw [hR, hn], rfl⟩
  have hct1 : ∀ w, Env w → Calls Tryz.prog 33 #[.string R, .string ⟨#[112]⟩] w fun e w' => ∃ f, e = .returned (.tuple #[.string H, .string T, .bool f]) ∧ Below w.heap.size w w' := fun w hE => by
    obtain ⟨m, hm⟩ := hE.maxLen
    refine (Tryz.strings_Cut R ⟨#[112]⟩ m w (by omega) hm).mono ?_
    rintro e w' ⟨rfl, k, rfl⟩
    exact ⟨_, by rw [hH, hT], below_drewN (Below.refl _ _) _⟩
  have hct2 : ∀ w, Env w → Calls Tryz.prog 33 #[.string H, .string ⟨#[46]⟩] w fun e w' => ∃ f, e = .returned (.tuple #[.string L, .string G, .bool f]) ∧ Below w.heap.size w w' := fun w hE => by
    obtain ⟨m, hm⟩ := hE.maxLen
    refine (Tryz.strings_Cut H ⟨#[46]⟩ m w (by omega) hm).mono ?_
    rintro e w' ⟨rfl, k, rfl⟩
    exact ⟨_, by rw [hL, hG], below_drewN (Below.refl _ _) _⟩
  have hrf := fun w hE => rf_any G hGs w hE
  have hF : finL s.data.toList = match rfL G.data.toList, Lib.atoiAll T.data.toList with
      | some b, .ok e => if -1022 ≤ e ∧ e ≤ 1023 then some ((if n = true then 9223372036854775808 else 0) + ((if L.data.toList = [49] then (e + 1023).toNat * 4503599627370496 else 0) + b)) else none
      | _, _ => none := by
    unfold finL
    simp only [hGl, hTl, hLl, hHl, hRl, hn]
  have hL1 : L.data.toList = [49] ↔ L = ⟨#[49]⟩ := ⟨fun h => by
    apply ByteArray.ext
    have := congrArg List.toArray h
    simpa using this, fun h => by rw [h]⟩
  have hat : (∃ v, Lib.atoiAll T.data.toList = .ok v ∧ ∀ w, Env w → Calls Tryz.prog 35 #[.string T] w fun e w' => e = .returned (.tuple #[.int .i64 v, .nilIface]) ∧ Below w.heap.size w w') ∨
      ((∀ v, Lib.atoiAll T.data.toList ≠ .ok v) ∧ ∀ w, Env w → Calls Tryz.prog 35 #[.string T] w fun e w' => ∃ v tp p, e = .returned (.tuple #[.int .i64 v, .iface tp p]) ∧ Below w.heap.size w w') := by
    cases ha : Lib.atoiAll T.data.toList with
    | ok v =>
      refine .inl ⟨v, rfl, fun w hE => ?_⟩
      refine (Tryz.strconv_Atoi_ok T (by omega) v ha w).mono ?_
      rintro e w' ⟨rfl, hw⟩
      refine ⟨rfl, ?_⟩
      rcases hw with rfl | ⟨t, rfl⟩
      · exact Below.refl _ _
      · exact bytes_below _ _ _
    | «syntax» =>
      refine .inr ⟨fun v h => (by cases h), fun w hE => ?_⟩
      obtain ⟨tp, p, hv⟩ := hE.synt
      refine (Tryz.strconv_Atoi_syntax T (by omega) ha _ w hv (.inr ⟨tp, p, rfl⟩)).mono ?_
      rintro e w' ⟨N, rfl, _, _, hb⟩
      exact ⟨_, _, _, rfl, hb⟩
    | range =>
      refine .inr ⟨fun v h => (by cases h), fun w hE => ?_⟩
      obtain ⟨tp, p, hv⟩ := hE.rang
      refine (Tryz.strconv_Atoi_range T (by omega) ha _ w hv (.inr ⟨tp, p, rfl⟩)).mono ?_
      rintro e w' ⟨N, rfl, _, _, hb⟩
      exact ⟨_, _, _, rfl, hb⟩
  clear hGl hTl hLl hHl hRl hn hlen hR hRs hH hT hRll hc1 hHs hTs hL hG hHll hc2 hGs hs
  have chain {w1 w2 w3 w4 : World} (h1 : Below w.heap.size w w1) (h2 : Below w1.heap.size w1 w2) (h3 : Below w2.heap.size w2 w3) (h4 : Below w3.heap.size w3 w4) : Below w.heap.size w w4 :=
    h1.trans ((h2.trans ((h3.trans (h4.mono h3.size)).mono h2.size)).mono h1.size)
  have e1 {w1 : World} (h1 : Below w.heap.size w w1) : Env w1 := hE.below h1
  cases hr : rfL G.data.toList with
  | none =>
    rw [hr] at hrf hF
    have hrf : ∀ w, Env w → Calls Tryz.prog 34 #[.string G] w fun e w' => e = .returned (.tuple #[.int .u64 0, .bool false]) ∧ Below w.heap.size w w' := hrf
    have HF : Hid (finL s.data.toList = none) := Lib.hid (by rw [hF])
    clear hF hr hL1
    rcases hat with ⟨v, ha, hat⟩ | ⟨ha, hat⟩
    · clear ha
      go_enter Tryz.func17, Tryz.ntmps17
      go_wp2_with (first
        | (go_at_call 32; refine (hcp _).mono ?_; rintro e w' ⟨rfl, rfl⟩)
        | (go_at_call 34; refine (hrf _ ((hE.below hb1).below hb2)).mono ?_; rintro e w' ⟨rfl, hb3⟩)
        | (go_at_call 35; refine (hat _ (((hE.below hb1).below hb2).below hb3)).mono ?_; rintro e w' ⟨rfl, hb4⟩)
        | (go_at_call 33; first | ((with_reducible refine (hct1 _ hE).mono ?_); rintro e w' ⟨f1, rfl, hb1⟩) | ((with_reducible refine (hct2 _ (hE.below hb1)).mono ?_); rintro e w' ⟨f2, rfl, hb2⟩)))
      go_ret2
      exact ⟨by rw [HF.out]; rfl, chain hb1 hb2 hb3 hb4⟩
    · clear ha
      go_enter Tryz.func17, Tryz.ntmps17
      go_wp2_with (first
        | (go_at_call 32; refine (hcp _).mono ?_; rintro e w' ⟨rfl, rfl⟩)
        | (go_at_call 34; refine (hrf _ ((hE.below hb1).below hb2)).mono ?_; rintro e w' ⟨rfl, hb3⟩)
        | (go_at_call 35; refine (hat _ (((hE.below hb1).below hb2).below hb3)).mono ?_; rintro e w' ⟨v, tp, p, rfl, hb4⟩)
        | (go_at_call 33; first | ((with_reducible refine (hct1 _ hE).mono ?_); rintro e w' ⟨f1, rfl, hb1⟩) | ((with_reducible refine (hct2 _ (hE.below hb1)).mono ?_); rintro e w' ⟨f2, rfl, hb2⟩)))
      go_ret2
      exact ⟨by rw [HF.out]; rfl, chain hb1 hb2 hb3 hb4⟩
  | some b =>
    rw [hr] at hrf hF
    have hrf : ∀ w, Env w → Calls Tryz.prog 34 #[.string G] w fun e w' => e = .returned (.tuple #[.int .u64 b, .bool true]) ∧ Below w.heap.size w w' := hrf
    have hb : b < 4503599627370496 := rfL_lt _ _ hr
    clear hr
    rcases hat with ⟨v, ha, hat⟩ | ⟨ha, hat⟩
    · rw [ha] at hF
      clear ha
      by_cases hv : -1022 ≤ v ∧ v ≤ 1023
      · simp only [if_pos hv] at hF
        obtain ⟨hv0, hv1⟩ := hv
        by_cases hl : L = ⟨#[49]⟩
        · rw [if_pos (hL1.2 hl)] at hF
          have hwr : IntKind.u64.wrap (v + 1023) = v + 1023 := by rw [IntKind.wrap_u64]; omega
          have hor : bits .or .u64 (b : Int) ((v + 1023) * 4503599627370496) = (((v + 1023).toNat * 4503599627370496 + b : Nat) : Int) := by
            rw [u64_or _ _ (by omega) (by omega) (by omega) (by omega), Int.toNat_natCast, show ((v + 1023) * 4503599627370496).toNat = 2 ^ 52 * (v + 1023).toNat by omega, Nat.or_comm, ← Nat.two_pow_add_eq_or_of_lt (by omega)]
            omega
          obtain ⟨g, hg⟩ : ∃ g, g = (v + 1023).toNat * 4503599627370496 + b := ⟨_, rfl⟩
          have hg63 : g < 9223372036854775808 := by omega
          rw [← hg] at hF hor
          have hsg := or_sign_lo g hg63
          subst hl
          clear hg hL1
          cases n with
          | true =>
            have hfrom := fun w => from_any ((g + 9223372036854775808 : Nat) : Int) (by omega) (by omega) w
            rw [Int.toNat_natCast] at hfrom
            have HF : Hid (finL s.data.toList = some (g + 9223372036854775808)) := Lib.hid (by rw [hF, if_pos rfl, Nat.add_comm])
            clear hF
            go_enter Tryz.func17, Tryz.ntmps17
            go_wp2_with (first
        | (go_at_call 32; refine (hcp _).mono ?_; rintro e w' ⟨rfl, rfl⟩)
        | (go_at_call 34; refine (hrf _ ((hE.below hb1).below hb2)).mono ?_; rintro e w' ⟨rfl, hb3⟩)
        | (go_at_call 35; refine (hat _ (((hE.below hb1).below hb2).below hb3)).mono ?_; rintro e w' ⟨rfl, hb4⟩)
        | (go_at_call 36; refine (hfrom _).mono ?_; rintro e w' ⟨rfl, rfl⟩)
        | (go_at_call 33; first | ((with_reducible refine (hct1 _ hE).mono ?_); rintro e w' ⟨f1, rfl, hb1⟩) | ((with_reducible refine (hct2 _ (hE.below hb1)).mono ?_); rintro e w' ⟨f2, rfl, hb2⟩)))
            go_ret2
            exact ⟨by rw [HF.out]; rfl, chain hb1 hb2 hb3 hb4⟩
          | false =>
            have hfrom := fun w => from_any (g : Int) (by omega) (by omega) w
            rw [Int.toNat_natCast] at hfrom
            have HF : Hid (finL s.data.toList = some g) := Lib.hid (by rw [hF, if_neg (by decide), Nat.zero_add])
            clear hF
            go_enter Tryz.func17, Tryz.ntmps17
            go_wp2_with (first
        | (go_at_call 32; refine (hcp _).mono ?_; rintro e w' ⟨rfl, rfl⟩)
        | (go_at_call 34; refine (hrf _ ((hE.below hb1).below hb2)).mono ?_; rintro e w' ⟨rfl, hb3⟩)
        | (go_at_call 35; refine (hat _ (((hE.below hb1).below hb2).below hb3)).mono ?_; rintro e w' ⟨rfl, hb4⟩)
        | (go_at_call 36; refine (hfrom _).mono ?_; rintro e w' ⟨rfl, rfl⟩)
        | (go_at_call 33; first | ((with_reducible refine (hct1 _ hE).mono ?_); rintro e w' ⟨f1, rfl, hb1⟩) | ((with_reducible refine (hct2 _ (hE.below hb1)).mono ?_); rintro e w' ⟨f2, rfl, hb2⟩)))
            go_ret2
            exact ⟨by rw [HF.out]; rfl, chain hb1 hb2 hb3 hb4⟩
        · have hl2 : (L.toList == [49]) = false := by
            rw [ByteArray.toList_eq]
            simpa using fun h => hl (hL1.1 h)
          rw [if_neg (fun h => hl (hL1.1 h)), Nat.zero_add] at hF
          clear hl
          have hsg := or_sign_lo b (by omega)
          clear hL1
          cases n with
          | true =>
            have hfrom := fun w => from_any ((b + 9223372036854775808 : Nat) : Int) (by omega) (by omega) w
            rw [Int.toNat_natCast] at hfrom
            have HF : Hid (finL s.data.toList = some (b + 9223372036854775808)) := Lib.hid (by rw [hF, if_pos rfl, Nat.add_comm])
            clear hF
            go_enter Tryz.func17, Tryz.ntmps17
            go_wp2_with (first
        | (go_at_call 32; refine (hcp _).mono ?_; rintro e w' ⟨rfl, rfl⟩)
        | (go_at_call 34; refine (hrf _ ((hE.below hb1).below hb2)).mono ?_; rintro e w' ⟨rfl, hb3⟩)
        | (go_at_call 35; refine (hat _ (((hE.below hb1).below hb2).below hb3)).mono ?_; rintro e w' ⟨rfl, hb4⟩)
        | (go_at_call 36; refine (hfrom _).mono ?_; rintro e w' ⟨rfl, rfl⟩)
        | (go_at_call 33; first | ((with_reducible refine (hct1 _ hE).mono ?_); rintro e w' ⟨f1, rfl, hb1⟩) | ((with_reducible refine (hct2 _ (hE.below hb1)).mono ?_); rintro e w' ⟨f2, rfl, hb2⟩)))
            go_ret2
            exact ⟨by rw [HF.out]; rfl, chain hb1 hb2 hb3 hb4⟩
          | false =>
            have hfrom := fun w => from_any (b : Int) (by omega) (by omega) w
            rw [Int.toNat_natCast] at hfrom
            have HF : Hid (finL s.data.toList = some b) := Lib.hid (by rw [hF, if_neg (by decide), Nat.zero_add])
            clear hF
            go_enter Tryz.func17, Tryz.ntmps17
            go_wp2_with (first
        | (go_at_call 32; refine (hcp _).mono ?_; rintro e w' ⟨rfl, rfl⟩)
        | (go_at_call 34; refine (hrf _ ((hE.below hb1).below hb2)).mono ?_; rintro e w' ⟨rfl, hb3⟩)
        | (go_at_call 35; refine (hat _ (((hE.below hb1).below hb2).below hb3)).mono ?_; rintro e w' ⟨rfl, hb4⟩)
        | (go_at_call 36; refine (hfrom _).mono ?_; rintro e w' ⟨rfl, rfl⟩)
        | (go_at_call 33; first | ((with_reducible refine (hct1 _ hE).mono ?_); rintro e w' ⟨f1, rfl, hb1⟩) | ((with_reducible refine (hct2 _ (hE.below hb1)).mono ?_); rintro e w' ⟨f2, rfl, hb2⟩)))
            go_ret2
            exact ⟨by rw [HF.out]; rfl, chain hb1 hb2 hb3 hb4⟩
      · simp only [if_neg hv] at hF
        have HF := Lib.hid hF
        clear hF hL1
        by_cases hv0 : v < -1022
        · clear hv
          go_enter Tryz.func17, Tryz.ntmps17
          go_wp2_with (first
        | (go_at_call 32; refine (hcp _).mono ?_; rintro e w' ⟨rfl, rfl⟩)
        | (go_at_call 34; refine (hrf _ ((hE.below hb1).below hb2)).mono ?_; rintro e w' ⟨rfl, hb3⟩)
        | (go_at_call 35; refine (hat _ (((hE.below hb1).below hb2).below hb3)).mono ?_; rintro e w' ⟨rfl, hb4⟩)
        | (go_at_call 33; first | ((with_reducible refine (hct1 _ hE).mono ?_); rintro e w' ⟨f1, rfl, hb1⟩) | ((with_reducible refine (hct2 _ (hE.below hb1)).mono ?_); rintro e w' ⟨f2, rfl, hb2⟩)))
          go_ret2
          exact ⟨by rw [HF.out]; rfl, chain hb1 hb2 hb3 hb4⟩
        · have hv1 : 1023 < v := by omega
          clear hv
          go_enter Tryz.func17, Tryz.ntmps17
          go_wp2_with (first
        | (go_at_call 32; refine (hcp _).mono ?_; rintro e w' ⟨rfl, rfl⟩)
        | (go_at_call 34; refine (hrf _ ((hE.below hb1).below hb2)).mono ?_; rintro e w' ⟨rfl, hb3⟩)
        | (go_at_call 35; refine (hat _ (((hE.below hb1).below hb2).below hb3)).mono ?_; rintro e w' ⟨rfl, hb4⟩)
        | (go_at_call 33; first | ((with_reducible refine (hct1 _ hE).mono ?_); rintro e w' ⟨f1, rfl, hb1⟩) | ((with_reducible refine (hct2 _ (hE.below hb1)).mono ?_); rintro e w' ⟨f2, rfl, hb2⟩)))
          go_ret2
          exact ⟨by rw [HF.out]; rfl, chain hb1 hb2 hb3 hb4⟩
    · have hF : finL s.data.toList = none := by
        rw [hF]
        cases hx : Lib.atoiAll T.data.toList with
        | ok v => exact absurd hx (ha v)
        | «syntax» => rfl
        | range => rfl
      have HF := Lib.hid hF
      clear hF ha hL1
      go_enter Tryz.func17, Tryz.ntmps17
      go_wp2_with (first
        | (go_at_call 32; refine (hcp _).mono ?_; rintro e w' ⟨rfl, rfl⟩)
        | (go_at_call 34; refine (hrf _ ((hE.below hb1).below hb2)).mono ?_; rintro e w' ⟨rfl, hb3⟩)
        | (go_at_call 35; refine (hat _ (((hE.below hb1).below hb2).below hb3)).mono ?_; rintro e w' ⟨v, tp, p, rfl, hb4⟩)
        | (go_at_call 33; first | ((with_reducible refine (hct1 _ hE).mono ?_); rintro e w' ⟨f1, rfl, hb1⟩) | ((with_reducible refine (hct2 _ (hE.below hb1)).mono ?_); rintro e w' ⟨f2, rfl, hb2⟩)))
      go_ret2
      exact ⟨by rw [HF.out]; rfl, chain hb1 hb2 hb3 hb4⟩

end Go.Proofs.YtlbnfnfenphfbaaGreatDoor
