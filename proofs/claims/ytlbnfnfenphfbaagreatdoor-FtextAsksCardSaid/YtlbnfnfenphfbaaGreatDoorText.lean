/- Proved: the landed Text writes any number as the plain function 'text' of its bits says; what is made lies in new blocks. -/
import Derived.Test.YtlbnfnfenphfbaaGreatDoorHexF
import Derived.Test.YtlbnfnfenphfbaaGreatDoorShelf
import Derived.Lib.AppendIntMem
namespace Go.Proofs.YtlbnfnfenphfbaaGreatDoor
open Go.RowKit Fl Tx

theorem mk_append (a b : List UInt8) : (⟨a.toArray⟩ : ByteArray) ++ (⟨b.toArray⟩ : ByteArray) = ⟨(a ++ b).toArray⟩ := by
  apply ByteArray.ext
  simp

/-- A fraction's text. -/
def fracL (f : Nat) : List UInt8 := if f = 0 then [] else 46 :: hexT 13 f
/-- An exponent. -/
def expo (m : Nat) : Int := if m < 4503599627370496 then -1022 else ((m / 4503599627370496 : Nat) : Int) - 1023
/-- The text of a finite number above nought. -/
def body (m : Nat) : List UInt8 := [if m < 4503599627370496 then 48 else 49] ++ fracL (m % 4503599627370496) ++ [112] ++ Lib.itoa (expo m)
/-- The text of a number of these bits. -/
def text (b : Nat) : List UInt8 :=
  if isN b = true then [110, 97, 110]
  else (if 9223372036854775808 ≤ b then [45] else []) ++
    (if b % 9223372036854775808 = 9218868437227405312 then [105, 110, 102] else if b % 9223372036854775808 = 0 then [48] else body (b % 9223372036854775808))

theorem or52 (f : Nat) (hf : f < 4503599627370496) : bits .or .u64 (f : Int) 4503599627370496 = ((f + 4503599627370496 : Nat) : Int) := by
  rw [u64_or _ _ (by omega) (by omega) (by omega) (by omega)]
  simp only [Int.toNat_natCast, Int.reduceToNat]
  have := Nat.two_pow_add_eq_or_of_lt (i := 52) (b := f) (by omega) 1
  simp only [Nat.mul_one] at this
  rw [show (4503599627370496 : Nat) = 2 ^ 52 from rfl, Nat.or_comm, ← this, Nat.add_comm]

theorem size_mk' (l : List UInt8) : (⟨l.toArray⟩ : ByteArray).size = l.length := by simp [ByteArray.size]
theorem fracL_le (f : Nat) : (fracL f).length ≤ 14 := by
  unfold fracL; split
  · simp
  · have := hexT_le 13 f; simp; omega
theorem dec4_le (u : Nat) : (dec4 u).length ≤ 4 := by 
  unfold dec4
  split
  · simp
  · split
    · simp
    · split
      · simp
      · simp
theorem etx_le (e : Int) : (etx e).length ≤ 5 := by
  unfold etx; split
  · have := dec4_le e.natAbs; simp; omega
  · have := dec4_le e.toNat; omega
theorem expo_range (m : Nat) (h : m < 9218868437227405312) : -1022 ≤ expo m ∧ expo m ≤ 1023 := by unfold expo; split <;> omega

set_option maxHeartbeats 1000000 in
theorem frac_any (n : Int) (h0 : 0 ≤ n) (h1 : n < 4503599627370496) (w : World) (hE : Env w) :
    Calls Tryz.prog 40 #[.int .u64 n] w fun e w' => ∃ S, e = .returned (.string S) ∧ Hid (S = ⟨(fracL n.toNat).toArray⟩) ∧ S.size ≤ 14 ∧ Below w.heap.size w w' := by
  obtain ⟨f, rfl⟩ := Int.eq_ofNat_of_zero_le h0
  have hf : f < 4503599627370496 := by omega
  clear h0 h1
  by_cases h0 : f = 0
  · subst h0
    go_enter Tryz.func40, Tryz.ntmps40
    go_wp2
    go_ret
    exact ⟨_, rfl, rfl, by decide, Below.refl _ _⟩
  · have hz : ((f : Int) == 0) = false := by simp; omega
    have hor := or52 f hf
    have hL : (fracL f) = 46 :: hexT 13 f := by unfold fracL; rw [if_neg h0]
    have HL := Lib.hid hL
    have hm : (f + 4503599627370496) % 16 ^ 13 = f := by omega
    have hfu := fun w hE => fu_hex (f + 4503599627370496) (by omega) (by omega) w hE
    rw [hm] at hfu
    obtain ⟨D, hD⟩ : ∃ D : ByteArray, D = ⟨(49 :: hexA 13 f).toArray⟩ := ⟨_, rfl⟩
    have hsz : D.size = 14 := by rw [hD]; simp [ByteArray.size, hexA_length]
    obtain ⟨X, hX⟩ : ∃ X : ByteArray, X = ⟨(hexA 13 f).toArray⟩ := ⟨_, rfl⟩
    have hex : D.extract 1 14 = X := by
      rw [hD, Lib.extract_mk, hX]
      simp [List.take_of_length_le, hexA_length]
    rw [← hD] at hfu
    have hxs : X.size ≤ 9223372036854775807 := by rw [hX]; simp [ByteArray.size, hexA_length]
    have htr : ∀ w, Calls Tryz.prog 54 #[.string X, .string ⟨#[48]⟩] w fun e w' => ∃ Y, e = .returned (.string Y) ∧ Hid (Y = ⟨(hexT 13 f).toArray⟩) ∧ Y.size ≤ 13 ∧ w = w' := fun w => by
      refine (Tryz.strings_TrimRight_one X 48 (by decide) w hxs).mono ?_
      rintro e w' ⟨rfl, rfl⟩
      have : X.data.toList = hexA 13 f := by rw [hX]
      rw [this, trim_hexA 13 f (by omega)]
      exact ⟨_, rfl, rfl, by rw [size_mk']; exact hexT_le _ _, rfl⟩
    clear hL hm hD h0 hX hxs
    go_enter Tryz.func40, Tryz.ntmps40
    go_wp2_with (first | (go_at_call 53; refine (hfu _ hE).mono ?_; rintro e w' ⟨rfl, hb⟩) | (go_at_call 54; refine (htr _).mono ?_; rintro e w' ⟨Y, rfl, hY, hYs, rfl⟩))
    go_ret
    refine ⟨_, rfl, Lib.hid ?_, ?_, hb⟩
    · rw [Int.toNat_natCast, HL.out, hY.out]
      exact mk_append [46] (hexT 13 f)
    · rw [ByteArray.size_append]
      have : (⟨#[46]⟩ : ByteArray).size = 1 := rfl
      omega

theorem itoa_any (n : Int) (h0 : -1022 ≤ n) (h1 : n ≤ 1023) (w : World) (hE : Env w) :
    Calls Tryz.prog 41 #[.int .i64 n] w fun e w' => ∃ S, e = .returned (.string S) ∧ Hid (S = ⟨(Lib.itoa n).toArray⟩) ∧ S.size ≤ 5 ∧ Below w.heap.size w w' := by
  refine (Tryz.strconv_Itoa n (by omega) (by omega) w hE.pow10).mono ?_
  rintro e w' ⟨rfl, k, os, rfl⟩
  refine ⟨_, rfl, rfl, by rw [size_mk', itoa_etx n h0 h1]; exact etx_le n, ?_⟩
  exact Lib.below_grow _ w (Nat.le_refl _) k os

set_option maxHeartbeats 1000000 in
theorem pos_any (n : Int) (h0 : 0 ≤ n) (h1 : n < 9218868437227405312) (w : World) (hE : Env w) :
    Calls Tryz.prog 21 #[.int .u64 n] w fun e w' => ∃ S, e = .returned (.string S) ∧ Hid (S = ⟨(body n.toNat).toArray⟩) ∧ S.size ≤ 21 ∧ Below w.heap.size w w' := by
  obtain ⟨b, rfl⟩ := Int.eq_ofNat_of_zero_le h0
  have hb : b < 9218868437227405312 := by omega
  clear h0 h1
  have hand := and_frac b (by omega)
  have fin (S T : ByteArray) (c : UInt8) (e : Int) (hS : S = ⟨(fracL ((b : Int) % 4503599627370496).toNat).toArray⟩) (hT : T = ⟨(Lib.itoa e).toArray⟩) (hc : (if b < 4503599627370496 then (48 : UInt8) else 49) = c) (he : expo b = e) :
      (⟨#[c]⟩ : ByteArray) ++ S ++ (⟨#[112]⟩ : ByteArray) ++ T = ⟨(body ((b : Int)).toNat).toArray⟩ := by
    have e1 : ((b : Int) % 4503599627370496).toNat = b % 4503599627370496 := by omega
    rw [hS, hT, e1, Int.toNat_natCast]
    unfold body
    rw [hc, he]
    have x1 := mk_append [c] (fracL (b % 4503599627370496))
    have x2 := mk_append ([c] ++ fracL (b % 4503599627370496)) [112]
    have x3 := mk_append ([c] ++ fracL (b % 4503599627370496) ++ [112]) (Lib.itoa e)
    rw [← x3, ← x2, ← x1]
  have sz (S T : ByteArray) (c : UInt8) (hS : S.size ≤ 14) (hT : T.size ≤ 5) : ((⟨#[c]⟩ : ByteArray) ++ S ++ (⟨#[112]⟩ : ByteArray) ++ T).size ≤ 21 := by
    simp only [ByteArray.size_append]
    have : (⟨#[c]⟩ : ByteArray).size = 1 := rfl
    have : (⟨#[112]⟩ : ByteArray).size = 1 := rfl
    omega
  by_cases hs : b < 4503599627370496
  · have hdi : (b : Int) / 4503599627370496 = 0 := by omega
    have HC : Hid ((if b < 4503599627370496 then (48 : UInt8) else 49) = 48) := Lib.hid (if_pos hs)
    have HX : Hid (expo b = -1022) := Lib.hid (by unfold expo; rw [if_pos hs])
    go_enter Tryz.func21, Tryz.ntmps21
    go_wp2_with (first | (go_at_call 40; refine (frac_any _ (by omega) (by omega) _ hE).mono ?_; rintro e w' ⟨S, rfl, hS, hSs, hb1⟩) | (go_at_call 41; refine (itoa_any _ (by omega) (by omega) _ (hE.below hb1)).mono ?_; rintro e w' ⟨T, rfl, hT, hTs, hb2⟩))
    go_ret
    exact ⟨_, rfl, Lib.hid (fin S T _ _ hS.out hT.out HC.out HX.out), sz S T _ hSs hTs, hb1.trans (hb2.mono hb1.size)⟩
  · have hge : 1 ≤ (b : Int) / 4503599627370496 := by omega
    have hle : (b : Int) / 4503599627370496 ≤ 2046 := by omega
    have HC : Hid ((if b < 4503599627370496 then (48 : UInt8) else 49) = 49) := Lib.hid (if_neg hs)
    have HX : Hid (expo b = (b : Int) / 4503599627370496 - 1023) := Lib.hid (by unfold expo; rw [if_neg hs]; omega)
    clear hs
    go_enter Tryz.func21, Tryz.ntmps21
    go_wp2_with (first | (go_at_call 40; refine (frac_any _ (by omega) (by omega) _ hE).mono ?_; rintro e w' ⟨S, rfl, hS, hSs, hb1⟩) | (go_at_call 41; refine (itoa_any _ (by omega) (by omega) _ (hE.below hb1)).mono ?_; rintro e w' ⟨T, rfl, hT, hTs, hb2⟩))
    go_ret
    exact ⟨_, rfl, Lib.hid (fin S T _ _ hS.out hT.out HC.out HX.out), sz S T _ hSs hTs, hb1.trans (hb2.mono hb1.size)⟩

theorem text_cases (b : Nat) (hb : b < 18446744073709551616) :
    (isN b = true ∧ cls b = 1 ∧ text b = [110, 97, 110]) ∨ (isN b = false ∧ cb b = b ∧
      ((b = 18442240474082181120 ∧ cls b = 2 ∧ text b = [45, 105, 110, 102]) ∨ (9223372036854775808 < b ∧ b < 18442240474082181120 ∧ (cls b = 3 ∨ cls b = 4) ∧ text b = 45 :: body (b % 9223372036854775808)) ∨ (b = 9223372036854775808 ∧ cls b = 5 ∧ text b = [45, 48])
        ∨ (b = 0 ∧ cls b = 6 ∧ text b = [48]) ∨ (0 < b ∧ b < 9218868437227405312 ∧ (cls b = 7 ∨ cls b = 8) ∧ text b = body b) ∨ (b = 9218868437227405312 ∧ cls b = 9 ∧ text b = [105, 110, 102]))) := by
  rcases cls_cases b hb with ⟨hn, hc⟩ | ⟨hn, hcb, h⟩
  · exact .inl ⟨hn, hc, by unfold text; rw [if_pos hn]⟩
  · refine .inr ⟨hn, hcb, ?_⟩
    have ht : text b = (if 9223372036854775808 ≤ b then [45] else []) ++
        (if b % 9223372036854775808 = 9218868437227405312 then [105, 110, 102] else if b % 9223372036854775808 = 0 then [48] else body (b % 9223372036854775808)) := by
      unfold text; rw [if_neg (by simp [hn])]
    rw [ht]
    rcases h with ⟨k, hc⟩ | ⟨k, k', hc⟩ | ⟨k, k', hc⟩ | ⟨k, hc⟩ | ⟨k, hc⟩ | ⟨k, k', hc⟩ | ⟨k, k', hc⟩ | ⟨k, hc⟩
    · exact .inl ⟨k, hc, by subst k; rfl⟩
    · exact .inr (.inl ⟨by omega, k', .inl hc, by rw [if_pos (by omega), if_neg (by omega), if_neg (by omega)]; rfl⟩)
    · exact .inr (.inl ⟨k, by omega, .inr hc, by rw [if_pos (by omega), if_neg (by omega), if_neg (by omega)]; rfl⟩)
    · exact .inr (.inr (.inl ⟨k, hc, by subst k; rfl⟩))
    · exact .inr (.inr (.inr (.inl ⟨k, hc, by subst k; rfl⟩)))
    · exact .inr (.inr (.inr (.inr (.inl ⟨k, by omega, .inl hc, by rw [if_neg (by omega), if_neg (by omega), if_neg (by omega), Nat.mod_eq_of_lt (by omega)]; rfl⟩))))
    · exact .inr (.inr (.inr (.inr (.inl ⟨by omega, k', .inr hc, by rw [if_neg (by omega), if_neg (by omega), if_neg (by omega), Nat.mod_eq_of_lt (by omega)]; rfl⟩))))
    · exact .inr (.inr (.inr (.inr (.inr ⟨k, hc, by subst k; rfl⟩))))

/-- What Text hands back. -/
def TextOf (b : Nat) (w : World) (e : Ending) (w' : World) : Prop := ∃ S : ByteArray, e = .returned (.string S) ∧ Hid (S = ⟨(text b).toArray⟩) ∧ S.size ≤ 22 ∧ Below w.heap.size w w'

set_option maxHeartbeats 1000000 in
theorem text_any (b : Nat) (hb : b < 18446744073709551616) (w : World) (hE : Env w) :
    Calls Tryz.prog 9 #[.float .f64 b] w (TextOf b w) := by
  have lit (l : List UInt8) (hl : l.length ≤ 4) (ht : text b = l) : TextOf b w (.returned (.string ⟨l.toArray⟩)) w :=
    ⟨_, rfl, Lib.hid (by rw [ht]), by rw [size_mk']; omega, Below.refl _ _⟩
  have hcl : Calls Tryz.prog 20 #[.float .f64 b] w fun e w' => e = .returned (.int .i64 (cls b)) ∧ w = w' := class_any b hb w
  rcases text_cases b hb with ⟨hn, hc, ht⟩ | ⟨hn, hcb, ⟨k, hc, ht⟩ | ⟨k, k', hc, ht⟩ | ⟨k, hc, ht⟩ | ⟨k, hc, ht⟩ | ⟨k, k', hc, ht⟩ | ⟨k, hc, ht⟩⟩
  · have HF := lit _ (by simp) ht
    rw [hc] at hcl
    clear lit ht hc hn
    go_enter Tryz.func9, Tryz.ntmps9
    go_wp2_with (go_at_call 20; refine hcl.mono ?_; rintro e w' ⟨rfl, rfl⟩)
    go_ret
    exact HF
  · have HF := lit _ (by simp) ht
    rw [hc] at hcl
    clear lit ht hc hn hcb k
    go_enter Tryz.func9, Tryz.ntmps9
    go_wp2_with (go_at_call 20; refine hcl.mono ?_; rintro e w' ⟨rfl, rfl⟩)
    go_ret
    exact HF
  · have hbits := bits_any b hb w
    rw [hcb] at hbits
    have han := andNot_sign b hb
    have hmod : b % 9223372036854775808 = b - 9223372036854775808 := by omega
    rw [hmod] at han ht
    have HT := Lib.hid ht
    have hpos := fun w hE => pos_any ((b - 9223372036854775808 : Nat) : Int) (by omega) (by omega) w hE
    rw [Int.toNat_natCast] at hpos
    obtain ⟨m, hm⟩ : ∃ m, m = b - 9223372036854775808 := ⟨_, rfl⟩
    rw [← hm] at han HT hpos
    clear lit ht hn hcb k k' hmod hm
    rcases hc with hc | hc
    all_goals
      rw [hc] at hcl
      clear hc
      go_enter Tryz.func9, Tryz.ntmps9
      go_wp2_with (first | (go_at_call 20; refine hcl.mono ?_; rintro e w' ⟨rfl, rfl⟩) | (go_at_call 22; refine hbits.mono ?_; rintro e w' ⟨rfl, rfl⟩) | (go_at_call 21; refine (hpos _ hE).mono ?_; rintro e w' ⟨S, rfl, hS, hSs, hb1⟩))
      go_ret
      refine ⟨_, rfl, Lib.hid ?_, ?_, hb1⟩
      · rw [hS.out, HT.out]
        exact mk_append [45] _
      · rw [ByteArray.size_append]
        have : (⟨#[45]⟩ : ByteArray).size = 1 := rfl
        omega
  · have HF := lit _ (by simp) ht
    rw [hc] at hcl
    clear lit ht hc hn hcb k
    go_enter Tryz.func9, Tryz.ntmps9
    go_wp2_with (go_at_call 20; refine hcl.mono ?_; rintro e w' ⟨rfl, rfl⟩)
    go_ret
    exact HF
  · have HF := lit _ (by simp) ht
    rw [hc] at hcl
    clear lit ht hc hn hcb k
    go_enter Tryz.func9, Tryz.ntmps9
    go_wp2_with (go_at_call 20; refine hcl.mono ?_; rintro e w' ⟨rfl, rfl⟩)
    go_ret
    exact HF
  · have hbits := bits_any b hb w
    rw [hcb] at hbits
    have HT := Lib.hid ht
    have hpos := fun w hE => pos_any (b : Int) (by omega) (by omega) w hE
    rw [Int.toNat_natCast] at hpos
    clear lit ht hn hcb
    rcases hc with hc | hc
    all_goals
      rw [hc] at hcl
      clear hc
      go_enter Tryz.func9, Tryz.ntmps9
      go_wp2_with (first | (go_at_call 20; refine hcl.mono ?_; rintro e w' ⟨rfl, rfl⟩) | (go_at_call 22; refine hbits.mono ?_; rintro e w' ⟨rfl, rfl⟩) | (go_at_call 21; refine (hpos _ hE).mono ?_; rintro e w' ⟨S, rfl, hS, hSs, hb1⟩))
      go_ret
      exact ⟨_, rfl, Lib.hid (by rw [hS.out, HT.out]), by omega, hb1⟩
  · have HF := lit _ (by simp) ht
    rw [hc] at hcl
    clear lit ht hc hn hcb k
    go_enter Tryz.func9, Tryz.ntmps9
    go_wp2_with (go_at_call 20; refine hcl.mono ?_; rintro e w' ⟨rfl, rfl⟩)
    go_ret
    exact HF

end Go.Proofs.YtlbnfnfenphfbaaGreatDoor
