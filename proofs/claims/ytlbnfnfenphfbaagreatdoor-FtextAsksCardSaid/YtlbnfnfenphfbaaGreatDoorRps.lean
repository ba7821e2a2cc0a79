/- Proved: the document's own Parse reads a text as the number whose text it is, or refuses it. -/
import Derived.Test.YtlbnfnfenphfbaaGreatDoorRpp
import Derived.Test.YtlbnfnfenphfbaaGreatDoorRtx
import Derived.Deep.Cut
import Derived.Deep.CutBlock
namespace Go.Proofs.YtlbnfnfenphfbaaGreatDoor
open Go.RowKit Fl Tx

theorem list_at (t : ByteArray) (i : Nat) (h : i < t.size) : t.data.toList[i]? = some (t[i]'h) := by
  have h' : i < t.data.toList.length := by simpa using h
  rw [List.getElem?_eq_getElem h']; rfl
theorem list_drop (t : ByteArray) (i : Nat) (h : i < t.size) : t.data.toList.drop i = t[i]'h :: t.data.toList.drop (i + 1) := by
  have h' : i < t.data.toList.length := by simpa using h
  rw [List.drop_eq_getElem_cons h']; rfl
theorem list_end (t : ByteArray) (i : Nat) (h : t.size ≤ i) : t.data.toList.drop i = [] := List.drop_of_length_le (by simpa using h)
theorem size_list (t : ByteArray) : t.data.toList.length = t.size := by simp
theorem beq_list (t : ByteArray) (l : List UInt8) : (t.toList == l) = decide (t.data.toList = l) := by
  rw [ByteArray.toList_eq]
  by_cases h : t.data.toList = l
  · simp [h]
  · simp [h]
theorem byte_eq (c d : UInt8) (h : ((c.toNat : Int) == (d.toNat : Int)) = true) : c = d := by
  have h2 : (c.toNat : Int) = (d.toNat : Int) := by simpa using h
  have : c.toNat = d.toNat := by omega
  exact UInt8.toNat_inj.1 this

/-- The sign taken off. -/
theorem sign_cut (s : ByteArray) (h0 : 0 < s.size) (h : s[0]'h0 = 45) : s.data.toList = [45] ++ (s.extract 1 s.size).data.toList ∧ (s.extract 1 s.size).size ≤ s.size := by
  have h1 : (s.extract 1 s.size).data.toList = s.data.toList.drop 1 := by
    rw [ByteArray.data_extract, Array.toList_extract, List.extract_eq_take_drop, List.take_of_length_le (by rw [List.length_drop, size_list]; exact Nat.le_refl _)]
  refine ⟨?_, by rw [ByteArray.size_extract]; omega⟩
  rw [h1]
  have := list_drop s 0 h0
  rw [List.drop_zero, h] at this
  exact this

theorem isB_first {L : List UInt8} {m : Nat} (h : IsB L m) : L.head? = some 48 ∨ L.head? = some 49 := by
  have h1 := isB_head h
  rw [List.head?_eq_getElem?, h1]
  split
  · exact .inl rfl
  · exact .inr rfl

theorem shl_hex (d n : Nat) (hd : d < 16) (hn : n + 1 ≤ 13) : IntKind.u64.wrap ((d : Int) * 2 ^ (4 * (n + 1) - 4)) = ((d * 16 ^ n : Nat) : Int) := by
  have e : (16 : Nat) ^ n = 2 ^ (4 * n) := by rw [Nat.pow_mul]
  have h1 : 16 ^ n ≤ 16 ^ 12 := Nat.pow_le_pow_right (by decide) (by omega)
  have h2 : d * 16 ^ n ≤ 15 * 16 ^ 12 := Nat.mul_le_mul (by omega) h1
  rw [IntKind.wrap_u64, show 4 * (n + 1) - 4 = 4 * n by omega]
  have h3 : (d : Int) * 2 ^ (4 * n) = ((d * 16 ^ n : Nat) : Int) := by
    rw [e]; simp
  rw [h3]
  have h4 : (15 * 16 ^ 12 : Nat) < 18446744073709551616 := by decide
  omega
theorem or_lt (f d n : Nat) (hf : 16 ^ (n + 1) ∣ f) (hl : f < 4503599627370496) (hd : d < 16) (hn : n + 1 ≤ 13) : f + d * 16 ^ n < 4503599627370496 := by
  obtain ⟨F, rfl⟩ := hf
  have e1 : (4503599627370496 : Nat) = 16 ^ (n + 1) * 16 ^ (12 - n) := by rw [← Nat.pow_add, show n + 1 + (12 - n) = 13 by omega]
  have hp : 0 < 16 ^ (n + 1) := Nat.pow_pos (by decide)
  rw [e1] at hl ⊢
  have h1 : F < 16 ^ (12 - n) := Nat.lt_of_mul_lt_mul_left hl
  have h2 : d * 16 ^ n < 16 ^ (n + 1) := by
    rw [Nat.pow_succ, Nat.mul_comm (16 ^ n)]
    exact Nat.mul_lt_mul_of_pos_right hd (Nat.pow_pos (by decide))
  calc 16 ^ (n + 1) * F + d * 16 ^ n < 16 ^ (n + 1) * F + 16 ^ (n + 1) := by omega
    _ = 16 ^ (n + 1) * (F + 1) := by rw [Nat.mul_add, Nat.mul_one]
    _ ≤ 16 ^ (n + 1) * 16 ^ (12 - n) := Nat.mul_le_mul_left _ h1
theorem u64_or_nat (a b : Nat) (ha : a < 18446744073709551616) (hb : b < 18446744073709551616) : bits .or .u64 (a : Int) (b : Int) = ((a ||| b : Nat) : Int) := by
  rw [u64_or _ _ (by omega) (by omega) (by omega) (by omega)]
  simp only [Int.toNat_natCast]
theorem cast_add (a b : Nat) {k : IntKind} : Value.int k ((a : Int) + (b : Int)) = Value.int k ((a + b : Nat) : Int) := rfl
theorem cast_k (n : Nat) : Value.int .i64 (4 * ((n : Int) + 1) - 4 - 4) = Value.int .i64 (4 * (n : Int) - 4) := by
  rw [show 4 * ((n : Int) + 1) - 4 - 4 = 4 * (n : Int) - 4 by omega]
theorem byte_dec (c d : UInt8) : ((c.toNat : Int) == (d.toNat : Int)) = decide (some c = some d) := by
  rw [Bool.eq_iff_iff, beq_iff_eq, decide_eq_true_eq]
  constructor
  · intro h
    rw [byte_eq c d (by rw [h]; exact beq_self_eq_true _)]
  · intro h
    injection h with h
    rw [h]
theorem or_sign (B0 x : Nat) (hB : B0 = 0 ∨ B0 = 9223372036854775808) (hx : x < 9223372036854775808) : B0 ||| x = B0 + x := by
  rcases hB with rfl | rfl
  · simp
  · have := or_up 1 x 63 (by omega)
    simpa using this
theorem or_frac (B0 E f : Nat) (hB : B0 = 0 ∨ B0 = 9223372036854775808) (hf : f < 4503599627370496) : (B0 + E * 4503599627370496) ||| f = B0 + E * 4503599627370496 + f := by
  obtain ⟨F, hF⟩ : ∃ F, B0 = F * 4503599627370496 := by
    rcases hB with rfl | rfl
    · exact ⟨0, rfl⟩
    · exact ⟨2048, rfl⟩
  rw [hF, ← Nat.add_mul]
  have := or_up (F + E) f 52 (by omega)
  simpa using this
theorem cast_dig (e n : Nat) (h : 48 ≤ n) : Value.int .i64 (10 * (e : Int) + ((n : Int) - 48)) = Value.int .i64 ((10 * e + (n - 48) : Nat) : Int) := by
  rw [show ((10 * e + (n - 48) : Nat) : Int) = 10 * (e : Int) + ((n : Int) - 48) by omega]
theorem cast_succ (i : Nat) {k : IntKind} : Value.int k ((i : Int) + 1) = Value.int k ((i + 1 : Nat) : Int) := rfl

set_option maxHeartbeats 80000000 in
set_option maxRecDepth 100000 in
theorem rparse_some (s : ByteArray) (hs : s.size ≤ 100000) (h0 : 0 < s.size) (w : World) :
    Calls Tryz.prog 8 #[.string s] w (ParseOf s.data.toList w) := by
  have HSC : Hid (s[0]'h0 = 45 → s.data.toList = [45] ++ (s.extract 1 s.size).data.toList ∧ (s.extract 1 s.size).size ≤ s.size) := Lib.hid (sign_cut s h0)
  have HS0 : Hid (s.data.toList.head? = some (s[0]'h0)) := Lib.hid (by rw [List.head?_eq_getElem?]; exact list_at s 0 h0)
  go_enter Tryz.func8, Tryz.ntmps8
  go_upto_if 21 with fail
  go_cut [4, 5] from 13 (fun s4 s5 wx => ∃ (t : ByteArray) (B0 : Nat), s4 = .string t ∧ s5 = .int .u64 (B0 : Int) ∧ t.size ≤ 100000 ∧ (B0 = 0 ∨ B0 = 9223372036854775808) ∧
    Hid (s.data.toList = (if B0 = 0 then [] else [45]) ++ t.data.toList ∧ (B0 = 0 → t.data.toList.head? ≠ some 45)) ∧ wx = w)
  case first =>
    by_cases hc : ((((s[0]'h0).toNat : Nat) : Int) == 45) = true
    · have H45 := Lib.hid (byte_eq (s[0]'h0) 45 hc)
      go_wp2_with fail
      go_meet
      case rel =>
        have h1 := HSC.out H45.out
        exact ⟨_, 9223372036854775808, rfl, rfl, by omega, .inr rfl, Lib.hid ⟨h1.1, fun h => absurd h (by decide)⟩, rfl⟩
    · have hc : ((((s[0]'h0).toNat : Nat) : Int) == 45) = false := by simpa using hc
      have H45 : Hid (s[0]'h0 ≠ 45) := Lib.hid (fun h => by rw [h] at hc; exact absurd hc (by decide))
      go_wp2_with fail
      go_meet
      case rel =>
        exact ⟨_, 0, rfl, rfl, hs, .inl rfl, Lib.hid ⟨rfl, fun _ => by rw [HS0.out]; intro h; injection h with h; exact H45.out h⟩, rfl⟩
  case rest =>
    obtain ⟨t, B0, rfl, rfl, hts, hB0, HL, rfl⟩ := hcut
    clear HSC HS0 h0
    have HP : Hid (∀ b, Can b → s.data.toList = text b → (B0 = 0 ∧ t.data.toList = [110, 97, 110]) ∨ (t.data.toList = [105, 110, 102]) ∨ (t.data.toList = [48]) ∨ (IsB t.data.toList (b % 9223372036854775808) ∧ b = B0 + b % 9223372036854775808)) :=
      Lib.hid (fun b hb ht => text_parts b hb s.data.toList t.data.toList B0 hB0 HL.out.1 HL.out.2 ht)
    have b1 := beq_list t [110, 97, 110]
    have b2 := beq_list t [105, 110, 102]
    have b3 := beq_list t [48]
    by_cases q1 : t.data.toList = [110, 97, 110]
    · as_aux_lemma =>
      rw [decide_eq_true q1] at b1
      have Q1 := Lib.hid q1
      clear q1 b2 b3
      rcases hB0 with rfl | rfl
      · have HT : Hid (s.data.toList = text 9221120237041090560) := Lib.hid (by rw [HL.out.1, Q1.out]; rfl)
        clear HP HL Q1
        go_wp2_with (go_at_call 18; refine (rfrom_as _ 9221120237041090560 (by omega) (by omega) (Lib.hid (by decide +kernel)) _).mono ?_; rintro e w' ⟨rfl, rfl⟩)
        go_ret2
        exact ⟨.inl ⟨_, ⟨by decide +kernel, by decide⟩, HT.out, rfl⟩, Below.refl _ _⟩
      · have HN : Hid (∀ b, Can b → s.data.toList ≠ text b) := Lib.hid (fun b hb ht => by
          rcases HP.out b hb ht with ⟨h, _⟩ | h | h | ⟨h, _⟩
          · exact absurd h (by decide)
          · rw [Q1.out] at h; exact absurd h (by decide)
          · rw [Q1.out] at h; exact absurd h (by decide)
          · have := isB_first h
            rw [Q1.out] at this; exact absurd this (by decide))
        clear HP HL Q1
        go_wp2_with fail
        go_ret2
        exact ⟨.inr ⟨HN.out, rfl⟩, Below.refl _ _⟩
    · rw [decide_eq_false q1] at b1
      have Q1 := Lib.hid q1
      clear q1
      by_cases q2 : t.data.toList = [105, 110, 102]
      · as_aux_lemma =>
        rw [decide_eq_true q2] at b2
        have HT : Hid (s.data.toList = text (B0 + 9218868437227405312) ∧ Can (B0 + 9218868437227405312)) := Lib.hid (by
          rw [HL.out.1, q2]
          rcases hB0 with rfl | rfl
          · exact ⟨by decide +kernel, by decide +kernel, by decide⟩
          · exact ⟨by decide +kernel, by decide +kernel, by decide⟩)
        have hor : bits .or .u64 (B0 : Int) 9218868437227405312 = ((B0 + 9218868437227405312 : Nat) : Int) := by rcases hB0 with rfl | rfl <;> decide +kernel
        clear q2 b3 HP HL Q1
        go_wp2_with (go_at_call 18; refine (rfrom_as _ (B0 + 9218868437227405312) (by omega) (by omega) (Lib.hid (by rw [show ((B0 : Int) + 9218868437227405312).toNat = B0 + 9218868437227405312 by omega]; exact HT.out.2.1)) _).mono ?_; rintro e w' ⟨rfl, rfl⟩)
        go_ret2
        exact ⟨.inl ⟨_, HT.out.2, HT.out.1, rfl⟩, Below.refl _ _⟩
      · rw [decide_eq_false q2] at b2
        have Q2 := Lib.hid q2
        clear q2
        by_cases q3 : t.data.toList = [48]
        · as_aux_lemma =>
          rw [decide_eq_true q3] at b3
          have HT : Hid (s.data.toList = text B0 ∧ Can B0) := Lib.hid (by
            rw [HL.out.1, q3]
            rcases hB0 with rfl | rfl
            · exact ⟨by decide +kernel, by decide +kernel, by decide⟩
            · exact ⟨by decide +kernel, by decide +kernel, by decide⟩)
          clear q3 HP HL Q1 Q2
          go_wp2_with (go_at_call 18; refine (rfrom_as _ B0 (by omega) (by omega) (Lib.hid (by rw [Int.toNat_natCast]; exact HT.out.2.1)) _).mono ?_; rintro e w' ⟨rfl, rfl⟩)
          go_ret2
          exact ⟨.inl ⟨_, HT.out.2, HT.out.1, rfl⟩, Below.refl _ _⟩
        · rw [decide_eq_false q3] at b3
          have Q3 := Lib.hid q3
          clear q3
          have HG : Hid (∀ b, Can b → s.data.toList = text b → IsB t.data.toList (b % 9223372036854775808) ∧ b = B0 + b % 9223372036854775808) := Lib.hid (fun b hb ht => by
            rcases HP.out b hb ht with ⟨_, h⟩ | h | h | h
            · exact absurd h Q1.out
            · exact absurd h Q2.out
            · exact absurd h Q3.out
            · exact h)
          have HN : Hid ((∀ m, ¬ IsB t.data.toList m) → ∀ b, Can b → s.data.toList ≠ text b) := Lib.hid (fun h b hb ht => h _ (HG.out b hb ht).1)
          clear HP Q1 Q2 Q3
          by_cases hlt : t.size < 3
          · have HN' := Lib.hid (HN.out (fun m h => by have := isB_len h; rw [size_list] at this; omega))
            go_wp2_with fail
            go_ret2
            exact ⟨.inr ⟨HN'.out, rfl⟩, Below.refl _ _⟩
          · have h3 : 3 ≤ t.size := by omega
            clear hlt
            have h0 : 0 < t.size := by omega
            have h1 : 1 < t.size := by omega
            have HA0 := Lib.hid (list_at t 0 h0)
            have HA1 := Lib.hid (list_at t 1 h1)
            obtain ⟨c0, hc0⟩ : ∃ c, c = (t[0]'h0) := ⟨_, rfl⟩
            rw [← hc0] at HA0
            have hc0' : (t[0]'h0).toNat = c0.toNat := by rw [hc0]
            obtain ⟨c1, hc1⟩ : ∃ c, c = (t[1]'h1) := ⟨_, rfl⟩
            rw [← hc1] at HA1
            have hc1' : (t[1]'h1).toNat = c1.toNat := by rw [hc1]
            clear hc0 hc1
            by_cases k0 : ¬ (c0 = 48 ∨ c0 = 49)
            · as_aux_lemma =>
              have HN' := Lib.hid (HN.out (fun m h => by
                have := isB_head h
                rw [HA0.out] at this
                injection this with this
                rw [this] at k0
                exact k0 (by split <;> simp)))
              have e1 : ((c0.toNat : Int) != 48) = true := by
                rw [bne_iff_ne]; intro h; exact k0 (.inl (UInt8.toNat_inj.1 (by simpa using (by omega : c0.toNat = 48))))
              have e2 : ((c0.toNat : Int) != 49) = true := by
                rw [bne_iff_ne]; intro h; exact k0 (.inr (UInt8.toNat_inj.1 (by simpa using (by omega : c0.toNat = 49))))
              go_wp2_with fail
              go_ret2
              exact ⟨.inr ⟨HN'.out, rfl⟩, Below.refl _ _⟩
            · have HK : Hid (c0 = 48 ∨ c0 = 49) := Lib.hid (Decidable.of_not_not k0)
              clear k0
              have hl3 : decide ((t.size : Int) < 3) = false := by simp; omega
              go_upto_region 15 with fail
              go_cut [51] from 13 (fun s51 wx => s51 = .bool false ∧ wx = wc)
              case first =>
                rcases HK.out with k | k
                · have k' : c0.toNat = 48 := by rw [k]; rfl
                  go_wp2_with fail
                  go_meet
                  case rel => exact ⟨rfl, rfl⟩
                · have k' : c0.toNat = 49 := by rw [k]; rfl
                  go_wp2_with fail
                  go_meet
                  case rel => exact ⟨rfl, rfl⟩
              case rest =>
                obtain ⟨rfl, rfl⟩ := hcut
                go_upto_if 58 with fail
                go_cut [7, 8, 9] from 13 (fun s7 s8 s9 wx => ∃ (i f : Nat), s7 = .int .i64 (i : Int) ∧ s8 = .int .u64 (f : Int) ∧ i ≤ t.size ∧ f < 4503599627370496 ∧
                  Hid (∀ m, IsB t.data.toList m → f = m % 4503599627370496 ∧ t.data.toList.drop i = 112 :: etx (expo m)) ∧ wx = wc)
                case first =>
                  as_aux_lemma =>
                  by_cases hd : ((c1.toNat : Int) == 46) = true
                  · have H46 := Lib.hid (byte_eq c1 46 hd)
                    rw [hd]
                    clear hd
                    go_wp2_with fail
                    go_loop [7, 8, 9] (fun v7 v8 v9 => ∃ (n i f : Nat), v7 = .int .i64 (i : Int) ∧ v8 = .int .u64 (f : Int) ∧ v9 = .int .i64 (4 * (n : Int) - 4) ∧ n ≤ 13 ∧ i ≤ t.size ∧ f < 4503599627370496 ∧
                      Hid (16 ^ n ∣ f ∧ ∀ m, IsB t.data.toList m → ∃ h, h < 16 ^ n ∧ f + h = m % 4503599627370496 ∧ t.data.toList.drop i = hexT n h ++ 112 :: etx (expo m))) (fun v7 _ _ => t.size - (intOf v7).toNat)
                    case atStart => exact ⟨13, 2, 0, rfl, rfl, rfl, by omega, by omega, by omega, Lib.hid ⟨⟨0, rfl⟩, fun m h => ⟨_, Nat.mod_lt _ (by decide), Nat.zero_add _, isB_dot h (by rw [HA1.out, H46.out])⟩⟩⟩
                    case round =>
                      obtain ⟨n, i, f, rfl, rfl, rfl, hn, hi, hf, HI⟩ := hrel
                      by_cases hin : i < t.size
                      · have HD := Lib.hid (list_drop t i hin)
                        obtain ⟨c, hc⟩ : ∃ c, c = (t[i]'hin) := ⟨_, rfl⟩
                        rw [← hc] at HD
                        have hci : (t[i]'hin) = c := hc.symm
                        clear hc
                        have hvr := hv_range c
                        have hx0 := fun w => hexof_any c w
                        by_cases hh : 0 ≤ hv c
                        · obtain ⟨d, hd⟩ : ∃ d : Nat, hv c = (d : Int) := ⟨(hv c).toNat, by omega⟩
                          have HV := Lib.hid hd
                          rw [hd] at hx0 hvr
                          have hd16 : d < 16 := by omega
                          clear hh hd hvr
                          cases n with
                          | zero =>
                            have HE : Hid (∀ m, IsB t.data.toList m → f = m % 4503599627370496 ∧ t.data.toList.drop i = 112 :: etx (expo m)) := Lib.hid (fun m hm => by
                              obtain ⟨h, h1, h2, h3⟩ := HI.out.2 m hm
                              obtain rfl : h = 0 := by simpa using h1
                              exact ⟨by omega, h3⟩)
                            clear HI
                            go_wp2_with (go_at_call 19; refine (hx0 _).mono ?_; rintro e w' ⟨rfl, rfl⟩)
                            go_meet
                            case rel => exact ⟨i, f, rfl, rfl, hi, hf, HE, rfl⟩
                          | succ n' =>
                            have hshl := shl_hex d n' hd16 hn
                            have HO : Hid (bits .or .u64 (f : Int) ((d * 16 ^ n' : Nat) : Int) = ((f + d * 16 ^ n' : Nat) : Int) ∧ 16 ^ n' ∣ f + d * 16 ^ n' ∧ f + d * 16 ^ n' < 4503599627370496) := Lib.hid (by
                              have h1 := or_hex f d n' HI.out.1 hd16
                              have h2 := or_lt f d n' HI.out.1 hf hd16 hn
                              exact ⟨by rw [u64_or_nat _ _ (by omega) (by omega), h1.1], h1.2, h2⟩)
                            have HE : Hid (∀ m, IsB t.data.toList m → ∃ h, h < 16 ^ n' ∧ f + d * 16 ^ n' + h = m % 4503599627370496 ∧ t.data.toList.drop (i + 1) = hexT n' h ++ 112 :: etx (expo m)) := Lib.hid (fun m hm => by
                              obtain ⟨h, h1, h2, h3⟩ := HI.out.2 m hm
                              rw [HD.out] at h3
                              obtain ⟨k1, k2, k3⟩ := hex_read h1 (by rw [HV.out]; omega) h3
                              refine ⟨_, k1, ?_, k3⟩
                              rw [HV.out] at k2
                              have k4 : d = h / 16 ^ n' := by omega
                              have k5 := Nat.div_add_mod h (16 ^ n')
                              rw [← k4, Nat.mul_comm] at k5
                              omega)
                            obtain ⟨X, hX⟩ : ∃ X, X = d * 16 ^ n' := ⟨_, rfl⟩
                            rw [← hX] at hshl HO HE
                            have hor := HO.out.1
                            have hlt2 := HO.out.2.2
                            have HO2 := Lib.hid HO.out.2.1
                            clear hX HO HI
                            go_wp2_with (go_at_call 19; refine (hx0 _).mono ?_; rintro e w' ⟨rfl, rfl⟩)
                            go_round
                            case rel =>
                              first
                                | exact ⟨n', i + 1, f + X, cast_succ i, cast_add f X, cast_k n', by omega, by omega, hlt2, Lib.hid ⟨HO2.out, HE.out⟩⟩
                                | exact ⟨n', i + 1, f + X, by go_num, by go_num, by go_num, by omega, by omega, hlt2, Lib.hid ⟨HO2.out, HE.out⟩⟩
                            case measure => first | (simp [intOf]; omega) | (show t.size - (i + 1) < t.size - i; omega)
                        · have HE : Hid (∀ m, IsB t.data.toList m → f = m % 4503599627370496 ∧ t.data.toList.drop i = 112 :: etx (expo m)) := Lib.hid (fun m hm => by
                            obtain ⟨h, h1, h2, h3⟩ := HI.out.2 m hm
                            have h4 := h3
                            rw [HD.out] at h3
                            obtain rfl := hex_stop h1 (by omega) h3
                            rw [(hexT_nil n 0 h1).2 rfl] at h4
                            exact ⟨by omega, h4⟩)
                          clear HI
                          have hneg : decide (0 ≤ hv c) = false := by simpa using hh
                          obtain ⟨v, hv'⟩ : ∃ v, v = hv c := ⟨_, rfl⟩
                          rw [← hv'] at hx0 hh hneg hvr
                          clear hv'
                          go_wp2_with (go_at_call 19; refine (hx0 _).mono ?_; rintro e w' ⟨rfl, rfl⟩)
                          go_meet
                          case rel => exact ⟨i, f, rfl, rfl, hi, hf, HE, rfl⟩
                      · have HE : Hid (∀ m, IsB t.data.toList m → f = m % 4503599627370496 ∧ t.data.toList.drop i = 112 :: etx (expo m)) := Lib.hid (fun m hm => by
                          obtain ⟨h, h1, h2, h3⟩ := HI.out.2 m hm
                          rw [list_end t i (by omega)] at h3
                          exact absurd h3 (by simp))
                        clear HI
                        go_wp2_with fail
                        go_meet
                        case rel => exact ⟨i, f, rfl, rfl, hi, hf, HE, rfl⟩
                  · have H46 : Hid (c1 ≠ 46) := Lib.hid (fun h => hd (by rw [h]; decide))
                    have hd : ((c1.toNat : Int) == 46) = false := by simpa using hd
                    go_wp2_with fail
                    go_meet
                    case rel => exact ⟨1, 0, rfl, rfl, by omega, by omega, Lib.hid (fun m h => by
                      have h1 := isB_nodot h (by rw [HA1.out]; intro k; injection k with k; exact H46.out k)
                      exact ⟨h1.2.symm, h1.1⟩), rfl⟩
                case rest =>
                  obtain ⟨i, f, rfl, rfl, hi, hf, HF, rfl⟩ := hcut
                  clear b1 b2 b3 HA1 hc1'
                  by_cases hin : i < t.size
                  · have HD := Lib.hid (list_drop t i hin)
                    obtain ⟨c, hc⟩ : ∃ c, c = (t[i]'hin) := ⟨_, rfl⟩
                    rw [← hc] at HD
                    have hci : (t[i]'hin) = c := hc.symm
                    clear hc
                    by_cases hp : ((c.toNat : Int) == 112) = true
                    · have HF2 : Hid (∀ m, IsB t.data.toList m → f = m % 4503599627370496 ∧ t.data.toList.drop (i + 1) = etx (expo m)) := Lib.hid (fun m hm => by
                        have h := HF.out m hm
                        rw [HD.out] at h
                        refine ⟨h.1, ?_⟩
                        have h2 := h.2
                        injection h2)
                      have hpn : ((c.toNat : Int) != 112) = false := by rw [bne, hp]; rfl
                      clear HF HD
                      go_upto_region 30 with fail
                      go_cut [10] from 13 (fun s10 wx => ∃ ng : Bool, s10 = .bool ng ∧ Hid (ng = decide ((t.data.toList.drop (i + 1)).head? = some 45)) ∧ (ng = true → i + 1 < t.size) ∧ wx = wc)
                      case first =>
                        as_aux_lemma =>
                        by_cases hj : i + 1 < t.size
                        · have HD2 := Lib.hid (list_drop t (i + 1) hj)
                          obtain ⟨c2, hc2⟩ : ∃ c, c = (t[i + 1]'hj) := ⟨_, rfl⟩
                          rw [← hc2] at HD2
                          have hci2 : (t[i + 1]'hj) = c2 := hc2.symm
                          clear hc2
                          go_wp2_with fail
                          go_meet
                          case rel => exact ⟨_, rfl, Lib.hid (by rw [HD2.out, List.head?_cons]; exact byte_dec c2 45), fun _ => hj, rfl⟩
                        · have HD2 := Lib.hid (list_end t (i + 1) (by omega))
                          go_wp2_with fail
                          go_meet
                          case rel => exact ⟨_, rfl, Lib.hid (by rw [HD2.out]; rfl), fun h => absurd h (by decide), rfl⟩
                      case rest =>
                        obtain ⟨ng, rfl, HNG, hng, rfl⟩ := hcut
                        go_upto_if 111 with fail
                        go_cut [7] from 13 (fun s7 wx => ∃ j : Nat, s7 = .int .i64 (j : Int) ∧ j ≤ t.size ∧ Hid (∀ m, IsB t.data.toList m → f = m % 4503599627370496 ∧ ng = decide (expo m < 0) ∧ fd 0 (t.data.toList.drop j) = some (expo m).natAbs) ∧ wx = wc)
                        case first =>
                          as_aux_lemma =>
                          cases ng with
                          | true =>
                            have hj := hng rfl
                            have HH : Hid (∀ m, IsB t.data.toList m → f = m % 4503599627370496 ∧ true = decide (expo m < 0) ∧ fd 0 (t.data.toList.drop (i + 1 + 1)) = some (expo m).natAbs) := Lib.hid (fun m hm => by
                              have h := HF2.out m hm
                              have hr := expo_range m hm.2.1
                              have h45 : (t.data.toList.drop (i + 1)).head? = some 45 := of_decide_eq_true HNG.out.symm
                              have hd := list_drop t (i + 1) hj
                              have he := h.2
                              rw [hd, List.head?_cons] at h45
                              injection h45 with h45
                              rw [hd, h45] at he
                              obtain ⟨k1, k2⟩ := etx_minus hr.1 hr.2 he.symm
                              exact ⟨h.1, (decide_eq_true k1).symm, k2⟩)
                            clear HF2 HNG
                            go_wp2_with fail
                            go_meet
                            case rel => exact ⟨i + 1 + 1, rfl, by omega, HH, rfl⟩
                          | false =>
                            have HH : Hid (∀ m, IsB t.data.toList m → f = m % 4503599627370496 ∧ false = decide (expo m < 0) ∧ fd 0 (t.data.toList.drop (i + 1)) = some (expo m).natAbs) := Lib.hid (fun m hm => by
                              have h := HF2.out m hm
                              have hr := expo_range m hm.2.1
                              have h45 : ¬ (t.data.toList.drop (i + 1)).head? = some 45 := of_decide_eq_false HNG.out.symm
                              obtain ⟨k1, k2⟩ := etx_plus hr.1 hr.2 h.2.symm h45
                              exact ⟨h.1, (decide_eq_false (by omega)).symm, k2⟩)
                            clear HF2 HNG
                            go_wp2_with fail
                            go_meet
                            case rel => exact ⟨i + 1, rfl, by omega, HH, rfl⟩
                        case rest =>
                          obtain ⟨j, rfl, hj, HJ, rfl⟩ := hcut
                          clear hci hp hpn hin hi HF2 HNG hng
                          go_upto_block 3 with fail
                          go_cut [7, 11] from 13 (fun s7 s11 wx => ∃ (j e : Nat), s7 = .int .i64 (j : Int) ∧ s11 = .int .i64 (e : Int) ∧ e ≤ 100009 ∧ Hid (∀ m, IsB t.data.toList m → f = m % 4503599627370496 ∧ ng = decide (expo m < 0) ∧ e = (expo m).natAbs) ∧ wx = wc)
                          case first =>
                            as_aux_lemma =>
                            go_wp2_with fail
                            go_loop [7, 11] (fun v7 v11 => ∃ (j e : Nat), v7 = .int .i64 (j : Int) ∧ v11 = .int .i64 (e : Int) ∧ j ≤ t.size ∧ e ≤ 100009 ∧
                              Hid (∀ m, IsB t.data.toList m → f = m % 4503599627370496 ∧ ng = decide (expo m < 0) ∧ fd e (t.data.toList.drop j) = some (expo m).natAbs)) (fun v7 _ => t.size - (intOf v7).toNat)
                            case atStart => exact ⟨j, 0, rfl, rfl, hj, by omega, HJ⟩
                            case round =>
                              clear hj HJ
                              obtain ⟨j, e, rfl, rfl, hj, he, HI⟩ := hrel
                              by_cases hjn : j < t.size
                              · have HD := Lib.hid (list_drop t j hjn)
                                obtain ⟨c, hc⟩ : ∃ c, c = (t[j]'hjn) := ⟨_, rfl⟩
                                rw [← hc] at HD
                                have hci : (t[j]'hjn).toNat = c.toNat := by rw [← hc]
                                clear hc
                                have hc256 : c.toNat < 256 := c.toNat_lt
                                have HNO : Hid (¬ (48 ≤ c.toNat ∧ c.toNat ≤ 57) → ∀ m, ¬ IsB t.data.toList m) := Lib.hid (fun hno m hm => by
                                  have h := (HI.out m hm).2.2
                                  rw [HD.out, fd, if_neg hno] at h
                                  cases h)
                                obtain ⟨n, hn⟩ : ∃ n, n = c.toNat := ⟨_, rfl⟩
                                rw [← hn] at hci hc256 HNO
                                have Hn := Lib.hid hn
                                clear hn
                                by_cases h48 : 48 ≤ n
                                · by_cases h57 : n ≤ 57
                                  · by_cases he4 : e < 10000
                                    · have HE : Hid (∀ m, IsB t.data.toList m → f = m % 4503599627370496 ∧ ng = decide (expo m < 0) ∧ fd (10 * e + (n - 48)) (t.data.toList.drop (j + 1)) = some (expo m).natAbs) := Lib.hid (fun m hm => by
                                        have h := HI.out m hm
                                        rw [HD.out, fd, if_pos (by rw [← Hn.out]; exact ⟨h48, h57⟩), ← Hn.out] at h
                                        exact h)
                                      clear HI HNO HD
                                      go_wp2_with fail
                                      go_round
                                      case rel =>
                                        first
                                          | exact ⟨j + 1, 10 * e + (n - 48), cast_succ j, cast_dig e n h48, by omega, by omega, HE⟩
                                          | exact ⟨j + 1, 10 * e + (n - 48), by first | rfl | (simp; done) | go_num, by first | rfl | exact cast_dig e n h48 | go_num, by omega, by omega, HE⟩
                                      case measure => first | (simp [intOf]; omega) | (show t.size - (j + 1) < t.size - j; omega)
                                    · have HE : Hid (∀ m, IsB t.data.toList m → f = m % 4503599627370496 ∧ ng = decide (expo m < 0) ∧ e = (expo m).natAbs) := Lib.hid (fun m hm => by
                                        have h := (HI.out m hm).2.2
                                        have h1 := fd_ge _ _ _ h
                                        have h2 := expo_range m hm.2.1
                                        omega)
                                      clear HI HNO HD
                                      go_wp2_with fail
                                      go_meet
                                      case rel => exact ⟨j, e, rfl, rfl, he, HE, rfl⟩
                                  · have HE : Hid (∀ m, IsB t.data.toList m → f = m % 4503599627370496 ∧ ng = decide (expo m < 0) ∧ e = (expo m).natAbs) := Lib.hid (fun m hm => absurd hm (HNO.out (by omega) m))
                                    clear HI HNO HD
                                    go_wp2_with fail
                                    go_meet
                                    case rel => exact ⟨j, e, rfl, rfl, he, HE, rfl⟩
                                · have HE : Hid (∀ m, IsB t.data.toList m → f = m % 4503599627370496 ∧ ng = decide (expo m < 0) ∧ e = (expo m).natAbs) := Lib.hid (fun m hm => absurd hm (HNO.out (by omega) m))
                                  clear HI HNO HD
                                  go_wp2_with fail
                                  go_meet
                                  case rel => exact ⟨j, e, rfl, rfl, he, HE, rfl⟩
                              · have HE : Hid (∀ m, IsB t.data.toList m → f = m % 4503599627370496 ∧ ng = decide (expo m < 0) ∧ e = (expo m).natAbs) := Lib.hid (fun m hm => by
                                  have h := HI.out m hm
                                  rw [list_end t j (by omega), fd] at h
                                  refine ⟨h.1, h.2.1, ?_⟩
                                  have h2 := h.2.2
                                  injection h2)
                                clear HI
                                go_wp2_with fail
                                go_meet
                                case rel => exact ⟨j, e, rfl, rfl, he, HE, rfl⟩
                          case rest =>
                            clear hj HJ
                            obtain ⟨j', e, rfl, rfl, he, HE, rfl⟩ := hcut
                            go_upto_if 144 with fail
                            go_cut [11] from 13 (fun s11 wx => ∃ e' : Int, s11 = .int .i64 e' ∧ -100009 ≤ e' ∧ e' ≤ 100009 ∧ Hid (∀ m, IsB t.data.toList m → f = m % 4503599627370496 ∧ e' = expo m) ∧ wx = wc)
                            case first =>
                              as_aux_lemma =>
                              cases ng with
                              | true =>
                                have HE2 : Hid (∀ m, IsB t.data.toList m → f = m % 4503599627370496 ∧ -(e : Int) = expo m) := Lib.hid (fun m hm => by
                                  have h := HE.out m hm
                                  have h1 : expo m < 0 := of_decide_eq_true h.2.1.symm
                                  exact ⟨h.1, by omega⟩)
                                clear HE
                                go_wp2_with fail
                                go_meet
                                case rel => exact ⟨-(e : Int), rfl, by omega, by omega, HE2, rfl⟩
                              | false =>
                                have HE2 : Hid (∀ m, IsB t.data.toList m → f = m % 4503599627370496 ∧ (e : Int) = expo m) := Lib.hid (fun m hm => by
                                  have h := HE.out m hm
                                  have h1 : ¬ expo m < 0 := of_decide_eq_false h.2.1.symm
                                  exact ⟨h.1, by omega⟩)
                                clear HE
                                go_wp2_with fail
                                go_meet
                                case rel => exact ⟨(e : Int), rfl, by omega, by omega, HE2, rfl⟩
                            case rest =>
                              clear HE he
                              obtain ⟨e', rfl, hr1, hr2, HE, rfl⟩ := hcut
                              by_cases hlo : e' < -1022
                              · as_aux_lemma =>
                                have HN' := Lib.hid (HN.out (fun m hm => by
                                  have h := (HE.out m hm).2
                                  have h2 := expo_range m hm.2.1
                                  omega))
                                clear HE
                                go_wp2_with fail
                                go_ret2
                                exact ⟨.inr ⟨HN'.out, rfl⟩, Below.refl _ _⟩
                              · by_cases hhi : 1023 < e'
                                · as_aux_lemma =>
                                  have HN' := Lib.hid (HN.out (fun m hm => by
                                    have h := (HE.out m hm).2
                                    have h2 := expo_range m hm.2.1
                                    omega))
                                  clear HE
                                  go_wp2_with fail
                                  go_ret2
                                  exact ⟨.inr ⟨HN'.out, rfl⟩, Below.refl _ _⟩
                                · obtain ⟨E, hE⟩ : ∃ E : Nat, e' + 1023 = (E : Int) := ⟨(e' + 1023).toNat, by omega⟩
                                  have hE1 : E ≤ 2046 := by omega
                                  have hE0 : 1 ≤ E := by omega
                                  go_upto_if 153 with fail
                                  go_cut [5, 6] from 13 (fun s5 s6 wx => ∃ (V W : Nat) (q : Bool), s5 = .int .u64 (V : Int) ∧ s6 = .bool q ∧ V < 18446744073709551616 ∧ W < 18446744073709551616 ∧ Hid (bits .or .u64 (V : Int) (f : Int) = (W : Int)) ∧ Hid (∀ b, Can b → s.data.toList = text b → W = b) ∧ wx = wc)
                                  case first =>
                                    rcases HK.out with k | k
                                    · as_aux_lemma =>
                                      have k' : c0.toNat = 48 := by rw [k]; rfl
                                      have kb : ((c0.toNat : Int) == 49) = false := by rw [k]; rfl
                                      obtain ⟨V, hV⟩ : ∃ V, V = B0 := ⟨_, rfl⟩
                                      have hVlt : V < 18446744073709551616 := by omega
                                      obtain ⟨W, hW⟩ : ∃ W, W = V + f := ⟨_, rfl⟩
                                      have hWlt : W < 18446744073709551616 := by omega
                                      have HO2 : Hid (bits .or .u64 (V : Int) (f : Int) = (W : Int)) := Lib.hid (by
                                        rw [u64_or_nat _ _ hVlt (by omega), hW, hV]
                                        have := or_frac B0 0 f hB0 hf
                                        simpa using congrArg (Nat.cast : Nat → Int) this)
                                      have HB : Hid (∀ b, Can b → s.data.toList = text b → W = b) := Lib.hid (fun b hb ht => by
                                        obtain ⟨g1, g2⟩ := HG.out b hb ht
                                        obtain ⟨f1, f2⟩ := HE.out _ g1
                                        have h := isB_word g1
                                        rw [HA0.out, k] at h
                                        rw [if_neg (by decide), Nat.zero_add] at h
                                        rw [hW, hV, g2]; omega)
                                      clear k hW HE HN HG
                                      go_wp2_with fail
                                      go_meet
                                      case rel => exact ⟨B0, W, _, rfl, rfl, by omega, hWlt, by rw [← hV]; exact HO2, HB, rfl⟩
                                    · as_aux_lemma =>
                                      have k' : c0.toNat = 49 := by rw [k]; rfl
                                      have kb : ((c0.toNat : Int) == 49) = true := by rw [k]; rfl
                                      obtain ⟨V, hV⟩ : ∃ V, V = B0 + E * 4503599627370496 := ⟨_, rfl⟩
                                      have hVlt : V < 18446744073709551616 := by omega
                                      obtain ⟨W, hW⟩ : ∃ W, W = V + f := ⟨_, rfl⟩
                                      have hWlt : W < 18446744073709551616 := by omega
                                      have hor1 : bits .or .u64 (B0 : Int) ((E : Int) * 4503599627370496) = (V : Int) := by
                                        have := u64_or_nat B0 (E * 4503599627370496) (by omega) (by omega)
                                        rw [or_sign B0 (E * 4503599627370496) hB0 (by omega), ← hV] at this
                                        simpa using this
                                      have HO2 : Hid (bits .or .u64 (V : Int) (f : Int) = (W : Int)) := Lib.hid (by
                                        rw [u64_or_nat _ _ hVlt (by omega), hW, hV]
                                        have := or_frac B0 E f hB0 hf
                                        simpa using congrArg (Nat.cast : Nat → Int) this)
                                      have HB : Hid (∀ b, Can b → s.data.toList = text b → W = b) := Lib.hid (fun b hb ht => by
                                        obtain ⟨g1, g2⟩ := HG.out b hb ht
                                        obtain ⟨f1, f2⟩ := HE.out _ g1
                                        have h := isB_word g1
                                        rw [HA0.out, k] at h
                                        rw [if_pos rfl] at h
                                        rw [hW, hV, g2]; omega)
                                      clear k hW HE HN HG hV
                                      go_wp2_with fail
                                      go_meet
                                      case rel => exact ⟨V, W, _, rfl, rfl, hVlt, hWlt, HO2, HB, rfl⟩
                                  case rest =>
                                    as_aux_lemma =>
                                    obtain ⟨V, W, q, rfl, rfl, hVlt, hWlt, HO2, HB, rfl⟩ := hcut
                                    have hor2 := HO2.out
                                    obtain ⟨X, hX⟩ : ∃ X, X = cb W := ⟨_, rfl⟩
                                    have HX : Hid (cb (W : Int).toNat = X) := Lib.hid (by rw [hX, Int.toNat_natCast])
                                    have hXc : Can X := by rw [hX]; exact can_cb W hWlt
                                    have HXC := Lib.hid hXc
                                    have hXlt : X < 18446744073709551616 := hXc.2
                                    have HB2 : Hid (∀ b, Can b → s.data.toList = text b → X = b) := Lib.hid (fun b hb ht => by
                                      rw [hX, HB.out b hb ht]; exact hb.1)
                                    have htxt := fun w => rtext_any X hXlt w
                                    clear hX hXc HE HN HG HB HK HA0 HL hE hE0 hE1 hlo hhi hr1 hr2 hf
                                    by_cases htx : s.data.toList = text X
                                    · have HTX := Lib.hid htx
                                      clear htx HB2
                                      go_wp2_with (first | (go_at_call 18; refine (rfrom_as _ X (by omega) (by omega) HX _).mono ?_; rintro e w' ⟨rfl, rfl⟩) | (go_at_call 10; refine (htxt _).mono ?_; rintro e w' ⟨S, rfl, hS, hSs, hb⟩; have hq : (S.toList == s.toList) = true := by (rw [eq_lists, HTX.out, hS.out]; simp)))
                                      go_ret2
                                      exact ⟨.inl ⟨_, HXC.out, HTX.out, rfl⟩, hb⟩
                                    · have HTX := Lib.hid htx
                                      clear htx
                                      go_wp2_with (first | (go_at_call 18; refine (rfrom_as _ X (by omega) (by omega) HX _).mono ?_; rintro e w' ⟨rfl, rfl⟩) | (go_at_call 10; refine (htxt _).mono ?_; rintro e w' ⟨S, rfl, hS, hSs, hb⟩; have hq : (S.toList == s.toList) = false := by (rw [eq_lists, hS.out]; exact decide_eq_false (fun h => HTX.out h.symm))))
                                      go_ret2
                                      exact ⟨.inr ⟨fun b hb' ht => HTX.out (by rw [HB2.out b hb' ht]; exact ht), rfl⟩, hb⟩
                    · as_aux_lemma =>
                      have HN' := Lib.hid (HN.out (fun m hm => by
                        have h := HF.out m hm
                        rw [HD.out] at h
                        have h2 := h.2
                        injection h2 with h2 _
                        rw [h2] at hp
                        exact hp (by decide)))
                      have hp : ((c.toNat : Int) != 112) = true := by simpa using hp
                      clear HF HD
                      go_wp2_with fail
                      go_ret2
                      exact ⟨.inr ⟨HN'.out, rfl⟩, Below.refl _ _⟩
                  · have HN' := Lib.hid (HN.out (fun m hm => by
                      have h := HF.out m hm
                      rw [list_end t i (by omega)] at h
                      exact absurd h.2 (by simp)))
                    clear HF
                    go_wp2_with fail
                    go_ret2
                    exact ⟨.inr ⟨HN'.out, rfl⟩, Below.refl _ _⟩

end Go.Proofs.YtlbnfnfenphfbaaGreatDoor
