/- Proved: the document's own Text writes any number as the plain function 'text' of its bits says; what is made lies in new blocks. -/
import Derived.Test.YtlbnfnfenphfbaaGreatDoorDec
namespace Go.Proofs.YtlbnfnfenphfbaaGreatDoor
open Go.RowKit Fl Tx

/-- The small digits' text. -/
def dig16 : ByteArray := ⟨#[48, 49, 50, 51, 52, 53, 54, 55, 56, 57, 97, 98, 99, 100, 101, 102]⟩
theorem dig16_fin : ∀ d : Fin 16, (if h : d.val < dig16.size then dig16[d.val]'h else 0) = hx d.val := by decide
theorem dig16_at (d : Nat) (hd : d < 16) (h : d < dig16.size) : dig16[d]'h = hx d := by
  have := dig16_fin ⟨d, hd⟩
  rwa [dif_pos h] at this

/-- One digit more: the fraction stands shifted to the left. -/
theorem hex_step (n h g : Nat) (hn : n + 1 ≤ 13) (hh : h < 16 ^ (n + 1)) (hg : g = h * 16 ^ (12 - n)) :
    h % 16 ^ n < 16 ^ n ∧ h / 16 ^ n < 16 ∧ g / 281474976710656 = h / 16 ^ n ∧ g * 16 % 4503599627370496 = h % 16 ^ n * 16 ^ (13 - n) := by
  have hp : 0 < 16 ^ n := Nat.pow_pos (by decide)
  have hq : 0 < 16 ^ (12 - n) := Nat.pow_pos (by decide)
  have e1 : (281474976710656 : Nat) = 16 ^ n * 16 ^ (12 - n) := by rw [← Nat.pow_add, show n + (12 - n) = 12 by omega]
  have e2 : (4503599627370496 : Nat) = 16 ^ n * 16 ^ (13 - n) := by rw [← Nat.pow_add, show n + (13 - n) = 13 by omega]
  refine ⟨Nat.mod_lt _ hp, ?_, ?_, ?_⟩
  · rw [Nat.div_lt_iff_lt_mul hp, Nat.mul_comm, ← Nat.pow_succ]; exact hh
  · rw [hg, e1, Nat.mul_div_mul_right _ _ hq]
  · rw [hg, Nat.mul_assoc, ← Nat.pow_succ, show (12 - n).succ = 13 - n by omega, e2, Nat.mul_mod_mul_right]

theorem cast16 (g : Nat) : Value.int .u64 ((g : Int) * 16 % 4503599627370496) = Value.int .u64 ((g * 16 % 4503599627370496 : Nat) : Int) := by
  rw [show ((g * 16 % 4503599627370496 : Nat) : Int) = (g : Int) * 16 % 4503599627370496 by omega]
theorem sz_one (c : UInt8) : (⟨#[c]⟩ : ByteArray).size = 1 := rfl
/-- A string's length. -/
def szOf : Value → Nat | .string s => s.size | _ => 0

theorem rtext_end {b m : Nat} {P : List UInt8} {S T : ByteArray} {e : Int} {w w' : World} (hP : text b = P ++ [112] ++ Lib.itoa (expo m)) (hS : S.data.toList = P) (he : expo m = e) (hT : T = ⟨(Lib.itoa e).toArray⟩)
    (hs : S.size ≤ 16) (ht : T.size ≤ 5) (hb : Below w.heap.size w w') : TextOf b w (.returned (.string (S ++ (⟨#[112]⟩ : ByteArray) ++ T))) w' := by
  refine ⟨_, rfl, Lib.hid ?_, ?_, hb⟩
  · have hS' : S = ⟨P.toArray⟩ := by apply ByteArray.ext; rw [← hS]
    rw [hT, hS', hP, he]
    have x2 := mk_append P [112]
    have x3 := mk_append (P ++ [112]) (Lib.itoa e)
    rw [← x3, ← x2]
  · simp only [ByteArray.size_append]
    have : (⟨#[112]⟩ : ByteArray).size = 1 := rfl
    omega

set_option maxHeartbeats 2000000 in
set_option maxRecDepth 100000 in
theorem rtext_fin (b m : Nat) (hb : b < 18446744073709551616) (hcb : cb b = b) (hm : m = b % 9223372036854775808) (h0 : 0 < m) (h1 : m < 9218868437227405312)
    (ht : text b = (if 9223372036854775808 ≤ b then [45] else []) ++ body m) (w : World) :
    Calls Tryz.prog 10 #[.float .f64 b] w (TextOf b w) := by
  have hbits := rbits_any b hb w
  rw [hcb] at hbits
  have han := andNot_sign b hb
  rw [← hm] at han
  have hneg := f_neg b hb
  have hfr := and_frac m (by omega)
  have hand : ∀ g : Nat, bits .and .u64 ((g : Int) * 16 % 18446744073709551616) 4503599627370495 = ((g * 16 % 4503599627370496 : Nat) : Int) := fun g => by
    have := and_frac (g * 16 % 18446744073709551616) (by omega)
    rw [show ((g * 16 % 18446744073709551616 : Nat) : Int) = (g : Int) * 16 % 18446744073709551616 by omega] at this
    rw [this]; omega
  have hf1 : m % 4503599627370496 < 4503599627370496 := by omega
  obtain ⟨f, hf⟩ : ∃ f, f = m % 4503599627370496 := ⟨_, rfl⟩
  rw [← hf] at hfr hf1
  have HT : Hid (text b = (if 9223372036854775808 ≤ b then [45] else []) ++ body m) := Lib.hid ht
  have HB : Hid (body m = [if m < 4503599627370496 then 48 else 49] ++ fracL f ++ [112] ++ Lib.itoa (expo m)) := Lib.hid (by unfold body; rw [hf])
  have hcv : ∀ (W : World) (c : UInt8), (convert 48 9 (.slice (some ⟨W.heap.size, 0, none⟩) 1 1)).run Tryz.prog (W.alloc (.cells #[.int .u8 (c.toNat : Int)] 5)) = .ok (.string ⟨#[c]⟩) (W.alloc (.cells #[.int .u8 (c.toNat : Int)] 5)) := fun W c =>
    conv_own [c] (World.ownsRow_lit W #[.int .u8 (c.toNat : Int)] 1 (Nat.le_refl _) (by simp only [maxLen]; omega) rfl) (by simp)
  obtain ⟨P, hP⟩ : ∃ P, P = (if 9223372036854775808 ≤ b then [45] else []) ++ [if m < 4503599627370496 then 48 else 49] ++ fracL f := ⟨_, rfl⟩
  have HP : Hid (text b = P ++ [112] ++ Lib.itoa (expo m)) := Lib.hid (by rw [ht, HB.out, hP]; simp)
  have hPl : Hid (P.length ≤ 16) := Lib.hid (by rw [hP]; have := fracL_le f; split <;> simp <;> omega)
  have hmi : ((m : Int) == 9218868437227405312) = false := by simp; omega
  have hmz : ((m : Int) == 0) = false := by simp; omega
  have hmg : decide ((9218868437227405312 : Int) < (m : Int)) = false := by simp; omega
  clear ht hcb hm hf HT HB
  by_cases hsg : 9223372036854775808 ≤ b
  · rw [decide_eq_true hsg] at hneg
    by_cases hs : m < 4503599627370496
    · have hdi : (m : Int) / 4503599627370496 = 0 := by omega
      have HX : Hid (expo m = -1022) := Lib.hid (by unfold expo; rw [if_pos hs])
      by_cases hfz : f = 0
      · have hP1 : Hid (P = [45] ++ [48] ++ []) := Lib.hid (by rw [hP, if_pos hsg, if_pos hs]; subst hfz; rfl)
        subst hfz
        clear hP
        go_enter Tryz.func10, Tryz.ntmps10
        go_wp2_with (go_at_call 23; refine hbits.mono ?_; rintro e w' ⟨rfl, rfl⟩)
        go_loopw [5, 7] (fun vs vg wr => ∃ (S : ByteArray) (n h g : Nat), vs = .string S ∧ vg = .int .u64 (g : Int) ∧ Hid (n ≤ 13 ∧ h < 16 ^ n ∧ g = h * 16 ^ (13 - n)) ∧ Hid (S.data.toList ++ hexT n h = P) ∧ S.size ≤ 16 ∧ g < 4503599627370496 ∧ Below w.heap.size w wr)
          (fun vs _ _ => 17 - szOf vs)
        case atStart => exact ⟨_, 13, 0, 0, rfl, rfl, Lib.hid ⟨by omega, by omega, by omega⟩, Lib.hid (by rw [hP1.out]; rfl), by decide, by omega, Below.refl _ _⟩
        case round =>
          obtain ⟨S, n, h, g, rfl, rfl, HG, HS, hSs, hg, hbw⟩ := hrel
          by_cases hg0 : g = 0
          · subst hg0
            have HE : Hid (S.data.toList = P) := Lib.hid (by
              have h1 := HG.out
              have : h = 0 := by
                rcases Nat.mul_eq_zero.1 h1.2.2.symm with k | k
                · exact k
                · exact absurd k (Nat.ne_of_gt (Nat.pow_pos (by decide)))
              rw [← HS.out, (hexT_nil n h h1.2.1).2 this]; simp)
            clear HG HS
            go_wp2_with (go_at_call 24; refine (dec_any _ (by omega) (by omega) _).mono ?_; rintro e w' ⟨T, rfl, hT, hTs, hb2⟩)
            go_ret
            exact rtext_end HP.out HE.out HX.out hT.out hSs hTs (hbw.trans (hb2.mono hbw.size))
          · have hgz : ((g : Int) != 0) = true := by simp; omega
            obtain ⟨n', hn'⟩ : ∃ n', n = n' + 1 := by
              have h1 := HG.out
              cases n with
              | zero => have h2 := h1.2.1; have h3 := h1.2.2; simp at h2; subst h2; simp at h3; exact absurd h3 hg0
              | succ n' => exact ⟨n', rfl⟩
            subst hn'
            have hst := hex_step n' h g HG.out.1 HG.out.2.1 (by rw [HG.out.2.2]; congr 2; have := HG.out.1; omega)
            have hh0 : h ≠ 0 := by intro k; have h3 := HG.out.2.2; rw [k, Nat.zero_mul] at h3; exact hg0 h3
            have hne : hexT (n' + 1) h = hx (h / 16 ^ n') :: hexT n' (h % 16 ^ n') := by rw [hexT, if_neg hh0]
            have HN : Hid (hexT (n' + 1) h = hx (h / 16 ^ n') :: hexT n' (h % 16 ^ n')) := Lib.hid hne
            have HST := Lib.hid hst
            have hlt : g / 281474976710656 < 16 := by omega
            have hSs15 : S.size ≤ 15 := by
              have h1 := congrArg List.length HS.out
              rw [hne] at h1
              have h2 := hPl.out
              have h3 : S.size = S.data.toList.length := rfl
              simp only [List.length_append, List.length_cons] at h1
              omega
            have hsh : bits .and .u64 ((g : Int) * 16) 4503599627370495 = ((g * 16 % 4503599627370496 : Nat) : Int) := by
              have := and_frac (g * 16) (by omega)
              rwa [show ((g * 16 : Nat) : Int) = (g : Int) * 16 by omega] at this
            have HD : ∀ (i : Nat) (hi : i < dig16.size), i = g / 281474976710656 → dig16[i]'hi = hx (h / 16 ^ n') := fun i hi e => by
              subst e
              rw [dig16_at _ hlt hi, HST.out.2.2.1]
            have HL : Hid (∀ c : UInt8, c = hx (h / 16 ^ n') → (S ++ (⟨#[c]⟩ : ByteArray)).data.toList ++ hexT n' (h % 16 ^ n') = P) := Lib.hid (fun c hc => by
              rw [← HS.out, HN.out, hc]; simp)
            clear hst hne
            go_wp2
            go_roundw
            case rel => first | exact ⟨_, n', h % 16 ^ n', g * 16 % 4503599627370496, rfl, cast16 g, Lib.hid ⟨by have := HG.out.1; omega, HST.out.1, HST.out.2.2.2⟩, Lib.hid (HL.out _ (HD _ _ rfl)), by rw [ByteArray.size_append]; exact Nat.add_le_add_right hSs15 1, Nat.mod_lt _ (by decide), hbw.alloc hbw.size _⟩ | exact ⟨_, _, _, _, _, _, _, _, _, _, _, _, _, _, ⟨_, n', h % 16 ^ n', g * 16 % 4503599627370496, rfl, cast16 g, Lib.hid ⟨by have := HG.out.1; omega, HST.out.1, HST.out.2.2.2⟩, Lib.hid (HL.out _ (HD _ _ rfl)), by rw [ByteArray.size_append]; exact Nat.add_le_add_right hSs15 1, Nat.mod_lt _ (by decide), hbw.alloc hbw.size _⟩, rfl⟩
            case measure =>
              show 17 - (S ++ (⟨#[_]⟩ : ByteArray)).size < 17 - S.size
              rw [ByteArray.size_append, sz_one]; omega
      · have hP1 : Hid (P = [45] ++ [48] ++ (46 :: hexT 13 f)) := Lib.hid (by rw [hP, if_pos hsg, if_pos hs]; unfold fracL; rw [if_neg hfz])
        have hfz' : ((f : Int) != 0) = true := by simp; omega
        clear hP
        go_enter Tryz.func10, Tryz.ntmps10
        go_wp2_with (go_at_call 23; refine hbits.mono ?_; rintro e w' ⟨rfl, rfl⟩)
        go_loopw [5, 7] (fun vs vg wr => ∃ (S : ByteArray) (n h g : Nat), vs = .string S ∧ vg = .int .u64 (g : Int) ∧ Hid (n ≤ 13 ∧ h < 16 ^ n ∧ g = h * 16 ^ (13 - n)) ∧ Hid (S.data.toList ++ hexT n h = P) ∧ S.size ≤ 16 ∧ g < 4503599627370496 ∧ Below w.heap.size w wr)
          (fun vs _ _ => 17 - szOf vs)
        case atStart => exact ⟨_, 13, f, f, rfl, rfl, Lib.hid ⟨by omega, by omega, by omega⟩, Lib.hid (by rw [hP1.out]; rfl), by decide, by omega, Below.refl _ _⟩
        case round =>
          obtain ⟨S, n, h, g, rfl, rfl, HG, HS, hSs, hg, hbw⟩ := hrel
          by_cases hg0 : g = 0
          · subst hg0
            have HE : Hid (S.data.toList = P) := Lib.hid (by
              have h1 := HG.out
              have : h = 0 := by
                rcases Nat.mul_eq_zero.1 h1.2.2.symm with k | k
                · exact k
                · exact absurd k (Nat.ne_of_gt (Nat.pow_pos (by decide)))
              rw [← HS.out, (hexT_nil n h h1.2.1).2 this]; simp)
            clear HG HS
            go_wp2_with (go_at_call 24; refine (dec_any _ (by omega) (by omega) _).mono ?_; rintro e w' ⟨T, rfl, hT, hTs, hb2⟩)
            go_ret
            exact rtext_end HP.out HE.out HX.out hT.out hSs hTs (hbw.trans (hb2.mono hbw.size))
          · have hgz : ((g : Int) != 0) = true := by simp; omega
            obtain ⟨n', hn'⟩ : ∃ n', n = n' + 1 := by
              have h1 := HG.out
              cases n with
              | zero => have h2 := h1.2.1; have h3 := h1.2.2; simp at h2; subst h2; simp at h3; exact absurd h3 hg0
              | succ n' => exact ⟨n', rfl⟩
            subst hn'
            have hst := hex_step n' h g HG.out.1 HG.out.2.1 (by rw [HG.out.2.2]; congr 2; have := HG.out.1; omega)
            have hh0 : h ≠ 0 := by intro k; have h3 := HG.out.2.2; rw [k, Nat.zero_mul] at h3; exact hg0 h3
            have hne : hexT (n' + 1) h = hx (h / 16 ^ n') :: hexT n' (h % 16 ^ n') := by rw [hexT, if_neg hh0]
            have HN : Hid (hexT (n' + 1) h = hx (h / 16 ^ n') :: hexT n' (h % 16 ^ n')) := Lib.hid hne
            have HST := Lib.hid hst
            have hlt : g / 281474976710656 < 16 := by omega
            have hSs15 : S.size ≤ 15 := by
              have h1 := congrArg List.length HS.out
              rw [hne] at h1
              have h2 := hPl.out
              have h3 : S.size = S.data.toList.length := rfl
              simp only [List.length_append, List.length_cons] at h1
              omega
            have hsh : bits .and .u64 ((g : Int) * 16) 4503599627370495 = ((g * 16 % 4503599627370496 : Nat) : Int) := by
              have := and_frac (g * 16) (by omega)
              rwa [show ((g * 16 : Nat) : Int) = (g : Int) * 16 by omega] at this
            have HD : ∀ (i : Nat) (hi : i < dig16.size), i = g / 281474976710656 → dig16[i]'hi = hx (h / 16 ^ n') := fun i hi e => by
              subst e
              rw [dig16_at _ hlt hi, HST.out.2.2.1]
            have HL : Hid (∀ c : UInt8, c = hx (h / 16 ^ n') → (S ++ (⟨#[c]⟩ : ByteArray)).data.toList ++ hexT n' (h % 16 ^ n') = P) := Lib.hid (fun c hc => by
              rw [← HS.out, HN.out, hc]; simp)
            clear hst hne
            go_wp2
            go_roundw
            case rel => first | exact ⟨_, n', h % 16 ^ n', g * 16 % 4503599627370496, rfl, cast16 g, Lib.hid ⟨by have := HG.out.1; omega, HST.out.1, HST.out.2.2.2⟩, Lib.hid (HL.out _ (HD _ _ rfl)), by rw [ByteArray.size_append]; exact Nat.add_le_add_right hSs15 1, Nat.mod_lt _ (by decide), hbw.alloc hbw.size _⟩ | exact ⟨_, _, _, _, _, _, _, _, _, _, _, _, _, _, ⟨_, n', h % 16 ^ n', g * 16 % 4503599627370496, rfl, cast16 g, Lib.hid ⟨by have := HG.out.1; omega, HST.out.1, HST.out.2.2.2⟩, Lib.hid (HL.out _ (HD _ _ rfl)), by rw [ByteArray.size_append]; exact Nat.add_le_add_right hSs15 1, Nat.mod_lt _ (by decide), hbw.alloc hbw.size _⟩, rfl⟩
            case measure =>
              show 17 - (S ++ (⟨#[_]⟩ : ByteArray)).size < 17 - S.size
              rw [ByteArray.size_append, sz_one]; omega
    · have hge : 1 ≤ (m : Int) / 4503599627370496 := by omega
      have hle : (m : Int) / 4503599627370496 ≤ 2046 := by omega
      have hme : ((m : Int) / 4503599627370496 - 1023 == -1023) = false := by simp; omega
      have HX : Hid (expo m = (m : Int) / 4503599627370496 - 1023) := Lib.hid (by unfold expo; rw [if_neg hs]; omega)
      by_cases hfz : f = 0
      · have hP1 : Hid (P = [45] ++ [49] ++ []) := Lib.hid (by rw [hP, if_pos hsg, if_neg hs]; subst hfz; rfl)
        subst hfz
        clear hP
        go_enter Tryz.func10, Tryz.ntmps10
        go_wp2_with (go_at_call 23; refine hbits.mono ?_; rintro e w' ⟨rfl, rfl⟩)
        go_loopw [5, 7] (fun vs vg wr => ∃ (S : ByteArray) (n h g : Nat), vs = .string S ∧ vg = .int .u64 (g : Int) ∧ Hid (n ≤ 13 ∧ h < 16 ^ n ∧ g = h * 16 ^ (13 - n)) ∧ Hid (S.data.toList ++ hexT n h = P) ∧ S.size ≤ 16 ∧ g < 4503599627370496 ∧ Below w.heap.size w wr)
          (fun vs _ _ => 17 - szOf vs)
        case atStart => exact ⟨_, 13, 0, 0, rfl, rfl, Lib.hid ⟨by omega, by omega, by omega⟩, Lib.hid (by rw [hP1.out]; rfl), by decide, by omega, Below.refl _ _⟩
        case round =>
          obtain ⟨S, n, h, g, rfl, rfl, HG, HS, hSs, hg, hbw⟩ := hrel
          by_cases hg0 : g = 0
          · subst hg0
            have HE : Hid (S.data.toList = P) := Lib.hid (by
              have h1 := HG.out
              have : h = 0 := by
                rcases Nat.mul_eq_zero.1 h1.2.2.symm with k | k
                · exact k
                · exact absurd k (Nat.ne_of_gt (Nat.pow_pos (by decide)))
              rw [← HS.out, (hexT_nil n h h1.2.1).2 this]; simp)
            clear HG HS
            go_wp2_with (go_at_call 24; refine (dec_any _ (by omega) (by omega) _).mono ?_; rintro e w' ⟨T, rfl, hT, hTs, hb2⟩)
            go_ret
            exact rtext_end HP.out HE.out HX.out hT.out hSs hTs (hbw.trans (hb2.mono hbw.size))
          · have hgz : ((g : Int) != 0) = true := by simp; omega
            obtain ⟨n', hn'⟩ : ∃ n', n = n' + 1 := by
              have h1 := HG.out
              cases n with
              | zero => have h2 := h1.2.1; have h3 := h1.2.2; simp at h2; subst h2; simp at h3; exact absurd h3 hg0
              | succ n' => exact ⟨n', rfl⟩
            subst hn'
            have hst := hex_step n' h g HG.out.1 HG.out.2.1 (by rw [HG.out.2.2]; congr 2; have := HG.out.1; omega)
            have hh0 : h ≠ 0 := by intro k; have h3 := HG.out.2.2; rw [k, Nat.zero_mul] at h3; exact hg0 h3
            have hne : hexT (n' + 1) h = hx (h / 16 ^ n') :: hexT n' (h % 16 ^ n') := by rw [hexT, if_neg hh0]
            have HN : Hid (hexT (n' + 1) h = hx (h / 16 ^ n') :: hexT n' (h % 16 ^ n')) := Lib.hid hne
            have HST := Lib.hid hst
            have hlt : g / 281474976710656 < 16 := by omega
            have hSs15 : S.size ≤ 15 := by
              have h1 := congrArg List.length HS.out
              rw [hne] at h1
              have h2 := hPl.out
              have h3 : S.size = S.data.toList.length := rfl
              simp only [List.length_append, List.length_cons] at h1
              omega
            have hsh : bits .and .u64 ((g : Int) * 16) 4503599627370495 = ((g * 16 % 4503599627370496 : Nat) : Int) := by
              have := and_frac (g * 16) (by omega)
              rwa [show ((g * 16 : Nat) : Int) = (g : Int) * 16 by omega] at this
            have HD : ∀ (i : Nat) (hi : i < dig16.size), i = g / 281474976710656 → dig16[i]'hi = hx (h / 16 ^ n') := fun i hi e => by
              subst e
              rw [dig16_at _ hlt hi, HST.out.2.2.1]
            have HL : Hid (∀ c : UInt8, c = hx (h / 16 ^ n') → (S ++ (⟨#[c]⟩ : ByteArray)).data.toList ++ hexT n' (h % 16 ^ n') = P) := Lib.hid (fun c hc => by
              rw [← HS.out, HN.out, hc]; simp)
            clear hst hne
            go_wp2
            go_roundw
            case rel => first | exact ⟨_, n', h % 16 ^ n', g * 16 % 4503599627370496, rfl, cast16 g, Lib.hid ⟨by have := HG.out.1; omega, HST.out.1, HST.out.2.2.2⟩, Lib.hid (HL.out _ (HD _ _ rfl)), by rw [ByteArray.size_append]; exact Nat.add_le_add_right hSs15 1, Nat.mod_lt _ (by decide), hbw.alloc hbw.size _⟩ | exact ⟨_, _, _, _, _, _, _, _, _, _, _, _, _, _, ⟨_, n', h % 16 ^ n', g * 16 % 4503599627370496, rfl, cast16 g, Lib.hid ⟨by have := HG.out.1; omega, HST.out.1, HST.out.2.2.2⟩, Lib.hid (HL.out _ (HD _ _ rfl)), by rw [ByteArray.size_append]; exact Nat.add_le_add_right hSs15 1, Nat.mod_lt _ (by decide), hbw.alloc hbw.size _⟩, rfl⟩
            case measure =>
              show 17 - (S ++ (⟨#[_]⟩ : ByteArray)).size < 17 - S.size
              rw [ByteArray.size_append, sz_one]; omega
      · have hP1 : Hid (P = [45] ++ [49] ++ (46 :: hexT 13 f)) := Lib.hid (by rw [hP, if_pos hsg, if_neg hs]; unfold fracL; rw [if_neg hfz])
        have hfz' : ((f : Int) != 0) = true := by simp; omega
        clear hP
        go_enter Tryz.func10, Tryz.ntmps10
        go_wp2_with (go_at_call 23; refine hbits.mono ?_; rintro e w' ⟨rfl, rfl⟩)
        go_loopw [5, 7] (fun vs vg wr => ∃ (S : ByteArray) (n h g : Nat), vs = .string S ∧ vg = .int .u64 (g : Int) ∧ Hid (n ≤ 13 ∧ h < 16 ^ n ∧ g = h * 16 ^ (13 - n)) ∧ Hid (S.data.toList ++ hexT n h = P) ∧ S.size ≤ 16 ∧ g < 4503599627370496 ∧ Below w.heap.size w wr)
          (fun vs _ _ => 17 - szOf vs)
        case atStart => exact ⟨_, 13, f, f, rfl, rfl, Lib.hid ⟨by omega, by omega, by omega⟩, Lib.hid (by rw [hP1.out]; rfl), by decide, by omega, Below.refl _ _⟩
        case round =>
          obtain ⟨S, n, h, g, rfl, rfl, HG, HS, hSs, hg, hbw⟩ := hrel
          by_cases hg0 : g = 0
          · subst hg0
            have HE : Hid (S.data.toList = P) := Lib.hid (by
              have h1 := HG.out
              have : h = 0 := by
                rcases Nat.mul_eq_zero.1 h1.2.2.symm with k | k
                · exact k
                · exact absurd k (Nat.ne_of_gt (Nat.pow_pos (by decide)))
              rw [← HS.out, (hexT_nil n h h1.2.1).2 this]; simp)
            clear HG HS
            go_wp2_with (go_at_call 24; refine (dec_any _ (by omega) (by omega) _).mono ?_; rintro e w' ⟨T, rfl, hT, hTs, hb2⟩)
            go_ret
            exact rtext_end HP.out HE.out HX.out hT.out hSs hTs (hbw.trans (hb2.mono hbw.size))
          · have hgz : ((g : Int) != 0) = true := by simp; omega
            obtain ⟨n', hn'⟩ : ∃ n', n = n' + 1 := by
              have h1 := HG.out
              cases n with
              | zero => have h2 := h1.2.1; have h3 := h1.2.2; simp at h2; subst h2; simp at h3; exact absurd h3 hg0
              | succ n' => exact ⟨n', rfl⟩
            subst hn'
            have hst := hex_step n' h g HG.out.1 HG.out.2.1 (by rw [HG.out.2.2]; congr 2; have := HG.out.1; omega)
            have hh0 : h ≠ 0 := by intro k; have h3 := HG.out.2.2; rw [k, Nat.zero_mul] at h3; exact hg0 h3
            have hne : hexT (n' + 1) h = hx (h / 16 ^ n') :: hexT n' (h % 16 ^ n') := by rw [hexT, if_neg hh0]
            have HN : Hid (hexT (n' + 1) h = hx (h / 16 ^ n') :: hexT n' (h % 16 ^ n')) := Lib.hid hne
            have HST := Lib.hid hst
            have hlt : g / 281474976710656 < 16 := by omega
            have hSs15 : S.size ≤ 15 := by
              have h1 := congrArg List.length HS.out
              rw [hne] at h1
              have h2 := hPl.out
              have h3 : S.size = S.data.toList.length := rfl
              simp only [List.length_append, List.length_cons] at h1
              omega
            have hsh : bits .and .u64 ((g : Int) * 16) 4503599627370495 = ((g * 16 % 4503599627370496 : Nat) : Int) := by
              have := and_frac (g * 16) (by omega)
              rwa [show ((g * 16 : Nat) : Int) = (g : Int) * 16 by omega] at this
            have HD : ∀ (i : Nat) (hi : i < dig16.size), i = g / 281474976710656 → dig16[i]'hi = hx (h / 16 ^ n') := fun i hi e => by
              subst e
              rw [dig16_at _ hlt hi, HST.out.2.2.1]
            have HL : Hid (∀ c : UInt8, c = hx (h / 16 ^ n') → (S ++ (⟨#[c]⟩ : ByteArray)).data.toList ++ hexT n' (h % 16 ^ n') = P) := Lib.hid (fun c hc => by
              rw [← HS.out, HN.out, hc]; simp)
            clear hst hne
            go_wp2
            go_roundw
            case rel => first | exact ⟨_, n', h % 16 ^ n', g * 16 % 4503599627370496, rfl, cast16 g, Lib.hid ⟨by have := HG.out.1; omega, HST.out.1, HST.out.2.2.2⟩, Lib.hid (HL.out _ (HD _ _ rfl)), by rw [ByteArray.size_append]; exact Nat.add_le_add_right hSs15 1, Nat.mod_lt _ (by decide), hbw.alloc hbw.size _⟩ | exact ⟨_, _, _, _, _, _, _, _, _, _, _, _, _, _, ⟨_, n', h % 16 ^ n', g * 16 % 4503599627370496, rfl, cast16 g, Lib.hid ⟨by have := HG.out.1; omega, HST.out.1, HST.out.2.2.2⟩, Lib.hid (HL.out _ (HD _ _ rfl)), by rw [ByteArray.size_append]; exact Nat.add_le_add_right hSs15 1, Nat.mod_lt _ (by decide), hbw.alloc hbw.size _⟩, rfl⟩
            case measure =>
              show 17 - (S ++ (⟨#[_]⟩ : ByteArray)).size < 17 - S.size
              rw [ByteArray.size_append, sz_one]; omega
  · rw [decide_eq_false hsg] at hneg
    by_cases hs : m < 4503599627370496
    · have hdi : (m : Int) / 4503599627370496 = 0 := by omega
      have HX : Hid (expo m = -1022) := Lib.hid (by unfold expo; rw [if_pos hs])
      by_cases hfz : f = 0
      · have hP1 : Hid (P = [] ++ [48] ++ []) := Lib.hid (by rw [hP, if_neg hsg, if_pos hs]; subst hfz; rfl)
        subst hfz
        clear hP
        go_enter Tryz.func10, Tryz.ntmps10
        go_wp2_with (go_at_call 23; refine hbits.mono ?_; rintro e w' ⟨rfl, rfl⟩)
        go_loopw [5, 7] (fun vs vg wr => ∃ (S : ByteArray) (n h g : Nat), vs = .string S ∧ vg = .int .u64 (g : Int) ∧ Hid (n ≤ 13 ∧ h < 16 ^ n ∧ g = h * 16 ^ (13 - n)) ∧ Hid (S.data.toList ++ hexT n h = P) ∧ S.size ≤ 16 ∧ g < 4503599627370496 ∧ Below w.heap.size w wr)
          (fun vs _ _ => 17 - szOf vs)
        case atStart => exact ⟨_, 13, 0, 0, rfl, rfl, Lib.hid ⟨by omega, by omega, by omega⟩, Lib.hid (by rw [hP1.out]; rfl), by decide, by omega, Below.refl _ _⟩
        case round =>
          obtain ⟨S, n, h, g, rfl, rfl, HG, HS, hSs, hg, hbw⟩ := hrel
          by_cases hg0 : g = 0
          · subst hg0
            have HE : Hid (S.data.toList = P) := Lib.hid (by
              have h1 := HG.out
              have : h = 0 := by
                rcases Nat.mul_eq_zero.1 h1.2.2.symm with k | k
                · exact k
                · exact absurd k (Nat.ne_of_gt (Nat.pow_pos (by decide)))
              rw [← HS.out, (hexT_nil n h h1.2.1).2 this]; simp)
            clear HG HS
            go_wp2_with (go_at_call 24; refine (dec_any _ (by omega) (by omega) _).mono ?_; rintro e w' ⟨T, rfl, hT, hTs, hb2⟩)
            go_ret
            exact rtext_end HP.out HE.out HX.out hT.out hSs hTs (hbw.trans (hb2.mono hbw.size))
          · have hgz : ((g : Int) != 0) = true := by simp; omega
            obtain ⟨n', hn'⟩ : ∃ n', n = n' + 1 := by
              have h1 := HG.out
              cases n with
              | zero => have h2 := h1.2.1; have h3 := h1.2.2; simp at h2; subst h2; simp at h3; exact absurd h3 hg0
              | succ n' => exact ⟨n', rfl⟩
            subst hn'
            have hst := hex_step n' h g HG.out.1 HG.out.2.1 (by rw [HG.out.2.2]; congr 2; have := HG.out.1; omega)
            have hh0 : h ≠ 0 := by intro k; have h3 := HG.out.2.2; rw [k, Nat.zero_mul] at h3; exact hg0 h3
            have hne : hexT (n' + 1) h = hx (h / 16 ^ n') :: hexT n' (h % 16 ^ n') := by rw [hexT, if_neg hh0]
            have HN : Hid (hexT (n' + 1) h = hx (h / 16 ^ n') :: hexT n' (h % 16 ^ n')) := Lib.hid hne
            have HST := Lib.hid hst
            have hlt : g / 281474976710656 < 16 := by omega
            have hSs15 : S.size ≤ 15 := by
              have h1 := congrArg List.length HS.out
              rw [hne] at h1
              have h2 := hPl.out
              have h3 : S.size = S.data.toList.length := rfl
              simp only [List.length_append, List.length_cons] at h1
              omega
            have hsh : bits .and .u64 ((g : Int) * 16) 4503599627370495 = ((g * 16 % 4503599627370496 : Nat) : Int) := by
              have := and_frac (g * 16) (by omega)
              rwa [show ((g * 16 : Nat) : Int) = (g : Int) * 16 by omega] at this
            have HD : ∀ (i : Nat) (hi : i < dig16.size), i = g / 281474976710656 → dig16[i]'hi = hx (h / 16 ^ n') := fun i hi e => by
              subst e
              rw [dig16_at _ hlt hi, HST.out.2.2.1]
            have HL : Hid (∀ c : UInt8, c = hx (h / 16 ^ n') → (S ++ (⟨#[c]⟩ : ByteArray)).data.toList ++ hexT n' (h % 16 ^ n') = P) := Lib.hid (fun c hc => by
              rw [← HS.out, HN.out, hc]; simp)
            clear hst hne
            go_wp2
            go_roundw
            case rel => first | exact ⟨_, n', h % 16 ^ n', g * 16 % 4503599627370496, rfl, cast16 g, Lib.hid ⟨by have := HG.out.1; omega, HST.out.1, HST.out.2.2.2⟩, Lib.hid (HL.out _ (HD _ _ rfl)), by rw [ByteArray.size_append]; exact Nat.add_le_add_right hSs15 1, Nat.mod_lt _ (by decide), hbw.alloc hbw.size _⟩ | exact ⟨_, _, _, _, _, _, _, _, _, _, _, _, _, _, ⟨_, n', h % 16 ^ n', g * 16 % 4503599627370496, rfl, cast16 g, Lib.hid ⟨by have := HG.out.1; omega, HST.out.1, HST.out.2.2.2⟩, Lib.hid (HL.out _ (HD _ _ rfl)), by rw [ByteArray.size_append]; exact Nat.add_le_add_right hSs15 1, Nat.mod_lt _ (by decide), hbw.alloc hbw.size _⟩, rfl⟩
            case measure =>
              show 17 - (S ++ (⟨#[_]⟩ : ByteArray)).size < 17 - S.size
              rw [ByteArray.size_append, sz_one]; omega
      · have hP1 : Hid (P = [] ++ [48] ++ (46 :: hexT 13 f)) := Lib.hid (by rw [hP, if_neg hsg, if_pos hs]; unfold fracL; rw [if_neg hfz])
        have hfz' : ((f : Int) != 0) = true := by simp; omega
        clear hP
        go_enter Tryz.func10, Tryz.ntmps10
        go_wp2_with (go_at_call 23; refine hbits.mono ?_; rintro e w' ⟨rfl, rfl⟩)
        go_loopw [5, 7] (fun vs vg wr => ∃ (S : ByteArray) (n h g : Nat), vs = .string S ∧ vg = .int .u64 (g : Int) ∧ Hid (n ≤ 13 ∧ h < 16 ^ n ∧ g = h * 16 ^ (13 - n)) ∧ Hid (S.data.toList ++ hexT n h = P) ∧ S.size ≤ 16 ∧ g < 4503599627370496 ∧ Below w.heap.size w wr)
          (fun vs _ _ => 17 - szOf vs)
        case atStart => exact ⟨_, 13, f, f, rfl, rfl, Lib.hid ⟨by omega, by omega, by omega⟩, Lib.hid (by rw [hP1.out]; rfl), by decide, by omega, Below.refl _ _⟩
        case round =>
          obtain ⟨S, n, h, g, rfl, rfl, HG, HS, hSs, hg, hbw⟩ := hrel
          by_cases hg0 : g = 0
          · subst hg0
            have HE : Hid (S.data.toList = P) := Lib.hid (by
              have h1 := HG.out
              have : h = 0 := by
                rcases Nat.mul_eq_zero.1 h1.2.2.symm with k | k
                · exact k
                · exact absurd k (Nat.ne_of_gt (Nat.pow_pos (by decide)))
              rw [← HS.out, (hexT_nil n h h1.2.1).2 this]; simp)
            clear HG HS
            go_wp2_with (go_at_call 24; refine (dec_any _ (by omega) (by omega) _).mono ?_; rintro e w' ⟨T, rfl, hT, hTs, hb2⟩)
            go_ret
            exact rtext_end HP.out HE.out HX.out hT.out hSs hTs (hbw.trans (hb2.mono hbw.size))
          · have hgz : ((g : Int) != 0) = true := by simp; omega
            obtain ⟨n', hn'⟩ : ∃ n', n = n' + 1 := by
              have h1 := HG.out
              cases n with
              | zero => have h2 := h1.2.1; have h3 := h1.2.2; simp at h2; subst h2; simp at h3; exact absurd h3 hg0
              | succ n' => exact ⟨n', rfl⟩
            subst hn'
            have hst := hex_step n' h g HG.out.1 HG.out.2.1 (by rw [HG.out.2.2]; congr 2; have := HG.out.1; omega)
            have hh0 : h ≠ 0 := by intro k; have h3 := HG.out.2.2; rw [k, Nat.zero_mul] at h3; exact hg0 h3
            have hne : hexT (n' + 1) h = hx (h / 16 ^ n') :: hexT n' (h % 16 ^ n') := by rw [hexT, if_neg hh0]
            have HN : Hid (hexT (n' + 1) h = hx (h / 16 ^ n') :: hexT n' (h % 16 ^ n')) := Lib.hid hne
            have HST := Lib.hid hst
            have hlt : g / 281474976710656 < 16 := by omega
            have hSs15 : S.size ≤ 15 := by
              have h1 := congrArg List.length HS.out
              rw [hne] at h1
              have h2 := hPl.out
              have h3 : S.size = S.data.toList.length := rfl
              simp only [List.length_append, List.length_cons] at h1
              omega
            have hsh : bits .and .u64 ((g : Int) * 16) 4503599627370495 = ((g * 16 % 4503599627370496 : Nat) : Int) := by
              have := and_frac (g * 16) (by omega)
              rwa [show ((g * 16 : Nat) : Int) = (g : Int) * 16 by omega] at this
            have HD : ∀ (i : Nat) (hi : i < dig16.size), i = g / 281474976710656 → dig16[i]'hi = hx (h / 16 ^ n') := fun i hi e => by
              subst e
              rw [dig16_at _ hlt hi, HST.out.2.2.1]
            have HL : Hid (∀ c : UInt8, c = hx (h / 16 ^ n') → (S ++ (⟨#[c]⟩ : ByteArray)).data.toList ++ hexT n' (h % 16 ^ n') = P) := Lib.hid (fun c hc => by
              rw [← HS.out, HN.out, hc]; simp)
            clear hst hne
            go_wp2
            go_roundw
            case rel => first | exact ⟨_, n', h % 16 ^ n', g * 16 % 4503599627370496, rfl, cast16 g, Lib.hid ⟨by have := HG.out.1; omega, HST.out.1, HST.out.2.2.2⟩, Lib.hid (HL.out _ (HD _ _ rfl)), by rw [ByteArray.size_append]; exact Nat.add_le_add_right hSs15 1, Nat.mod_lt _ (by decide), hbw.alloc hbw.size _⟩ | exact ⟨_, _, _, _, _, _, _, _, _, _, _, _, _, _, ⟨_, n', h % 16 ^ n', g * 16 % 4503599627370496, rfl, cast16 g, Lib.hid ⟨by have := HG.out.1; omega, HST.out.1, HST.out.2.2.2⟩, Lib.hid (HL.out _ (HD _ _ rfl)), by rw [ByteArray.size_append]; exact Nat.add_le_add_right hSs15 1, Nat.mod_lt _ (by decide), hbw.alloc hbw.size _⟩, rfl⟩
            case measure =>
              show 17 - (S ++ (⟨#[_]⟩ : ByteArray)).size < 17 - S.size
              rw [ByteArray.size_append, sz_one]; omega
    · have hge : 1 ≤ (m : Int) / 4503599627370496 := by omega
      have hle : (m : Int) / 4503599627370496 ≤ 2046 := by omega
      have hme : ((m : Int) / 4503599627370496 - 1023 == -1023) = false := by simp; omega
      have HX : Hid (expo m = (m : Int) / 4503599627370496 - 1023) := Lib.hid (by unfold expo; rw [if_neg hs]; omega)
      by_cases hfz : f = 0
      · have hP1 : Hid (P = [] ++ [49] ++ []) := Lib.hid (by rw [hP, if_neg hsg, if_neg hs]; subst hfz; rfl)
        subst hfz
        clear hP
        go_enter Tryz.func10, Tryz.ntmps10
        go_wp2_with (go_at_call 23; refine hbits.mono ?_; rintro e w' ⟨rfl, rfl⟩)
        go_loopw [5, 7] (fun vs vg wr => ∃ (S : ByteArray) (n h g : Nat), vs = .string S ∧ vg = .int .u64 (g : Int) ∧ Hid (n ≤ 13 ∧ h < 16 ^ n ∧ g = h * 16 ^ (13 - n)) ∧ Hid (S.data.toList ++ hexT n h = P) ∧ S.size ≤ 16 ∧ g < 4503599627370496 ∧ Below w.heap.size w wr)
          (fun vs _ _ => 17 - szOf vs)
        case atStart => exact ⟨_, 13, 0, 0, rfl, rfl, Lib.hid ⟨by omega, by omega, by omega⟩, Lib.hid (by rw [hP1.out]; rfl), by decide, by omega, Below.refl _ _⟩
        case round =>
          obtain ⟨S, n, h, g, rfl, rfl, HG, HS, hSs, hg, hbw⟩ := hrel
          by_cases hg0 : g = 0
          · subst hg0
            have HE : Hid (S.data.toList = P) := Lib.hid (by
              have h1 := HG.out
              have : h = 0 := by
                rcases Nat.mul_eq_zero.1 h1.2.2.symm with k | k
                · exact k
                · exact absurd k (Nat.ne_of_gt (Nat.pow_pos (by decide)))
              rw [← HS.out, (hexT_nil n h h1.2.1).2 this]; simp)
            clear HG HS
            go_wp2_with (go_at_call 24; refine (dec_any _ (by omega) (by omega) _).mono ?_; rintro e w' ⟨T, rfl, hT, hTs, hb2⟩)
            go_ret
            exact rtext_end HP.out HE.out HX.out hT.out hSs hTs (hbw.trans (hb2.mono hbw.size))
          · have hgz : ((g : Int) != 0) = true := by simp; omega
            obtain ⟨n', hn'⟩ : ∃ n', n = n' + 1 := by
              have h1 := HG.out
              cases n with
              | zero => have h2 := h1.2.1; have h3 := h1.2.2; simp at h2; subst h2; simp at h3; exact absurd h3 hg0
              | succ n' => exact ⟨n', rfl⟩
            subst hn'
            have hst := hex_step n' h g HG.out.1 HG.out.2.1 (by rw [HG.out.2.2]; congr 2; have := HG.out.1; omega)
            have hh0 : h ≠ 0 := by intro k; have h3 := HG.out.2.2; rw [k, Nat.zero_mul] at h3; exact hg0 h3
            have hne : hexT (n' + 1) h = hx (h / 16 ^ n') :: hexT n' (h % 16 ^ n') := by rw [hexT, if_neg hh0]
            have HN : Hid (hexT (n' + 1) h = hx (h / 16 ^ n') :: hexT n' (h % 16 ^ n')) := Lib.hid hne
            have HST := Lib.hid hst
            have hlt : g / 281474976710656 < 16 := by omega
            have hSs15 : S.size ≤ 15 := by
              have h1 := congrArg List.length HS.out
              rw [hne] at h1
              have h2 := hPl.out
              have h3 : S.size = S.data.toList.length := rfl
              simp only [List.length_append, List.length_cons] at h1
              omega
            have hsh : bits .and .u64 ((g : Int) * 16) 4503599627370495 = ((g * 16 % 4503599627370496 : Nat) : Int) := by
              have := and_frac (g * 16) (by omega)
              rwa [show ((g * 16 : Nat) : Int) = (g : Int) * 16 by omega] at this
            have HD : ∀ (i : Nat) (hi : i < dig16.size), i = g / 281474976710656 → dig16[i]'hi = hx (h / 16 ^ n') := fun i hi e => by
              subst e
              rw [dig16_at _ hlt hi, HST.out.2.2.1]
            have HL : Hid (∀ c : UInt8, c = hx (h / 16 ^ n') → (S ++ (⟨#[c]⟩ : ByteArray)).data.toList ++ hexT n' (h % 16 ^ n') = P) := Lib.hid (fun c hc => by
              rw [← HS.out, HN.out, hc]; simp)
            clear hst hne
            go_wp2
            go_roundw
            case rel => first | exact ⟨_, n', h % 16 ^ n', g * 16 % 4503599627370496, rfl, cast16 g, Lib.hid ⟨by have := HG.out.1; omega, HST.out.1, HST.out.2.2.2⟩, Lib.hid (HL.out _ (HD _ _ rfl)), by rw [ByteArray.size_append]; exact Nat.add_le_add_right hSs15 1, Nat.mod_lt _ (by decide), hbw.alloc hbw.size _⟩ | exact ⟨_, _, _, _, _, _, _, _, _, _, _, _, _, _, ⟨_, n', h % 16 ^ n', g * 16 % 4503599627370496, rfl, cast16 g, Lib.hid ⟨by have := HG.out.1; omega, HST.out.1, HST.out.2.2.2⟩, Lib.hid (HL.out _ (HD _ _ rfl)), by rw [ByteArray.size_append]; exact Nat.add_le_add_right hSs15 1, Nat.mod_lt _ (by decide), hbw.alloc hbw.size _⟩, rfl⟩
            case measure =>
              show 17 - (S ++ (⟨#[_]⟩ : ByteArray)).size < 17 - S.size
              rw [ByteArray.size_append, sz_one]; omega
      · have hP1 : Hid (P = [] ++ [49] ++ (46 :: hexT 13 f)) := Lib.hid (by rw [hP, if_neg hsg, if_neg hs]; unfold fracL; rw [if_neg hfz])
        have hfz' : ((f : Int) != 0) = true := by simp; omega
        clear hP
        go_enter Tryz.func10, Tryz.ntmps10
        go_wp2_with (go_at_call 23; refine hbits.mono ?_; rintro e w' ⟨rfl, rfl⟩)
        go_loopw [5, 7] (fun vs vg wr => ∃ (S : ByteArray) (n h g : Nat), vs = .string S ∧ vg = .int .u64 (g : Int) ∧ Hid (n ≤ 13 ∧ h < 16 ^ n ∧ g = h * 16 ^ (13 - n)) ∧ Hid (S.data.toList ++ hexT n h = P) ∧ S.size ≤ 16 ∧ g < 4503599627370496 ∧ Below w.heap.size w wr)
          (fun vs _ _ => 17 - szOf vs)
        case atStart => exact ⟨_, 13, f, f, rfl, rfl, Lib.hid ⟨by omega, by omega, by omega⟩, Lib.hid (by rw [hP1.out]; rfl), by decide, by omega, Below.refl _ _⟩
        case round =>
          obtain ⟨S, n, h, g, rfl, rfl, HG, HS, hSs, hg, hbw⟩ := hrel
          by_cases hg0 : g = 0
          · subst hg0
            have HE : Hid (S.data.toList = P) := Lib.hid (by
              have h1 := HG.out
              have : h = 0 := by
                rcases Nat.mul_eq_zero.1 h1.2.2.symm with k | k
                · exact k
                · exact absurd k (Nat.ne_of_gt (Nat.pow_pos (by decide)))
              rw [← HS.out, (hexT_nil n h h1.2.1).2 this]; simp)
            clear HG HS
            go_wp2_with (go_at_call 24; refine (dec_any _ (by omega) (by omega) _).mono ?_; rintro e w' ⟨T, rfl, hT, hTs, hb2⟩)
            go_ret
            exact rtext_end HP.out HE.out HX.out hT.out hSs hTs (hbw.trans (hb2.mono hbw.size))
          · have hgz : ((g : Int) != 0) = true := by simp; omega
            obtain ⟨n', hn'⟩ : ∃ n', n = n' + 1 := by
              have h1 := HG.out
              cases n with
              | zero => have h2 := h1.2.1; have h3 := h1.2.2; simp at h2; subst h2; simp at h3; exact absurd h3 hg0
              | succ n' => exact ⟨n', rfl⟩
            subst hn'
            have hst := hex_step n' h g HG.out.1 HG.out.2.1 (by rw [HG.out.2.2]; congr 2; have := HG.out.1; omega)
            have hh0 : h ≠ 0 := by intro k; have h3 := HG.out.2.2; rw [k, Nat.zero_mul] at h3; exact hg0 h3
            have hne : hexT (n' + 1) h = hx (h / 16 ^ n') :: hexT n' (h % 16 ^ n') := by rw [hexT, if_neg hh0]
            have HN : Hid (hexT (n' + 1) h = hx (h / 16 ^ n') :: hexT n' (h % 16 ^ n')) := Lib.hid hne
            have HST := Lib.hid hst
            have hlt : g / 281474976710656 < 16 := by omega
            have hSs15 : S.size ≤ 15 := by
              have h1 := congrArg List.length HS.out
              rw [hne] at h1
              have h2 := hPl.out
              have h3 : S.size = S.data.toList.length := rfl
              simp only [List.length_append, List.length_cons] at h1
              omega
            have hsh : bits .and .u64 ((g : Int) * 16) 4503599627370495 = ((g * 16 % 4503599627370496 : Nat) : Int) := by
              have := and_frac (g * 16) (by omega)
              rwa [show ((g * 16 : Nat) : Int) = (g : Int) * 16 by omega] at this
            have HD : ∀ (i : Nat) (hi : i < dig16.size), i = g / 281474976710656 → dig16[i]'hi = hx (h / 16 ^ n') := fun i hi e => by
              subst e
              rw [dig16_at _ hlt hi, HST.out.2.2.1]
            have HL : Hid (∀ c : UInt8, c = hx (h / 16 ^ n') → (S ++ (⟨#[c]⟩ : ByteArray)).data.toList ++ hexT n' (h % 16 ^ n') = P) := Lib.hid (fun c hc => by
              rw [← HS.out, HN.out, hc]; simp)
            clear hst hne
            go_wp2
            go_roundw
            case rel => first | exact ⟨_, n', h % 16 ^ n', g * 16 % 4503599627370496, rfl, cast16 g, Lib.hid ⟨by have := HG.out.1; omega, HST.out.1, HST.out.2.2.2⟩, Lib.hid (HL.out _ (HD _ _ rfl)), by rw [ByteArray.size_append]; exact Nat.add_le_add_right hSs15 1, Nat.mod_lt _ (by decide), hbw.alloc hbw.size _⟩ | exact ⟨_, _, _, _, _, _, _, _, _, _, _, _, _, _, ⟨_, n', h % 16 ^ n', g * 16 % 4503599627370496, rfl, cast16 g, Lib.hid ⟨by have := HG.out.1; omega, HST.out.1, HST.out.2.2.2⟩, Lib.hid (HL.out _ (HD _ _ rfl)), by rw [ByteArray.size_append]; exact Nat.add_le_add_right hSs15 1, Nat.mod_lt _ (by decide), hbw.alloc hbw.size _⟩, rfl⟩
            case measure =>
              show 17 - (S ++ (⟨#[_]⟩ : ByteArray)).size < 17 - S.size
              rw [ByteArray.size_append, sz_one]; omega

set_option maxHeartbeats 1000000 in
theorem rtext_any (b : Nat) (hb : b < 18446744073709551616) (w : World) :
    Calls Tryz.prog 10 #[.float .f64 b] w (TextOf b w) := by
  have lit (l : List UInt8) (hl : l.length ≤ 4) (ht : text b = l) : TextOf b w (.returned (.string ⟨l.toArray⟩)) w :=
    ⟨_, rfl, Lib.hid (by rw [ht]), by rw [size_mk']; omega, Below.refl _ _⟩
  have hbits := rbits_any b hb w
  rcases text_cases b hb with ⟨hn, _, ht⟩ | ⟨hn, hcb, ⟨k, _, ht⟩ | ⟨k, k', _, ht⟩ | ⟨k, _, ht⟩ | ⟨k, _, ht⟩ | ⟨k, k', _, ht⟩ | ⟨k, _, ht⟩⟩
  · have HF := lit _ (by simp) ht
    rw [cb_nan b hn] at hbits
    have e1 : bits .andNot .u64 9221120237041090560 9223372036854775808 = 9221120237041090560 := by decide +kernel
    clear lit ht hn
    go_enter Tryz.func10, Tryz.ntmps10
    go_wp2_with (go_at_call 23; refine hbits.mono ?_; rintro e w' ⟨rfl, rfl⟩)
    go_ret
    exact HF
  · have HF := lit _ (by simp) ht
    rw [hcb, k] at hbits
    have e1 : bits .andNot .u64 18442240474082181120 9223372036854775808 = 9218868437227405312 := by decide +kernel
    have e2 : bits .and .u64 18442240474082181120 9223372036854775808 = 9223372036854775808 := by decide +kernel
    clear lit ht hn hcb
    subst k
    go_enter Tryz.func10, Tryz.ntmps10
    go_wp2_with (go_at_call 23; refine hbits.mono ?_; rintro e w' ⟨rfl, rfl⟩)
    go_ret
    exact HF
  · exact rtext_fin b _ hb hcb rfl (by omega) (by omega) (by rw [ht, if_pos (by omega)]; rfl) w
  · have HF := lit _ (by simp) ht
    rw [hcb, k] at hbits
    have e1 : bits .andNot .u64 9223372036854775808 9223372036854775808 = 0 := by decide +kernel
    have e2 : bits .and .u64 9223372036854775808 9223372036854775808 = 9223372036854775808 := by decide +kernel
    clear lit ht hn hcb
    subst k
    go_enter Tryz.func10, Tryz.ntmps10
    go_wp2_with (go_at_call 23; refine hbits.mono ?_; rintro e w' ⟨rfl, rfl⟩)
    go_ret
    exact HF
  · have HF := lit _ (by simp) ht
    rw [hcb, k] at hbits
    have e1 : bits .andNot .u64 0 9223372036854775808 = 0 := by decide +kernel
    have e2 : bits .and .u64 0 9223372036854775808 = 0 := by decide +kernel
    clear lit ht hn hcb
    subst k
    go_enter Tryz.func10, Tryz.ntmps10
    go_wp2_with (go_at_call 23; refine hbits.mono ?_; rintro e w' ⟨rfl, rfl⟩)
    go_ret
    exact HF
  · exact rtext_fin b _ hb hcb rfl (by omega) (by omega) (by rw [ht, if_neg (by omega), Nat.mod_eq_of_lt (by omega)]; rfl) w
  · have HF := lit _ (by simp) ht
    rw [hcb, k] at hbits
    have e1 : bits .andNot .u64 9218868437227405312 9223372036854775808 = 9218868437227405312 := by decide +kernel
    have e2 : bits .and .u64 9218868437227405312 9223372036854775808 = 0 := by decide +kernel
    clear lit ht hn hcb
    subst k
    go_enter Tryz.func10, Tryz.ntmps10
    go_wp2_with (go_at_call 23; refine hbits.mono ?_; rintro e w' ⟨rfl, rfl⟩)
    go_ret
    exact HF

end Go.Proofs.YtlbnfnfenphfbaaGreatDoor
