/- Proved: ParseUint at base 16 and 52 bits gives the value of one to thirteen hexadecimal digits, or ErrSyntax; what is made lies in new blocks. -/
import Derived.Test.YtlbnfnfenphfbaaGreatDoorRef
import Derived.Test.YtlbnfnfenphfbaaGreatDoorTx
import Derived.Lib.Strings
import Derived.Lib.Walk
import Derived.Lib.ConvBytes
import Derived.Laws.Strings3
import Derived.Laws.Closers25
import Derived.Laws.Closers25b
import Derived.BigCall
import Derived.BigGuard
namespace Go.Proofs.YtlbnfnfenphfbaaGreatDoor
open Go.RowKit Fl Tx

theorem lower_any (c : Int) (w : World) :
    Calls Tryz.prog 88 #[.int .u8 c] w fun e w' => e = .returned (.int .u8 (bits .or .u8 c 32)) ∧ w = w' := by
  go_enter Tryz.func88, Tryz.ntmps88
  go_wp2
  go_ret
  exact ⟨rfl, rfl⟩

/-- What ParseUint(s, 16, 52) hands back. -/
def puV (r : Option Nat) : Value := match r with
  | some n => .tuple #[.int .u64 n, .nilIface]
  | none => .tuple #[.int .u64 0, .iface 84 (.int .i64 2)]

theorem or32 (c : UInt8) : bits .or .u8 (c.toNat : Int) 32 = ((c ||| 32).toNat : Int) := by
  have : ∀ c : Fin 256, bits .or .u8 (c.val : Int) 32 = (((UInt8.ofNat c.val) ||| 32).toNat : Int) := by decide +kernel
  have h := this ⟨c.toNat, c.toNat_lt⟩
  simpa using h

theorem dig_num (c : UInt8) (h0 : 48 ≤ c.toNat) (h1 : c.toNat ≤ 57) : dig c = some (c.toNat - 48) := by unfold dig; rw [if_pos ⟨h0, h1⟩]
theorem dig_let (c : UInt8) (h : ¬ (48 ≤ c.toNat ∧ c.toNat ≤ 57)) (h0 : 97 ≤ (c ||| 32).toNat) (h1 : (c ||| 32).toNat ≤ 102) : dig c = some ((c ||| 32).toNat - 87) := by unfold dig; rw [if_neg h, if_pos ⟨h0, h1⟩]
theorem dig_no (c : UInt8) (h : ¬ (48 ≤ c.toNat ∧ c.toNat ≤ 57)) (h0 : ¬ (97 ≤ (c ||| 32).toNat ∧ (c ||| 32).toNat ≤ 102)) : dig c = none := by unfold dig; rw [if_neg h, if_neg h0]
theorem or32_95 (c : UInt8) (h : c.toNat = 95) : (c ||| 32).toNat = 127 := by
  have : c = 95 := UInt8.toNat_inj.1 h
  subst this; rfl

set_option maxHeartbeats 8000000 in
set_option maxRecDepth 100000 in
theorem pu_any (t : ByteArray) (hne : t.size ≠ 0) (hmax : t.size ≤ 13) (w : World) :
    Calls Tryz.prog 68 #[.string t, .int .i64 16, .int .i64 52] w fun e w' => e = .returned (puV (pu 0 t.data.toList)) ∧ w' = Lib.bytesWorld w 5 t := by
  have hemp : t.toList.isEmpty = false := by
    rw [← decide_eq_emptyBytes]
    exact decide_eq_false (fun h => hne (by rw [h]; rfl))
  have hcv := Lib.run_convert_string_bytes (P := Tryz.prog) w 9 48 5 t (u := .string) Tryz.underlying9 Tryz.underlying48 Tryz.underlying5
  have hB : ∀ j, j < t.size → (Lib.bytesWorld w 5 t).cell? ⟨w.heap.size, j, none⟩ = some (.int .u8 (t.data.toList.getD j 0).toNat) := fun j hj => Lib.bytesWorld_cell w 5 t j hj
  obtain ⟨W1, hW1⟩ : ∃ W1, W1 = Lib.bytesWorld w 5 t := ⟨_, rfl⟩
  rw [← hW1] at hcv hB ⊢
  clear hW1
  obtain ⟨bs, hL⟩ : ∃ bs, bs = t.data.toList := ⟨_, rfl⟩
  have hLn : bs.length = t.size := by rw [hL, Lib.size_eq]
  rw [← hL] at hB ⊢
  clear hL
  have hmv : IntKind.u64.wrap (IntKind.u64.wrap 4503599627370496 - 1) = 4503599627370495 := by
    rw [IntKind.wrap_u64, IntKind.wrap_u64]
    decide
  go_enter Tryz.func68, Tryz.ntmps68
  go_wp2
  go_loop [12, 13, 101] (fun vu vn vi => ∃ (k acc : Nat) (a : Int), vu = .bool false ∧ vn = .int .u64 a ∧ vi = .int .i64 k ∧ k ≤ t.size ∧ Hid (a = (acc : Int) ∧ acc < 16 ^ k ∧ pu 0 bs = pu acc (bs.drop k)))
    (fun _ _ vi => t.size - (intOf vi).toNat)
  case atStart => exact ⟨0, 0, 0, rfl, rfl, rfl, by omega, rfl, by decide, rfl⟩
  case round =>
    obtain ⟨k, acc, a, rfl, rfl, rfl, hk, hh⟩ := hrel
    obtain ⟨ha, hacc, hdec⟩ := hh.out
    clear hh
    have a0 : 0 ≤ a := by omega
    by_cases hkn : k < t.size
    · have hacc2 : acc < 281474976710656 := Nat.lt_of_lt_of_le hacc (Nat.pow_le_pow_right (by decide) (show k ≤ 12 by omega))
      have a1 : a < 281474976710656 := by omega
      have hc := hB k hkn
      have hdrop : bs.drop k = bs[k]'(by omega) :: bs.drop (k + 1) := List.drop_eq_getElem_cons (by omega)
      have hget : bs.getD k 0 = bs[k]'(by omega) := by simp [List.getD, List.getElem?_eq_getElem (show k < bs.length by omega)]
      rw [hdrop] at hdec
      rw [hget] at hc
      generalize bs[k]'(by omega) = c at hc hdec
      have hc256 : c.toNat < 256 := c.toNat_lt
      have hnext : ∀ d, d < 16 → acc * 16 + d < 16 ^ (k + 1) := fun d hd => by
        rw [Nat.pow_succ]; omega
      clear hB hdrop hget
      by_cases hdig : 48 ≤ c.toNat ∧ c.toNat ≤ 57
      · obtain ⟨hd0, hd1⟩ := hdig
        have hF : pu acc (c :: bs.drop (k + 1)) = pu (acc * 16 + (c.toNat - 48)) (bs.drop (k + 1)) := by simp only [pu, dig_num c hd0 hd1]
        have HN : Hid (a * 16 + ((c.toNat : Int) - 48) = ((acc * 16 + (c.toNat - 48) : Nat) : Int) ∧ acc * 16 + (c.toNat - 48) < 16 ^ (k + 1) ∧ pu 0 bs = pu (acc * 16 + (c.toNat - 48)) (bs.drop (k + 1))) := Lib.hid ⟨by omega, hnext _ (by omega), hdec.trans hF⟩
        clear hacc hF hdec ha hnext hacc2
        go_wp2
        refine ⟨⟨k + 1, acc * 16 + (c.toNat - 48), a * 16 + ((c.toNat : Int) - 48), rfl, (by first | rfl | (congr 1; omega)), (by first | rfl | (congr 1; omega)), by omega, HN⟩, by simp [intOf]; omega⟩
      · have hv := or32 c
        have h95 := or32_95 c
        by_cases hlet : 97 ≤ (c ||| 32).toNat ∧ (c ||| 32).toNat ≤ 102
        · have hF : pu acc (c :: bs.drop (k + 1)) = pu (acc * 16 + ((c ||| 32).toNat - 87)) (bs.drop (k + 1)) := by simp only [pu, dig_let c hdig hlet.1 hlet.2]
          obtain ⟨v, hvv⟩ : ∃ v, v = (c ||| 32).toNat := ⟨_, rfl⟩
          rw [← hvv] at hF hlet hv h95
          have HN : Hid (a * 16 + ((v : Int) - 97 + 10) = ((acc * 16 + (v - 87) : Nat) : Int) ∧ acc * 16 + (v - 87) < 16 ^ (k + 1) ∧ pu 0 bs = pu (acc * 16 + (v - 87)) (bs.drop (k + 1))) := Lib.hid ⟨by omega, hnext _ (by omega), hdec.trans hF⟩
          obtain ⟨hl0, hl1⟩ := hlet
          have ne95 : ((c.toNat : Int) == 95) = false := by simp; omega
          clear hacc hF hdec ha hnext hacc2 hvv h95
          by_cases hs0 : 48 ≤ c.toNat
          · have hs1 : 57 < c.toNat := by omega
            clear hdig
            go_wp2_with (go_at_call 88; refine (lower_any _ _).mono ?_; rintro e w' ⟨rfl, rfl⟩)
            refine ⟨⟨k + 1, acc * 16 + (v - 87), _, rfl, rfl, (by first | rfl | (congr 1; omega)), by omega, HN⟩, by simp [intOf]; omega⟩
          · clear hdig
            go_wp2_with (go_at_call 88; refine (lower_any _ _).mono ?_; rintro e w' ⟨rfl, rfl⟩)
            refine ⟨⟨k + 1, acc * 16 + (v - 87), _, rfl, rfl, (by first | rfl | (congr 1; omega)), by omega, HN⟩, by simp [intOf]; omega⟩
        · have hF : pu acc (c :: bs.drop (k + 1)) = none := by simp only [pu, dig_no c hdig hlet]
          rw [hF] at hdec
          have HD := Lib.hid hdec
          obtain ⟨v, hvv⟩ : ∃ v, v = (c ||| 32).toNat := ⟨_, rfl⟩
          have hv256 : v < 256 := by rw [hvv]; exact (c ||| 32).toNat_lt
          rw [← hvv] at hlet hv h95
          have hout : c.toNat < 48 ∨ 57 < c.toNat := by omega
          clear hacc hF hdec ha hnext hacc2 hvv hdig
          by_cases e95 : c.toNat = 95
          · have hv127 := h95 e95
            subst hv127
            have ne95 : ((c.toNat : Int) == 95) = true := by simp; omega
            have hcl : 57 < c.toNat := by omega
            clear e95 h95 hlet
            go_wp2_with (go_at_call 88; refine (lower_any _ _).mono ?_; rintro e w' ⟨rfl, rfl⟩)
            go_ret2
            exact ⟨by rw [HD.out]; rfl, rfl⟩
          · have ne95 : ((c.toNat : Int) == 95) = false := by simp; omega
            clear e95 h95
            rcases hout with hs | hs
            all_goals
              by_cases hx : 97 ≤ v
              · have hx2 : 102 < v := by omega
                clear hlet
                by_cases hz : v ≤ 122
                all_goals
                  go_wp2_with (go_at_call 88; refine (lower_any _ _).mono ?_; rintro e w' ⟨rfl, rfl⟩)
                  go_ret2
                  exact ⟨by rw [HD.out]; rfl, rfl⟩
              · clear hlet
                go_wp2_with (go_at_call 88; refine (lower_any _ _).mono ?_; rintro e w' ⟨rfl, rfl⟩)
                go_ret2
                exact ⟨by rw [HD.out]; rfl, rfl⟩
    · have hkk : k = t.size := by omega
      subst hkk
      have hF : pu acc (bs.drop t.size) = some acc := by rw [List.drop_eq_nil_of_le (by omega)]; rfl
      rw [hF] at hdec
      have HD := Lib.hid hdec
      subst ha
      clear hacc hF a0 hdec
      go_wp2
      go_ret2
      exact ⟨by rw [HD.out]; rfl, rfl⟩

end Go.Proofs.YtlbnfnfenphfbaaGreatDoor
