/- Proved: what the landed New, Add, Value, Of and Check, and the document's own Crc, answer: the sum of a row of bytes, of nothing too; only the sum that goes on is written. -/
import Derived.Test.YtgmekkenodiclaaMem
import Derived.OneCell
namespace Go.Proofs.Ytgmekkenodiclaa
open Go.RowKit

/-- The block b holds a sum that goes on. -/
def Box (w : World) (b v : Nat) : Prop := w.heap[b]? = some (.cells #[.int .u32 (v : Int)] 105 (0, 0))
theorem box_cell {w : World} {b v : Nat} (h : Box w b v) : w.cell? ⟨b, 0, none⟩ = some (.int .u32 (v : Int)) := by
  unfold World.cell?; simp only [Box] at h; simp [h]
theorem box_free {w : World} {b v : Nat} (h : Box w b v) : w.frozen? ⟨b, 0, none⟩ = false := by
  unfold World.frozen?; simp only [Box] at h; simp [h]

theorem un_u32 (x : Nat) (hx : x < 4294967296) : bits .xor .u32 IntKind.u32.max (x : Int) = ((4294967295 ^^^ x : Nat) : Int) := u32_xor_nat 4294967295 x (by omega) hx
theorem and_odd (x : Nat) (hx : x < 4294967296) (h : x % 2 = 1) : bits .and .u32 (x : Int) 1 = 1 := by
  rw [u32_and _ _ (by omega) (by omega) (by omega) (by omega), Int.toNat_natCast]
  show ((x &&& 1 : Nat) : Int) = 1
  rw [Nat.and_one_is_mod, h]; rfl
theorem and_even (x : Nat) (hx : x < 4294967296) (h : x % 2 = 0) : bits .and .u32 (x : Int) 1 = 0 := by
  rw [u32_and _ _ (by omega) (by omega) (by omega) (by omega), Int.toNat_natCast]
  show ((x &&& 1 : Nat) : Int) = 0
  rw [Nat.and_one_is_mod, h]; rfl
theorem turn_odd (x : Nat) (hx : x < 4294967296) (h : x % 2 = 1) : bits .xor .u32 ((x : Int) / 2) 2197175160 = (bs x : Int) := by
  have := u32_xor_nat (x / 2) 2197175160 (by omega) (by omega)
  rw [bs_odd h]; simpa using this
theorem turn_even (x : Nat) (h : x % 2 = 0) : (x : Int) / 2 = (bs x : Int) := by rw [bs_even h]; simp

set_option maxHeartbeats 1000000 in
set_option maxRecDepth 100000 in
theorem add_any (A : Option Addr) (b v n c : Nat) (L : List Nat) (hn : n ≤ 1000000) (hv : v < 4294967296) (hl : L.length = n) (hL : AllB L) (w : World) (hb : Box w b v) (hx : BV w A L) :
    Calls Try.prog 55 #[.pointer (some ⟨b, 0, none⟩), .slice A n c] w fun e w' => e = .returned (.pointer (some ⟨b, 0, none⟩)) ∧ w' = w.setCell ⟨b, 0, none⟩ (.int .u32 ((4294967295 ^^^ rg (4294967295 ^^^ v) L : Nat) : Int)) := by
  have hc := box_cell hb
  have hf := box_free hb
  have q1 := un_u32 v hv
  obtain ⟨r, hr⟩ : ∃ r, r = 4294967295 ^^^ v := ⟨_, rfl⟩
  have r1 : r < 4294967296 := by rw [hr]; exact xor_lt (by omega) hv
  have r2 := rg_lt L r1 hL
  rw [← hr] at q1 ⊢
  obtain ⟨R, hR⟩ : ∃ R, R = rg r L := ⟨_, rfl⟩
  rw [← hR] at r2 ⊢
  have q2 := un_u32 R r2
  obtain ⟨Z, hZ⟩ : ∃ Z, Z = 4294967295 ^^^ R := ⟨_, rfl⟩
  rw [← hZ] at q2 ⊢
  have HL := Lib.hid hl
  have HAL := Lib.hid hL
  have HX := Lib.hid hx
  have HR := Lib.hid hR
  clear hl hL hx hb hr hZ hR
  go_enter Try.func55, Try.ntmps55
  go_wp2
  go_loop [5, 18] (fun c5 c18 => ∃ k x : Nat, k ≤ n ∧ c18 = .int .i64 (k : Int) ∧ c5 = .int .u32 (x : Int) ∧ x < 4294967296 ∧ Hid (R = rg x (L.drop k))) (fun _ c18 => n - (intOf c18).toNat)
  case atStart => exact ⟨0, r, Nat.zero_le _, rfl, rfl, r1, by rw [List.drop_zero]; exact HR⟩
  case round =>
    obtain ⟨k, x, hk, rfl, rfl, hx1, HK⟩ := hrel
    by_cases hlt : k < n
    · obtain ⟨b1, o1, rfl, _, p1⟩ := HX.out.pos (by rw [HL.out]; omega)
      have e1 := p1 k (by rw [HL.out]; exact hlt)
      have d1 := allB_at HAL.out k
      have hd := drop_one L k (by rw [HL.out]; exact hlt)
      obtain ⟨y, hy⟩ : ∃ y, y = L.getD k 0 := ⟨_, rfl⟩
      rw [← hy] at e1 d1 hd
      have HK2 : Hid (R = rg (it 8 (x ^^^ y)) (L.drop (k + 1))) := Lib.hid (by rw [← rg_cons, ← hd]; exact HK.out)
      have g1 : (0 : Int) ≤ (k : Int) := by omega
      have q3 := u32_xor_nat x y hx1 (by omega)
      have z1 : x ^^^ y < 4294967296 := xor_lt hx1 (by omega)
      obtain ⟨z, hz⟩ : ∃ z, z = x ^^^ y := ⟨_, rfl⟩
      rw [← hz] at q3 z1 HK2
      clear p1 hd hy hz
      go_wp2
      go_loop [5, 26] (fun c5 c26 => ∃ j u : Nat, j ≤ 8 ∧ c26 = .int .i64 (j : Int) ∧ c5 = .int .u32 (u : Int) ∧ u < 4294967296 ∧ Hid (it (8 - j) u = it 8 z)) (fun _ c26 => 8 - (intOf c26).toNat)
      case atStart => exact ⟨0, z, by omega, rfl, rfl, z1, rfl⟩
      case round =>
        obtain ⟨j, u, hj, rfl, rfl, hu, HJ⟩ := hrel
        by_cases hj8 : j < 8
        · have HJ2 : Hid (it (8 - (j + 1)) (bs u) = it 8 z) := Lib.hid (by rw [← it_more, show 8 - (j + 1) + 1 = 8 - j by omega]; exact HJ.out)
          have hbu := bs_lt hu
          clear HJ
          rcases Nat.mod_two_eq_zero_or_one u with he | ho
          · have a1 := and_even u hu he
            have a2 := Lib.hid (turn_even u he)
            clear he
            go_wp2
            go_round
            case rel => exact ⟨j + 1, bs u, by omega, by go_num, by rw [a2.out], hbu, HJ2⟩
            case measure => simp [intOf]; omega
          · have a1 := and_odd u hu ho
            have a2 := turn_odd u hu ho
            clear ho
            go_wp2
            go_round
            case rel => exact ⟨j + 1, bs u, by omega, by go_num, rfl, hbu, HJ2⟩
            case measure => simp [intOf]; omega
        · have hj9 : j = 8 := by omega
          subst hj9
          have HU : Hid (R = rg u (L.drop (k + 1))) := Lib.hid (by rw [show u = it 8 z from HJ.out]; exact HK2.out)
          go_wp2
          go_round
          case rel => exact ⟨k + 1, u, by omega, by go_num, rfl, hu, HU⟩
          case measure => simp [intOf]; omega
    · have hkn : k = n := by omega
      subst hkn
      have hxr : x = R := by rw [HK.out, List.drop_of_length_le (by rw [HL.out]; omega)]; rfl
      subst hxr
      go_wp2
      go_ret
      exact ⟨rfl, rfl⟩

set_option maxRecDepth 100000 in
theorem add_nil (A : Option Addr) (n c : Nat) (w : World) :
    Calls Try.prog 55 #[.pointer none, .slice A n c] w fun e w' => e = .returned (.pointer none) ∧ w = w' := by
  go_enter Try.func55, Try.ntmps55
  go_wp2
  go_ret
  exact ⟨rfl, rfl⟩
set_option maxRecDepth 100000 in
theorem value_any (b v : Nat) (w : World) (hb : Box w b v) :
    Calls Try.prog 56 #[.pointer (some ⟨b, 0, none⟩)] w fun e w' => e = .returned (.int .u32 (v : Int)) ∧ w = w' := by
  have hc := box_cell hb
  clear hb
  go_enter Try.func56, Try.ntmps56
  go_wp2
  go_ret
  exact ⟨rfl, rfl⟩
set_option maxRecDepth 100000 in
theorem value_nil (w : World) :
    Calls Try.prog 56 #[.pointer none] w fun e w' => e = .returned (.int .u32 0) ∧ w = w' := by
  go_enter Try.func56, Try.ntmps56
  go_wp2
  go_ret
  exact ⟨rfl, rfl⟩
set_option maxRecDepth 100000 in
theorem new_any (w : World) :
    Calls Try.prog 54 #[] w fun e w' => e = .returned (.pointer (some ⟨w.heap.size, 0, none⟩)) ∧ w' = w.alloc (.cells #[.int .u32 0] 105) := by
  go_enter Try.func54, Try.ntmps54
  go_wp2
  go_ret
  exact ⟨rfl, rfl⟩
theorem box_new (w : World) : Box (w.alloc (.cells #[.int .u32 0] 105)) w.heap.size 0 := heap_alloc_new _ _
theorem box_set {w : World} {b v : Nat} (h : Box w b v) (u : Nat) : Box (w.setCell ⟨b, 0, none⟩ (.int .u32 (u : Int))) b u := one_setCell h
theorem box_other {w : World} {b v b2 : Nat} (h : Box w b v) (hne : b ≠ b2) (u : Value) : Box (w.setCell ⟨b2, 0, none⟩ u) b v := by
  unfold Box at h ⊢; rw [Below.heap_setCell _ _ _ _ hne]; exact h
theorem box_at {w w' : World} {b v : Nat} (h : Box w b v) (hb : At w w') : Box w' b v := by
  unfold Box at h ⊢
  have hl : b < w.heap.size := by
    rcases Nat.lt_or_ge b w.heap.size with h' | h'
    · exact h'
    · rw [Array.getElem?_eq_none h'] at h; cases h
  rw [hb.block b hl]; exact h

set_option maxHeartbeats 1000000 in
set_option maxRecDepth 100000 in
theorem of_any (A : Option Addr) (n c : Nat) (L : List Nat) (hn : n ≤ 1000000) (hl : L.length = n) (hL : AllB L) (w : World) (hx : BV w A L) :
    Calls Try.prog 48 #[.slice A n c] w (fun e w' => e = .returned (.int .u32 (cr L : Int)) ∧ At w w') := by
  have H1 := Lib.hid (add_any A w.heap.size 0 n c L hn (by omega) hl hL (w.alloc (.cells #[.int .u32 0] 105)) (box_new w) (((At.start w).alloc _).bv hx))
  rw [show 4294967295 ^^^ rg (4294967295 ^^^ 0) L = cr L from rfl] at H1
  obtain ⟨v, hv⟩ : ∃ v, v = cr L := ⟨_, rfl⟩
  rw [← hv] at H1 ⊢
  have HBX := Lib.hid (box_set (box_new w) v)
  have HAT : Hid (At w ((w.alloc (.cells #[.int .u32 0] 105)).setCell ⟨w.heap.size, 0, none⟩ (.int .u32 (v : Int)))) := Lib.hid (Below.setCell (((At.start w).alloc _)) (Nat.le_refl _) _)
  have H2 := Lib.hid (fun w' (h : w' = (w.alloc (.cells #[.int .u32 0] 105)).setCell ⟨w.heap.size, 0, none⟩ (.int .u32 (v : Int))) => value_any w.heap.size v w' (by rw [h]; exact HBX.out))
  clear hv hl hL hx
  go_enter Try.func48, Try.ntmps48
  go_wp2_with fail
  refine (new_any _).mono ?_
  rintro e w1 ⟨rfl, h1⟩
  rw [← h1] at H1 H2 HAT
  have HW1 := Lib.hid h1
  clear h1
  go_wp2_with fail
  refine H1.out.mono ?_
  rintro e w2 ⟨rfl, h2⟩
  rw [← h2] at H2 HAT
  have HW2 := Lib.hid h2
  clear h2
  go_wp2_with fail
  refine (H2.out _ rfl).mono ?_
  rintro e w3 ⟨rfl, rfl⟩
  go_wp2
  go_ret
  exact ⟨rfl, HAT.out⟩

set_option maxHeartbeats 1000000 in
set_option maxRecDepth 100000 in
theorem check_any (A : Option Addr) (n c u : Nat) (L : List Nat) (hn : n ≤ 1000000) (hl : L.length = n) (hL : AllB L) (w : World) (hx : BV w A L) :
    Calls Try.prog 39 #[.slice A n c, .int .u32 (u : Int)] w (fun e w' => e = .returned (.bool ((cr L : Int) == (u : Int))) ∧ At w w') := by
  have H1 := Lib.hid (of_any A n c L hn hl hL w hx)
  obtain ⟨v, hv⟩ : ∃ v, v = cr L := ⟨_, rfl⟩
  rw [← hv] at H1 ⊢
  clear hv hl hL hx
  go_enter Try.func39, Try.ntmps39
  go_wp2_with fail
  refine H1.out.mono ?_
  rintro e w1 ⟨rfl, h1⟩
  have HW1 := Lib.hid h1
  clear h1
  go_wp2
  go_ret
  exact ⟨rfl, HW1.out⟩

set_option maxHeartbeats 1000000 in
set_option maxRecDepth 100000 in
theorem rcrc_any (A : Option Addr) (n c : Nat) (L : List Nat) (hn : n ≤ 1000000) (hl : L.length = n) (hL : AllB L) (w : World) (hx : BV w A L) :
    Calls Try.prog 51 #[.slice A n c] w (fun e w' => e = .returned (.int .u32 (cr L : Int)) ∧ w = w') := by
  have r2 := rg_lt L (show 4294967295 < 4294967296 by omega) hL
  obtain ⟨Z, hZ⟩ : ∃ Z, Z = cr L := ⟨_, rfl⟩
  obtain ⟨R, hR⟩ : ∃ R, R = rg 4294967295 L := ⟨_, rfl⟩
  rw [← hR] at r2
  have q2 := un_u32 R r2
  rw [show 4294967295 ^^^ R = Z by rw [hZ, hR]; rfl] at q2
  rw [← hZ]
  have HL := Lib.hid hl
  have HAL := Lib.hid hL
  have HX := Lib.hid hx
  have HR := Lib.hid hR
  clear hl hL hx hZ hR
  go_enter Try.func51, Try.ntmps51
  go_wp2
  go_loop [3, 4] (fun c5 c18 => ∃ k x : Nat, k ≤ n ∧ c18 = .int .i64 (k : Int) ∧ c5 = .int .u32 (x : Int) ∧ x < 4294967296 ∧ Hid (R = rg x (L.drop k))) (fun _ c18 => n - (intOf c18).toNat)
  case atStart => exact ⟨0, 4294967295, Nat.zero_le _, rfl, rfl, by omega, by rw [List.drop_zero]; exact HR⟩
  case round =>
    obtain ⟨k, x, hk, rfl, rfl, hx1, HK⟩ := hrel
    by_cases hlt : k < n
    · obtain ⟨b1, o1, rfl, _, p1⟩ := HX.out.pos (by rw [HL.out]; omega)
      have e1 := p1 k (by rw [HL.out]; exact hlt)
      have d1 := allB_at HAL.out k
      have hd := drop_one L k (by rw [HL.out]; exact hlt)
      obtain ⟨y, hy⟩ : ∃ y, y = L.getD k 0 := ⟨_, rfl⟩
      rw [← hy] at e1 d1 hd
      have HK2 : Hid (R = rg (it 8 (x ^^^ y)) (L.drop (k + 1))) := Lib.hid (by rw [← rg_cons, ← hd]; exact HK.out)
      have g1 : (0 : Int) ≤ (k : Int) := by omega
      have q3 := u32_xor_nat x y hx1 (by omega)
      have z1 : x ^^^ y < 4294967296 := xor_lt hx1 (by omega)
      obtain ⟨z, hz⟩ : ∃ z, z = x ^^^ y := ⟨_, rfl⟩
      rw [← hz] at q3 z1 HK2
      clear p1 hd hy hz
      go_wp2
      go_loop [3, 5] (fun c5 c26 => ∃ j u : Nat, j ≤ 8 ∧ c26 = .int .i64 (j : Int) ∧ c5 = .int .u32 (u : Int) ∧ u < 4294967296 ∧ Hid (it (8 - j) u = it 8 z)) (fun _ c26 => 8 - (intOf c26).toNat)
      case atStart => exact ⟨0, z, by omega, rfl, rfl, z1, rfl⟩
      case round =>
        obtain ⟨j, u, hj, rfl, rfl, hu, HJ⟩ := hrel
        by_cases hj8 : j < 8
        · have HJ2 : Hid (it (8 - (j + 1)) (bs u) = it 8 z) := Lib.hid (by rw [← it_more, show 8 - (j + 1) + 1 = 8 - j by omega]; exact HJ.out)
          have hbu := bs_lt hu
          clear HJ
          rcases Nat.mod_two_eq_zero_or_one u with he | ho
          · have a1 := and_even u hu he
            have a2 := Lib.hid (turn_even u he)
            clear he
            go_wp2
            go_round
            case rel => exact ⟨j + 1, bs u, by omega, by go_num, by rw [a2.out], hbu, HJ2⟩
            case measure => simp [intOf]; omega
          · have a1 := and_odd u hu ho
            have a2 := turn_odd u hu ho
            clear ho
            go_wp2
            go_round
            case rel => exact ⟨j + 1, bs u, by omega, by go_num, rfl, hbu, HJ2⟩
            case measure => simp [intOf]; omega
        · have hj9 : j = 8 := by omega
          subst hj9
          have HU : Hid (R = rg u (L.drop (k + 1))) := Lib.hid (by rw [show u = it 8 z from HJ.out]; exact HK2.out)
          go_wp2
          go_round
          case rel => exact ⟨k + 1, u, by omega, by go_num, rfl, hu, HU⟩
          case measure => simp [intOf]; omega
    · have hkn : k = n := by omega
      subst hkn
      have hxr : x = R := by rw [HK.out, List.drop_of_length_le (by rw [HL.out]; omega)]; rfl
      subst hxr
      go_wp2
      go_ret
      exact ⟨rfl, rfl⟩

end Go.Proofs.Ytgmekkenodiclaa
