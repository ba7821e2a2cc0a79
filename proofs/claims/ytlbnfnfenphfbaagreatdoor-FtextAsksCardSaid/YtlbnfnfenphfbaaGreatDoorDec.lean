/- Proved: the document's own Decimal writes an exponent as the library's Itoa does; what is made lies in new blocks. -/
import Derived.Test.YtlbnfnfenphfbaaGreatDoorText
import Derived.Test.YtlbnfnfenphfbaaGreatDoorWords
import Derived.Laws.IdiomStrings
namespace Go.Proofs.YtlbnfnfenphfbaaGreatDoor
open Go.RowKit Fl Tx

/-- The digits of a number above nought; none of nought. -/
def dgt (u : Nat) : List UInt8 := if u = 0 then [] else Lib.decDigits u
theorem dgt_step (u : Nat) (h : 0 < u) : dgt u = dgt (u / 10) ++ [UInt8.ofNat (48 + u % 10)] := by
  unfold dgt
  rw [if_neg (by omega)]
  by_cases h1 : u < 10
  · rw [if_pos (by omega), Lib.decDigits, dif_pos h1, Nat.mod_eq_of_lt h1]; rfl
  · rw [if_neg (by omega), Lib.decDigits, dif_neg h1]
theorem dgt_len (u : Nat) (h : u < 10000) : (dgt u).length ≤ 4 := by
  unfold dgt; split
  · simp
  · rw [dec4_eq u h]; exact dec4_le u

/-- Bytes as cells. -/
def bv (l : List UInt8) : List Value := l.map fun b => Value.int .u8 (b.toNat : Int)
theorem bv_one (l : List UInt8) : ∀ u ∈ bv l, u.oneCell' = true := by
  intro u hu
  unfold bv at hu
  obtain ⟨b, _, rfl⟩ := List.mem_map.1 hu
  rfl

/-- A row of the call's own, as a slice that reads. -/
theorem own_form {w : World} {base n : Nat} {e : TypeId} {v : Value} {xs : List Value} (h : w.ownsRow base e 1 v n xs) : ∃ A c, v = .slice A n c ∧ Reads w w.heap.size 1 A n xs := by
  rcases h.2 with ⟨rfl, h0⟩ | ⟨g, cap, cur, rfl, hb, hh, _⟩
  · subst h0
    have : xs = [] := List.eq_nil_of_length_eq_zero (by simpa using h.1)
    subst this
    exact ⟨none, 0, rfl, Reads.none_⟩
  · exact ⟨some ⟨g, 0, none⟩, cap, rfl, Reads.of_own h⟩

theorem u8_info : (Tryz.prog.info? 5).map (fun i => (i.zero, i.size, i.bytes)) = some (some (.int .u8 0), 1, 1) := by kernel_rfl

theorem dig_byte (k : Nat) : (UInt8.ofNat (48 + k % 10)).toNat = 48 + k % 10 := by
  rw [UInt8.toNat_ofNat']; have := Nat.mod_lt k (show 0 < 10 by omega); omega

/-- What Decimal hands back. -/
def DecOf (n : Int) (w : World) (e : Ending) (w' : World) : Prop := ∃ S : ByteArray, e = .returned (.string S) ∧ Hid (S = ⟨(Lib.itoa n).toArray⟩) ∧ S.size ≤ 5 ∧ Below w.heap.size w w'

/-- A row of bytes as a string. -/
theorem conv_own {w : World} {base : Nat} {v : Value} (l : List UInt8) (h : w.ownsRow base 5 1 v l.length (bv l)) (hl : l ≠ []) :
    (convert 48 9 v).run Tryz.prog w = .ok (.string ⟨l.toArray⟩) w := by
  obtain ⟨A, c, rfl, hr⟩ := own_form h
  obtain ⟨ad, rfl, _, hcell⟩ := hr.2 (List.length_pos_iff.2 hl)
  exact run_convert_bytes_back (P := Tryz.prog) w 48 9 5 ad c l Tryz.underlying48 Tryz.underlying5 Tryz.underlying9 (fun j hj => by
    refine hcell j _ ?_
    unfold bv
    rw [List.getElem?_map, List.getElem?_eq_getElem hj]; rfl)

set_option maxHeartbeats 2000000 in
set_option maxRecDepth 100000 in
theorem dec_any (n : Int) (h0 : -1022 ≤ n) (h1 : n ≤ 1023) (w : World) :
    Calls Tryz.prog 24 #[.int .i64 n] w (DecOf n w) := by
  by_cases hz : n = 0
  · subst hz
    have HF : DecOf 0 w (.returned (.string ⟨#[48]⟩)) w := ⟨_, rfl, Lib.hid (by rw [itoa_etx 0 (by decide) (by decide)]; rfl), by decide, Below.refl _ _⟩
    go_enter Tryz.func24, Tryz.ntmps24
    go_wp2
    go_ret
    exact HF
  · obtain ⟨i0, hi0, hz0, hz1, hz2⟩ := info_parts u8_info
    have hzn : (n == 0) = false := by simpa using hz
    by_cases hneg : n < 0
    · obtain ⟨u, hu, hu1⟩ : ∃ u : Nat, n = -(u : Int) ∧ 0 < u := ⟨n.natAbs, by omega, by omega⟩
      subst hu
      have hu2 : u ≤ 1022 := by omega
      have hwr : IntKind.u64.wrap (-IntKind.u64.wrap (-(u : Int))) = (u : Int) := by rw [IntKind.wrap_u64, IntKind.wrap_u64]; omega
      have HT : Hid (Lib.itoa (-(u : Int)) = 45 :: dgt u) := Lib.hid (by unfold Lib.itoa dgt; rw [if_pos hneg, if_neg (by omega)]; simp)
      have HL : Hid ((dgt u).length ≤ 4 ∧ dgt u ≠ []) := Lib.hid ⟨dgt_len u (by omega), by rw [dgt_step u hu1]; simp⟩
      clear hz h0 h1
      go_enter Tryz.func24, Tryz.ntmps24
      go_wp2
      go_loopw [3, 4] (fun vu v wr => ∃ (k : Nat) (l : List UInt8), vu = .int .u64 (k : Int) ∧ k ≤ 1022 ∧ Hid (wr.ownsRow w.heap.size 5 1 v l.length (bv l)) ∧ Hid (dgt u = dgt k ++ l) ∧ Below w.heap.size w wr) (fun vu _ _ => (intOf vu).toNat)
      case atStart => exact ⟨u, [], rfl, hu2, Lib.hid (World.ownsRow_nil _ _ _ _), Lib.hid (by simp), Below.refl _ _⟩
      case round =>
        obtain ⟨k, l, rfl, hk, HO, HD, hbw⟩ := hrel
        have HLl : Hid (l.length ≤ 4 ∧ (0 < k → l.length ≤ 3)) := Lib.hid (by
          have h := HL.out.1
          rw [HD.out, List.length_append] at h
          refine ⟨by omega, fun h0 => ?_⟩
          have h2 : 0 < (dgt k).length := by rw [dgt_step k h0]; simp
          omega)
        by_cases hk0 : 0 < k
        · obtain ⟨A, c, rfl, hr⟩ := own_form HO.out
          have hAp : Hid (dgt k = dgt (k / 10) ++ [UInt8.ofNat (48 + k % 10)]) := Lib.hid (dgt_step k hk0)
          have HBv : Hid (bv (UInt8.ofNat (48 + k % 10) :: l) = [Value.int .u8 (48 + (k : Int) % 10)] ++ bv l) := Lib.hid (by
            unfold bv; rw [List.map_cons, dig_byte]; rfl)
          have HR : Hid (Reads wr wr.heap.size 1 A l.length (bv l)) := Lib.hid hr
          clear hr
          go_wp2_with (at_builtin
                       refine wpList_append_any _ rfl (.tmp 19) (.tmp 20) _ rfl w.heap.size 5 i0 _ 1 1 Tryz.underlying48 hi0 hz0 hz1 hz2 rfl (by omega)
                         (.slice (some ⟨wr.heap.size, 0, none⟩) 1 1) 1 [Value.int .u8 (48 + (k : Int) % 10)] rfl (World.ownsRow_lit wr #[Value.int .u8 (48 + (k : Int) % 10)] 1 hbw.size (by simp only [maxLen]; omega) rfl)
                         wr.heap.size A l.length c (bv l) rfl (HR.out.alloc (Nat.le_refl _) _) (bv_one l) (by have := HLl.out.1; simp only [maxLen]; omega) (by have := HLl.out.1; omega) (hbw.alloc hbw.size _).size ?_
                       intro v1 w1 hown1 hg1 _
                       have HO1 : Hid (w1.ownsRow w.heap.size 5 1 v1 (UInt8.ofNat (48 + k % 10) :: l).length (bv (UInt8.ofNat (48 + k % 10) :: l))) := Lib.hid (by rw [HBv.out, List.length_cons, Nat.add_comm]; exact hown1)
                       have hbw1 : Below w.heap.size w w1 := (hbw.alloc hbw.size _).grown hg1 (hbw.alloc hbw.size _).size (fun j hj => by cases hj; exact hbw.size)
                       clear hown1 hg1)
          go_roundw
          case rel => exact ⟨k / 10, _, by go_num, by omega, HO1, Lib.hid (by rw [HD.out, hAp.out]; simp), hbw1⟩
          case measure => simp [intOf]; omega
        · obtain rfl : k = 0 := by omega
          have HD0 : Hid (dgt u = l) := Lib.hid (by rw [HD.out]; rfl)
          clear HD
          obtain ⟨A, c, rfl, hr⟩ := own_form HO.out
          have HR : Hid (Reads wr wr.heap.size 1 A l.length (bv l)) := Lib.hid hr
          clear hr
          go_wp2_with (first
            | (at_builtin
               refine wpList_append_any _ rfl (.tmp 26) (.tmp 27) _ rfl w.heap.size 5 i0 _ 1 1 Tryz.underlying48 hi0 hz0 hz1 hz2 rfl (by omega)
                 (.slice (some ⟨wr.heap.size, 0, none⟩) 1 1) 1 [Value.int .u8 45] rfl (World.ownsRow_lit wr #[Value.int .u8 45] 1 hbw.size (by simp only [maxLen]; omega) rfl)
                 wr.heap.size A l.length c (bv l) rfl (HR.out.alloc (Nat.le_refl _) _) (bv_one l) (by have := HLl.out.1; simp only [maxLen]; omega) (by have := HLl.out.1; omega) (hbw.alloc hbw.size _).size ?_
               intro v1 w1 hown1 hg1 _
               have HO1 : Hid (w1.ownsRow w.heap.size 5 1 v1 (45 :: l).length (bv (45 :: l))) := Lib.hid (by rw [List.length_cons, Nat.add_comm]; exact hown1)
               have hbw1 : Below w.heap.size w w1 := (hbw.alloc hbw.size _).grown hg1 (hbw.alloc hbw.size _).size (fun j hj => by cases hj; exact hbw.size)
               have hcv := conv_own (45 :: l) HO1.out (by simp)
               clear hown1 hg1))
          go_ret
          exact ⟨_, rfl, Lib.hid (by rw [HT.out, HD0.out]), by rw [size_mk']; have := HLl.out.1; simp only [List.length_cons]; omega, hbw1⟩
    · obtain ⟨u, hu, hu1⟩ : ∃ u : Nat, n = (u : Int) ∧ 0 < u := ⟨n.toNat, by omega, by omega⟩
      subst hu
      have hu2 : u ≤ 1023 := by omega
      have HT : Hid (Lib.itoa (u : Int) = dgt u) := Lib.hid (by unfold Lib.itoa dgt; rw [if_neg hneg, if_neg (by omega)]; simp)
      have HL : Hid ((dgt u).length ≤ 4 ∧ dgt u ≠ []) := Lib.hid ⟨dgt_len u (by omega), by rw [dgt_step u hu1]; simp⟩
      clear hz h0 h1
      go_enter Tryz.func24, Tryz.ntmps24
      go_wp2
      go_loopw [3, 4] (fun vu v wr => ∃ (k : Nat) (l : List UInt8), vu = .int .u64 (k : Int) ∧ k ≤ 1023 ∧ Hid (wr.ownsRow w.heap.size 5 1 v l.length (bv l)) ∧ Hid (dgt u = dgt k ++ l) ∧ Below w.heap.size w wr) (fun vu _ _ => (intOf vu).toNat)
      case atStart => exact ⟨u, [], rfl, hu2, Lib.hid (World.ownsRow_nil _ _ _ _), Lib.hid (by simp), Below.refl _ _⟩
      case round =>
        obtain ⟨k, l, rfl, hk, HO, HD, hbw⟩ := hrel
        have HLl : Hid (l.length ≤ 4 ∧ (0 < k → l.length ≤ 3)) := Lib.hid (by
          have h := HL.out.1
          rw [HD.out, List.length_append] at h
          refine ⟨by omega, fun h0 => ?_⟩
          have h2 : 0 < (dgt k).length := by rw [dgt_step k h0]; simp
          omega)
        by_cases hk0 : 0 < k
        · obtain ⟨A, c, rfl, hr⟩ := own_form HO.out
          have hAp : Hid (dgt k = dgt (k / 10) ++ [UInt8.ofNat (48 + k % 10)]) := Lib.hid (dgt_step k hk0)
          have HBv : Hid (bv (UInt8.ofNat (48 + k % 10) :: l) = [Value.int .u8 (48 + (k : Int) % 10)] ++ bv l) := Lib.hid (by
            unfold bv; rw [List.map_cons, dig_byte]; rfl)
          have HR : Hid (Reads wr wr.heap.size 1 A l.length (bv l)) := Lib.hid hr
          clear hr
          go_wp2_with (at_builtin
                       refine wpList_append_any _ rfl (.tmp 19) (.tmp 20) _ rfl w.heap.size 5 i0 _ 1 1 Tryz.underlying48 hi0 hz0 hz1 hz2 rfl (by omega)
                         (.slice (some ⟨wr.heap.size, 0, none⟩) 1 1) 1 [Value.int .u8 (48 + (k : Int) % 10)] rfl (World.ownsRow_lit wr #[Value.int .u8 (48 + (k : Int) % 10)] 1 hbw.size (by simp only [maxLen]; omega) rfl)
                         wr.heap.size A l.length c (bv l) rfl (HR.out.alloc (Nat.le_refl _) _) (bv_one l) (by have := HLl.out.1; simp only [maxLen]; omega) (by have := HLl.out.1; omega) (hbw.alloc hbw.size _).size ?_
                       intro v1 w1 hown1 hg1 _
                       have HO1 : Hid (w1.ownsRow w.heap.size 5 1 v1 (UInt8.ofNat (48 + k % 10) :: l).length (bv (UInt8.ofNat (48 + k % 10) :: l))) := Lib.hid (by rw [HBv.out, List.length_cons, Nat.add_comm]; exact hown1)
                       have hbw1 : Below w.heap.size w w1 := (hbw.alloc hbw.size _).grown hg1 (hbw.alloc hbw.size _).size (fun j hj => by cases hj; exact hbw.size)
                       clear hown1 hg1)
          go_roundw
          case rel => exact ⟨k / 10, _, by go_num, by omega, HO1, Lib.hid (by rw [HD.out, hAp.out]; simp), hbw1⟩
          case measure => simp [intOf]; omega
        · obtain rfl : k = 0 := by omega
          have HD0 : Hid (dgt u = l) := Lib.hid (by rw [HD.out]; rfl)
          clear HD
          have hcv := conv_own l HO.out (by rw [← HD0.out]; exact HL.out.2)
          go_wp2
          go_ret
          exact ⟨_, rfl, Lib.hid (by rw [HT.out, HD0.out]), by rw [size_mk']; have := HLl.out.1; omega, hbw⟩

end Go.Proofs.YtlbnfnfenphfbaaGreatDoor
