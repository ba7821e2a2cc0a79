/- Proved: the law CrcAdds answers true at any three rows of bytes and leaves what there was as it was: put over each other bit by bit their sum is their sums put over each other. -/
import Derived.Test.YtplddmkikdfonaaAwk
import Derived.Deep.RegionLaw
namespace Go.Proofs.Ytplddmkikdfonaa
open Go.RowKit

set_option maxHeartbeats 1000000 in
set_option maxRecDepth 100000 in
theorem adds_out (A B C : Option Addr) (m n k c1 c2 c3 : Nat) (h : 2000 < m ∨ n ≠ m ∨ k ≠ m) (w : World) :
    Calls Try.prog 6 #[.slice A m c1, .slice B n c2, .slice C k c3] w (Gives (.bool true) w) := by
  have key : ∀ (b1 b2 b3 : Bool), decide ((2000 : Int) < (m : Int)) = b1 → ((n : Int) != (m : Int)) = b2 → ((k : Int) != (m : Int)) = b3 → (b1 || b2 || b3) = true →
      Calls Try.prog 6 #[.slice A m c1, .slice B n c2, .slice C k c3] w (Gives (.bool true) w) := by
    clear h
    intro b1 b2 b3 h1 h2 h3 hb
    cases b1 <;> cases b2 <;> cases b3 <;> simp only [Bool.or_self, Bool.or_true, Bool.or_false, Bool.false_eq_true] at hb
    all_goals
      try clear hb
      go_enter Try.func6, Try.ntmps6
      go_wp2_with (go_at_call 8; refine (awake_any _).mono ?_; rintro e w' ⟨rfl, hb⟩)
      go_ret
      exact ⟨rfl, hb⟩
  refine key _ _ _ rfl rfl rfl ?_
  rcases h with h | h | h
  · rw [decide_eq_true (show (2000 : Int) < (m : Int) by omega)]; simp
  · rw [show ((n : Int) != (m : Int)) = true by simp; omega]; simp
  · rw [show ((k : Int) != (m : Int)) = true by simp; omega]; simp

/-- One byte more onto a row of bytes of the law's own: what this means for an operation that stands unguarded in a region. -/
theorem byte_step {W w : World} {ops : Array Oper} {o : Oper} {a : Act} {K : Act → World → Prop} {Q : Exit → Act → World → Prop} {E : Prop} {v : Value} {k q g : Nat} {S : List Nat} {i0 : TypeInfo}
    (hi : Try.prog.info? 5 = some i0) (hz0 : i0.zero = some (.int .u8 0)) (hz1 : i0.size = 1) (hz2 : i0.bytes = 1)
    (s x : Operand) (ho : o.op = .call { callee := .builtin .append, args := #[s, x], argTypes := #[22, 22] }) (hu : o.guard = none)
    (hs : a.eval s = v) (hx : a.eval x = .slice (some ⟨g, 0, none⟩) 1 1) (hq : w.cell? ⟨g, 0, none⟩ = some (bt q)) (hk : k < 2000)
    (hA : At W w) (hO : w.ownsRow W.heap.size 5 1 v k (S.map bt))
    (next : ∀ v' w', Hid (w'.ownsRow W.heap.size 5 1 v' (k + 1) ((S ++ [q]).map bt)) → Hid (At W w') → K (a.put o.dst v') w') :
    if Region.wanted o (yielded ops a.tmps) = true then Oper.wp Try.prog o a w K Q else E := by
  have hw : Region.wanted o (yielded ops a.tmps) = true := by simp [Region.wanted, hu]
  rw [if_pos hw]
  refine wp_append_own w s x 22 ho W.heap.size 5 i0 (.int .u8 0) 1 1 Try.underlying22 hi hz0 hz1 hz2 rfl (by decide) v k (S.map bt) hs hO ⟨g, 0, none⟩ 1 1 [bt q] hx rfl ?_ (bt_one [q]) (by unfold maxLen; omega) (by omega) hA.size ?_
  · intro j u hj
    match j, hj with
    | 0, hj =>
      simp only [List.getElem?_cons_zero, Option.some.injEq] at hj
      rw [← hj, Go.WideShapes.add_plain]; exact hq
  · intro v' w' hown hgrow _
    exact next v' w' (Lib.hid (by simpa using hown)) (Lib.hid (Below.grown hA hgrow hA.size (fun j hj => (hO.lt j hj).1)))

set_option maxHeartbeats 2000000 in
set_option maxRecDepth 100000 in
theorem adds_in (A B C : Option Addr) (m c1 c2 c3 : Nat) (X Y Z : List Nat) (hm : m ≤ 2000) (hX : X.length = m) (hY : Y.length = m) (hZ : Z.length = m) (aX : AllB X) (aY : AllB Y) (aZ : AllB Z) (w : World)
    (bX : BV w A X) (bY : BV w B Y) (bZ : BV w C Z) :
    Calls Try.prog 6 #[.slice A m c1, .slice B m c2, .slice C m c3] w (Gives (.bool true) w) := by
  obtain ⟨i0, hi, hz0, hz1, hz2⟩ := info_parts info_u8
  have q0 : decide ((2000 : Int) < (m : Int)) = false := decide_eq_false (by omega)
  have HDL := Lib.hid (x3_len X Y Z (by omega) (by omega))
  have HDB := Lib.hid (x3_byte X Y Z aX aY aZ)
  have HDS := Lib.hid (cr_x3 X Y Z (by omega) (by omega))
  have HST := Lib.hid (fun k (h : k < m) => x3_take X Y Z k (by omega) (by omega) (by omega))
  have HO1 := Lib.hid (fun w' (h : At w w') => of_any A m c1 X (by omega) hX aX w' (h.bv bX))
  have HO2 := Lib.hid (fun w' (h : At w w') => of_any B m c2 Y (by omega) hY aY w' (h.bv bY))
  have HO3 := Lib.hid (fun w' (h : At w w') => of_any C m c3 Z (by omega) hZ aZ w' (h.bv bZ))
  have lX := cr_lt X aX
  have lY := cr_lt Y aY
  have lZ := cr_lt Z aZ
  have LX := Lib.hid hX
  have LY := Lib.hid hY
  have LZ := Lib.hid hZ
  have AX := Lib.hid aX
  have AY := Lib.hid aY
  have AZ := Lib.hid aZ
  have BX := Lib.hid bX
  have BY := Lib.hid bY
  have BZ := Lib.hid bZ
  clear hX hY hZ aX aY aZ bX bY bZ
  go_enter Try.func6, Try.ntmps6
  go_wp2
  go_loopw [7, 8] (fun c7 c8 wr => ∃ k : Nat, k ≤ m ∧ c8 = .int .i64 (k : Int) ∧ Hid (wr.ownsRow w.heap.size 5 1 c7 k ((x3 (X.take k) (Y.take k) (Z.take k)).map bt)) ∧ Hid (At w wr)) (fun _ c8 _ => m - (intOf c8).toNat)
  case atStart => exact ⟨0, Nat.zero_le _, rfl, Lib.hid (World.ownsRow_nil _ _ _ _), Lib.hid (At.start _)⟩
  case round =>
    obtain ⟨k, hk, rfl, HO, HA⟩ := hrel
    by_cases hlt : k < m
    · obtain ⟨b1, o1, rfl, _, p1⟩ := (HA.out.bv BX.out).pos (by rw [LX.out]; omega)
      obtain ⟨b2, o2, rfl, _, p2⟩ := (HA.out.bv BY.out).pos (by rw [LY.out]; omega)
      obtain ⟨b3, o3, rfl, _, p3⟩ := (HA.out.bv BZ.out).pos (by rw [LZ.out]; omega)
      have e1 := p1 k (by rw [LX.out]; exact hlt)
      have e2 := p2 k (by rw [LY.out]; exact hlt)
      have e3 := p3 k (by rw [LZ.out]; exact hlt)
      have d1 := allB_at AX.out k
      have d2 := allB_at AY.out k
      have d3 := allB_at AZ.out k
      have hst := HST.out k hlt
      obtain ⟨x, hx⟩ : ∃ x, x = X.getD k 0 := ⟨_, rfl⟩
      obtain ⟨y, hy⟩ : ∃ y, y = Y.getD k 0 := ⟨_, rfl⟩
      obtain ⟨z, hz⟩ : ∃ z, z = Z.getD k 0 := ⟨_, rfl⟩
      rw [← hx] at e1 d1 hst
      rw [← hy] at e2 d2 hst
      rw [← hz] at e3 d3 hst
      clear p1 p2 p3 hx hy hz
      have g1 : (0 : Int) ≤ (k : Int) := by omega
      have g2 : (k : Int) < (m : Int) := by omega
      have u1 := u8_xor_nat x y d1 d2
      have t1 := xor_byte d1 d2
      obtain ⟨p, hp⟩ : ∃ p, p = x ^^^ y := ⟨_, rfl⟩
      rw [← hp] at u1 t1 hst
      have u2 := u8_xor_nat p z t1 d3
      obtain ⟨q, hq⟩ : ∃ q, q = p ^^^ z := ⟨_, rfl⟩
      rw [← hq] at u2 hst
      have HS := Lib.hid hst
      clear hp hq hst
      go_wp2
      go_region_law (refine byte_step (W := w) hi hz0 hz1 hz2 _ _ rfl rfl rfl (g := wr.heap.size) (q := q) rfl (by simp [go_sem, bt]) (by omega) ((HA.out.drewN 1).alloc _) ((own_drew HO.out).alloc _) ?_; intro v' w1 hown' hat')
      all_goals
        have R1 : Hid (w1.ownsRow w.heap.size 5 1 v' (k + 1) ((x3 (X.take (k + 1)) (Y.take (k + 1)) (Z.take (k + 1))).map bt)) := Lib.hid (by rw [HS.out]; exact hown'.out)
        have R2 : Hid (At w w1) := hat'
        clear hown' hat'
        go_wp2
        go_roundw
        case rel => exact ⟨k + 1, by omega, by go_num, R1, R2⟩
        case measure => simp [intOf]; omega
    · have hkm : k = m := by omega
      subst hkm
      rw [List.take_of_length_le (by rw [LX.out]; omega), List.take_of_length_le (by rw [LY.out]; omega), List.take_of_length_le (by rw [LZ.out]; omega)] at HO
      obtain ⟨D, cd, rfl, hdl, hdb⟩ := own_view HO.out
      have H4 := Lib.hid (of_any D k cd (x3 X Y Z) (by omega) hdl HDB.out wr hdb)
      have HS := HDS.out
      obtain ⟨s1, h1⟩ : ∃ s, s = cr X := ⟨_, rfl⟩
      obtain ⟨s2, h2⟩ : ∃ s, s = cr Y := ⟨_, rfl⟩
      obtain ⟨s3, h3⟩ : ∃ s, s = cr Z := ⟨_, rfl⟩
      obtain ⟨s4, h4⟩ : ∃ s, s = cr (x3 X Y Z) := ⟨_, rfl⟩
      rw [← h1] at HO1 HS lX
      rw [← h2] at HO2 HS lY
      rw [← h3] at HO3 HS lZ
      rw [← h4] at H4 HS
      clear h1 h2 h3 h4 HDS
      have u1 := u32_xor_nat s1 s2 lX lY
      have l5 := xor_lt lX lY
      obtain ⟨s5, h5⟩ : ∃ s, s = s1 ^^^ s2 := ⟨_, rfl⟩
      rw [← h5] at u1 l5 HS
      have u2 := u32_xor_nat s5 s3 l5 lZ
      rw [← HS] at u2
      clear HS h5 hdl hdb
      go_wp2_with fail
      refine H4.out.mono ?_
      rintro e w1 ⟨rfl, a1⟩
      have A1 : Hid (At w w1) := Lib.hid (HA.out.next a1)
      clear a1
      go_wp2_with fail
      refine (HO1.out _ A1.out).mono ?_
      rintro e w2 ⟨rfl, a2⟩
      have A2 : Hid (At w w2) := Lib.hid (A1.out.next a2)
      clear a2
      go_wp2_with fail
      refine (HO2.out _ A2.out).mono ?_
      rintro e w3 ⟨rfl, a3⟩
      have A3 : Hid (At w w3) := Lib.hid (A2.out.next a3)
      clear a3
      go_wp2_with fail
      refine (HO3.out _ A3.out).mono ?_
      rintro e w4 ⟨rfl, a4⟩
      have A4 : Hid (At w w4) := Lib.hid (A3.out.next a4)
      clear a4
      go_wp2_with fail
      refine (awake_any _).mono ?_
      rintro e w5 ⟨rfl, a5⟩
      have A5 : Hid (At w w5) := Lib.hid (A4.out.next a5)
      clear a5
      go_wp2
      go_ret
      exact ⟨rfl, A5.out⟩

end Go.Proofs.Ytplddmkikdfonaa
