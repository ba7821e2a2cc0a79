/- Proved: the law ForderJoins answers true at every two lists, and leaves what there was as it was, if forder keeps its chapter (said as hypotheses on its functions' calls). -/
import Derived.Test.YtfpiojohodgncaaFEnds
namespace Go.Proofs.Ytfpiojohodgncaa
open Go.RowKit Fl

def MostOf (way : Int) (L : List Nat) (x : Nat) : Prop := ((∃ z ∈ L, isN z = true) ∧ x = 9221120237041090560) ∨ ((∀ z ∈ L, isN z = false) ∧ x ∈ L ∧ ∀ z ∈ L, NotBeyond way z x)
theorem mostOf (way : Int) (L : List Nat) (x : Nat) (h : IsMost way L.length (L.getD · 0) x) : MostOf way L x := by
  rcases h with ⟨⟨j, hj, a⟩, e⟩ | ⟨a, ⟨j, hj, rfl⟩, c⟩
  · exact Or.inl ⟨⟨_, getD_mem L j hj, a⟩, e⟩
  · refine Or.inr ⟨fun z hz => ?_, getD_mem L j hj, fun z hz => ?_⟩
    · obtain ⟨i, hi, rfl⟩ := mem_getD L z hz; exact a i hi
    · obtain ⟨i, hi, rfl⟩ := mem_getD L z hz; exact c i hi
theorem most_join (way : Int) (hw : way = 1 ∨ way = -1) (L M : List Nat) (hfL : ∀ x ∈ L, x < 18446744073709551616) (hfM : ∀ x ∈ M, x < 18446744073709551616) (x p q y : Nat)
    (hx : MostOf way (L ++ M) x) (hp : MostOf way L p) (hq : MostOf way M q) (hy : MostOf way [p, q] y) : smB x y = true := by
  have nanN : isN 9221120237041090560 = true := by decide
  rcases hx with ⟨⟨z, hz, hzn⟩, rfl⟩ | ⟨nn, hxm, hxb⟩
  · have hpq : isN p = true ∨ isN q = true := by
      rcases List.mem_append.1 hz with h | h
      · rcases hp with ⟨_, rfl⟩ | ⟨a, _, _⟩
        · exact Or.inl nanN
        · rw [a z h] at hzn; cases hzn
      · rcases hq with ⟨_, rfl⟩ | ⟨a, _, _⟩
        · exact Or.inr nanN
        · rw [a z h] at hzn; cases hzn
    rcases hy with ⟨_, rfl⟩ | ⟨a, _, _⟩
    · decide
    · rcases hpq with h | h
      · rw [a p (by simp)] at h; cases h
      · rw [a q (by simp)] at h; cases h
  · have hp' : p ∈ L ∧ ∀ z ∈ L, NotBeyond way z p := by
      rcases hp with ⟨⟨z, hz, hzn⟩, _⟩ | ⟨_, a, b⟩
      · rw [nn z (by simp [hz])] at hzn; cases hzn
      · exact ⟨a, b⟩
    have hq' : q ∈ M ∧ ∀ z ∈ M, NotBeyond way z q := by
      rcases hq with ⟨⟨z, hz, hzn⟩, _⟩ | ⟨_, a, b⟩
      · rw [nn z (by simp [hz])] at hzn; cases hzn
      · exact ⟨a, b⟩
    have hy' : (y = p ∨ y = q) ∧ NotBeyond way p y ∧ NotBeyond way q y := by
      rcases hy with ⟨⟨z, hz, hzn⟩, _⟩ | ⟨_, a, b⟩
      · simp only [List.mem_cons, List.not_mem_nil, or_false] at hz
        rcases hz with rfl | rfl
        · rw [nn z (by simp [hp'.1])] at hzn; cases hzn
        · rw [nn z (by simp [hq'.1])] at hzn; cases hzn
      · exact ⟨by simpa using a, b p (by simp), b q (by simp)⟩
    have hym : y ∈ L ++ M := by
      rcases hy'.1 with rfl | rfl
      · exact List.mem_append_left _ hp'.1
      · exact List.mem_append_right _ hq'.1
    have hb : ∀ z ∈ L ++ M, z < 18446744073709551616 := fun z hz => by
      rcases List.mem_append.1 hz with h | h
      · exact hfL z h
      · exact hfM z h
    refine decide_eq_true (kb_inj _ _ (hb x hxm) (hb y hym) ?_)
    have h1 := hxb y hym
    have h2 : NotBeyond way x p ∨ NotBeyond way x q := by
      rcases List.mem_append.1 hxm with h | h
      · exact Or.inl (hp'.2 x h)
      · exact Or.inr (hq'.2 x h)
    rcases hw with rfl | rfl
    · have a1 := h1.2 rfl
      have a2 := hy'.2.1.2 rfl
      have a3 := hy'.2.2.2 rfl
      rcases h2 with h | h
      · have := h.2 rfl; omega
      · have := h.2 rfl; omega
    · have a1 := h1.1 rfl
      have a2 := hy'.2.1.1 rfl
      have a3 := hy'.2.2.1 rfl
      rcases h2 with h | h
      · have := h.1 rfl; omega
      · have := h.1 rfl; omega

theorem view_two (p q : Nat) (w : World) : View (w.alloc (.cells #[.float .f64 p, .float .f64 q] 22)) (.slice (some ⟨w.heap.size, 0, none⟩) 2 2) [p, q] := by
  refine Or.inr (Or.inr ⟨w.heap.size, 0, 2, rfl, by simp, by simp, fun j hj => ?_⟩)
  match j, hj with
  | 0, _ => simp [go_sem]
  | 1, _ => simp [go_sem]

set_option maxHeartbeats 4000000 in
theorem fjoins_in (hC : DCompare) (hS : DSort) (hMin : DMost 13 (-1)) (hMax : DMost 15 1) (hM : DMost0 13)
    (b1 o1 cap1 b2 o2 cap2 n1 n2 : Nat) (L M : List Nat) (h1 : n1 ≤ 300) (h2 : n2 ≤ 300) (z1 : 0 < n1) (z2 : 0 < n2) (hL : L.length = n1) (hMl : M.length = n2) (w : World)
    (hv : View w (.slice (some ⟨b1, o1, none⟩) n1 cap1) L) (hv2 : View w (.slice (some ⟨b2, o2, none⟩) n2 cap2) M)
    (hw1 : b1 < w.heap.size) (hw2 : b2 < w.heap.size) (hc1 : ∀ j, j < n1 → w.cell? ⟨b1, o1 + j, none⟩ = some (.float .f64 (L.getD j 0))) (hc2 : ∀ j, j < n2 → w.cell? ⟨b2, o2 + j, none⟩ = some (.float .f64 (M.getD j 0)))
    (hf : ∀ x ∈ L, x < 18446744073709551616) (hf2 : ∀ x ∈ M, x < 18446744073709551616) :
    Calls Try.prog 9 #[.slice (some ⟨b1, o1, none⟩) n1 cap1, .slice (some ⟨b2, o2, none⟩) n2 cap2] w fun e w' => e = .returned (.bool true) ∧ Below w.heap.size w w' := by
  have q1 : decide (n1 ≤ 300) = true := decide_eq_true h1
  have q2 : decide (n2 ≤ 300) = true := decide_eq_true h2
  have q3 : ((n1 : Int) == 0) = false := by rw [beq_eq_false_iff_ne]; omega
  have q4 : ((n2 : Int) == 0) = false := by rw [beq_eq_false_iff_ne]; omega
  have HA := Lib.hid (And.intro h1 (And.intro h2 (And.intro z1 z2)))
  have HL := Lib.hid (And.intro hL hMl)
  have HF := Lib.hid (And.intro hf hf2)
  have HV := Lib.hid (And.intro hv hv2)
  have HW := Lib.hid (And.intro hw1 hw2)
  have HC1 := Lib.hid hc1
  have HC2 := Lib.hid hc2
  clear h1 h2 z1 z2 hL hMl hf hf2 hv hv2 hw1 hw2 hc1 hc2
  obtain ⟨i0, hi, hz0, hz1, hz2⟩ := info_parts info_f64
  have mem : ∀ (K : List Nat) (n b o : Nat) (w w' : World), K.length = n → b < w.heap.size → Below w.heap.size w w' → (∀ j, j < n → w.cell? ⟨b, o + j, none⟩ = some (.float .f64 (K.getD j 0))) →
      ∀ j u, (K.map (Value.float .f64))[j]? = some u → w'.cell? ((⟨b, o, none⟩ : Addr).add j) = some u := by
    intro K n b o w w' hk hb hB hc j u hj
    rw [List.getElem?_map] at hj
    by_cases h : j < K.length
    · rw [List.getElem?_eq_getElem h] at hj
      have := hc j (by omega)
      rw [List.getD_eq_getElem?_getD, List.getElem?_eq_getElem h] at this
      rw [Go.WideShapes.add_plain]
      simp only [Option.map_some, Option.some.injEq] at hj
      rw [← hj]
      exact (hB.cell (p := ⟨b, o + j, none⟩) hb).trans this
    · rw [List.getElem?_eq_none (by omega)] at hj; cases hj
  have HMem := Lib.hid mem
  clear mem
  go_enter Try.func9, Try.ntmps9
  go_wp2_with (first | (go_at_call 11; refine (small_any _ _ _ _).mono ?_; rintro e w' ⟨rfl, rfl⟩) | (at_builtin; refine wpList_append_own _ rfl _ _ 23 rfl w.heap.size 22 i0 (.float .f64 0) 1 8 Try.underlying23 hi hz0 hz1 hz2 rfl (by decide) _ 0 [] rfl (World.ownsRow_made w #[] 0 (Nat.le_refl _) (by unfold maxLen; omega) rfl) ⟨b1, o1, none⟩ n1 cap1 (L.map (Value.float .f64)) rfl ?c1 (HMem.out L n1 b1 o1 w _ HL.out.1 HW.out.1 ((Below.refl _ _).alloc (Nat.le_refl _) _) HC1.out) ?c3 ?c4 ?c5 ?c6 ?_))
  case c1 => have := HL.out.1; simpa using this
  case c3 => intro u hu; simp only [List.mem_map] at hu; obtain ⟨x, _, rfl⟩ := hu; rfl
  case c4 => have := HA.out.1; unfold maxLen; omega
  case c5 => have := HA.out.1; omega
  case c6 => simp
  intro v1 w1 hown hgrow hne
  have hnx : Below w.heap.size w w1 := ((Below.refl _ _).alloc (Nat.le_refl _) _).grown hgrow (by simp) (fun j hj => by
    simp only [Value.ownBlock, Option.some.injEq] at hj
    omega)
  have HB1 := Lib.hid hnx
  clear hgrow hne hnx
  go_wp2_with (at_builtin; refine wpList_append_own _ rfl _ _ 23 rfl w.heap.size 22 i0 (.float .f64 0) 1 8 Try.underlying23 hi hz0 hz1 hz2 rfl (by decide) _ _ _ rfl hown ⟨b2, o2, none⟩ n2 cap2 (M.map (Value.float .f64)) rfl ?c1 (HMem.out M n2 b2 o2 w _ HL.out.2 HW.out.2 HB1.out HC2.out) ?c3 ?c4 ?c5 ?c6 ?_)
  case c1 => have := HL.out.2; simpa using this
  case c3 => intro u hu; simp only [List.mem_map] at hu; obtain ⟨x, _, rfl⟩ := hu; rfl
  case c4 => have := HA.out.1; have := HA.out.2.1; unfold maxLen; omega
  case c5 => have := HA.out.1; have := HA.out.2.1; omega
  case c6 => exact HB1.out.size
  intro v2 w2 hown2 hgrow2 hne2
  have hb2 : Below w.heap.size w w2 := HB1.out.grown hgrow2 HB1.out.size (fun j hj => (hown.lt j hj).1)
  have HB2 := Lib.hid hb2
  have hva : View w2 v2 (L ++ M) := by
    refine view_own (B := w.heap.size) (n := n1 + n2) ?_
    rw [List.map_append]
    simpa using hown2
  have HVA := Lib.hid hva
  clear hown hown2 hgrow2 hne2 hb2 hva
  have HVL2 := Lib.hid (view_below HV.out.1 HB2.out)
  have HVM2 := Lib.hid (view_below HV.out.2 HB2.out)
  have HLM : Hid (0 < (L ++ M).length ∧ (L ++ M).length ≤ 1000000 ∧ (∀ x ∈ L ++ M, x < 18446744073709551616) ∧ 0 < L.length ∧ L.length ≤ 1000000 ∧ 0 < M.length ∧ M.length ≤ 1000000) := Lib.hid (by
    have := HL.out.1; have := HL.out.2; have := HA.out
    refine ⟨by rw [List.length_append]; omega, by rw [List.length_append]; omega, fun z hz => ?_, by omega, by omega, by omega, by omega⟩
    rcases List.mem_append.1 hz with h | h
    · exact HF.out.1 z h
    · exact HF.out.2 z h)
  go_wp2_with fail
  refine (hMin _ (L ++ M) _ HVA.out HLM.out.1 HLM.out.2.1 HLM.out.2.2.1).mono ?_
  rintro e w3 ⟨x, hx, ix, rfl, hb3⟩
  have HB3 := Lib.hid (below_next HB2.out hb3)
  have HVA3 := Lib.hid (view_below HVA.out hb3)
  have HVL3 := Lib.hid (view_below HVL2.out hb3)
  have HVM3 := Lib.hid (view_below HVM2.out hb3)
  have HIX := Lib.hid (mostOf _ _ _ ix)
  clear hb3 ix
  go_wp2_with fail
  refine (hMin _ L _ HVL3.out HLM.out.2.2.2.1 HLM.out.2.2.2.2.1 HF.out.1).mono ?_
  rintro e w4 ⟨p, hp, ip, rfl, hb4⟩
  have HB4 := Lib.hid (below_next HB3.out hb4)
  have HVA4 := Lib.hid (view_below HVA3.out hb4)
  have HVL4 := Lib.hid (view_below HVL3.out hb4)
  have HVM4 := Lib.hid (view_below HVM3.out hb4)
  have HIP := Lib.hid (mostOf _ _ _ ip)
  clear hb4 ip
  go_wp2_with fail
  refine (hMin _ M _ HVM4.out HLM.out.2.2.2.2.2.1 HLM.out.2.2.2.2.2.2 HF.out.2).mono ?_
  rintro e w5 ⟨q, hq, iq, rfl, hb5⟩
  have HB5 := Lib.hid (below_next HB4.out hb5)
  have HVA5 := Lib.hid (view_below HVA4.out hb5)
  have HVL5 := Lib.hid (view_below HVL4.out hb5)
  have HVM5 := Lib.hid (view_below HVM4.out hb5)
  have HIQ := Lib.hid (mostOf _ _ _ iq)
  clear hb5 iq
  go_wp2_with fail
  have HAL := Lib.hid ((Below.refl w5.heap.size w5).alloc (Nat.le_refl _) (.cells #[.float .f64 p, .float .f64 q] 22))
  refine (hMin _ [p, q] _ (view_two p q w5) (by simp) (by simp) (by intro z hz; simp at hz; rcases hz with rfl | rfl <;> assumption)).mono ?_
  rintro e w6 ⟨y, hy, iy, rfl, hb6⟩
  have HB6 := Lib.hid (below_next (below_next HB5.out HAL.out) hb6)
  have HVA6 := Lib.hid (view_below (view_below HVA5.out HAL.out) hb6)
  have HVL6 := Lib.hid (view_below (view_below HVL5.out HAL.out) hb6)
  have HVM6 := Lib.hid (view_below (view_below HVM5.out HAL.out) hb6)
  have s1 := most_join (-1) (Or.inr rfl) L M HF.out.1 HF.out.2 x p q y HIX.out HIP.out HIQ.out (mostOf _ _ _ iy)
  clear hb6 iy
  go_wp2_with fail
  refine (hMax _ (L ++ M) _ HVA6.out HLM.out.1 HLM.out.2.1 HLM.out.2.2.1).mono ?_
  rintro e w7 ⟨x', hx', ix', rfl, hb7⟩
  have HB7 := Lib.hid (below_next HB6.out hb7)
  have HVL7 := Lib.hid (view_below HVL6.out hb7)
  have HVM7 := Lib.hid (view_below HVM6.out hb7)
  have HIX' := Lib.hid (mostOf _ _ _ ix')
  clear hb7 ix'
  go_wp2_with fail
  refine (hMax _ L _ HVL7.out HLM.out.2.2.2.1 HLM.out.2.2.2.2.1 HF.out.1).mono ?_
  rintro e w8 ⟨p', hp', ip', rfl, hb8⟩
  have HB8 := Lib.hid (below_next HB7.out hb8)
  have HVM8 := Lib.hid (view_below HVM7.out hb8)
  have HIP' := Lib.hid (mostOf _ _ _ ip')
  clear hb8 ip'
  go_wp2_with fail
  refine (hMax _ M _ HVM8.out HLM.out.2.2.2.2.2.1 HLM.out.2.2.2.2.2.2 HF.out.2).mono ?_
  rintro e w9 ⟨q', hq', iq', rfl, hb9⟩
  have HB9 := Lib.hid (below_next HB8.out hb9)
  have HIQ' := Lib.hid (mostOf _ _ _ iq')
  clear hb9 iq'
  go_wp2_with fail
  have HAL' := Lib.hid ((Below.refl w9.heap.size w9).alloc (Nat.le_refl _) (.cells #[.float .f64 p', .float .f64 q'] 22))
  refine (hMax _ [p', q'] _ (view_two p' q' w9) (by simp) (by simp) (by intro z hz; simp at hz; rcases hz with rfl | rfl <;> assumption)).mono ?_
  rintro e w10 ⟨y', hy', iy', rfl, hb10⟩
  have HB10 := Lib.hid (below_next (below_next HB9.out HAL'.out) hb10)
  have s2 := most_join 1 (Or.inl rfl) L M HF.out.1 HF.out.2 x' p' q' y' HIX'.out HIP'.out HIQ'.out (mostOf _ _ _ iy')
  clear hb10 iy'
  go_wp2_with (first | (go_at_call 21; refine (rsame_any _ _ (by assumption) (by assumption) _).mono ?_; rintro e w' ⟨rfl, rfl⟩) | (go_at_call 12; refine (awake2_any hS hM hC _).mono ?_; rintro e w' ⟨rfl, hbelow⟩))
  go_ret
  exact ⟨rfl, below_next HB10.out (by assumption)⟩

end Go.Proofs.Ytfpiojohodgncaa
