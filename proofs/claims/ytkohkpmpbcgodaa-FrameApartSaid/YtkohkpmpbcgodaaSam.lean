/- Proved: two blocks are held against each other; awake answers true. -/
import Derived.Test.YtkohkpmpbcgodaaAwk
namespace Go.Proofs.Ytkohkpmpbcgodaa
open Go.RowKit

set_option maxHeartbeats 1000000 in
set_option maxRecDepth 100000 in
theorem same_k (k e s l k' e' s' l' : Int) (A A' : Option Addr) (n c n' c' : Nat) (hk : ¬ k = k') (w : World) :
    Calls Try.prog 15 #[.agg #[.int .i64 k, .int .i64 e, .int .i64 s, .int .i64 l, .slice A n c], .agg #[.int .i64 k', .int .i64 e', .int .i64 s', .int .i64 l', .slice A' n' c']] w (Gives (.bool false) w) := by
  have tk : (k == k') = false := by simp [hk]
  have HA := Lib.hid (((At.start w).alloc (.cells #[.int .i64 k, .int .i64 e, .int .i64 s, .int .i64 l, .slice A n c] 29)).alloc (.cells #[.int .i64 k', .int .i64 e', .int .i64 s', .int .i64 l', .slice A' n' c'] 24))
  clear hk
  go_enter Try.func15, Try.ntmps15
  go_wp2
  go_ret
  exact ⟨rfl, HA.out⟩

set_option maxHeartbeats 1000000 in
set_option maxRecDepth 100000 in
theorem same_e (k e s l k' e' s' l' : Int) (A A' : Option Addr) (n c n' c' : Nat) (hk : k = k') (he : ¬ e = e') (w : World) :
    Calls Try.prog 15 #[.agg #[.int .i64 k, .int .i64 e, .int .i64 s, .int .i64 l, .slice A n c], .agg #[.int .i64 k', .int .i64 e', .int .i64 s', .int .i64 l', .slice A' n' c']] w (Gives (.bool false) w) := by
  have tk : (k == k') = true := by simp [hk]
  have te : (e == e') = false := by simp [he]
  have HA := Lib.hid (((At.start w).alloc (.cells #[.int .i64 k, .int .i64 e, .int .i64 s, .int .i64 l, .slice A n c] 29)).alloc (.cells #[.int .i64 k', .int .i64 e', .int .i64 s', .int .i64 l', .slice A' n' c'] 24))
  clear hk he
  go_enter Try.func15, Try.ntmps15
  go_wp2
  go_ret
  exact ⟨rfl, HA.out⟩

set_option maxHeartbeats 1000000 in
set_option maxRecDepth 100000 in
theorem same_s (k e s l k' e' s' l' : Int) (A A' : Option Addr) (n c n' c' : Nat) (hk : k = k') (he : e = e') (hs : ¬ s = s') (w : World) :
    Calls Try.prog 15 #[.agg #[.int .i64 k, .int .i64 e, .int .i64 s, .int .i64 l, .slice A n c], .agg #[.int .i64 k', .int .i64 e', .int .i64 s', .int .i64 l', .slice A' n' c']] w (Gives (.bool false) w) := by
  have tk : (k == k') = true := by simp [hk]
  have te : (e == e') = true := by simp [he]
  have ts : (s == s') = false := by simp [hs]
  have HA := Lib.hid (((At.start w).alloc (.cells #[.int .i64 k, .int .i64 e, .int .i64 s, .int .i64 l, .slice A n c] 29)).alloc (.cells #[.int .i64 k', .int .i64 e', .int .i64 s', .int .i64 l', .slice A' n' c'] 24))
  clear hk he hs
  go_enter Try.func15, Try.ntmps15
  go_wp2
  go_ret
  exact ⟨rfl, HA.out⟩

set_option maxHeartbeats 1000000 in
set_option maxRecDepth 100000 in
theorem same_l (k e s l k' e' s' l' : Int) (A A' : Option Addr) (n c n' c' : Nat) (hk : k = k') (he : e = e') (hs : s = s') (hl : ¬ l = l') (w : World) :
    Calls Try.prog 15 #[.agg #[.int .i64 k, .int .i64 e, .int .i64 s, .int .i64 l, .slice A n c], .agg #[.int .i64 k', .int .i64 e', .int .i64 s', .int .i64 l', .slice A' n' c']] w (Gives (.bool false) w) := by
  have tk : (k == k') = true := by simp [hk]
  have te : (e == e') = true := by simp [he]
  have ts : (s == s') = true := by simp [hs]
  have tl : (l == l') = false := by simp [hl]
  have HA := Lib.hid (((At.start w).alloc (.cells #[.int .i64 k, .int .i64 e, .int .i64 s, .int .i64 l, .slice A n c] 29)).alloc (.cells #[.int .i64 k', .int .i64 e', .int .i64 s', .int .i64 l', .slice A' n' c'] 24))
  clear hk he hs hl
  go_enter Try.func15, Try.ntmps15
  go_wp2
  go_ret
  exact ⟨rfl, HA.out⟩

set_option maxHeartbeats 1000000 in
set_option maxRecDepth 100000 in
theorem same_b (k e s l : Int) (A A' : Option Addr) (n c n' c' : Nat) (L M : List Nat) (hn : n ≤ 1000000) (hl : L.length = n) (hm : M.length = n') (hL : AllB L) (hM : AllB M) (w : World) (hx : BV w A L) (hy : BV w A' M) :
    Calls Try.prog 15 #[.agg #[.int .i64 k, .int .i64 e, .int .i64 s, .int .i64 l, .slice A n c], .agg #[.int .i64 k, .int .i64 e, .int .i64 s, .int .i64 l, .slice A' n' c']] w (Gives (.bool (decide (L = M))) w) := by
  have HA := Lib.hid (((At.start w).alloc (.cells #[.int .i64 k, .int .i64 e, .int .i64 s, .int .i64 l, .slice A n c] 29)).alloc (.cells #[.int .i64 k, .int .i64 e, .int .i64 s, .int .i64 l, .slice A' n' c'] 24))
  have H2 := Lib.hid (bytes_all A A' n n' c c' L M _ hn hl hm hL hM (HA.out.bv hx) (HA.out.bv hy))
  obtain ⟨q, hq⟩ : ∃ q, q = decide (L = M) := ⟨_, rfl⟩
  rw [← hq] at H2 ⊢
  clear hl hm hL hM hx hy hq
  go_enter Try.func15, Try.ntmps15
  go_wp2_with (go_at_call 14; refine H2.out.mono ?_; rintro x w1 ⟨rfl, hb⟩)
  go_ret
  exact ⟨rfl, HA.out.next hb⟩

theorem same_any (k e s l k' e' s' l' : Int) (A A' : Option Addr) (n c n' c' : Nat) (L M : List Nat) (hn : n ≤ 1000000) (hl : L.length = n) (hm : M.length = n') (hL : AllB L) (hM : AllB M) (w : World) (hx : BV w A L) (hy : BV w A' M) :
    Calls Try.prog 15 #[.agg #[.int .i64 k, .int .i64 e, .int .i64 s, .int .i64 l, .slice A n c], .agg #[.int .i64 k', .int .i64 e', .int .i64 s', .int .i64 l', .slice A' n' c']] w (Gives (.bool (decide (k = k' ∧ e = e' ∧ s = s' ∧ l = l' ∧ L = M))) w) := by
  by_cases h1 : k = k'
  · by_cases h2 : e = e'
    · by_cases h3 : s = s'
      · by_cases h4 : l = l'
        · subst h1 h2 h3 h4
          simp only [true_and]
          exact same_b k e s l A A' n c n' c' L M hn hl hm hL hM w hx hy
        · rw [decide_eq_false (fun h => h4 h.2.2.2.1)]
          exact same_l k e s l k' e' s' l' A A' n c n' c' h1 h2 h3 h4 w
      · rw [decide_eq_false (fun h => h3 h.2.2.1)]
        exact same_s k e s l k' e' s' l' A A' n c n' c' h1 h2 h3 w
    · rw [decide_eq_false (fun h => h2 h.2.1)]
      exact same_e k e s l k' e' s' l' A A' n c n' c' h1 h2 w
  · rw [decide_eq_false (fun h => h1 h.1)]
    exact same_k k e s l k' e' s' l' A A' n c n' c' h1 w

theorem may_mark : May 4 0 0 0 [] := ⟨by omega, by omega, by omega, by omega, by omega, by simp, by simp⟩
theorem en_head (k e s l : Nat) (L : List Nat) : (en k e s l L).getD 0 0 = k := by simp [en, hd]
theorem en_some (k e s l : Nat) (L : List Nat) (h : 1 ≤ k) : zs (en k e s l L) = false := zs_no fun hz => by
  have := hz k (by simp [en, hd])
  omega
theorem zs_zr (n : Nat) : zs (zr n) = true := zs_yes fun _ hc => (List.mem_replicate.1 hc).2

set_option maxHeartbeats 1000000 in
set_option maxRecDepth 100000 in
theorem awake_any (w : World) : Calls Try.prog 8 #[] w (Gives (.bool true) w) := by
  have H1 := Lib.hid (encode_yes none 4 0 0 0 0 0 [] may_mark rfl w (BV.nil _ _))
  have H2 : Hid (∀ w : World, (Instr.makeSlice 22 (.int .i64 64) (.int .i64 64)).run Try.prog w = .ok (.slice (some ⟨w.heap.size, 0, none⟩) 64 64) (w.alloc (.cells ((zr 64).map bt).toArray 5))) := Lib.hid fun w => by
    have := make_u8 64 (by omega) w
    rwa [made_zr] at this
  have H3 := Lib.hid (fun (w : World) (A : Option Addr) (hx : BV w A (zr 64)) => plain_any A 64 64 (zr 64) (by omega) (zr_len 64) (allB_zr 64) w hx)
  have H4 := Lib.hid (fun (w : World) (A : Option Addr) (hx : BV w A (en 4 0 0 0 [])) => plain_any A 64 64 (en 4 0 0 0 []) (by omega) (en_len (by simp)) (en_byte may_mark) w hx)
  rw [zs_zr, decide_eq_true rfl] at H3
  rw [en_some 4 0 0 0 [] (by omega), decide_eq_true rfl] at H4
  have HH := Lib.hid (en_head 4 0 0 0 [])
  have HL := Lib.hid (en_len (k := 4) (e := 0) (s := 0) (l := 0) (L := []) (by simp))
  obtain ⟨E, hE⟩ : ∃ E, E = en 4 0 0 0 [] := ⟨_, rfl⟩
  rw [← hE] at H1 H4 HH HL
  clear hE
  go_enter Try.func8, Try.ntmps8
  go_wp2_with fail
  refine H1.out.mono ?_
  rintro x w1 ⟨g, rfl, _, hv1, hb1⟩
  have e0 : w1.cell? ⟨g, 0, none⟩ = some (.int .u8 ((4 : Nat) : Int)) := by
    obtain ⟨b, o, he, _, hc⟩ := hv1.pos (by rw [HL.out]; omega)
    injection he with he
    injection he with h1 h2
    subst h1 h2
    have := hc 0 (by rw [HL.out]; omega)
    rwa [HH.out] at this
  have hmk := H2.out w1
  obtain ⟨w2, hw2⟩ : ∃ w2, w2 = w1.alloc (.cells ((zr 64).map bt).toArray 5) := ⟨_, rfl⟩
  rw [← hw2] at hmk
  obtain ⟨g2, hg2⟩ : ∃ g2, g2 = w1.heap.size := ⟨_, rfl⟩
  have hr2 : Row w2 g2 (zr 64) := by rw [hw2, hg2]; exact row_new _ _ _ rfl
  have hb2 : Below w1.heap.size w1 w2 := by rw [hw2]; exact (Below.refl _ _).alloc (Nat.le_refl _) _
  rw [← hg2] at hmk
  have P1 := Lib.hid (H3.out w2 _ hr2.bv)
  have P2 := Lib.hid (H4.out w2 _ (hv1.below hb2))
  have HB := Lib.hid (Below.trans hb1 (hb2.mono hb1.size))
  clear hw2 hg2 hr2 hb2 hb1 hv1
  go_wp2_with (go_at_call 16; (first | (with_reducible refine P1.out.mono ?_) | (with_reducible refine P2.out.mono ?_)); rintro x' w' ⟨rfl, rfl⟩)
  go_ret
  exact ⟨rfl, HB.out⟩

end Go.Proofs.Ytkohkpmpbcgodaa
