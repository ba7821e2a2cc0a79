/- Proved: what the landed Find of forder gives: where the number stands. -/
import Derived.Test.YtfpiojohodgncaaLandF
namespace Go.Proofs.Ytfpiojohodgncaa
open Go.RowKit Fl

def SomePlace (L : List Nat) (x : Nat) (w : World) (e : Ending) (w' : World) : Prop :=
  ∃ k ok, (k ≤ L.length ∧ (∀ j, j < k → at' L j < kb x) ∧ (k < L.length → kb x ≤ at' L k) ∧ (ok = true ↔ k < L.length ∧ smB (L.getD k 0) x = true)) ∧ e = .returned (.tuple #[.int .i64 ((k : Nat) : Int), .bool ok]) ∧ ∃ m, w' = w.drewN m

theorem cmpI_same (a b : Nat) (ha : a < 18446744073709551616) (hb : b < 18446744073709551616) : (cmpI a b == 0) = smB a b := by
  rw [Bool.eq_iff_iff, beq_iff_eq]
  unfold cmpI smB
  rw [decide_eq_true_eq]
  constructor
  · intro h
    refine kb_inj _ _ ha hb ?_
    split at h
    · omega
    · split at h <;> omega
  · intro h
    have : kb a = kb b := by unfold kb; rw [h]
    rw [if_neg (by omega), if_neg (by omega)]

set_option maxHeartbeats 1000000 in
theorem place_some (b off cap x : Nat) (L : List Nat) (w : World) (h0 : 0 < L.length) (hb : L.length ≤ 1000000) (hS : SortedTo L.length L)
    (hx : ∀ j, j < L.length → w.cell? ⟨b, off + j, none⟩ = some (.float .f64 (L.getD j 0))) (hf : ∀ j, j < L.length → L.getD j 0 < 18446744073709551616) (hxl : x < 18446744073709551616) :
    Calls Try.prog 36 #[.slice (some ⟨b, off, none⟩) L.length cap, .float .f64 x, .func (.func 16) #[] #[]] w (SomePlace L x w) := by
  obtain ⟨n, hn⟩ : ∃ n, n = L.length := ⟨_, rfl⟩
  rw [← hn] at hb hx hf h0 hS ⊢
  have HNL := Lib.hid hn
  have HX := Lib.hid hx
  have HF := Lib.hid hf
  have HS := Lib.hid hS
  clear hn hx hf hS
  go_enter Try.func36, Try.ntmps36
  go_wp2
  go_loopw [9, 10] (fun i j wr => ∃ p q : Nat, p ≤ q ∧ q ≤ n ∧ i = .int .i64 p ∧ j = .int .i64 q ∧ (∀ a, a < p → at' L a < kb x) ∧ (∀ a, q ≤ a → a < n → kb x ≤ at' L a) ∧ wr = w) (fun i j _ => (intOf j).toNat - (intOf i).toNat)
  case atStart => exact ⟨0, n, Nat.zero_le _, Nat.le_refl _, rfl, rfl, fun a h => absurd h (Nat.not_lt_zero a), fun a h1 h2 => by omega, rfl⟩
  case round =>
    obtain ⟨p, q, hpq, hqn, rfl, rfl, hl, hh, rfl⟩ := hrel
    have HL := Lib.hid hl
    have HH := Lib.hid hh
    clear hl hh
    by_cases hlt : p < q
    · have c1 := HX.out ((p + q) / 2) (by omega)
      have d1 := HF.out ((p + q) / 2) (by omega)
      have cc := cmpI_neg (L.getD ((p + q) / 2) 0) x
      obtain ⟨y, hy⟩ : ∃ y, y = L.getD ((p + q) / 2) 0 := ⟨_, rfl⟩
      rw [← hy] at c1 d1 cc
      have HY := Lib.hid hy
      clear hy
      by_cases hc : kb y < kb x
      · replace cc := cc.trans (decide_eq_true hc)
        have HR : Hid (∀ a, a < (p + q) / 2 + 1 → at' L a < kb x) := Lib.hid (fun a ha => by
          by_cases e : a = (p + q) / 2
          · subst e; unfold at'; rw [← HY.out]; exact hc
          · have h1 := HS.out a ((p + q) / 2) (by omega) (by omega)
            unfold at' at h1 ⊢
            rw [← HY.out] at h1
            omega)
        go_wp2_with (go_at_call 16; refine (hC _ _ (by assumption) (by assumption) _).mono ?_; rintro e w' ⟨rfl, rfl⟩)
        go_roundw
        case rel => exact ⟨(p + q) / 2 + 1, q, by omega, hqn, by rw [show ((p : Int) + (q : Int)) / 2 + 1 = (((p + q) / 2 + 1 : Nat) : Int) by omega], rfl, HR.out, HH.out, by first | rfl | trivial⟩
        case measure => simp [intOf]; omega
      · replace cc := cc.trans (decide_eq_false hc)
        have HR : Hid (∀ a, (p + q) / 2 ≤ a → a < n → kb x ≤ at' L a) := Lib.hid (fun a ha han => by
          by_cases e : a = (p + q) / 2
          · subst e; unfold at'; rw [← HY.out]; omega
          · have h1 := HS.out ((p + q) / 2) a (by omega) (by omega)
            unfold at' at h1 ⊢
            rw [← HY.out] at h1
            omega)
        go_wp2_with (go_at_call 16; refine (hC _ _ (by assumption) (by assumption) _).mono ?_; rintro e w' ⟨rfl, rfl⟩)
        go_roundw
        case rel => exact ⟨p, (p + q) / 2, by omega, by omega, rfl, by rw [show ((p : Int) + (q : Int)) / 2 = (((p + q) / 2 : Nat) : Int) by omega], HL.out, HR.out, by first | rfl | trivial⟩
        case measure => simp [intOf]; omega
    · obtain rfl : q = p := by omega
      clear hlt hpq
      by_cases hn : q < n
      · have c1 := HX.out q hn
        have d1 := HF.out q hn
        have b1 : (0 : Int) ≤ (q : Int) := by omega
        have b2 : (q : Int) < (n : Int) := by omega
        have sm : Hid ((cmpI (L.getD q 0) x == 0) = smB (L.getD q 0) x) := Lib.hid (cmpI_same _ _ d1 hxl)
        obtain ⟨y, hy⟩ : ∃ y, y = L.getD q 0 := ⟨_, rfl⟩
        rw [← hy] at c1 d1 sm
        have HY := Lib.hid hy
        clear hy
        go_wp2_with (go_at_call 16; refine (hC _ _ (by assumption) (by assumption) _).mono ?_; rintro e w' ⟨rfl, rfl⟩)
        go_ret2
        refine ⟨q, (cmpI y x == 0), ⟨by rw [← HNL.out]; exact hqn, HL.out, fun h => HH.out q (Nat.le_refl _) (by rw [HNL.out]; exact h), ?_⟩, rfl, 0, rfl⟩
        rw [sm.out, ← HNL.out, ← HY.out]
        exact ⟨fun h => ⟨hn, h⟩, fun h => h.2⟩
      · have hge : ¬ ((q : Int) < (n : Int)) := by omega
        go_wp2
        go_ret2
        refine ⟨q, false, ⟨by rw [← HNL.out]; exact hqn, HL.out, fun h => HH.out q (Nat.le_refl _) (by rw [HNL.out]; exact h), ⟨fun h => (Bool.false_ne_true h).elim, fun h => ?_⟩⟩, rfl, 0, rfl⟩
        rw [← HNL.out] at h
        exact absurd h.1 hn

set_option maxHeartbeats 1000000 in
theorem find_some (b off cap x : Nat) (L : List Nat) (w : World) (h0 : 0 < L.length) (hb : L.length ≤ 1000000)
    (hx : ∀ j, j < L.length → w.cell? ⟨b, off + j, none⟩ = some (.float .f64 (L.getD j 0))) (hf : ∀ j, j < L.length → L.getD j 0 < 18446744073709551616) (hxl : x < 18446744073709551616) :
    Calls Try.prog 22 #[.slice (some ⟨b, off, none⟩) L.length cap, .float .f64 x] w (SomeFind L x w) := by
  by_cases hS : SortedTo L.length L
  · have HS := Lib.hid hS
    have ho : Calls Try.prog 35 #[.slice (some ⟨b, off, none⟩) L.length cap, .func (.func 16) #[] #[]] w fun e w' => e = .returned (.bool true) ∧ ∃ m, w' = w.drewN m :=
      (issorted_some b off cap L w h0 hb hx hf).mono fun e w' ⟨ok, he, h1, h2⟩ => ⟨by rw [he, h1.2 hS], h2⟩
    have hp : ∀ m, Calls Try.prog 36 #[.slice (some ⟨b, off, none⟩) L.length cap, .float .f64 x, .func (.func 16) #[] #[]] (w.drewN m) (SomePlace L x (w.drewN m)) :=
      fun m => place_some b off cap x L (w.drewN m) h0 hb hS (fun j hj => by simpa using hx j hj) hf hxl
    clear hS hx hf h0 hb
    go_enter Try.func22, Try.ntmps22
    go_wp2_with (go_at_call 35; refine ho.mono ?_; rintro e w' ⟨rfl, m, rfl⟩)
    go_wp2_with (go_at_call 36; refine (hp _).mono ?_; rintro e w' ⟨k, ok, HK, rfl, m2, rfl⟩)
    go_ret2
    exact ⟨k, ok, Or.inr ⟨HS.out, HK⟩, rfl, _, rfl⟩
  · have ho : Calls Try.prog 35 #[.slice (some ⟨b, off, none⟩) L.length cap, .func (.func 16) #[] #[]] w fun e w' => e = .returned (.bool false) ∧ ∃ m, w' = w.drewN m :=
      (issorted_some b off cap L w h0 hb hx hf).mono fun e w' ⟨ok, he, h1, h2⟩ => ⟨by
        cases ok with
        | false => exact he
        | true => exact absurd (h1.1 rfl) hS, h2⟩
    have HS := Lib.hid hS
    clear hS hx hf h0 hb
    go_enter Try.func22, Try.ntmps22
    go_wp2_with (go_at_call 35; refine ho.mono ?_; rintro e w' ⟨rfl, m, rfl⟩)
    go_ret2
    exact ⟨0, false, Or.inl ⟨HS.out, rfl, rfl⟩, rfl, _, rfl⟩

theorem issorted_none (a : Option Addr) (cap : Nat) (w : World) :
    Calls Try.prog 35 #[.slice a 0 cap, .func (.func 16) #[] #[]] w fun e w' => e = .returned (.bool true) ∧ w = w' := by
  go_enter Try.func35, Try.ntmps35
  go_wp2
  refine wp_loop_rounds 1 ?_
  rw [rounds_succ]
  go_wp2
  go_ret
  exact ⟨rfl, rfl⟩
theorem place_none (a : Option Addr) (cap x : Nat) (w : World) :
    Calls Try.prog 36 #[.slice a 0 cap, .float .f64 x, .func (.func 16) #[] #[]] w fun e w' => e = .returned (.tuple #[.int .i64 0, .bool false]) ∧ w = w' := by
  go_enter Try.func36, Try.ntmps36
  go_wp2
  refine wp_loop_rounds 1 ?_
  rw [rounds_succ]
  go_wp2
  go_ret2
  exact ⟨rfl, rfl⟩
theorem find_none (a : Option Addr) (cap x : Nat) (w : World) : Calls Try.prog 22 #[.slice a 0 cap, .float .f64 x] w (SomeFind [] x w) := by
  go_enter Try.func22, Try.ntmps22
  go_wp2_with (first | (go_at_call 35; refine (issorted_none _ _ _).mono ?_; rintro e w' ⟨rfl, rfl⟩) | (go_at_call 36; refine (place_none _ _ _ _).mono ?_; rintro e w' ⟨rfl, rfl⟩))
  go_ret2
  exact ⟨0, false, Or.inr ⟨fun a b _ h => absurd h (Nat.not_lt_zero b), Nat.le_refl _, fun j h => absurd h (Nat.not_lt_zero j), fun h => absurd h (Nat.lt_irrefl _), fun h => (Bool.false_ne_true h).elim, fun h => absurd h.1 (Nat.lt_irrefl _)⟩, rfl, 0, rfl⟩

theorem hFi : DFind := by
  intro v L x w hv hb hf hxl
  have p : ∀ {L : List Nat} {e : Ending} {w' : World}, SomeFind L x w e w' → ∃ k ok, IsFind L x k ok ∧ e = .returned (.tuple #[.int .i64 (k : Int), .bool ok]) ∧ Below w.heap.size w w' := by
    rintro L e w' ⟨k, ok, h1, h2, m, rfl⟩
    exact ⟨k, ok, h1, h2, below_drewN (Below.refl _ _) m⟩
  rcases hv with ⟨rfl, rfl⟩ | ⟨ad, cap, rfl, rfl⟩ | ⟨b, off, cap, rfl, h0, _, hc⟩
  · exact (find_none none 0 x w).mono fun e w' h => p h
  · exact (find_none (some ad) cap x w).mono fun e w' h => p h
  · exact (find_some b off cap x L w h0 hb hc (getD_lt L hf) hxl).mono fun e w' h => p h

end Go.Proofs.Ytfpiojohodgncaa
