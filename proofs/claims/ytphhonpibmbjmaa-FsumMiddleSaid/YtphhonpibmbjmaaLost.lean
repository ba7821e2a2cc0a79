/- Proved: the plain function that a compensated sum is; what math.Abs, lost, notNegZero, IndexFunc and ContainsFunc give. -/
import Derived.Test.YtphhonpibmbjmaaOp
namespace Go.Proofs.Ytphhonpibmbjmaa
open Go.RowKit Fl

/-- What rounding took of s + x, of which t came. -/
def lostW (s x t : Nat) : Nat :=
  if FloatKind.f64.format.order (s % 9223372036854775808) (x % 9223372036854775808) = some .lt then fo .add (fo .sub x t) s else fo .add (fo .sub s t) x
/-- A number more: sum and correction. -/
def stW (p : Nat × Nat) (x : Nat) : Nat × Nat := (fo .add p.1 x, fo .add p.2 (lostW p.1 x (fo .add p.1 x)))
def runW (L : List Nat) : Nat × Nat := L.foldl stW (0, 0)
/-- The compensated sum. -/
def sumW (L : List Nat) : Nat :=
  if L ≠ [] ∧ ∀ x ∈ L, x = 9223372036854775808 then 9223372036854775808
  else if isN (runW L).2 = true then (runW L).1 else fo .add (runW L).1 (runW L).2

theorem ab_num (a : Nat) : isN (a % 9223372036854775808) = isN a := by unfold isN; rw [Nat.mod_mod]
theorem order_cb (a b : Nat) :
    FloatKind.f64.format.order (cb a % 9223372036854775808) (cb b % 9223372036854775808) = FloatKind.f64.format.order (a % 9223372036854775808) (b % 9223372036854775808) := by
  cases h : isN a
  · cases h2 : isN b
    · rw [cb_num a h, cb_num b h2]
    · rw [ord_nan_r _ _ (by omega) (by rw [ab_num, isN_cb]; exact h2), ord_nan_r _ _ (by omega) (by rw [ab_num]; exact h2)]
  · rw [ord_nan_l _ _ (by omega) (by rw [ab_num, isN_cb]; exact h), ord_nan_l _ _ (by omega) (by rw [ab_num]; exact h)]
theorem lost_cb (s x t s' x' t' : Nat) (hs : s < 18446744073709551616) (hx : x < 18446744073709551616) (ht : t < 18446744073709551616) (hs' : s' < 18446744073709551616) (hx' : x' < 18446744073709551616) (ht' : t' < 18446744073709551616)
    (e1 : cb s = cb s') (e2 : cb x = cb x') (e3 : cb t = cb t') : lostW s x t = lostW s' x' t' := by
  unfold lostW
  rw [← order_cb s x, ← order_cb s' x', e1, e2]
  have a := fo_congr f_sub hx ht hx' ht' e2 e3
  have b := fo_congr f_sub hs ht hs' ht' e1 e3
  rw [a, b]
  rw [fo_congr f_add (fo_lt f_sub x' t') hs (fo_lt f_sub x' t') hs' rfl e1, fo_congr f_add (fo_lt f_sub s' t') hx (fo_lt f_sub s' t') hx' rfl e2]
theorem lost_lt (s x t : Nat) : lostW s x t < 18446744073709551616 := by
  unfold lostW; split <;> exact fo_lt f_add _ _
theorem lost_can (s x t : Nat) : cb (lostW s x t) = lostW s x t := by
  unfold lostW; split <;> exact fo_can f_add _ _
theorem st_can (p : Nat × Nat) (x : Nat) : cb (stW p x).1 = (stW p x).1 ∧ cb (stW p x).2 = (stW p x).2 ∧ (stW p x).1 < 18446744073709551616 ∧ (stW p x).2 < 18446744073709551616 :=
  ⟨fo_can f_add _ _, fo_can f_add _ _, fo_lt f_add _ _, fo_lt f_add _ _⟩
/-- A state of words that reads as the plain one. -/
def Rd (s c : Nat) (p : Nat × Nat) : Prop := cb s = p.1 ∧ cb c = p.2 ∧ s < 18446744073709551616 ∧ c < 18446744073709551616
theorem rd_lt {s c : Nat} {p : Nat × Nat} (h : Rd s c p) : p.1 < 18446744073709551616 ∧ p.2 < 18446744073709551616 := by
  obtain ⟨h1, h2, h3, h4⟩ := h
  exact ⟨by rw [← h1]; exact cb_lt s h3, by rw [← h2]; exact cb_lt c h4⟩
theorem rd_step {s c x t d e : Nat} {p : Nat × Nat} (h : Rd s c p) (hx : x < 18446744073709551616) (ht : cb t = fo .add s x) (hl : t < 18446744073709551616) (hd : cb d = lostW s x t) (hdl : d < 18446744073709551616) (he : cb e = fo .add c d) (hel : e < 18446744073709551616) : Rd t e (stW p x) := by
  obtain ⟨h1, h2, h3, h4⟩ := h
  have hp1 : p.1 < 18446744073709551616 := by rw [← h1]; exact cb_lt s h3
  have hp2 : p.2 < 18446744073709551616 := by rw [← h2]; exact cb_lt c h4
  have e1 : cb s = cb p.1 := by rw [← h1, cb_cb]
  have e2 : cb c = cb p.2 := by rw [← h2, cb_cb]
  have a := fo_congr f_add h3 hx hp1 hx e1 rfl
  have b : lostW s x t = lostW p.1 x (fo .add p.1 x) := lost_cb _ _ _ _ _ _ h3 hx hl hp1 hx (fo_lt f_add _ _) e1 rfl (by rw [ht, fo_can f_add, a])
  refine ⟨by rw [ht, a]; rfl, ?_, hl, hel⟩
  rw [he]
  show fo .add c d = fo .add p.2 (lostW p.1 x (fo .add p.1 x))
  exact fo_congr f_add h4 hdl hp2 (lost_lt _ _ _) e2 (by rw [hd, b, lost_can])
theorem run_succ (L : List Nat) (k : Nat) (h : k < L.length) : (L.take (k + 1)).foldl stW (0, 0) = stW ((L.take k).foldl stW (0, 0)) (L.getD k 0) := by
  rw [List.take_succ_eq_append_getElem h, List.foldl_append, List.getD_eq_getElem?_getD, List.getElem?_eq_getElem h]
  rfl
theorem sum_nan {L : List Nat} {s c : Nat} (h : Rd s c (runW L)) (ha : ¬ (L ≠ [] ∧ ∀ x ∈ L, x = 9223372036854775808)) (hn : isN c = true) : cb s = sumW L := by
  unfold sumW
  rw [if_neg ha, if_pos (by rw [← h.2.1, isN_cb]; exact hn)]
  exact h.1
theorem sum_fin {L : List Nat} {s c : Nat} (h : Rd s c (runW L)) (ha : ¬ (L ≠ [] ∧ ∀ x ∈ L, x = 9223372036854775808)) (hn : isN c = false) : fo .add s c = sumW L := by
  have hl := rd_lt h
  unfold sumW
  rw [if_neg ha, if_neg (by rw [← h.2.1, isN_cb, hn]; decide)]
  exact fo_congr f_add h.2.2.1 h.2.2.2 hl.1 hl.2 (by rw [← h.1, cb_cb]) (by rw [← h.2.1, cb_cb])
theorem sum_neg {L : List Nat} (ha : L ≠ [] ∧ ∀ x ∈ L, x = 9223372036854775808) : sumW L = 9223372036854775808 := by
  unfold sumW; rw [if_pos ha]
theorem run_can (L : List Nat) : cb (runW L).1 = (runW L).1 ∧ cb (runW L).2 = (runW L).2 ∧ (runW L).1 < 18446744073709551616 ∧ (runW L).2 < 18446744073709551616 := by
  unfold runW
  rcases List.eq_nil_or_concat L with h | ⟨L', x, h⟩
  · subst h; exact ⟨by decide, by decide, by decide, by decide⟩
  · subst h; rw [List.concat_eq_append, List.foldl_append]; exact st_can _ _
theorem sum_can (L : List Nat) : cb (sumW L) = sumW L ∧ sumW L < 18446744073709551616 := by
  unfold sumW
  split
  · exact ⟨by decide, by decide⟩
  · split
    · exact ⟨(run_can L).1, (run_can L).2.2.1⟩
    · exact ⟨fo_can f_add _ _, fo_lt f_add _ _⟩

set_option maxHeartbeats 400000 in
theorem abs_any (b : Nat) (hb : b < 18446744073709551616) (w : World) :
    Calls Try.prog 34 #[.float .f64 b] w fun e w' => e = .returned (.float .f64 (b % 9223372036854775808)) ∧ w = w' := by
  have h1 := fl_bits b
  have h2 := fl_from ((b : Int) % 9223372036854775808)
  have h4 : ((b : Int) % 9223372036854775808).toNat = b % 9223372036854775808 := by omega
  have H4 := Lib.hid h4
  clear h4
  have h3 := andNot_sign b hb
  go_enter Try.func34, Try.ntmps34
  go_wp2
  go_ret
  exact ⟨ret_float H4.out, rfl⟩

set_option maxHeartbeats 1000000 in
theorem lost_any (s x t : Nat) (hs : s < 18446744073709551616) (hx : x < 18446744073709551616) (w : World) (m : Nat) :
    Calls Try.prog 33 #[.float .f64 s, .float .f64 x, .float .f64 t] (w.drewN m) fun e w' => ∃ c n, e = .returned (.float .f64 c) ∧ cb c = lostW s x t ∧ c < 18446744073709551616 ∧ w' = w.drewN n := by
  by_cases h : FloatKind.f64.format.order (s % 9223372036854775808) (x % 9223372036854775808) = some .lt
  · obtain ⟨c1, n1, h1, l1, r1⟩ := run_fo (P := Try.prog) w m .sub f_sub 25 x t
    obtain ⟨c2, n2, h2, l2, r2⟩ := run_fo (P := Try.prog) w n1 .add f_add 25 c1 s
    have HE : Hid (cb c2 = lostW s x t) := Lib.hid (by
      unfold lostW; rw [if_pos h, h2]
      exact fo_congr f_add l1 hs (fo_lt f_sub _ _) hs (by rw [h1, fo_can f_sub]) rfl)
    clear h1 h2
    go_enter Try.func33, Try.ntmps33
    go_wp2_with (go_at_call 34; refine (abs_any _ (by assumption) _).mono ?_; rintro e w' ⟨rfl, rfl⟩)
    go_ret
    exact ⟨c2, n2, rfl, HE.out, l2, rfl⟩
  · obtain ⟨c1, n1, h1, l1, r1⟩ := run_fo (P := Try.prog) w m .sub f_sub 25 s t
    obtain ⟨c2, n2, h2, l2, r2⟩ := run_fo (P := Try.prog) w n1 .add f_add 25 c1 x
    have HE : Hid (cb c2 = lostW s x t) := Lib.hid (by
      unfold lostW; rw [if_neg h, h2]
      exact fo_congr f_add l1 hx (fo_lt f_sub _ _) hx (by rw [h1, fo_can f_sub]) rfl)
    have o : (FloatKind.f64.format.order (s % 9223372036854775808) (x % 9223372036854775808) == some .lt) = false := by
      cases ho : FloatKind.f64.format.order (s % 9223372036854775808) (x % 9223372036854775808) with
      | none => rfl
      | some r =>
        cases r
        · exact absurd ho h
        · rfl
        · rfl
    clear h1 h2 h
    go_enter Try.func33, Try.ntmps33
    go_wp2_with (go_at_call 34; refine (abs_any _ (by assumption) _).mono ?_; rintro e w' ⟨rfl, rfl⟩)
    go_ret
    exact ⟨c2, n2, rfl, HE.out, l2, rfl⟩

theorem cls_negzero (b : Nat) (hb : b < 18446744073709551616) : cls b = 5 ↔ b = 9223372036854775808 := by
  rcases cls_cases b hb with ⟨hn, hc⟩ | ⟨hn, _, h⟩
  · have : 9218868437227405312 < b % 9223372036854775808 := by simpa [isN] using hn
    rw [hc]; constructor <;> intro h <;> omega
  · rcases h with ⟨k, hc⟩ | ⟨k, k', hc⟩ | ⟨k, k', hc⟩ | ⟨k, hc⟩ | ⟨k, hc⟩ | ⟨k, k', hc⟩ | ⟨k, k', hc⟩ | ⟨k, hc⟩ <;> rw [hc] <;> constructor <;> intro h <;> omega

set_option maxHeartbeats 400000 in
theorem notneg_any (b : Nat) (hb : b < 18446744073709551616) (w : World) :
    Calls Try.prog 32 #[.float .f64 b] w fun e w' => e = .returned (.bool (decide (b ≠ 9223372036854775808))) ∧ w = w' := by
  have HK := Lib.hid (cls_negzero b hb)
  go_enter Try.func32, Try.ntmps32
  go_wp2_with (go_at_call 44; refine (class_any _ (by assumption) _).mono ?_; rintro e w' ⟨rfl, rfl⟩)
  go_ret
  refine ⟨?_, rfl⟩
  by_cases h : b = 9223372036854775808
  · have := HK.out.2 h
    simp [h] at this ⊢
    simp [this]
  · have : ¬ cls b = 5 := fun k => h (HK.out.1 k)
    simp [h, this]

set_option maxHeartbeats 1000000 in
theorem index_some (b off cap : Nat) (L : List Nat) (w : World) (hb : L.length ≤ 1000000)
    (hx : ∀ j, j < L.length → w.cell? ⟨b, off + j, none⟩ = some (.float .f64 (L.getD j 0))) (hf : ∀ j, j < L.length → L.getD j 0 < 18446744073709551616) :
    Calls Try.prog 43 #[.slice (some ⟨b, off, none⟩) L.length cap, .func (.func 32) #[] #[]] w
      fun e w' => ∃ r : Int, e = .returned (.int .i64 r) ∧ ((r = -1 ∧ ∀ j, j < L.length → L.getD j 0 = 9223372036854775808) ∨ (0 ≤ r ∧ ∃ j, j < L.length ∧ L.getD j 0 ≠ 9223372036854775808)) ∧ w = w' := by
  obtain ⟨n, hn⟩ : ∃ n, n = L.length := ⟨_, rfl⟩
  rw [← hn] at hb hx hf ⊢
  have HX := Lib.hid hx
  have HF := Lib.hid hf
  clear hn hx hf
  go_enter Try.func43, Try.ntmps43
  go_wp2
  go_loopw [8] (fun i wr => ∃ k : Nat, k ≤ n ∧ i = .int .i64 k ∧ (∀ j, j < k → L.getD j 0 = 9223372036854775808) ∧ w = wr) (fun i _ => n - (intOf i).toNat)
  case atStart => exact ⟨0, Nat.zero_le _, rfl, fun _ h => by omega, rfl⟩
  case round =>
    obtain ⟨k, hk, rfl, hs, rfl⟩ := hrel
    have HS := Lib.hid hs
    clear hs
    by_cases hlt : k < n
    · have c1 := HX.out k hlt
      have d1 := HF.out k hlt
      have b1 : (0 : Int) ≤ (k : Int) := by omega
      have b2 : (k : Int) < (n : Int) := by omega
      by_cases hz : L.getD k 0 = 9223372036854775808
      · have hd : decide (L.getD k 0 ≠ 9223372036854775808) = false := decide_eq_false (fun h => h hz)
        obtain ⟨x, hx⟩ : ∃ x, x = L.getD k 0 := ⟨_, rfl⟩
        rw [← hx] at c1 d1 hd
        have HZ := Lib.hid hz
        clear hz hx
        go_wp2_with (go_at_call 32; refine (notneg_any _ d1 _).mono ?_; rintro e w' ⟨rfl, rfl⟩)
        go_roundw
        case rel => exact ⟨k + 1, by omega, by go_num, fun j hj => by
          by_cases e : j = k
          · rw [e]; exact HZ.out
          · exact HS.out j (by omega), by first | rfl | trivial⟩
        case measure => simp [intOf]; omega
      · have hd : decide (L.getD k 0 ≠ 9223372036854775808) = true := decide_eq_true hz
        obtain ⟨x, hx⟩ : ∃ x, x = L.getD k 0 := ⟨_, rfl⟩
        rw [← hx] at c1 d1 hd
        have HZ := Lib.hid hz
        clear hz hx
        go_wp2_with (go_at_call 32; refine (notneg_any _ d1 _).mono ?_; rintro e w' ⟨rfl, rfl⟩)
        go_ret
        exact ⟨k, rfl, .inr ⟨by omega, k, hlt, HZ.out⟩, rfl⟩
    · obtain rfl : k = n := by omega
      have hge : ¬ ((k : Int) < (k : Int)) := by omega
      go_wp2
      go_ret
      exact ⟨-1, rfl, .inl ⟨rfl, HS.out⟩, rfl⟩

theorem all_neg {L : List Nat} : (∀ j, j < L.length → L.getD j 0 = 9223372036854775808) ↔ ∀ x ∈ L, x = 9223372036854775808 := by
  constructor
  · intro h x hx
    obtain ⟨j, hj, rfl⟩ := List.mem_iff_getElem.1 hx
    have := h j hj
    rwa [List.getD_eq_getElem?_getD, List.getElem?_eq_getElem hj] at this
  · intro h j hj
    rw [List.getD_eq_getElem?_getD, List.getElem?_eq_getElem hj]
    exact h _ (List.getElem_mem hj)

set_option maxHeartbeats 1000000 in
theorem contains_some (b off cap : Nat) (L : List Nat) (w : World) (hb : L.length ≤ 1000000)
    (hx : ∀ j, j < L.length → w.cell? ⟨b, off + j, none⟩ = some (.float .f64 (L.getD j 0))) (hf : ∀ j, j < L.length → L.getD j 0 < 18446744073709551616) :
    Calls Try.prog 31 #[.slice (some ⟨b, off, none⟩) L.length cap, .func (.func 32) #[] #[]] w
      fun e w' => e = .returned (.bool (decide (¬ ∀ x ∈ L, x = 9223372036854775808))) ∧ w = w' := by
  have key := index_some b off cap L w hb hx hf
  have HA := Lib.hid (all_neg (L := L))
  clear hx hf
  go_enter Try.func31, Try.ntmps31
  go_wp2_with (go_at_call 43; refine key.mono ?_; rintro e w' ⟨r, rfl, hr, rfl⟩; have HR := Lib.hid hr; clear hr)
  go_ret
  refine ⟨?_, rfl⟩
  rcases HR.out with ⟨rfl, h⟩ | ⟨h0, j, hj, hne⟩
  · have e : decide (¬ ∀ x ∈ L, x = 9223372036854775808) = false := decide_eq_false (fun k => k (HA.out.1 h))
    rw [e]; rfl
  · have e : decide (¬ ∀ x ∈ L, x = 9223372036854775808) = true := decide_eq_true (fun k => hne (HA.out.2 k j hj))
    rw [e, ← decide_eq_true h0]; rfl

end Go.Proofs.Ytphhonpibmbjmaa
