/- Proved: the law's own small functions answer true, if forder keeps its chapter (said as hypotheses on its functions' calls). -/
import Derived.Test.YtfpiojohodgncaaRead
namespace Go.Proofs.Ytfpiojohodgncaa
open Go.RowKit Fl

def DCompare : Prop := ∀ (a b : Nat), a < 18446744073709551616 → b < 18446744073709551616 → ∀ w : World,
  Calls Try.prog 16 #[.float .f64 a, .float .f64 b] w fun e w' => e = .returned (.int .i64 (cmpI a b)) ∧ w = w'
def DSort : Prop := ∀ (v : Value) (L : List Nat) (w : World), View w v L → L.length ≤ 1000000 → (∀ x ∈ L, x < 18446744073709551616) →
  Calls Try.prog 19 #[v] w fun e w' => ∃ v' R, e = .returned v' ∧ Sorts L R ∧ View w' v' R ∧ Below w.heap.size w w'
def DMost (f : FuncId) (way : Int) : Prop := ∀ (v : Value) (L : List Nat) (w : World), View w v L → 0 < L.length → L.length ≤ 1000000 → (∀ x ∈ L, x < 18446744073709551616) →
  Calls Try.prog f #[v] w fun e w' => ∃ x, x < 18446744073709551616 ∧ IsMost way L.length (L.getD · 0) x ∧ e = .returned (.tuple #[.float .f64 x, .int .i64 0]) ∧ Below w.heap.size w w'
def DMost0 (f : FuncId) : Prop := ∀ (v : Value) (w : World), View w v [] →
  Calls Try.prog f #[v] w fun e w' => e = .returned (.tuple #[.float .f64 0, .int .i64 14]) ∧ Below w.heap.size w w'
def DFind : Prop := ∀ (v : Value) (L : List Nat) (x : Nat) (w : World), View w v L → L.length ≤ 1000000 → (∀ x ∈ L, x < 18446744073709551616) → x < 18446744073709551616 →
  Calls Try.prog 22 #[v, .float .f64 x] w fun e w' => ∃ k ok, IsFind L x k ok ∧ e = .returned (.tuple #[.int .i64 (k : Int), .bool ok]) ∧ Below w.heap.size w w'
def DClamp : Prop := ∀ (x lo hi : Nat), x < 18446744073709551616 → lo < 18446744073709551616 → hi < 18446744073709551616 → ∀ w : World,
  Calls Try.prog 24 #[.float .f64 x, .float .f64 lo, .float .f64 hi] w fun e w' => e = .returned (.float .f64 (clS x lo hi)) ∧ w = w'

theorem view_pos {w : World} {v : Value} {L : List Nat} (h : View w v L) (h0 : 0 < L.length) :
    ∃ b off cap, v = .slice (some ⟨b, off, none⟩) L.length cap ∧ b < w.heap.size ∧ ∀ j, j < L.length → w.cell? ⟨b, off + j, none⟩ = some (.float .f64 (L.getD j 0)) := by
  rcases h with ⟨_, rfl⟩ | ⟨ad, cap, _, rfl⟩ | ⟨b, off, cap, rfl, _, hb, hc⟩
  · simp at h0
  · simp at h0
  · exact ⟨b, off, cap, rfl, hb, hc⟩

theorem cb_eq_num (r x : Nat) (hx : isN x = false) (h : cb r = cb x) : r = x := by
  by_cases hr : isN r = true
  · rw [cb_nan r hr, not_nan_cb x hx] at h
    subst h
    exact absurd hx (by decide)
  · rw [not_nan_cb r (by simpa using hr), not_nan_cb x hx] at h
    exact h

/-- What stands sorted of the four numbers that awake sorts. -/
theorem awake_sorted (R : List Nat) (h : Sorts [0, 9218868437227405312, 18442240474082181120, 4607182418800017408] R) : R = [18442240474082181120, 0, 4607182418800017408, 9218868437227405312] := by
  have k : Sorts [0, 9218868437227405312, 18442240474082181120, 4607182418800017408] [18442240474082181120, 0, 4607182418800017408, 9218868437227405312] :=
    ⟨by decide, by decide, by decide⟩
  have u := sorts_unique h k (List.Perm.refl _)
  have hl : R.length = 4 := by have := congrArg List.length u; simpa using this
  match R, hl with
  | [a, b, c, d], _ =>
    have hR := h.2.2
    simp only [List.map_cons, List.map_nil, List.cons.injEq, and_true] at u
    obtain ⟨e1, e2, e3, e4⟩ := u
    have f := fun (r x : Nat) (hr : r ∈ [a, b, c, d]) (hx : x < 18446744073709551616) (e : kb r = kb x) => kb_inj r x (hR r hr) hx e
    rw [cb_eq_num a _ (by decide) (f a _ (by simp) (by decide) e1), cb_eq_num b _ (by decide) (f b _ (by simp) (by decide) e2), cb_eq_num c _ (by decide) (f c _ (by simp) (by decide) e3), cb_eq_num d _ (by decide) (f d _ (by simp) (by decide) e4)]

set_option maxHeartbeats 1000000 in
theorem awake2_any (hS : DSort) (hM : DMost0 13) (hC : DCompare) (w : World) :
    Calls Try.prog 12 #[] w fun e w' => e = .returned (.bool true) ∧ Below w.heap.size w w' := by
  have hinf : Hid (cb (9218868437227405312 : Int).toNat = 9218868437227405312) := Lib.hid (by decide)
  have u1 := unary_neg_float 9218868437227405312 18442240474082181120 (by decide)
  have o1 : FloatKind.f64.format.order 18442240474082181120 18442240474082181120 = some .eq := ord_self _ (by decide) (by decide)
  have o2 : FloatKind.f64.format.order 9218868437227405312 9218868437227405312 = some .eq := ord_self _ (by decide) (by decide)
  have q1 : cmpI 4607182418800017408 4611686018427387904 = -1 := by decide
  go_enter Try.func12, Try.ntmps12
  go_wp2_with (go_at_call 27; refine (rfrom_as _ _ (by decide) (by decide) hinf _).mono ?_; rintro e w' ⟨rfl, rfl⟩)
  refine (hS _ [0, 9218868437227405312, 18442240474082181120, 4607182418800017408] _ (Or.inr (Or.inr ⟨w.heap.size, 0, 4, rfl, by decide, by simp, ?_⟩)) (by decide) (by decide)).mono ?_
  · intro j hj
    match j, hj with
    | 0, _ => simp [go_sem]
    | 1, _ => simp [go_sem]
    | 2, _ => simp [go_sem]
    | 3, _ => simp [go_sem]
  rintro e w1 ⟨v, R, rfl, hR, hv, hb⟩
  have hRe := awake_sorted R hR
  subst hRe
  obtain ⟨b, off, cap, rfl, hbw, hc⟩ := view_pos hv (by decide)
  have c0 : w1.cell? ⟨b, off, none⟩ = some (.float .f64 18442240474082181120) := hc 0 (by decide)
  have c3 : w1.cell? ⟨b, off + 3, none⟩ = some (.float .f64 9218868437227405312) := hc 3 (by decide)
  have HB := Lib.hid hb
  clear hR hv hc hb
  go_wp2_with fail
  refine (hM (.slice none 0 0) w1 (Or.inl ⟨rfl, rfl⟩)).mono ?_
  rintro e w2 ⟨rfl, hb2⟩
  have d0 := (hb2.cell (p := ⟨b, off, none⟩) hbw).trans c0
  have d3 := (hb2.cell (p := ⟨b, off + 3, none⟩) hbw).trans c3
  have HB2 := Lib.hid hb2
  clear c0 c3 hb2
  go_wp2_with (go_at_call 16; refine (hC _ _ (by decide) (by decide) _).mono ?_; rintro e w' ⟨rfl, rfl⟩)
  go_ret
  exact ⟨rfl, ((Below.refl _ _).alloc (Nat.le_refl _) _).trans ((HB.out.mono (by simp)).trans (HB2.out.mono (by have := HB.out.size; simp at this; omega)))⟩

end Go.Proofs.Ytfpiojohodgncaa
