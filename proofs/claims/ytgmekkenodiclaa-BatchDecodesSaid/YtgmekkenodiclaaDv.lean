/- Proved: what the landed divided answers: the blocks divided as a body says, or that there is no batch of them. -/
import Derived.Test.YtgmekkenodiclaaPs
import Derived.Test.YtgmekkenodiclaaDvp
import Derived.Test.YtgmekkenodiclaaCb
import Derived.BigQuiet
namespace Go.Proofs.Ytgmekkenodiclaa
open Go.RowKit
attribute [local go_sem ↓] Go.wp_at_zero Go.wp_at_succ

theorem none_out {w : World} {A : Option Addr} {L : List Nat} (h : BV w A L) : BVf (ob (.slice none 0 0)) w A L := h.out fun g _ ho => by unfold ob at ho; cases ho
/-- What divided tells. -/
def DivP (P : List Pt) (B : List Nat) (w : World) (x : Ending) (w' : World) : Prop :=
  At w w' ∧ ∃ (ok : Bool) (A : Option Addr) (m c : Nat), x = .returned (.tuple #[.slice A m c, .bool ok]) ∧ (ok = false → ∀ s L, Bk s L → bd L = B → ¬ fla L = P) ∧
    (ok = true → ∃ T : List Tl, T.length = m ∧ m ≤ 10000 ∧ OT w w' (.slice A m c) T ∧ (∀ x ∈ T, ∀ a, x.2.1 = some a → w.heap.size ≤ a.block) ∧ fla (T.map (·.1)) = P ∧ (∀ s, Bk s (T.map (·.1)) → bd (T.map (·.1)) = B) ∧ ∀ s L, Bk s L → bd L = B → fla L = P → T.map (·.1) = L)
theorem wrap_f {u : Nat} {f : Int} (hu : u < 18446744073709551616) (h : IntKind.i64.wrap (u : Int) = f) : (-9223372036854775808 ≤ f ∧ f < 9223372036854775808) ∧ (u < 9223372036854775808 → f = (u : Int)) ∧ (0 ≤ f → f = (u : Int)) := by
  rw [IntKind.wrap_i64] at h
  omega
theorem wrap_in {a : Int} (h : -9223372036854775808 ≤ a ∧ a < 9223372036854775808) : IntKind.i64.wrap a = a := by
  rw [IntKind.wrap_i64]; omega
/-- The body's parts, if it has the bytes for that. -/
structure Pr (B : List Nat) (c : Nat) (f : Int) (G N : List Nat) : Prop where
  len : B.length = 9 + 3 * c
  c8 : B.getD 8 0 = c
  g : G = (B.drop 9).take (2 * c)
  n : N = B.drop (9 + 2 * c)
  u : gt (B.take 8) < 18446744073709551616
  f : IntKind.i64.wrap (gt (B.take 8) : Int) = f
theorem Pr.gl {B : List Nat} {c : Nat} {f : Int} {G N : List Nat} (h : Pr B c f G N) : G.length = 2 * N.length ∧ N.length = c := by
  have hl := h.len
  rw [h.g, h.n, List.length_take, List.length_drop, List.length_drop]; omega
theorem Pr.of {B : List Nat} {c : Nat} {f : Int} {G N : List Nat} (h : Pr B c f G N) {s : Int} {L : List Tx} {P : List Pt} (hb : Bk s L) (hB : bd L = B) (hP : fla L = P) : Of f P G N L := by
  obtain ⟨h1, h2, h3, h4⟩ := of_bd hb hB hP
  have hc : L.length = c := by rw [← h.c8, h2]
  have ht := hb.t0
  have hf := (wrap_f h.u h.f).2.1 (by omega)
  rw [hc] at h4
  rw [hf, h3, h.g, h.n]
  exact h4
theorem Pr.bd {B : List Nat} {c : Nat} {f : Int} {G N : List Nat} (h : Pr B c f G N) (hB : ∀ x ∈ B, x < 256) {P : List Pt} {T : List Tx} {t : Int} (hr : Jr f P G N c T t) (hl : Jl f G N c T t) {s : Int} (hb : Bk s T) : Go.Proofs.Ytgmekkenodiclaa.bd T = B := by
  have h0 : 0 < c := by rw [← hr.len]; exact hb.ne
  have ht := hb.t0
  have hf : t0 T = f := hl.ff h0
  have hu := (wrap_f h.u h.f).2.2 (by omega)
  have hg := (hl.gg (by omega) (by omega)).1
  obtain ⟨g1, g2⟩ := h.gl
  refine bd_of hb h.len hB h.c8 hr.len (by rw [hf]; exact hu.symm) ?_ ?_
  · rw [hf, hg, List.take_of_length_le (by omega), h.g]
  · rw [hl.nn, List.take_of_length_le (by omega), h.n]
theorem not_short {B : List Nat} (h : ¬ (9 ≤ B.length ∧ B.length = 9 + 3 * B.getD 8 0)) : ∀ (P : List Pt) (s : Int) (L : List Tx), Bk s L → bd L = B → ¬ fla L = P := fun P s L hb hB hP => by
  obtain ⟨h1, h2, _, _⟩ := of_bd hb hB hP
  exact h ⟨by omega, by rw [h2]; exact h1⟩
theorem gn_eight {B : List Nat} (h : 8 ≤ B.length) : gn B 8 = gt (B.take 8) := gn_take B 8 h

set_option maxHeartbeats 8000000 in
set_option maxRecDepth 100000 in
theorem divided_any (A : Option Addr) (P : List Pt) (n c : Nat) (hn : P.length = n) (hn2 : n ≤ 10000) (hc : n ≤ c) (hz : A = none → n = 0 ∧ c = 0) (Ab : Option Addr) (B : List Nat) (nb cb : Nat) (hB : B.length = nb) (hB2 : nb ≤ 10000) (hBB : AllB B) (hcb : nb ≤ cb) (w : World) (hv : PV w A P) (hbv : BV w Ab B) :
    Calls Try.prog 22 #[.slice A n c, .slice Ab nb cb] w (DivP P B w) := by
  have HN := Lib.hid hn
  have HZ := Lib.hid hz
  have HV := Lib.hid hv
  have HBV := Lib.hid hbv
  have HB := Lib.hid hB
  have HBB := Lib.hid hBB
  have HG := Lib.hid (get64_any Ab nb cb B hcb hB hBB w hbv)
  obtain ⟨u, hu⟩ : ∃ u, u = gn B 8 := ⟨_, rfl⟩
  rw [← hu] at HG
  obtain ⟨b8, hb8⟩ : ∃ b8, b8 = decide (8 ≤ nb) := ⟨_, rfl⟩
  rw [← hb8] at HG
  have HU := Lib.hid hu
  clear hn hz hv hbv hB hBB hu hb8
  by_cases h9 : nb < 9
  · have z1 : decide ((nb : Int) < 9) = true := decide_eq_true (by omega)
    have HNO := Lib.hid (not_short (B := B) (by rw [HB.out]; omega) P)
    go_enter Try.func22, Try.ntmps22
    go_wp2_with fail
    refine HG.out.mono ?_
    rintro e w1 ⟨rfl, rfl⟩
    go_wp2_with fail
    try rw [Exit.noGoto_ret]
    go_ret2
    exact ⟨At.start w, false, none, 0, 0, rfl, fun _ => HNO.out, fun h => by cases h⟩
  have z1 : decide ((nb : Int) < 9) = false := decide_eq_false (by omega)
  obtain ⟨gb, o, rfl, hgb, hbc⟩ := HBV.out.pos (by rw [HB.out]; omega)
  have x8 := hbc 8 (by rw [HB.out]; omega)
  have k256 := allB_at HBB.out 8
  obtain ⟨k, hk⟩ : ∃ k, k = B.getD 8 0 := ⟨_, rfl⟩
  rw [← hk] at x8 k256
  obtain ⟨k3, hk3⟩ : ∃ k3 : Nat, k3 = 9 + 3 * k := ⟨_, rfl⟩
  have hk3i : 9 + 3 * (k : Int) = (k3 : Int) := by omega
  have HK := Lib.hid hk
  have HK3 := Lib.hid hk3
  by_cases h3 : nb = k3
  rotate_left
  · have z2 : ((nb : Int) != (k3 : Int)) = true := by simp; omega
    have HNO := Lib.hid (not_short (B := B) (by rw [HB.out, ← HK.out, ← HK3.out]; omega) P)
    clear hk hk3 hbc h3 h9
    have g8 : (8 : Int) < (nb : Int) := by have := z1; simp at this; omega
    go_enter Try.func22, Try.ntmps22
    go_wp2_with fail
    refine HG.out.mono ?_
    rintro e w1 ⟨rfl, rfl⟩
    go_wp2_with fail
    try rw [Exit.noGoto_ret]
    go_ret2
    exact ⟨At.start w, false, none, 0, 0, rfl, fun _ => HNO.out, fun h => by cases h⟩
  have z2 : ((nb : Int) != (k3 : Int)) = false := by rw [h3]; simp
  have g8 : (8 : Int) < (nb : Int) := by omega
  have u64 : u < 18446744073709551616 := by
    rw [HU.out, gn_eight (by rw [HB.out]; omega)]
    have := gt_lt _ (fun c hc => HBB.out c (List.mem_of_mem_take hc) : ∀ c ∈ B.take 8, c < 256)
    rw [List.length_take, HB.out, Nat.min_eq_left (by omega)] at this
    exact this
  obtain ⟨f, hf⟩ : ∃ f, IntKind.i64.wrap (u : Int) = f := ⟨_, rfl⟩
  have HWF := Lib.hid (wrap_f u64 hf)
  have HPR : Hid (Pr B k f ((B.drop 9).take (2 * k)) (B.drop (9 + 2 * k))) := Lib.hid ⟨by rw [HB.out, h3, hk3], hk.symm, rfl, rfl, by rw [← gn_eight (by rw [HB.out]; omega), ← HU.out]; exact u64, by rw [← gn_eight (by rw [HB.out]; omega), ← HU.out]; exact hf⟩
  by_cases h0 : k = 0
  · have HE : Hid (∀ s L, Bk s L → bd L = B → ∀ P : List Pt, ¬ fla L = P) := Lib.hid fun s L hb hB P hP => by
      obtain ⟨_, h2, _, _⟩ := of_bd hb hB hP
      have := hb.ne
      rw [← HK.out, h0] at h2
      omega
    have HE2 : Hid (∀ s : Int, ¬ Bk s ([] : List Tx)) := Lib.hid fun s hb => by have := hb.ne; simp at this
    obtain rfl : nb = 9 := by omega
    subst h0
    obtain rfl : k3 = 9 := by omega
    have zP : ((n : Int) == 0) = decide (P = []) := by
      rw [Bool.eq_iff_iff, beq_iff_eq, decide_eq_true_iff]
      have := HN.out
      constructor
      · intro h; exact List.eq_nil_of_length_eq_zero (by omega)
      · intro h; rw [h] at this; simp at this; omega
    obtain ⟨bP, hbP⟩ : ∃ b, decide (P = []) = b := ⟨_, rfl⟩
    rw [hbP] at zP
    have HBP := Lib.hid hbP
    have HF0 : Hid (∀ m, DivP P B w (.returned (.tuple #[.slice none 0 0, .bool bP])) (w.drewN m)) := Lib.hid fun m => ⟨(At.start w).drewN m, bP, none, 0, 0, rfl, fun _ s L hb hB => HE.out s L hb hB P, fun h => ⟨[], rfl, Nat.zero_le _, Ow.nil' ((At.start w).drewN m), (fun x hx => by cases hx), by rw [h] at hbP; have := of_decide_eq_true hbP; rw [this]; rfl, fun s hb => absurd hb (HE2.out s), fun s L hb hB hP => absurd hP (HE.out s L hb hB P)⟩⟩
    clear hk hk3 hbc h3 h9 hk3i HBP hbP
    by_cases hc9 : cb = 9
    · subst hc9
      go_enter Try.func22, Try.ntmps22
      go_wp2_with fail
      refine HG.out.mono ?_
      rintro e w1 ⟨rfl, rfl⟩
      go_wp2_with fail
      go_quiet (fail)
      go_wp2_with fail
      refine wp_loop_rounds 1 ?_
      rw [rounds_succ]
      go_wp2_with fail
      go_ret2
      exact HF0.out _
    · go_enter Try.func22, Try.ntmps22
      go_wp2_with fail
      refine HG.out.mono ?_
      rintro e w1 ⟨rfl, rfl⟩
      go_wp2_with fail
      go_quiet (fail)
      go_wp2_with fail
      refine wp_loop_rounds 1 ?_
      rw [rounds_succ]
      go_wp2_with fail
      go_ret2
      exact HF0.out _
  obtain ⟨k9, hk9⟩ : ∃ k9 : Nat, k9 = 9 + 2 * k := ⟨_, rfl⟩
  have hk9i : 9 + 2 * (k : Int) = (k9 : Int) := by omega
  have n9 : ¬ cb = 9 := by omega
  have nk9 : ¬ cb = k9 := by omega
  obtain ⟨gl, hgl⟩ : ∃ gl, k9 - 9 = gl := ⟨_, rfl⟩
  have hnl : nb - k9 = k := by omega
  obtain ⟨G, hG⟩ : ∃ G, G = (B.drop 9).take (2 * k) := ⟨_, rfl⟩
  obtain ⟨N, hNN⟩ : ∃ N, N = B.drop (9 + 2 * k) := ⟨_, rfl⟩
  rw [← hG, ← hNN] at HPR
  obtain ⟨hgl2, hNl⟩ := HPR.out.gl
  have HGB : Hid (∀ c ∈ G, c < 256) := Lib.hid fun c hc => HBB.out c (List.mem_of_mem_drop (List.mem_of_mem_take (by rw [← hG]; exact hc)))
  have HNB : Hid (∀ c ∈ N, c < 256) := Lib.hid fun c hc => HBB.out c (List.mem_of_mem_drop (by rw [← hNN]; exact hc))
  have HGL : Hid (G.length = 2 * N.length ∧ N.length = k ∧ gl = 2 * k ∧ k9 = 9 + 2 * k) := Lib.hid ⟨hgl2, hNl, by omega, hk9⟩
  have hgb9 : (9 : Int) ≤ (k9 : Int) := by omega
  have hgk9 : (k9 : Int) ≤ (cb : Int) := by omega
  have hk9n : (k9 : Int) ≤ (nb : Int) := by omega
  have HCB : Hid (∀ W, At w W → (∀ i, i < k → W.cell? ⟨gb, o + k9 + i, none⟩ = some (.int .u8 ((N.getD i 0 : Nat) : Int))) ∧ ∀ i, i < gl → W.cell? ⟨gb, o + 9 + i, none⟩ = some (.int .u8 ((G.getD i 0 : Nat) : Int))) := Lib.hid fun W hW => by
    constructor
    · intro i hi
      have h1 := (Below.cell hW (p := ⟨gb, o + (k9 + i), none⟩) hgb).trans (hbc (k9 + i) (by rw [HB.out]; omega))
      rw [Nat.add_assoc, h1, hNN, ← hk9]
      simp only [List.getD_eq_getElem?_getD, List.getElem?_drop]
    · intro i hi
      have h1 := (Below.cell hW (p := ⟨gb, o + (9 + i), none⟩) hgb).trans (hbc (9 + i) (by rw [HB.out]; omega))
      rw [Nat.add_assoc, h1, hG]
      simp only [List.getD_eq_getElem?_getD, List.getElem?_take, List.getElem?_drop, if_pos (show i < 2 * k by omega)]
  have HP : Hid (PV w A P ∧ n ≤ c ∧ (A = none → n = 0 ∧ c = 0)) := Lib.hid ⟨HV.out, hc, HZ.out⟩
  have HR0 : Hid (Jr f P G N 0 [] f ∧ Jl f G N 0 [] f) := Lib.hid ⟨Jr.start f P G N, Jl.start f G N⟩
  have hk0 : 0 < k := by omega
  have hk1 : k ≤ 10000 := by omega
  clear hk hbc h3 h9 hk3 hG hNN hk9 hgl2 hNl h0 hc
  go_enter Try.func22, Try.ntmps22
  go_wp2_with fail
  refine HG.out.mono ?_
  rintro e w1 ⟨rfl, rfl⟩
  go_wp2_with fail
  go_quiet (fail)
  go_wp2_with fail
  go_loopw [0, 4, 11, 53] (fun c0 c4 c11 c53 wr => ∃ (i d p r : Nat) (t : Int) (X B4 : Option Addr) (T : List Tl), i ≤ k ∧ c53 = .int .i64 (i : Int) ∧ c0 = .slice X p r ∧ c4 = .slice B4 i d ∧ c11 = .int .i64 t ∧ Hid (T.length = i ∧ p = P.length - tot (T.map (·.1)) ∧ p ≤ r ∧ (X = none → p = 0 ∧ r = 0) ∧ PV w X (P.drop (tot (T.map (·.1))))) ∧ Hid (Jr f P G N i (T.map (·.1)) t ∧ Jl f G N i (T.map (·.1)) t) ∧ Hid (OT w wr (.slice B4 i d) T ∧ ∀ x ∈ T, ∀ a, x.2.1 = some a → w.heap.size ≤ a.block)) (fun _ _ _ c53 _ => k - (RowKit.intOf c53).toNat)
  case atStart => exact ⟨0, 0, n, c, f, A, none, [], Nat.zero_le _, rfl, rfl, rfl, rfl, Lib.hid ⟨rfl, by simp [tot, HN.out], HP.out.2.1, HP.out.2.2, by simpa [tot] using HP.out.1⟩, HR0, Lib.hid ⟨Ow.nil' ((At.start w).drewN _), fun x hx => by cases hx⟩⟩
  case round =>
    obtain ⟨i, d, p, r, t, X, B4, T, hi, rfl, rfl, rfl, rfl, HX, HJ, HOO⟩ := hrel
    have HO := Lib.hid HOO.out.1
    have HNW := Lib.hid HOO.out.2
    clear HOO
    have hpn : p ≤ n := by have := HX.out.2.1; rw [HN.out] at this; omega
    by_cases hlt : i < k
    · obtain ⟨cn_, cg⟩ := HCB.out wr HO.out.at_
      have e1 := cn_ i hlt
      obtain ⟨i2, hi2⟩ : ∃ i2 : Nat, i2 = 2 * i := ⟨_, rfl⟩
      have hi2i : 2 * (i : Int) = (i2 : Int) := by omega
      have hgl2 : i2 + 1 < gl := by have := HGL.out.2.2.1; omega
      have e2 := cg i2 (by omega)
      have e3 := cg (i2 + 1) hgl2
      have hNi : i < N.length := by rw [HGL.out.2.1]; exact hlt
      have hb1 : N.getD i 0 < 256 := by rw [List.getD_eq_getElem?_getD, List.getElem?_eq_getElem hNi]; exact HNB.out _ (List.getElem_mem _)
      have hb2 : G.getD i2 0 < 256 := by rw [List.getD_eq_getElem?_getD, List.getElem?_eq_getElem (by have := HGL.out; omega)]; exact HGB.out _ (List.getElem_mem _)
      have hb3 : G.getD (i2 + 1) 0 < 256 := by rw [List.getD_eq_getElem?_getD, List.getElem?_eq_getElem (by have := HGL.out; omega)]; exact HGB.out _ (List.getElem_mem _)
      obtain ⟨m, hm⟩ : ∃ m, N.getD i 0 = m := ⟨_, rfl⟩
      obtain ⟨y0, hy0⟩ : ∃ m, m = G.getD i2 0 := ⟨_, rfl⟩
      obtain ⟨y1, hy1⟩ : ∃ m, m = G.getD (i2 + 1) 0 := ⟨_, rfl⟩
      rw [hm] at e1 hb1
      rw [← hy0] at e2 hb2
      rw [← hy1] at e3 hb3
      obtain ⟨v, hvv⟩ : ∃ v, v = y0 + 256 * y1 := ⟨_, rfl⟩
      have hor := or_two y0 y1 hb2 hb3
      rw [← hvv] at hor
      have HM := Lib.hid hm
      have HVV : Hid (v = G.getD (2 * i) 0 + 256 * G.getD (2 * i + 1) 0) := Lib.hid (by rw [hvv, hy0, hy1, hi2])
      have hv65 : v ≤ 65535 := by omega
      have HI2 := Lib.hid hi2
      have g1 : (0 : Int) ≤ (i : Int) := by omega
      have g2 : (i : Int) < (k : Int) := by omega
      have g3 : (0 : Int) ≤ (i2 : Int) := by omega
      have g4 : (i2 : Int) < (gl : Int) := by omega
      have g5 : (i2 : Int) + 1 < (gl : Int) := by omega
      have g6 : ((i2 : Int) + 1).toNat = i2 + 1 := by omega
      have w1 : IntKind.i64.wrap ((y1 : Int) * 256) = (y1 : Int) * 256 := wrap_in (by omega)
      clear hi2 hm hy0 hy1 hvv cn_ cg hNi
      go_wp2_with fail
      go_quiet (fail)
      obtain ⟨wq, hwq⟩ : ∃ wq, wr.drewN nq = wq := ⟨_, rfl⟩
      rw [hwq]
      have HAQ : Hid (At wr wq) := Lib.hid (by rw [← hwq]; exact (At.start wr).drewN _)
      have HOQ := Lib.hid (HO.out.on kT HAQ.out)
      have HXZ : Hid (X = none → p = 0 ∧ r = 0) := Lib.hid HX.out.2.2.2.1
      have hpr : p ≤ r := HX.out.2.2.1
      clear e1 e2 e3 hwq hor w1
      have hcase : (((i : Int) == 0) = true ∧ ((v : Int) != 0) = true ∧ Hid (i = 0 ∧ v ≠ 0)) ∨ ((((i : Int) == 0) = false ∨ (((i : Int) == 0) = true ∧ ((v : Int) != 0) = false)) ∧ Hid (i = 0 → v = 0)) := by
        by_cases hi0 : i = 0
        · by_cases hv0 : v = 0
          · exact Or.inr ⟨Or.inr ⟨by simp; omega, by simp; omega⟩, Lib.hid fun _ => hv0⟩
          · exact Or.inl ⟨by simp; omega, by simp; omega, Lib.hid ⟨hi0, hv0⟩⟩
        · exact Or.inr ⟨Or.inl (by simp; omega), Lib.hid fun h => absurd h hi0⟩
      rcases hcase with ⟨z3, z4, HI⟩ | ⟨hcase, HIV⟩
      · have HNO : Hid (∀ s L, Bk s L → bd L = B → ¬ fla L = P) := Lib.hid fun s L hb hB hP => by
          have h1 := HVV.out
          rw [HI.out.1] at h1
          exact of_first (f := f) (P := P) (N := N) h1 HI.out.2 L (HPR.out.of hb hB hP)
        have HAW := Lib.hid (HOQ.out.at_)
        go_wp2_with fail
        try rw [Exit.noGoto_ret]
        go_ret2
        exact ⟨HAW.out, false, none, 0, 0, rfl, fun _ => HNO.out, fun h => by cases h⟩
      obtain ⟨t', ht'⟩ : ∃ t', IntKind.i64.wrap (t + (v : Int)) = t' := ⟨_, rfl⟩
      have HTM : Hid (Tm f P G N i t t' ∧ (i = 0 → t' = f) ∧ (0 ≤ f → f ≤ 1099511627776 → t' = t + ((G.getD (2 * i) 0 + 256 * G.getD (2 * i + 1) 0 : Nat) : Int))) := Lib.hid (by
        have hin : 0 ≤ f → f ≤ 1099511627776 → t' = t + ((G.getD (2 * i) 0 + 256 * G.getD (2 * i + 1) 0 : Nat) : Int) := fun a b => by
          have h1 := (HJ.out.2.gg a b).2
          rw [← HVV.out, ← ht', wrap_in (by omega)]
        refine ⟨fun L hL => ?_, fun h0 => ?_, hin⟩
        · obtain ⟨s, hb⟩ := hL.bk
          have h1 := hb.t0
          have h2 := hL.ff
          exact hin (by omega) (by omega)
        · have h1 := HIV.out h0
          have h2 := HJ.out.1.tt
          have h3 : T.map (·.1) = [] := List.eq_nil_of_length_eq_zero (by rw [HJ.out.1.len, h0])
          rw [h3] at h2
          simp only [lt_] at h2
          rw [← ht', h1, h2, show f + ((0 : Nat) : Int) = f by simp]
          exact wrap_in (by have := HWF.out.1; omega))
      rcases hcase with z3 | ⟨z3, z4⟩
      all_goals
        by_cases hmp : p < m
        · have z5 : decide ((p : Int) < (m : Int)) = true := decide_eq_true (by omega)
          have HNO : Hid (∀ s L, Bk s L → bd L = B → ¬ fla L = P) := Lib.hid fun s L hb hB hP => by
            refine HJ.out.1.far (by rw [HGL.out.2.1]; exact hlt) ?_ L (HPR.out.of hb hB hP)
            rw [HM.out, ← HX.out.2.1]; exact hmp
          have HAW := Lib.hid (HOQ.out.at_)
          go_wp2_with fail
          try rw [Exit.noGoto_ret]
          go_ret2
          exact ⟨HAW.out, false, none, 0, 0, rfl, fun _ => HNO.out, fun h => by cases h⟩
        · have z5 : decide ((p : Int) < (m : Int)) = false := decide_eq_false (by omega)
          have hmp2 : m ≤ p := by omega
          obtain ⟨lm, hlm, hlb, hlc⟩ := pv_pl (HX.out.2.2.2.2.take m)
          have HLM := Lib.hid hlm
          have HLN : Hid (lm.length = m ∧ ((P.drop (tot (T.map (·.1)))).take m).length = m) := Lib.hid (by
            have h1 := congrArg List.length hlm
            have h2 := HX.out.2.1
            rw [List.length_map, List.length_take, List.length_drop] at h1
            rw [List.length_take, List.length_drop]
            omega)
          have HLB : Hid (∀ x ∈ lm, BV wq x.2.1 x.1.2) := Lib.hid fun x hx => (hlb x hx).below HOQ.out.at_
          have HLC := Lib.hid (hlc wq HOQ.out.at_)
          have HLB2 : Hid (∀ x ∈ lm, BVf (ob (.slice B4 i d)) wq x.2.1 x.1.2) := Lib.hid fun x hx => old_bv HOQ.out (hlb x hx)
          have HXM : Hid (X = none → m = 0 ∧ r = 0) := Lib.hid fun h => by have := HXZ.out h; omega
          have hm6 : m ≤ 1000000 := by omega
          have hi6 : i + 1 ≤ 1000000 := by omega
          have HTL : Hid (T.length = i) := Lib.hid HX.out.1
          clear hmp hlm hlb hlc
          obtain ⟨Q, hQ⟩ : ∃ Q, Q = (P.drop (tot (T.map (·.1)))).take m := ⟨_, rfl⟩
          rw [← hQ] at HLM HLN
          have HQ := Lib.hid hQ
          clear hQ
          go_wp2_with (first
            | (refine puts_to rfl (.tmp 92) (.tmp 93) rfl X p r m rfl rfl hmp2 hpr HXZ.out ?_)
            | (at_builtin; refine Ow.append kP rfl (Ow.nil wq) (.const (.slice none 0 0)) (.tmp 94) rfl 0 m m rfl rfl X r lm rfl (fun x hx => none_out (HLB.out x hx)) HLN.out.1 HXM.out HLC.out (Nat.zero_add _) hm6 ?_; intro A5 c5 w5 HG5; have HOT5 := Lib.hid ((HOQ.out.on kT HG5.out.ow.at_).on kT ((At.start w5).alloc (.cells #[.int .i64 t', .slice A5 m c5] 44))); have HPF : Hid (PVf (ob (.slice B4 i d)) (w5.alloc (.cells #[.int .i64 t', .slice A5 m c5] 44)) A5 Q) := Lib.hid (by
                obtain ⟨A6, c6, he, hpf⟩ := OP.pvf HG5.out.ow (F := ob (.slice B4 i d)) (fun g hg => (HOQ.out.row.lt g hg).2) (fun x hx => BVf.mv (HLB2.out x (by simpa using hx)) (Mv.of_below _ HG5.out.ow.at_))
                injection he with he1 _ _
                subst he1
                rw [List.nil_append, HLM.out] at hpf
                exact hpf.mv (Mv.of_below _ ((At.start w5).alloc _))))
            | (at_builtin; refine Ow.append kT rfl HOT5.out (.tmp 90) (.tmp 97) rfl i 1 (i + 1) HTL.out rfl (some ⟨w5.heap.size, 0, none⟩) 1 [((t', Q), A5, c5)] rfl (fun x hx => by rw [List.mem_singleton.1 hx]; exact HPF.out) rfl (fun h => by cases h) (one_laid w5 44 _ _ (by show [_, Value.slice A5 Q.length c5] = _; rw [HLN.out.2])) rfl hi6 ?_; intro A7 c7 w7 HG7)
            | (refine puts_from rfl (.tmp 99) (.tmp 100) rfl X p r m rfl rfl hmp2 hpr HXZ.out ?_; intro X8 p8 r8 HX8))
          go_roundw
          case rel =>
            have htt : (T ++ [(((t', Q), A5, c5) : Tl)]).map (·.1) = T.map (·.1) ++ [(t', Q)] := by rw [List.map_append]; rfl
            have hto : tot (T.map (·.1) ++ [(t', Q)]) = tot (T.map (·.1)) + m := by rw [tot_app]; simp only [tot]; rw [HLN.out.2]; omega
            refine ⟨i + 1, c7, p8, r8, t', X8, A7, T ++ [((t', Q), A5, c5)], by omega, by go_num, rfl, rfl, rfl, Lib.hid ⟨by rw [List.length_append, HTL.out]; rfl, ?_, HX8.out.cap, HX8.out.none, ?_⟩, Lib.hid ?_, Lib.hid ⟨HG7.out.ow, fun x hx a ha => ?_⟩⟩
            · rw [htt, hto, HX8.out.len, HX.out.2.1]; omega
            · rw [htt, hto, ← List.drop_drop]
              exact HX8.out.pv _ _ HX.out.2.2.2.2 (by rw [List.length_drop, HX.out.2.1])
            · rw [htt, HQ.out]
              have hn1 : i < N.length := by rw [HGL.out.2.1]; exact hlt
              have hn3 : m ≤ P.length - tot (T.map (·.1)) := by rw [← HX.out.2.1]; exact hmp2
              exact ⟨HJ.out.1.step hn1 HM.out hn3 HTM.out.1, Jl.step HJ.out.1 HJ.out.2 hn1 HGL.out.1 HGB.out HM.out hn3 HTM.out.2.1 HTM.out.2.2⟩
            · rcases List.mem_append.1 hx with hx | hx
              · exact HNW.out x hx a ha
              · rw [List.mem_singleton.1 hx] at ha
                obtain ⟨A6, c6, he, _, _, hs⟩ := HG5.out.ow.form
                injection he with he1 _ _
                subst he1
                exact Nat.le_trans HOQ.out.at_.size (hs a ha).2.1
          case measure => simp [RowKit.intOf]; omega
    · have hik : i = k := by omega
      have HJ2 : Hid (Jr f P G N N.length (T.map (·.1)) t) := Lib.hid (by rw [HGL.out.2.1, ← hik]; exact HJ.out.1)
      have HJ3 : Hid (Jl f G N k (T.map (·.1)) t ∧ Jr f P G N k (T.map (·.1)) t) := Lib.hid (by rw [← hik]; exact ⟨HJ.out.2, HJ.out.1⟩)
      have HAW := Lib.hid HO.out.at_
      by_cases hp0 : p = 0
      · have z5 : ((p : Int) == 0) = true := by rw [hp0]; rfl
        have HF : Hid (tot (T.map (·.1)) = P.length) := Lib.hid (by have h1 := HX.out.2.1; have h2 := HJ.out.1.le; omega)
        have HTL : Hid (T.length = i) := Lib.hid HX.out.1
        have HI1 : Hid (i ≤ 10000) := Lib.hid (by omega)
        clear hp0 hik
        go_wp2_with fail
        try rw [Exit.noGoto_ret]
        go_ret2
        exact ⟨HAW.out, true, B4, i, d, rfl, fun h => (by cases h), fun _ => ⟨T, HTL.out, HI1.out, HO.out, HNW.out, HJ2.out.done HF.out, fun s hb => HPR.out.bd HBB.out HJ3.out.2 HJ3.out.1 hb, fun s L hb hB hP => HJ2.out.all L (HPR.out.of hb hB hP)⟩⟩
      · have z5 : ((p : Int) == 0) = false := by simp; omega
        have HF : Hid (tot (T.map (·.1)) ≠ P.length) := Lib.hid (by have h1 := HX.out.2.1; omega)
        clear hp0 hik
        go_wp2_with fail
        try rw [Exit.noGoto_ret]
        go_ret2
        exact ⟨HAW.out, false, B4, i, d, rfl, fun _ s L hb hB hP => HJ2.out.rest HF.out L (HPR.out.of hb hB hP), fun h => by cases h⟩

end Go.Proofs.Ytgmekkenodiclaa
