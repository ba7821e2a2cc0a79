/- Proved: what Take of the document's own allocator does. -/
import Derived.Test.YtheldhbdhadliaaDoc
namespace Go.Proofs.Ytheldhbdhadliaa
open Go.RowKit

section
variable {w : World} {b f g n sp : Nat} {L : List St}
set_option maxHeartbeats 1000000 in
theorem rtake_none (h : Ra w b f g n sp L) (r : Bool) (hr : nf L = 0 ∨ r = false ∧ nf L ≤ sp) : Calls Try.prog 12 #[.pointer (some ⟨b, 0, none⟩), .bool r] w (RTurns b f g n sp (.tuple #[.int .i64 0, .int .i64 9]) L w) := by
  obtain ⟨m, hm⟩ : ∃ m, m = nf L := ⟨_, rfl⟩
  rw [← hm] at hr
  have hlen : (fr L n).length = m := by rw [hm]; unfold nf; rw [h.len]
  have HLN := Lib.hid hlen
  have H := Lib.hid h
  clear h hm hlen
  by_cases h0 : m = 0
  · subst h0
    clear hr
    go_enter Try.func12, Try.ntmps12
    go_wp2_with fail
    refine (list_ra H.out).mono ?_
    rintro e w' ⟨v, rfl, hl⟩
    obtain ⟨A, c, rfl, _, _⟩ := own_nv hl.own
    rw [HLN.out]
    have H2 : Hid (Ra w' b f g n sp L ∧ Mv (fun x => x = f ∨ x = g) w w') := Lib.hid ⟨H.out.on hl.stands, Mv.of_at _ hl.stands⟩
    clear hl
    go_wp2
    go_ret2
    exact ⟨rfl, H2.out⟩
  · obtain ⟨rfl, hle⟩ := hr.resolve_left h0
    have t0 : ((m : Int) == 0) = false := by simp; omega
    have t1 : decide (m ≤ sp) = true := decide_eq_true hle
    clear hr
    go_enter Try.func12, Try.ntmps12
    go_wp2_with fail
    refine (list_ra H.out).mono ?_
    rintro e w' ⟨v, rfl, hl⟩
    obtain ⟨A, c, rfl, _, _⟩ := own_nv hl.own
    rw [HLN.out]
    have H2 : Hid (Ra w' b f g n sp L ∧ Mv (fun x => x = f ∨ x = g) w w') := Lib.hid ⟨H.out.on hl.stands, Mv.of_at _ hl.stands⟩
    obtain ⟨-, -, c2⟩ := H2.out.1.cells
    clear hl
    go_wp2
    go_ret2
    exact ⟨rfl, H2.out⟩

set_option maxHeartbeats 2000000 in
set_option maxRecDepth 100000 in
theorem rtake_some (h : Ra w b f g n sp L) (r : Bool) (k : Nat) (h0 : 0 < nf L) (hr : r = false → sp < nf L) (hk : Least L n k) : Calls Try.prog 12 #[.pointer (some ⟨b, 0, none⟩), .bool r] w (RTurns b f g n sp (.tuple #[.int .i64 (k : Int), .int .i64 0]) (tk L k) w) := by
  have HE : Hid (∀ x, Among L (nf L) x → x = k) := Lib.hid fun x hx => by
    have := hx.end_
    rw [h.len] at this
    exact least_one this hk
  have HST : Hid (Among L 0 ((fr L n).getD 0 0)) := Lib.hid (by rw [← h.len]; exact Among.start h0)
  have HSS : Hid (∀ i x, Among L i x → i < nf L → ¬ (sa L ((fr L n).getD i 0)).w < (sa L x).w → Among L (i + 1) x) := Lib.hid fun i x hx hi hw => hx.stays hi (by rw [h.len]; exact hw)
  have HLS : Hid (∀ i x, Among L i x → i < nf L → (sa L ((fr L n).getD i 0)).w < (sa L x).w → Among L (i + 1) ((fr L n).getD i 0)) := Lib.hid fun i x hx hi hw => by
    have := hx.less hi (by rw [h.len]; exact hw)
    rw [h.len] at this; exact this
  have HAT : Hid (∀ i, i < nf L → (fr L n).getD i 0 < n) := Lib.hid fun i hi => (fr_at L n (by unfold nf at hi; rw [h.len] at hi; exact hi)).1
  have HLT : Hid (∀ i x, Among L i x → x < n) := Lib.hid fun i x hx => by
    obtain ⟨p, h1, _, rfl, _⟩ := hx
    rw [h.len]
    exact (fr_at L n (by unfold nf at h1; rw [h.len] at h1; exact h1)).1
  have hkn := hk.1
  obtain ⟨m, hm⟩ : ∃ m, m = nf L := ⟨_, rfl⟩
  have hlen : (fr L n).length = m := by rw [hm]; unfold nf; rw [h.len]
  have hm64 : m ≤ 64 := by have := fr_len L n; have := h.top; omega
  rw [← hm] at hr h0 HE HSS HLS HAT
  have HLN := Lib.hid hlen
  have H := Lib.hid h
  have t0 : ((m : Int) == 0) = false := by simp; omega
  have HT : Hid (r = false → decide (m ≤ sp) = false) := Lib.hid fun e => decide_eq_false (by have := hr e; omega)
  have g1 : (0 : Int) ≤ (k : Int) := by omega
  have g2 : (k : Int) < (n : Int) := by omega
  have hm0 : (0 : Int) < (m : Int) := by omega
  clear hm hr h hk hlen
  obtain ⟨F, hF⟩ : ∃ F, F = fr L n := ⟨_, rfl⟩
  rw [← hF] at HST HSS HLS HAT HLN
  have HFF := Lib.hid hF
  clear hF
  cases r
  all_goals
    try have t1 := HT.out rfl
    go_enter Try.func12, Try.ntmps12
    go_wp2_with fail
    refine (list_ra H.out).mono ?_
    rintro e w1 ⟨v, rfl, hl⟩
    rw [← HFF.out] at hl
    obtain ⟨A, c, rfl, _, hnv⟩ := own_nv hl.own
    obtain ⟨lb, lo, rfl, hlb, hcs⟩ := hnv.pos (by rw [HLN.out]; exact h0)
    rw [HLN.out] at hcs ⊢
    have H2 : Hid (Ra w1 b f g n sp L ∧ At w w1 ∧ ∀ j, j < m → w1.cell? ⟨lb, lo + j, none⟩ = some (.int .i64 ((F.getD j 0 : Nat) : Int))) := Lib.hid ⟨H.out.on hl.stands, hl.stands, hcs⟩
    have hl0 := hcs 0 h0
    rw [Nat.add_zero] at hl0
    obtain ⟨-, -, c2⟩ := H2.out.1.cells
    obtain ⟨x0, hx0⟩ : ∃ x0, x0 = F.getD 0 0 := ⟨_, rfl⟩
    rw [← hx0] at hl0
    have HA0 : Hid (Among L 0 x0) := Lib.hid (by rw [hx0]; exact HST.out)
    clear hl hnv hcs hlb hx0
    go_wp2
    go_loopw [7, 8] (fun c7 c8 wr => ∃ i x q : Nat, i ≤ m ∧ c8 = .int .i64 (i : Int) ∧ c7 = .int .i64 (x : Int) ∧ Hid (Among L i x) ∧ Hid (wr = w1.drewN q)) (fun _ c8 _ => m - (intOf c8).toNat)
    case atStart => exact ⟨0, x0, 0, by omega, rfl, rfl, HA0, Lib.hid rfl⟩
    case round =>
      clear HA0 hl0 c2
      obtain ⟨i, x, q, hi, rfl, rfl, HA, HW⟩ := hrel
      have hv : Ra wr b f g n sp L := by rw [HW.out]; exact H2.out.1.on ((At.start _).drewN q)
      have hxn := HLT.out i x HA.out
      by_cases hlt : i < m
      · have hc : wr.cell? ⟨lb, lo + i, none⟩ = some (.int .i64 ((F.getD i 0 : Nat) : Int)) := by rw [HW.out]; exact H2.out.2.2 i hlt
        have hyn := HAT.out i hlt
        have HS := Lib.hid (HSS.out i x HA.out hlt)
        have HL := Lib.hid (HLS.out i x HA.out hlt)
        obtain ⟨y, hy⟩ : ∃ y, y = F.getD i 0 := ⟨_, rfl⟩
        rw [← hy] at hc hyn HS HL
        obtain ⟨-, c1, -⟩ := hv.cells
        have cx := hv.cw hxn
        have cy := hv.cw hyn
        obtain ⟨wx, hwx⟩ : ∃ wx, wx = (sa L x).w := ⟨_, rfl⟩
        obtain ⟨wy, hwy⟩ : ∃ wy, wy = (sa L y).w := ⟨_, rfl⟩
        rw [← hwx] at cx HS HL
        rw [← hwy] at cy HS HL
        have g3 : (0 : Int) ≤ (i : Int) := by omega
        have g4 : (i : Int) < (m : Int) := by omega
        have g5 : (0 : Int) ≤ (x : Int) := by omega
        have g6 : (x : Int) < (n : Int) := by omega
        have g7 : (0 : Int) ≤ (y : Int) := by omega
        have g8 : (y : Int) < (n : Int) := by omega
        have HWW : Hid (∀ p, wr.drewN p = w1.drewN (q + p)) := Lib.hid fun p => by rw [HW.out, World.drewN_drewN]
        have HCY : Hid (∀ p, (wr.drewN p).cell? ⟨lb, lo + i, none⟩ = some (.int .i64 (y : Int))) := Lib.hid fun p => hc
        clear hv hy hwx hwy HW HA
        by_cases hw : wy < wx
        · have t2 : decide (wy < wx) = true := decide_eq_true hw
          have HN : Hid (Among L (i + 1) y) := Lib.hid (HL.out hw)
          clear hw HS HL
          go_wp2
          go_quiet (fail)
          go_wp2
          go_roundw
          case rel => exact ⟨i + 1, y, _, by omega, by go_num, rfl, HN, Lib.hid (HWW.out _)⟩
          case measure => simp [intOf]; omega
        · have t2 : decide (wy < wx) = false := decide_eq_false hw
          have HN : Hid (Among L (i + 1) x) := Lib.hid (HS.out hw)
          clear hw HS HL
          go_wp2
          go_quiet (fail)
          go_wp2
          go_roundw
          case rel => exact ⟨i + 1, x, _, by omega, by go_num, rfl, HN, Lib.hid (HWW.out _)⟩
          case measure => simp [intOf]; omega
      · have him : i = m := by omega
        subst him
        have hxk := HE.out x HA.out
        subst hxk
        obtain ⟨c0, -, -⟩ := hv.cells
        have cf := hv.cf hxn
        have ff := hv.ffree x
        have HA1 : Hid (At w wr) := Lib.hid (by rw [HW.out]; exact H2.out.2.1.drewN q)
        have H4 : Hid (Ra (wr.setCell ⟨f, x, none⟩ (.bool false)) b f g n sp (tk L x) ∧ Mv (fun y => y = f ∨ y = g) w (wr.setCell ⟨f, x, none⟩ (.bool false))) := Lib.hid ⟨hv.take x, (Mv.of_at _ HA1.out).trans (mv_f wr f g x _)⟩
        clear hv HW HA
        go_wp2
        go_ret2
        exact ⟨rfl, H4.out⟩
end

end Go.Proofs.Ytheldhbdhadliaa
