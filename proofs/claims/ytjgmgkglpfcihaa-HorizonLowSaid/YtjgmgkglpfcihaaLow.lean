/- Proved: the law HorizonLow's walk: the least time is no more than anybody's who is there, is somebody's or now's, and does not fall while nobody comes. -/
import Derived.Test.YtjgmgkglpfcihaaIn
namespace Go.Proofs.Ytjgmgkglpfcihaa
open Go.RowKit

/-- The first k of L were opened, and some closed. -/
structure Fr (L : List Int) (k : Nat) (S : St) : Prop where
  most : S.most = 1000
  g : S.g = k
  t : ∀ h ∈ S.H, S.t h = L.getD (h - 1).toNat 0
theorem fr_start (L : List Int) : Fr L 0 (st0 1000) := ⟨rfl, rfl, fun _ h => by cases h⟩
theorem Fr.op {L : List Int} {k : Nat} {S : St} (h : Fr L k S) : Fr L (k + 1) (op S (L.getD k 0)) := by
  refine ⟨h.most, by show S.g + 1 = k + 1; rw [h.g], fun x hx => ?_⟩
  have hx' : x ∈ S.H ++ [(S.g : Int) + 1] := hx
  show (if x = (S.g : Int) + 1 then L.getD k 0 else S.t x) = _
  by_cases e : x = (S.g : Int) + 1
  · rw [if_pos e, e, h.g, show ((k : Int) + 1 - 1).toNat = k by omega]
  · rw [if_neg e]
    rcases List.mem_append.1 hx' with h1 | h1
    · exact h.t x h1
    · exact absurd (List.mem_singleton.1 h1) e
theorem Fr.cl {L : List Int} {k : Nat} {S : St} (h : Fr L k S) (x : Int) : Fr L k (cl S x) := ⟨h.most, h.g, fun y hy => h.t y (mem_dl.1 hy).1⟩
/-- Is the least time now, or one of the first k ones'? -/
def mt (S : St) (now : Int) (k : Nat) : Bool := (lo S now == now) || (S.H.take k).any fun h => S.t h == lo S now
theorem mt_zero (S : St) (now : Int) : mt S now 0 = (lo S now == now) := by unfold mt; simp
theorem mt_step (S : St) (now : Int) (k : Nat) (hk : k < S.H.length) : mt S now (k + 1) = (mt S now k || (S.t (S.H.getD k 0) == lo S now)) := by
  unfold mt
  rw [take_one S.H k hk, List.any_append]
  simp [Bool.or_assoc]
theorem mt_all (S : St) (now : Int) (k : Nat) (hk : S.H.length ≤ k) : mt S now k = true := by
  unfold mt
  rw [List.take_of_length_le hk]
  rcases lo_is S now with e | ⟨h, hh, e⟩
  · rw [e]; simp
  · rw [Bool.or_eq_true]
    right
    rw [List.any_eq_true]
    exact ⟨h, hh, by simp [e]⟩
theorem getD_mem {L : List Int} {k : Nat} (h : k < L.length) : L.getD k 0 ∈ L := by
  rw [List.getD_eq_getElem?_getD, List.getElem?_eq_getElem h]; exact List.getElem_mem _

/-- What the law looks at. -/
def Lin (n q : Nat) (now : Int) : Prop := n ≤ 100 ∧ q ≤ 200 ∧ 0 ≤ now ∧ now ≤ 1099511627776
set_option maxHeartbeats 1000000 in
set_option maxRecDepth 100000 in
theorem low_out (A B : Option Addr) (n c q e : Nat) (now : Int) (h : ¬ Lin n q now) (w : World) : Calls Try.prog 4 #[.slice A n c, .slice B q e, .int .i64 now] w (Gives (.bool true) w) := by
  have HG := Lib.hid awake_any
  by_cases h1 : (100 : Int) < (n : Int)
  · clear h
    go_enter Try.func4, Try.ntmps4
    go_wp2_with (go_at_call 8; refine (HG.out _).mono ?_; rintro e w' ⟨rfl, hb⟩)
    go_ret
    exact ⟨rfl, hb⟩
  have h1 : (n : Int) ≤ 100 := by omega
  by_cases h2 : (200 : Int) < (q : Int)
  · clear h
    go_enter Try.func4, Try.ntmps4
    go_wp2_with (go_at_call 8; refine (HG.out _).mono ?_; rintro e w' ⟨rfl, hb⟩)
    go_ret
    exact ⟨rfl, hb⟩
  have h2 : (q : Int) ≤ 200 := by omega
  by_cases h3 : now < 0
  · clear h
    go_enter Try.func4, Try.ntmps4
    go_wp2_with (go_at_call 8; refine (HG.out _).mono ?_; rintro e w' ⟨rfl, hb⟩)
    go_ret
    exact ⟨rfl, hb⟩
  have h3 : 0 ≤ now := by omega
  have h4 : 1099511627776 < now := by unfold Lin at h; omega
  clear h
  go_enter Try.func4, Try.ntmps4
  go_wp2_with (go_at_call 8; refine (HG.out _).mono ?_; rintro e w' ⟨rfl, hb⟩)
  go_ret
  exact ⟨rfl, hb⟩

section
variable {w wr : World} {b mb n : Nat} {S : St} {L : List Int} {now : Int}
theorem low_open (h : Hs w b mb S wr) (hf : Fr L n S) (hn : n ≤ 100) : Calls Try.prog 10 #[.pointer (some ⟨b, 0, none⟩), .int .i64 (L.getD n 0)] wr fun e w' =>
    (May (L.getD n 0) ∧ e = .returned (.tuple #[.int .i64 ((n : Int) + 1), .int .i64 0]) ∧ Hs w b mb (op S (L.getD n 0)) w') ∨ (¬ May (L.getD n 0) ∧ e = .returned (.tuple #[.int .i64 0, .int .i64 1]) ∧ At w w') := by
  have hO := h.opens (L.getD n 0) (by rw [hf.g]; omega)
  unfold oh oe oS at hO
  have hl : (S.H.length : Int) < S.most := by have := ok_len h.bk.ok; have := hf.g; have := hf.most; omega
  by_cases hm : May (L.getD n 0)
  · rw [if_pos hm, if_pos hm, if_pos hm, if_pos hl, if_pos hl, if_pos hl, hf.g] at hO
    exact hO.mono fun e w' ⟨he, hh⟩ => Or.inl ⟨hm, he, hh⟩
  · rw [if_neg hm, if_neg hm, if_neg hm] at hO
    exact hO.mono fun e w' ⟨he, hh⟩ => Or.inr ⟨hm, he, hh.stands⟩
end

set_option maxHeartbeats 4000000 in
set_option maxRecDepth 100000 in
theorem low_in (A B : Option Addr) (n c q e : Nat) (now : Int) (L C : List Int) (h1 : n ≤ 100) (h2 : q ≤ 200) (h3 : 0 ≤ now) (h4 : now ≤ 1099511627776) (hl : L.length = n) (hcl : C.length = q) (hk : ∀ x ∈ C, Kw x) (w : World) (hv : IV w A L) (hvc : IV w B C) :
    Calls Try.prog 4 #[.slice A n c, .slice B q e, .int .i64 now] w (Gives (.bool true) w) := by
  have e1 : decide ((100 : Int) < (n : Int)) = false := decide_eq_false (by omega)
  have e2 : decide ((200 : Int) < (q : Int)) = false := decide_eq_false (by omega)
  have e3 : decide (now < 0) = false := decide_eq_false (by omega)
  have e4 : decide ((1099511627776 : Int) < now) = false := decide_eq_false (by omega)
  have HL := Lib.hid hl
  have HCL := Lib.hid hcl
  have HK := Lib.hid hk
  have HV := Lib.hid hv
  have HVC := Lib.hid hvc
  have HG := Lib.hid awake_any
  clear hl hcl hk hv hvc h3 h4
  go_enter Try.func4, Try.ntmps4
  go_wp2_with fail
  refine (new_any 1000 w).mono ?_
  rintro x w1 ⟨b, mb, rfl, hb, hb1, hb2, hA⟩
  have HS1 : Hid (Hs w b mb (st0 1000) w1) := Lib.hid (Hs.start hb hb1 hb2 hA (At.start w))
  clear hb hb1 hb2 hA
  go_wp2
  go_loopw [8] (fun i wr => ∃ (k : Nat) (S : St), k ≤ n ∧ i = .int .i64 (k : Int) ∧ Hid (Hs w b mb S wr ∧ Fr L k S)) (fun i _ => n - (RowKit.intOf i).toNat)
  case atStart => exact ⟨0, st0 1000, by omega, rfl, Lib.hid ⟨HS1.out, fr_start L⟩⟩
  case round =>
    clear HS1
    obtain ⟨k, S, hk, rfl, HS⟩ := hrel
    by_cases hlt : k < n
    · obtain ⟨lb, off, rfl, hlb, hcs⟩ := HV.out.pos (by rw [HL.out]; omega)
      have HCX : Hid (∀ W, At w W → W.cell? ⟨lb, off + k, none⟩ = some (.int .i64 (L.getD k 0))) := Lib.hid fun W hW => (Below.cell hW (p := ⟨lb, off + k, none⟩) hlb).trans (hcs k (by rw [HL.out]; exact hlt))
      have HO := Lib.hid (low_open HS.out.1 HS.out.2 (by omega))
      have HF : Hid (Fr L (k + 1) (op S (L.getD k 0))) := Lib.hid HS.out.2.op
      obtain ⟨x, hx⟩ : ∃ x, x = L.getD k 0 := ⟨_, rfl⟩
      rw [← hx] at HCX HO HF
      have hc := HCX.out wr HS.out.1.stands
      have g1 : (0 : Int) ≤ (k : Int) := by omega
      have g2 : (k : Int) < (n : Int) := by omega
      have nb : ((k : Int) + 1 != (k : Int) + 1) = false := by simp
      clear hcs hlb hx
      go_wp2_with fail
      refine HO.out.mono ?_
      rintro y w3 (⟨hm, rfl, hs3⟩ | ⟨hm, rfl, ha3⟩)
      · have HS3 := Lib.hid hs3
        clear hs3 hm
        go_wp2
        go_roundw
        case rel => exact ⟨k + 1, _, by omega, by go_num, Lib.hid ⟨HS3.out, HF.out⟩⟩
        case measure => simp [RowKit.intOf]; omega
      · have HA3 := Lib.hid ha3
        have hc := HCX.out w3 ha3
        clear ha3
        unfold May at hm
        by_cases hx0 : x < 0
        · clear hm
          go_wp2_with fail
          refine (HG.out _).mono ?_
          rintro y w4 ⟨rfl, ha⟩
          have HA4 : Hid (At w w4) := Lib.hid (HA3.out.next ha)
          clear ha
          go_wp2
          go_ret
          exact ⟨rfl, HA4.out⟩
        · have hx1 : 1099511627776 < x := by omega
          have hx0 : decide (x < 0) = false := decide_eq_false (by omega)
          clear hm
          go_wp2_with fail
          refine (HG.out _).mono ?_
          rintro y w4 ⟨rfl, ha⟩
          have HA4 : Hid (At w w4) := Lib.hid (HA3.out.next ha)
          clear ha
          go_wp2
          go_ret
          exact ⟨rfl, HA4.out⟩
    · have hkn : k = n := by omega
      subst hkn
      go_wp2_with fail
      refine (low_bk HS.out.1.bk now).mono ?_
      rintro y w3 ⟨rfl, ha⟩
      have HS3 : Hid (Hs w b mb S w3 ∧ Fr L k S) := Lib.hid ⟨HS.out.1.on ha, HS.out.2⟩
      clear ha HS
      obtain ⟨ls, hls⟩ : ∃ ls, ls = lo S now := ⟨_, rfl⟩
      rw [← hls]
      have HLS := Lib.hid hls
      clear hls
      go_wp2
      go_loopw [11, 12] (fun c11 c12 wr => ∃ (i : Nat) (S : St) (ls : Int), i ≤ q ∧ c12 = .int .i64 (i : Int) ∧ c11 = .int .i64 ls ∧ Hid (ls = lo S now ∧ Hs w b mb S wr ∧ Fr L k S)) (fun _ c12 _ => q - (RowKit.intOf c12).toNat)
      case atStart => exact ⟨0, S, ls, by omega, rfl, rfl, Lib.hid ⟨HLS.out, HS3.out⟩⟩
      case round =>
        clear HS3 HLS
        obtain ⟨i, S, ls, hi, rfl, rfl, HS⟩ := hrel
        by_cases hlt2 : i < q
        · obtain ⟨vb, vo, rfl, hvb, hcs⟩ := HVC.out.pos (by rw [HCL.out]; omega)
          have HCX : Hid (∀ W, At w W → W.cell? ⟨vb, vo + i, none⟩ = some (.int .i64 (C.getD i 0))) := Lib.hid fun W hW => (Below.cell hW (p := ⟨vb, vo + i, none⟩) hvb).trans (hcs i (by rw [HCL.out]; exact hlt2))
          have HKY : Hid (Kw (C.getD i 0)) := Lib.hid (kw_get HK.out i)
          obtain ⟨y, hy⟩ : ∃ y, y = C.getD i 0 := ⟨_, rfl⟩
          rw [← hy] at HCX HKY
          have hc := HCX.out wr HS.out.2.1.stands
          have g1 : (0 : Int) ≤ (i : Int) := by omega
          have g2 : (i : Int) < (q : Int) := by omega
          clear hcs hvb hy
          have HF2 : Hid (Fr L k (cl S y)) := Lib.hid (HS.out.2.2.cl y)
          have HLE : Hid (ls ≤ lo (cl S y) now) := Lib.hid (by rw [HS.out.1]; exact lo_cl S now y)
          go_wp2_with fail
          refine (HS.out.2.1.closes y HKY.out).mono ?_
          rintro x w4 ⟨rfl, hs4⟩
          have HS4 := Lib.hid hs4
          clear hs4 hc HS
          obtain ⟨S2, hS2⟩ : ∃ S2, S2 = cl S y := ⟨_, rfl⟩
          rw [← hS2] at HS4 HF2 HLE
          clear hS2
          go_wp2_with fail
          refine (low_bk HS4.out.bk now).mono ?_
          rintro x w5 ⟨rfl, ha5⟩
          have HS5 := Lib.hid (HS4.out.on ha5)
          clear ha5 HS4
          have HMZ := Lib.hid (mt_zero S2 now)
          have HMS := Lib.hid (mt_step S2 now)
          have HMA := Lib.hid (mt_all S2 now)
          have HLN := Lib.hid (lo_le S2 now)
          have HLA := Lib.hid (fun h hh => lo_all S2 now (h := h) hh)
          obtain ⟨lw, hlw⟩ : ∃ lw, lw = lo S2 now := ⟨_, rfl⟩
          rw [← hlw] at HMZ HMS HLE HLN HLA
          rw [← hlw]
          have HLW := Lib.hid hlw
          clear hlw
          go_wp2_with fail
          refine (list_bk HS5.out.bk).mono ?_
          rintro x w6 ⟨A6, c6, rfl, -, hi6, -, ha6⟩
          have HS6 := Lib.hid (HS5.out.on ha6)
          have HI6 := Lib.hid hi6
          clear ha6 hi6 HS5
          have hm100 := ok_len HS6.out.bk.ok
          rw [HF2.out.g] at hm100
          obtain ⟨H, hH⟩ : ∃ H, H = S2.H := ⟨_, rfl⟩
          rw [← hH] at HI6 HMS HMA HLA hm100
          rw [← hH]
          have HHH := Lib.hid hH
          obtain ⟨m, hm⟩ : ∃ m, m = H.length := ⟨_, rfl⟩
          rw [← hm] at HMS HMA hm100
          rw [← hm]
          have HM := Lib.hid hm
          clear hH hm
          go_wp2
          go_loopw [14, 16] (fun c14 c16 wx => ∃ (j : Nat) (mv : Bool), j ≤ m ∧ c16 = .int .i64 (j : Int) ∧ c14 = .bool mv ∧ Hid (mv = mt S2 now j) ∧ wx = w6) (fun _ c16 _ => m - (RowKit.intOf c16).toNat)
          case atStart => exact ⟨0, lw == now, by omega, rfl, rfl, Lib.hid HMZ.out.symm, rfl⟩
          case round =>
            obtain ⟨j, mv, hj, rfl, rfl, HMV, rfl⟩ := hrel
            by_cases hlt3 : j < m
            · obtain ⟨hb, ho, rfl, -, hcs⟩ := HI6.out.pos (by rw [← HM.out]; omega)
              have hc := hcs j (by rw [← HM.out]; exact hlt3)
              have HMJ := Lib.hid (HMS.out j hlt3)
              have HIN : Hid (H.getD j 0 ∈ H) := Lib.hid (getD_mem (by rw [← HM.out]; exact hlt3))
              have hmem : H.getD j 0 ∈ S2.H := by rw [← HHH.out]; exact HIN.out
              have hAT := at_bk HS6.out.bk (H.getD j 0) (by have h1 := HS6.out.bk.ok.rng _ hmem; have h2 := HS6.out.bk.ok.g1; exact ky_wf (by omega) (by omega))
              rw [tm_in hmem, cd_in hmem] at hAT
              have HAT := Lib.hid hAT
              have hft := HF2.out.t _ hmem
              have hrg := HS6.out.bk.ok.rng _ hmem
              rw [HF2.out.g] at hrg
              have hge := HLA.out _ HIN.out
              obtain ⟨x, hx⟩ : ∃ x, x = H.getD j 0 := ⟨_, rfl⟩
              rw [← hx] at hc HMJ HAT hft hrg hge
              clear hAT hmem hcs HIN hx
              obtain ⟨jj, hjj⟩ : ∃ jj : Nat, x - 1 = (jj : Int) := ⟨(x - 1).toNat, by omega⟩
              obtain ⟨lb, off, rfl, hlb, hls⟩ := HV.out.pos (by rw [HL.out]; omega)
              have hcl := (Below.cell HS6.out.stands (p := ⟨lb, off + jj, none⟩) hlb).trans (hls jj (by rw [HL.out]; omega))
              rw [hjj, Int.toNat_natCast] at hft
              rw [← hft] at hcl
              obtain ⟨t, ht⟩ : ∃ t, t = S2.t x := ⟨_, rfl⟩
              rw [← ht] at hcl HMJ HAT hge
              have g3 : (0 : Int) ≤ (j : Int) := by omega
              have g4 : (j : Int) < (m : Int) := by omega
              have g5 : (0 : Int) ≤ (jj : Int) := by omega
              have g6 : (jj : Int) < (k : Int) := by omega
              have g7 : decide (t < lw) = false := decide_eq_false (by omega)
              have nb : (t != t) = false := by simp
              clear hls hlb hft ht hge
              have gx : -9223372036854775808 ≤ x - 1 ∧ x - 1 ≤ 9223372036854775807 := by omega
              clear hrg
              cases mv
              · by_cases htl : t = lw
                · have q1 : (t == lw) = true := by simpa using htl
                  have HQ1 := Lib.hid q1
                  clear htl
                  go_wp2_with fail
                  refine HAT.out.mono ?_
                  rintro z w' ⟨rfl, rfl⟩
                  go_wp2
                  go_roundw
                  case rel => exact ⟨j + 1, true, by omega, by go_num, rfl, Lib.hid (by rw [HMJ.out, ← HMV.out]; rw [HQ1.out]; rfl), by first | rfl | trivial⟩
                  case measure => simp [RowKit.intOf]; omega
                · have q1 : (t == lw) = false := by simpa using htl
                  have HQ1 := Lib.hid q1
                  clear htl
                  go_wp2_with fail
                  refine HAT.out.mono ?_
                  rintro z w' ⟨rfl, rfl⟩
                  go_wp2
                  go_roundw
                  case rel => exact ⟨j + 1, false, by omega, by go_num, rfl, Lib.hid (by rw [HMJ.out, ← HMV.out]; rw [HQ1.out]; rfl), by first | rfl | trivial⟩
                  case measure => simp [RowKit.intOf]; omega
              · go_wp2_with fail
                refine HAT.out.mono ?_
                rintro z w' ⟨rfl, rfl⟩
                go_wp2
                go_roundw
                case rel => exact ⟨j + 1, true, by omega, by go_num, rfl, Lib.hid (by rw [HMJ.out, ← HMV.out]; rfl), by first | rfl | trivial⟩
                case measure => simp [RowKit.intOf]; omega
            · have hmj : m ≤ j := by omega
              have hmt := HMA.out j hmj
              rw [← HMV.out] at hmt
              subst hmt
              have hjm : j = m := by omega
              subst hjm
              have q1 : decide (lw < ls) = false := decide_eq_false (by have := HLE.out; omega)
              have q2 : decide (now < lw) = false := decide_eq_false (by have := HLN.out; omega)
              clear hmj
              go_wp2
              go_roundw
              case rel => exact ⟨i + 1, S2, lw, by omega, by go_num, rfl, Lib.hid ⟨HLW.out, HS6.out, HF2.out⟩⟩
              case measure => simp [RowKit.intOf]; omega
        · have HA := Lib.hid HS.out.2.1.stands
          clear HS
          go_wp2_with fail
          refine (HG.out _).mono ?_
          rintro x w9 ⟨rfl, ha⟩
          have HA9 : Hid (At w w9) := Lib.hid (HA.out.next ha)
          clear ha
          go_wp2
          go_ret
          exact ⟨rfl, HA9.out⟩

theorem low_any (A B : Option Addr) (n c q e : Nat) (now : Int) (L C : List Int) (hl : L.length = n) (hcl : C.length = q) (hk : ∀ x ∈ C, Kw x) (w : World) (hv : IV w A L) (hvc : IV w B C) :
    Calls Try.prog 4 #[.slice A n c, .slice B q e, .int .i64 now] w (Gives (.bool true) w) := by
  by_cases h : Lin n q now
  · exact low_in A B n c q e now L C h.1 h.2.1 h.2.2.1 h.2.2.2 hl hcl hk w hv hvc
  · exact low_out A B n c q e now h w

end Go.Proofs.Ytjgmgkglpfcihaa
