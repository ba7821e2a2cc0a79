/- Proved: what the landed commitBlock hands back: the last block of a batch, its body in memory of its own. -/
import Derived.Test.YtgmekkenodiclaaDb
import Derived.Test.YtgmekkenodiclaaRde
import Derived.Test.YtgmekkenodiclaaDvp
namespace Go.Proofs.Ytgmekkenodiclaa
open Go.RowKit
attribute [local go_sem ↓] Go.wp_at_zero Go.wp_at_succ

/-- Eight bytes of a number, in a row of the call's own. -/
def Eight (v : Nat) (w : World) (e : Ending) (w' : World) : Prop := ∃ g, e = .returned (.slice (some ⟨g, 0, none⟩) 8 8) ∧ w'.ownsRow w.heap.size 5 1 (.slice (some ⟨g, 0, none⟩) 8 8) 8 ((pt 8 v).map bt) ∧ At w w'
set_option maxHeartbeats 2000000 in
set_option maxRecDepth 100000 in
theorem put_8o (v : Nat) (hv : v < 18446744073709551616) (w : World) :
    Calls Try.prog 53 #[.int .u64 (v : Int), .int .i64 8] w (Eight v w) := by
  have hmk : (Instr.makeSlice 39 (.int .i64 8) (.int .i64 8)).run Try.prog w = .ok (.slice (some ⟨w.heap.size, 0, none⟩) 8 8) (w.alloc (.cells #[.int .u8 0, .int .u8 0, .int .u8 0, .int .u8 0, .int .u8 0, .int .u8 0, .int .u8 0, .int .u8 0] 5)) := by
    have := make_u8 8 (by omega) w
    rwa [made8] at this
  have HP : Hid (pt 8 v = [v % 256, v / 256 % 256, v / 65536 % 256, v / 16777216 % 256, v / 4294967296 % 256, v / 1099511627776 % 256, v / 281474976710656 % 256, v / 72057594037927936]) := Lib.hid (by rw [pt8, Nat.mod_eq_of_lt (show v / 72057594037927936 < 256 by omega)])
  go_enter Try.func53, Try.ntmps53
  go_wp2
  refine wp_loop_rounds 9 ?_
  iterate 9 (rw [rounds_succ]; go_wp2)
  go_ret
  refine ⟨_, rfl, ?_, (At.start w).alloc _⟩
  rw [HP.out]
  exact World.ownsRow_lit w _ 8 (Nat.le_refl _) (by unfold maxLen; omega) rfl
set_option maxRecDepth 100000 in
theorem put64_o (v : Nat) (hv : v < 18446744073709551616) (w : World) :
    Calls Try.prog 46 #[.int .u64 (v : Int)] w (Eight v w) := by
  have H := Lib.hid (put_8o v hv w)
  go_enter Try.func46, Try.ntmps46
  go_wp2_with (go_at_call 53; refine H.out.mono ?_; rintro e w1 ⟨g, rfl, h2, h3⟩; have H2 := Lib.hid h2; have H3 := Lib.hid h3; clear h2 h3)
  go_ret
  exact ⟨g, rfl, H2.out, H3.out⟩

theorem own_grow {w0 W w' : World} {base n : Nat} {e : TypeId} {s : Nat} {v : Value} {xs : List Value} (ho : W.ownsRow base e s v n xs) (hA : At w0 W) (hle : w0.heap.size ≤ base) (hg : W.grownBy w' v.ownBlock) : At w0 w' :=
  Below.grown hA hg hA.size (fun j hj => Nat.le_trans hle (ho.lt j hj).1)
theorem own_low {w : World} {B B' n s : Nat} {e : TypeId} {v : Value} {xs : List Value} (h : w.ownsRow B e s v n xs) (hle : B' ≤ B) : w.ownsRow B' e s v n xs := by
  refine ⟨h.1, ?_⟩
  rcases h.2 with h1 | ⟨g, cap, cur, hv, hB, hh⟩
  · exact Or.inl h1
  · exact Or.inr ⟨g, cap, cur, hv, Nat.le_trans hle hB, hh⟩
theorem lt_all (b : Int) (L : List Tx) (k : Nat) (h : k < L.length) : lt_ b (L.take k) = if k = 0 then b else (L.getD (k - 1) txz).1 := by
  cases k with
  | zero => rw [if_pos rfl, List.take_zero]; rfl
  | succ j => rw [if_neg (by omega), Nat.add_sub_cancel, lt_take b L j (by omega)]
theorem gap_of {s : Int} {L : List Tx} (hb : Bk s L) {k : Nat} (h : k < L.length) : ∃ u : Nat, u ≤ 65535 ∧ (L.getD k txz).1 - lt_ (t0 L) (L.take k) = (u : Int) ∧ gp (t0 L) (L.take (k + 1)) = gp (t0 L) (L.take k) ++ pt 2 u ∧ lt_ (t0 L) (L.take (k + 1)) = (L.getD k txz).1 := by
  obtain ⟨v, h1, h2, _, _, _⟩ := Of.gap (f := t0 L) (P := fla L) (G := gp (t0 L) L) (N := cn L) ⟨⟨s, hb⟩, rfl, rfl, rfl, rfl⟩ h
  refine ⟨v, h1, by omega, ?_, lt_take _ L k h⟩
  rw [tx_split h, gp_snoc, h2]
  congr 2; omega
theorem cn_more {L : List Tx} {k : Nat} (h : k < L.length) : (cn L).take (k + 1) = (cn L).take k ++ [(L.getD k txz).2.length] := by
  rw [← cn_take, tx_split h, cn_app, ← cn_take]; rfl
theorem pt_four (u : Nat) : (pt 4 u).take 2 = pt 2 u := by
  rw [pt4, pt_pair]; simp

/-- A block of another element type is not the row's. -/
theorem own_far {w : World} {B n s k t : Nat} {e : TypeId} {v : Value} {xs : List Value} {cs : Array Value} (ho : w.ownsRow B e s v n xs) (hk : w.heap[k]? = some (.cells cs t (0, 0))) (ht : t ≠ e) : v.ownBlock ≠ some k := by
  rcases ho.2 with ⟨rfl, _⟩ | ⟨g, cap, cur, rfl, _, hh, _⟩
  · intro h; cases h
  · intro h
    have h : some g = some k := h
    injection h with h
    subst h
    rw [hk] at hh
    injection hh with hh
    injection hh with _ h2
    exact ht h2
/-- An append to a row of the call's own, of whatever slice of bytes; what lies elsewhere stays. -/
theorem list_append2 {w : World} {ops : Array Oper} {rest : List Oper} {o : Oper} {a : Act} {Q : Exit → Act → World → Prop} (hgd : o.guard = none) (s x : Operand)
    (ho : o.op = .call { callee := .builtin .append, args := #[s, x], argTypes := #[39, 39] }) (base : Nat) (v : Value) (n : Nat) (xs : List Nat) (hs : a.eval s = v) (hown : w.ownsRow base 5 1 v n (xs.map bt))
    (ad : Addr) (m c : Nat) (L : List Nat) (hx : a.eval x = .slice (some ad) m c) (hv : BV w (some ad) L) (hl : L.length = m) (h63 : n + m ≤ 1000000) (hbase : base ≤ w.heap.size)
    (h : ∀ v' w', w'.ownsRow base 5 1 v' (n + m) ((xs ++ L).map bt) → (∀ w0, At w0 w → w0.heap.size ≤ base → At w0 w') → Mv (fun j => v.ownBlock = some j) w w' → wpList Try.prog ops Q rest (a.put o.dst v') w') : wpList Try.prog ops Q (o :: rest) a w := by
  obtain ⟨i0, hi, hz0, hz1, hz2⟩ := info_parts info_u8
  refine wpList_append_own _ hgd s x 39 ho base 5 i0 (.int .u8 0) 1 1 Try.underlying39 hi hz0 hz1 hz2 rfl (by decide) v n (xs.map bt) hs hown ad m c (L.map bt) hx (by rw [List.length_map, hl, Nat.mul_one]) hv.src (bt_one _) (by unfold maxLen; omega) (by omega) hbase ?_
  intro v' w' ho' hg _
  exact h v' w' (by rw [List.map_append]; exact ho') (fun w0 h0 hle => Below.grown h0 hg h0.size (fun j hj => Nat.le_trans hle (hown.lt j hj).1)) ((Mv.refl _ _).grown hg fun j hj => Or.inl hj)

set_option maxHeartbeats 4000000 in
set_option maxRecDepth 100000 in
theorem commit_any (s : Int) (A : Option Addr) (L : List Tx) (n c : Nat) (hn : L.length = n) (hb : Bk s L) (w : World) (hv : TV w A L) :
    Calls Try.prog 29 #[.agg #[.int .i64 s, .slice A n c]] w fun e w' => ∃ (g d : Nat), e = .returned (.agg #[.int .i64 2, .int .i64 0, .int .i64 0, .int .i64 (tot L : Int), .slice (some ⟨g, 0, none⟩) (9 + 3 * n) d]) ∧ BV w' (some ⟨g, 0, none⟩) (bd L) ∧ w.heap.size ≤ g ∧ At w w' := by
  have HN := Lib.hid hn
  have HBK := Lib.hid hb
  have hn8 : n ≤ 8 := by rw [← hn]; exact hb.n8
  have hn1 : 1 ≤ n := by rw [← hn]; exact hb.ne
  have ht32 := hb.n32
  obtain ⟨q, hq⟩ : ∃ q, w.heap.size = q := ⟨_, rfl⟩
  obtain ⟨wb, hwb⟩ : ∃ wb, w.alloc (.cells #[.int .i64 s, .slice A n c] 27) = wb := ⟨_, rfl⟩
  have hAB : At w wb := by rw [← hwb]; exact (At.start w).alloc _
  have hQ : wb.heap[q]? = some (.cells #[.int .i64 s, .slice A n c] 27 (0, 0)) := by rw [← hwb, ← hq]; exact heap_alloc_new w _
  obtain ⟨r, hr⟩ : ∃ r, wb.heap.size = r := ⟨_, rfl⟩
  obtain ⟨wz, hwc⟩ : ∃ wz, wb.alloc (.cells #[.int .i64 0, .int .i64 0, .int .i64 0, .int .i64 0, .slice none 0 0] 57) = wz := ⟨_, rfl⟩
  have hBC : At wb wz := by rw [← hwc]; exact (At.start wb).alloc _
  have HAC : Hid (At w wz) := Lib.hid (hAB.next hBC)
  have HBX : Hid (Bx wz r 57 0 0 0 0 (.slice none 0 0)) := Lib.hid (by rw [← hwc, ← hr]; exact bx_new _ _ _ _ _ _ _)
  have HQ := Lib.hid (hBC.keep hQ)
  have HRS : Hid (w.heap.size ≤ r) := Lib.hid (by rw [← hr]; exact hAB.size)
  have hrq : r = q + 1 := by rw [← hr, ← hwb, ← hq]; simp
  have HV := Lib.hid (hv.on HAC.out)
  have b0 : wz.cell? ⟨q, 0, none⟩ = some (.int .i64 s) := (cell_at HQ.out 0).trans rfl
  have b1 : wz.cell? ⟨q, 1, none⟩ = some (.slice A n c) := (cell_at HQ.out 1).trans rfl
  obtain ⟨t, htt⟩ : ∃ t, tot L + 1 = t := ⟨_, rfl⟩
  have HBL := Lib.hid (fun W (hW : At wz W) => blocks_any s A L n c hn (by omega) (by omega) t htt W (HV.out.on hW))
  obtain ⟨gb, o, rfl, hg, hc⟩ := HV.out.pos (by omega)
  have k0 := (hc 0 (by omega)).1
  rw [Nat.zero_mul, Nat.add_zero] at k0
  have ht0 := hb.t0
  obtain ⟨v, hv0⟩ : ∃ v : Nat, (v : Int) = t0 L := ⟨(t0 L).toNat, by omega⟩
  replace k0 : wz.cell? ⟨gb, o, none⟩ = some (.int .i64 (v : Int)) := by rw [hv0]; exact k0
  have hv40 : v ≤ 1099511627776 := by omega
  have HV0 := Lib.hid hv0
  have HVT : Hid (v = (t0 L).toNat) := Lib.hid (by omega)
  have v64 : IntKind.u64.wrap (v : Int) = (v : Int) := by rw [IntKind.wrap_u64]; omega
  have n8w : IntKind.u8.wrap (n : Int) = (n : Int) := by rw [IntKind.wrap_u8]; omega
  have hnp : (0 : Int) < (n : Int) := by omega
  have HTT := Lib.hid htt
  have HK := Lib.hid (fun W (hW : At wz W) => put64_o v (by omega) W)
  have HK1 := Lib.hid (put64_o v (by omega) wz.drew)
  have HK2 := Lib.hid (put64_o v (by omega) (wz.alloc (.cells #[.int .u8 (n : Int)] 5)).drew)
  have HC0 : Hid (∀ W, At wz W → W.cell? ⟨q, 0, none⟩ = some (.int .i64 s)) := Lib.hid fun W hW => (cell_at (hW.keep HQ.out) 0).trans rfl
  have HC : Hid (∀ W, At wz W → W.cell? ⟨q, 1, none⟩ = some (.slice (some ⟨gb, o, none⟩) n c)) := Lib.hid fun W hW => (cell_at (hW.keep HQ.out) 1).trans rfl
  have HN2 : Hid ((wz.alloc (.cells #[.int .u8 (n : Int)] 5)).heap[wz.heap.size]? = some (.cells #[.int .u8 (n : Int)] 5 (0, 0))) := Lib.hid (heap_alloc_new wz _)
  have HA2 : Hid (At wz (wz.alloc (.cells #[.int .u8 (n : Int)] 5)).drew) := Lib.hid (((At.start wz).alloc _).drewN 1)
  have HWQ := Lib.hid hrq
  clear hn hb hv hc hg hv0 htt hAB hBC hQ hrq ht0
  go_enter Try.func29, Try.ntmps29
  go_wp2_with fail
  go_cut [4] from 14 (fun s4 wx => ∃ (B : Option Addr) (d : Nat), s4 = .slice B 9 d ∧ Hid (wx.ownsRow wz.heap.size 5 1 (.slice B 9 d) 9 ((pt 8 v ++ [n]).map bt)) ∧ Hid (At wz wx))
  case first =>
    go_region_held3 (fun w' => w'.cell? ⟨q, 1, none⟩ = some (.slice (some ⟨gb, o, none⟩) n c)) (first | go_keep | exact HC.out _ HA3.out | exact HC.out _ HA4.out | exact HC.out _ HA2.out | (trace_state; fail))
      (first
        | (go_at_call 46; (with_reducible refine HK1.out.mono ?_); rintro e w3 ⟨g3, rfl, ho3, hA3⟩; have HA3 : Hid (At wz w3) := Lib.hid (((At.start wz).drewN 1).next hA3); have HO3 := Lib.hid (World.ownsRow.alloc ho3 (.cells #[.int .u8 (n : Int)] 5)); have HRW := Lib.hid (row_new w3 #[.int .u8 (n : Int)] [n] rfl); have HA33 : Hid (At wz (w3.alloc (.cells #[.int .u8 (n : Int)] 5))) := Lib.hid (HA3.out.alloc _); clear ho3 hA3)
        | (go_at_call 46; (with_reducible refine HK2.out.mono ?_); rintro e w3 ⟨g3, rfl, ho3, hA3⟩; have HA3 : Hid (At wz w3) := Lib.hid (HA2.out.next hA3); have HO3 := Lib.hid (own_low ho3 HA2.out.size); have HRW : Hid (Row w3 wz.heap.size [n]) := Lib.hid (At.keep (At.next ((At.start _).drewN 1) hA3) HN2.out); clear ho3 hA3)
        | ((with_reducible refine at_world (w3.alloc (.cells #[.int .u8 (n : Int)] 5)) ?_); refine step_bytes (by rfl) (.tmp 16) (.tmp 21) (by rfl) wz.heap.size _ 8 (pt 8 v) HO3.out (by rfl) ⟨w3.heap.size, 0, none⟩ 1 1 [n] (by rfl) HRW.out.bv rfl (by omega) HA33.out.size ?_; intro v4 w4 o4 g4; have HA4 := Lib.hid (own_grow HO3.out HA33.out (Nat.le_refl _) g4); obtain ⟨B4, d4, rfl, _, _⟩ := own_view o4; have HO4 := Lib.hid o4; clear o4 g4)
        | ((with_reducible refine at_world w3 ?_); refine step_bytes (by rfl) (.tmp 16) (.tmp 21) (by rfl) wz.heap.size _ 8 (pt 8 v) HO3.out (by rfl) ⟨wz.heap.size, 0, none⟩ 1 1 [n] (by rfl) HRW.out.bv rfl (by omega) HA3.out.size ?_; intro v4 w4 o4 g4; have HA4 := Lib.hid (own_grow HO3.out HA3.out (Nat.le_refl _) g4); obtain ⟨B4, d4, rfl, _, _⟩ := own_view o4; have HO4 := Lib.hid o4; clear o4 g4))
    all_goals
      go_wp2_with fail
      go_meet
      case rel => exact ⟨B4, d4, rfl, HO4, HA4⟩
  obtain ⟨B, d, rfl, HOC, HAC1⟩ := hcut
  have c1 := HC.out _ HAC1.out
  clear b0 b1 k0 HK HK1 HK2 HN2 HA2
  go_wp2_with fail
  go_loopw [3, 4, 26] (fun c3 c4 c26 wr => ∃ (k m d : Nat) (T : Int) (B : Option Addr), k ≤ n ∧ c26 = .int .i64 (k : Int) ∧ c3 = .int .i64 T ∧ c4 = .slice B m d ∧ Hid (T = lt_ (t0 L) (L.take k)) ∧ Hid (m = 9 + 2 * k) ∧ Hid (wr.ownsRow wz.heap.size 5 1 (.slice B m d) m (((pt 8 v ++ [n]) ++ gp (t0 L) (L.take k)).map bt)) ∧ Hid (At wz wr)) (fun _ _ c26 _ => n - (RowKit.intOf c26).toNat)
  case atStart => exact ⟨0, 9, d, (v : Int), B, Nat.zero_le _, rfl, rfl, rfl, Lib.hid (by rw [HV0.out]; rfl), Lib.hid rfl, Lib.hid (by simpa [gp] using HOC.out), HAC1⟩
  case round =>
    clear c1 HOC HAC1
    obtain ⟨k, m, d, T, B, hk, rfl, rfl, rfl, HT, HM, HO, HA⟩ := hrel
    have hm1 : m ≤ 1000 := by have := HM.out; omega
    by_cases hlt : k < n
    · have hkL : k < L.length := by rw [HN.out]; exact hlt
      obtain ⟨gb', o', he, hg, hc⟩ := (HV.out.on HA.out).pos (by omega)
      injection he with he
      injection he with he1 he2
      subst he1 he2
      obtain ⟨k1, Bp, cb, k2, hpv⟩ := hc k hkL
      have htm := HBK.out.time hkL
      have htm2 : 0 < T ∧ T ≤ 1099511627776 := by
        rw [HT.out, lt_all _ _ _ hkL]
        split
        · exact HBK.out.t0
        · exact HBK.out.time (by omega)
      obtain ⟨u, hu, hu1, hu2, hu3⟩ := gap_of HBK.out hkL
      rw [← HT.out] at hu1
      obtain ⟨p, hp⟩ : ∃ p, p = (L.getD k txz).2.length := ⟨_, rfl⟩
      obtain ⟨x, hx⟩ : ∃ x, x = (L.getD k txz).1 := ⟨_, rfl⟩
      rw [← hx] at k1 hu1 hu3 htm
      rw [← hp] at k2
      have HU2 := Lib.hid hu2
      have HU3 := Lib.hid hu3.symm
      have hwrap : IntKind.i64.wrap (x - T) = (u : Int) := by rw [IntWalk.i64_in _ (by omega)]; exact hu1
      have hu32 : IntKind.u32.wrap (u : Int) = (u : Int) := by rw [IntKind.wrap_u32]; omega
      obtain ⟨wx, hwx⟩ : ∃ wx, wr.alloc (.cells #[.int .i64 x, .slice Bp p cb] 44) = wx := ⟨_, rfl⟩
      obtain ⟨qx, hqx⟩ : ∃ q, wr.heap.size = q := ⟨_, rfl⟩
      have hAx : At wr wx := by rw [← hwx]; exact (At.start wr).alloc _
      have hQx : wx.heap[qx]? = some (.cells #[.int .i64 x, .slice Bp p cb] 44 (0, 0)) := by rw [← hwx, ← hqx]; exact heap_alloc_new wr _
      have d0 : wx.cell? ⟨qx, 0, none⟩ = some (.int .i64 x) := (cell_at hQx 0).trans rfl
      have HQX := Lib.hid hQx
      have HAX := Lib.hid (HA.out.next hAx)
      have HOX := Lib.hid (own_at HO.out hAx)
      have HP4 := Lib.hid (put32_any u (by omega) wx)
      have g1 : (0 : Int) ≤ (k : Int) := by omega
      have g2 : (k : Int) < (n : Int) := by omega
      clear hc hg hpv hx hp hu1 hu2 hu3 hAx hQx hkL htm htm2
      go_wp2_with fail
      refine HP4.out.mono ?_
      rintro e w3 ⟨g3, c3, rfl, h3, v3, a3⟩
      rw [pt_len] at h3 ⊢
      have HA3 := Lib.hid (HAX.out.next a3)
      have HO3 := Lib.hid (own_at HOX.out a3)
      have HV3 : Hid (BV w3 (some ⟨g3, 0, none⟩) (pt 2 u)) := Lib.hid (by have := v3.take 2; rwa [pt_four] at this)
      have d0' := (cell_at (At.keep a3 HQX.out) 0).trans rfl
      have HQ3 := Lib.hid (At.keep a3 HQX.out)
      have hc2 : (2 : Int) ≤ (c3 : Int) := by omega
      obtain ⟨r2, hr2⟩ : ∃ r, m + 2 = r := ⟨_, rfl⟩
      have HR2 := Lib.hid hr2
      have hm2 : m + 2 ≤ 1000000 := by omega
      have HMR : Hid (m + 2 = 9 + 2 * (k + 1)) := Lib.hid (by have := HM.out; omega)
      clear v3 a3 d0 hr2 h3
      go_wp2_with (at_builtin; refine list_append2 rfl (.tmp 30) (.tmp 37) rfl wz.heap.size _ m _ rfl HO3.out ⟨g3, 0, none⟩ 2 c3 (pt 2 u) rfl HV3.out (pt_len _ _) hm2 HA3.out.size ?_; intro v4 w4 o4 t4 mv4; have HA4 := Lib.hid (t4 wz HA3.out (Nat.le_refl _)); obtain ⟨B4, d4, rfl, _, _⟩ := own_view o4; have HO4 := Lib.hid o4; have f0 := (cell_at (mv4.keep HQ3.out (own_far HO3.out HQ3.out (by decide))) 0).trans rfl; clear t4 o4 d0' mv4)
      go_roundw
      case rel => exact ⟨k + 1, m + 2, d4, x, B4, by omega, by go_num, rfl, rfl, HU3, HMR, Lib.hid (by rw [HU2.out, ← List.append_assoc]; exact HO4.out), HA4⟩
      case measure => simp [RowKit.intOf]; omega
    · have hkn : k = n := by omega
      subst hkn
      have HG : Hid (gp (t0 L) (L.take k) = gp (t0 L) L) := Lib.hid (by rw [List.take_of_length_le (Nat.le_of_eq HN.out)])
      have HO' : Hid (wr.ownsRow wz.heap.size 5 1 (.slice B m d) m (((pt 8 v ++ [k]) ++ gp (t0 L) L).map bt)) := Lib.hid (by have := HO.out; rwa [HG.out] at this)
      obtain ⟨X, hX⟩ : ∃ X, X = (pt 8 v ++ [k]) ++ gp (t0 L) L := ⟨_, rfl⟩
      rw [← hX] at HO'
      have HBD : Hid (X ++ cn L = bd L) := Lib.hid (by rw [hX, HVT.out, ← HN.out, bd]; simp)
      have c1 := HC.out _ HA.out
      have HML : Hid (m + k = 9 + 3 * k) := Lib.hid (by have := HM.out; omega)
      clear hX HO hlt hk
      go_wp2_with fail
      go_loopw [4, 45] (fun c4 c45 wx => ∃ (j mm d : Nat) (B : Option Addr), j ≤ k ∧ c45 = .int .i64 (j : Int) ∧ c4 = .slice B mm d ∧ Hid (mm = m + j) ∧ Hid (wx.ownsRow wz.heap.size 5 1 (.slice B mm d) mm ((X ++ (cn L).take j).map bt)) ∧ Hid (At wz wx)) (fun _ c45 _ => k - (RowKit.intOf c45).toNat)
      case atStart => exact ⟨0, m, d, B, Nat.zero_le _, rfl, rfl, Lib.hid rfl, Lib.hid (by simpa using HO'.out), HA⟩
      case round =>
        clear c1
        clear HO' HA
        obtain ⟨j, mm, d, B, hj, rfl, rfl, HMM, HO, HA⟩ := hrel
        have hm2 : mm ≤ 2000 := by have := HMM.out; omega
        by_cases hlt : j < k
        · have hkL : j < L.length := by rw [HN.out]; exact hlt
          obtain ⟨gb', o', he, hg, hc⟩ := (HV.out.on HA.out).pos (by omega)
          injection he with he
          injection he with he1 he2
          subst he1 he2
          obtain ⟨k1, Bp, cb, k2, hpv⟩ := hc j hkL
          have h16 := HBK.out.n16 _ (tx_mem hkL)
          have hcm := cn_more hkL
          obtain ⟨p, hp⟩ : ∃ p, p = (L.getD j txz).2.length := ⟨_, rfl⟩
          obtain ⟨x, hx⟩ : ∃ x, x = (L.getD j txz).1 := ⟨_, rfl⟩
          rw [← hx] at k1
          rw [← hp] at k2 hcm h16
          have HCM := Lib.hid hcm
          have hu8 : IntKind.u8.wrap (p : Int) = (p : Int) := by rw [IntKind.wrap_u8]; omega
          obtain ⟨wx, hwx⟩ : ∃ wx, wr.alloc (.cells #[.int .i64 x, .slice Bp p cb] 44) = wx := ⟨_, rfl⟩
          obtain ⟨qx, hqx⟩ : ∃ q, wr.heap.size = q := ⟨_, rfl⟩
          have hAx : At wr wx := by rw [← hwx]; exact (At.start wr).alloc _
          have hQx : wx.heap[qx]? = some (.cells #[.int .i64 x, .slice Bp p cb] 44 (0, 0)) := by rw [← hwx, ← hqx]; exact heap_alloc_new wr _
          have d1 : wx.cell? ⟨qx, 1, none⟩ = some (.slice Bp p cb) := (cell_at hQx 1).trans rfl
          obtain ⟨wy, hwy⟩ : ∃ wy, wx.alloc (.cells #[.int .u8 (p : Int)] 5) = wy := ⟨_, rfl⟩
          obtain ⟨qy, hqy⟩ : ∃ q, wx.heap.size = q := ⟨_, rfl⟩
          have hAy : At wx wy := by rw [← hwy]; exact (At.start wx).alloc _
          have HRW : Hid (Row wy qy [p]) := Lib.hid (by rw [← hwy, ← hqy]; exact row_new wx _ [p] rfl)
          have HAY := Lib.hid ((HA.out.next hAx).next hAy)
          have HOY := Lib.hid (own_at HO.out (hAx.next hAy))
          have g1 : (0 : Int) ≤ (j : Int) := by omega
          have g2 : (j : Int) < (k : Int) := by omega
          have hm1 : mm + 1 ≤ 1000000 := by omega
          have HMJ : Hid (mm + 1 = m + (j + 1)) := Lib.hid (by have := HMM.out; omega)
          clear hc hg hpv hx hp hAx hAy hQx hkL h16 hcm
          go_wp2_with (at_builtin; refine list_append rfl (.tmp 49) (.tmp 54) rfl wz.heap.size _ mm _ rfl HOY.out (some ⟨qy, 0, none⟩) 1 1 [p] rfl (fun h => by cases h) HRW.out.bv rfl hm1 HAY.out.size ?_; intro v4 w4 o4 t4; have HA4 := Lib.hid (t4 wz HAY.out (Nat.le_refl _)); obtain ⟨B4, d4, rfl, _, _⟩ := own_view o4; have HO4 := Lib.hid o4; clear t4 o4)
          go_roundw
          case rel => exact ⟨j + 1, mm + 1, d4, B4, by omega, by go_num, rfl, HMJ, Lib.hid (by rw [HCM.out, ← List.append_assoc]; exact HO4.out), HA4⟩
          case measure => simp [RowKit.intOf]; omega
        · have hjk : j = k := by omega
          subst hjk
          have HO2 : Hid (wr.ownsRow wz.heap.size 5 1 (.slice B mm d) mm ((bd L).map bt)) := Lib.hid (by have := HO.out; rwa [List.take_of_length_le (by rw [cn_len]; exact Nat.le_of_eq HN.out), HBD.out] at this)
          have c0 := HC0.out _ HA.out
          have c1 := HC.out _ HA.out
          have HB := Lib.hid (HBL.out _ HA.out)
          have ht1 : (t : Int) - 1 = ((t - 1 : Nat) : Int) := by have := HTT.out; omega
          obtain ⟨t1, ht2⟩ : ∃ t1, t1 = t - 1 := ⟨_, rfl⟩
          rw [← ht2] at ht1
          have HT1 : Hid ((t1 : Int) = (tot L : Int)) := Lib.hid (by have := HTT.out; omega)
          have ht33 : t ≤ 33 := by have := HTT.out; omega
          obtain ⟨g9, cap9, he9, hg9, _⟩ := HO2.out.form (by have := HML.out; have := HMM.out; omega)
          injection he9 with he9 hz9 hy9
          subst he9
          have HG9 : Hid (w.heap.size ≤ g9) := Lib.hid (Nat.le_trans HAC.out.size hg9)
          have HM9 : Hid (mm = 9 + 3 * j) := Lib.hid (by have := HML.out; have := HMM.out; omega)
          clear ht2 hg9 hz9 hy9
          go_wp2_with fail
          refine HB.out.mono ?_
          rintro e w5 ⟨rfl, hA5⟩
          have HA5 := Lib.hid (HA.out.next hA5)
          have HO5 := Lib.hid (own_at HO2.out hA5)
          have hbx := HBX.out.on HA5.out
          obtain ⟨r0, r1, r2, r3, r4⟩ := hbx.cells
          have q0 := hbx.free 0
          have q1 := hbx.free 1
          have q2 := hbx.free 2
          have q3 := hbx.free 3
          have q4 := hbx.free 4
          have HBX5 := Lib.hid hbx
          clear hA5 hbx c0 c1
          go_wp2_with fail
          (try simp only [Exit.inBlock, Exit.then])
          have hf := fin_bx HBX5.out (HAC.out.next HA5.out) HRS.out 2 0 0 (t1 : Int) (.slice (some ⟨g9, 0, none⟩) mm d)
          have hbv := own_fin_bv HO5.out HBX5.out (by decide) 2 0 0 (t1 : Int) (.slice (some ⟨g9, 0, none⟩) mm d)
          refine bodyPost_ret (results_cell_row rfl _ _ r 57 #[.int .i64 2, .int .i64 0, .int .i64 0, .int .i64 (t1 : Int), .slice (some ⟨g9, 0, none⟩) mm d] (0, 0) _ rfl hf.1 Try.underlying57 rfl info_blk) rfl ⟨g9, d, by rw [HT1.out, HM9.out], hbv, HG9.out, hf.2⟩

end Go.Proofs.Ytgmekkenodiclaa
