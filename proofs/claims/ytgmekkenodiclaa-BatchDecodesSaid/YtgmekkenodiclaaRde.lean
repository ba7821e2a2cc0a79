/- Proved: what the document's own Decode answers. -/
import Derived.Test.YtgmekkenodiclaaRey
import Derived.Laws.BytesArg
import Derived.Deep.RegionHeld3
import Derived.Deep.DrawnRows
import Derived.Deep.Cut
namespace Go.Proofs.Ytgmekkenodiclaa
open Go.RowKit
attribute [local go_sem ↓] Go.wp_at_zero Go.wp_at_succ

theorem info_rblk : (Try.prog.info? 63).map (·.size) = some 5 := by kernel_rfl
theorem rget4 (A : Option Addr) (m c : Nat) (L : List Nat) (h : 4 ≤ m) (hl : L.length = m) (hL : AllB L) (w : World) (hv : BV w A L) :
    Calls Try.prog 41 #[.slice A m c, .int .i64 4] w fun e w' => e = .returned (.tuple #[.int .u64 (gt (L.take 4) : Int), .bool true]) ∧ w = w' := by
  have := rget_any A m c 4 L (by omega) (by omega) hl hL w hv
  rwa [gn_take L 4 (by omega), decide_eq_true h] at this
theorem rget8 (A : Option Addr) (m c : Nat) (L : List Nat) (h : 8 ≤ m) (hl : L.length = m) (hL : AllB L) (w : World) (hv : BV w A L) :
    Calls Try.prog 41 #[.slice A m c, .int .i64 8] w fun e w' => e = .returned (.tuple #[.int .u64 (gt (L.take 8) : Int), .bool true]) ∧ w = w' := by
  have := rget_any A m c 8 L (by omega) (by omega) hl hL w hv
  rwa [gn_take L 8 (by omega), decide_eq_true h] at this

set_option maxHeartbeats 1000000 in
set_option maxRecDepth 100000 in
theorem rdecode_len (A : Option Addr) (n c : Nat) (w : World) (h : n ≠ 64) :
    Calls Try.prog 23 #[.slice A n c] w (Gives (.tuple #[.agg #[.int .i64 0, .int .i64 0, .int .i64 0, .int .i64 0, .slice none 0 0], .int .i64 3]) w) := by
  have nb : ((n : Int) != 64) = true := by simp; omega
  go_enter Try.func23, Try.ntmps23
  go_wp2
  (try simp only [Exit.inBlock, Exit.then])
  exact bodyPost_ret (results_block rfl _ _ w.heap.size 0 0 0 0 (.slice none 0 0) _ Try.underlying63 info_rblk rfl (bx_new _ _ _ _ _ _ _)) rfl ⟨rfl, (At.start w).alloc _⟩

theorem at_world {P : Program} {o : Oper} {a : Act} {K : Act → World → Prop} {Q : Exit → Act → World → Prop} {E c : Prop} {_d : Decidable c} (W : World) (h : if c then Oper.wp P o a W K Q else E) : if c then Oper.wp P o a W K Q else E := h
/-- An append of bytes as one step of a region that draws its order. -/
theorem step_bytes {w : World} {ops : Array Oper} {o : Oper} {a : Act} {K : Act → World → Prop} {Q : Exit → Act → World → Prop} {E : Prop} (hgd : o.guard = none) (s x : Operand)
    (ho : o.op = .call { callee := .builtin .append, args := #[s, x], argTypes := #[39, 39] }) (base : Nat) (v : Value) (n : Nat) (xs : List Nat) (hown : w.ownsRow base 5 1 v n (xs.map bt)) (hs : a.eval s = v)
    (ad : Addr) (m c : Nat) (L : List Nat) (hx : a.eval x = .slice (some ad) m c) (hv : BV w (some ad) L) (hl : L.length = m) (h63 : n + m ≤ 1000000) (hbase : base ≤ w.heap.size)
    (h : ∀ v' w', w'.ownsRow base 5 1 v' (n + m) ((xs ++ L).map bt) → w.grownBy w' v.ownBlock → K (a.put o.dst v') w') : if Region.wanted o (yielded ops a.tmps) = true then Oper.wp Try.prog o a w K Q else E := by
  obtain ⟨i0, hi, hz0, hz1, hz2⟩ := info_parts info_u8
  rw [if_pos (by simp [Region.wanted, hgd])]
  refine wp_append_own w s x 39 ho base 5 i0 (.int .u8 0) 1 1 Try.underlying39 hi hz0 hz1 hz2 rfl (by decide) v n (xs.map bt) hs hown ad m c (L.map bt) hx (by rw [List.length_map, hl, Nat.mul_one]) hv.src (bt_one _) (by unfold maxLen; omega) (by omega) hbase ?_
  intro v' w' ho' hg _
  exact h v' w' (by rw [List.map_append]; exact ho') hg
theorem Bx.grownBy {w w' : World} {b t : Nat} {k e s l : Int} {v : Value} {row : Option Nat} (h : Bx w b t k e s l v) (hg : w.grownBy w' row) (hne : some b ≠ row) : Bx w' b t k e s l v := by
  unfold Bx at h ⊢
  rw [hg.block b (lt_heap h) hne]; exact h

theorem fin_bx {w wr : World} {r t : Nat} {k e s l : Int} {v : Value} (hb : Bx wr r t k e s l v) (ha : At w wr) (hs : w.heap.size ≤ r) (k' e' s' l' : Int) (v' : Value) :
    Bx (((((wr.setCell ⟨r, 0, none⟩ (.int .i64 k')).setCell ⟨r, 1, none⟩ (.int .i64 e')).setCell ⟨r, 2, none⟩ (.int .i64 s')).setCell ⟨r, 3, none⟩ (.int .i64 l')).setCell ⟨r, 4, none⟩ v') r t k' e' s' l' v' ∧
    At w (((((wr.setCell ⟨r, 0, none⟩ (.int .i64 k')).setCell ⟨r, 1, none⟩ (.int .i64 e')).setCell ⟨r, 2, none⟩ (.int .i64 s')).setCell ⟨r, 3, none⟩ (.int .i64 l')).setCell ⟨r, 4, none⟩ v') :=
  ⟨((((hb.set0 k').set1 e').set2 s').set3 l').set4 v', Below.setCell (p := ⟨r, 4, none⟩) (Below.setCell (p := ⟨r, 3, none⟩) (Below.setCell (p := ⟨r, 2, none⟩) (Below.setCell (p := ⟨r, 1, none⟩) (Below.setCell (p := ⟨r, 0, none⟩) ha hs _) hs _) hs _) hs _) hs _⟩

theorem BV.other {w : World} {A : Option Addr} {L : List Nat} {b : Nat} (h : BV w A L) (hne : ∀ a, A = some a → a.block ≠ b) (i : Nat) (u : Value) : BV (w.setCell ⟨b, i, none⟩ u) A L := by
  rcases h with h | ⟨g, o, rfl, hlt, hc⟩
  · exact Or.inl h
  · have hg : g ≠ b := hne _ rfl
    refine Or.inr ⟨g, o, rfl, by simpa using hlt, fun j hj => ?_⟩
    rw [← hc j hj]
    unfold World.cell?
    rw [Below.heap_setCell _ _ _ _ hg]
theorem own_ne {w : World} {B b t n c : Nat} {A : Option Addr} {xs : List Value} {k e s l : Int} {v : Value} (ho : w.ownsRow B 5 1 (.slice A n c) n xs) (hb : Bx w b t k e s l v) (ht : t ≠ 5) : ∀ a, A = some a → a.block ≠ b := by
  rintro a rfl e
  rcases ho.2 with ⟨h, _⟩ | ⟨g, cap, cur, h, _, hh, _⟩
  · cases h
  · injection h with h1
    injection h1 with h1
    subst h1
    unfold Bx at hb
    rw [← e] at hb
    rw [hh] at hb
    injection hb with hb
    injection hb with _ h2
    exact ht h2.symm
theorem own_nil {w : World} {B n c : Nat} {A : Option Addr} {xs : List Value} (ho : w.ownsRow B 5 1 (.slice A n c) n xs) : A = none → n = 0 ∧ c = 0 := by
  rintro rfl
  rcases ho.2 with ⟨h, hn⟩ | ⟨g, cap, cur, h, _⟩
  · injection h with _ _ h3
    exact ⟨hn, h3⟩
  · injection h with h1
    cases h1
theorem own_fin_bv {w : World} {B r t n c : Nat} {A : Option Addr} {L : List Nat} {k e s l : Int} {v : Value} (ho : w.ownsRow B 5 1 (.slice A n c) n (L.map bt)) (hb : Bx w r t k e s l v) (ht : t ≠ 5) (k' e' s' l' : Int) (v' : Value) :
    BV (((((w.setCell ⟨r, 0, none⟩ (.int .i64 k')).setCell ⟨r, 1, none⟩ (.int .i64 e')).setCell ⟨r, 2, none⟩ (.int .i64 s')).setCell ⟨r, 3, none⟩ (.int .i64 l')).setCell ⟨r, 4, none⟩ v') A L := by
  have h := own_ne ho hb ht
  exact (((((own_bv ho).2.other h 0 _).other h 1 _).other h 2 _).other h 3 _).other h 4 _

/-- Bytes as a string. -/
def str (L : List Nat) : ByteArray := strOfNums (L.map fun c : Nat => (c : Int))
theorem conv_bv {w : World} {A : Option Addr} {L : List Nat} {n c : Nat} (h : BV w A L) (hl : L.length = n) (h0 : 0 < n) : (convert 39 9 (.slice A n c)).run Try.prog w = .ok (.string (str L)) w := by
  obtain ⟨b, o, rfl, _, hc⟩ := h.pos (by omega)
  refine run_convert_bytes_arg w 39 5 Try.underlying39 Try.underlying5 b o n c (L.map fun c : Nat => (c : Int)) (by rw [List.length_map, hl]) (fun i hi => ?_) 9 Try.underlying9
  rw [hc i (by omega)]
  simp only [List.getD_eq_getElem?_getD, List.getElem?_map, List.getElem?_eq_getElem (show i < L.length by omega)]
  rfl
theorem str_beq {L M : List Nat} (hL : AllB L) (hM : AllB M) : ((str L).toList == (str M).toList) = decide (L = M) := by
  have e : ∀ X : List Nat, AllB X → ((X.map fun c : Nat => (c : Int)).map fun n : Int => UInt8.ofNat n.toNat).map UInt8.toNat = X := fun X hX => by
    rw [List.map_map, List.map_map]
    refine (List.map_congr_left fun c hc => ?_).trans (List.map_id X)
    have := hX c hc
    simp only [Function.comp, Int.toNat_natCast, UInt8.toNat_ofNat', id]
    omega
  rw [ByteArray.toList_eq, ByteArray.toList_eq]
  by_cases h : L = M
  · subst h; simp
  · rw [decide_eq_false h, beq_eq_false_iff_ne]
    intro h1
    rw [str, str, strOfNums_data, strOfNums_data] at h1
    have h2 := congrArg (List.map UInt8.toNat) h1
    rw [e L hL, e M hM] at h2
    exact h h2

set_option maxHeartbeats 2000000 in
set_option maxRecDepth 100000 in
theorem rdecode_row (A : Option Addr) (c : Nat) (P : List Nat) (hP : P.length = 64) (hB : AllB P) (w : World) (hx : BV w A P) (hc : 64 ≤ c) :
    Calls Try.prog 23 #[.slice A 64 c] w (Reads P w) := by
  obtain ⟨b1, o1, rfl, hlt, p1⟩ := hx.pos (by rw [hP]; omega)
  have HLT := Lib.hid hlt
  have HP := Lib.hid hP
  have HB := Lib.hid hB
  have HX := Lib.hid hx
  have HP1 := Lib.hid p1
  obtain ⟨k, hk⟩ : ∃ k, k = fk P := ⟨_, rfl⟩
  obtain ⟨n, hn⟩ : ∃ n, n = fn P := ⟨_, rfl⟩
  obtain ⟨e, he⟩ : ∃ e, e = fe P := ⟨_, rfl⟩
  obtain ⟨s, hs⟩ : ∃ s, s = fs P := ⟨_, rfl⟩
  obtain ⟨l, hl⟩ : ∃ l, l = fl P := ⟨_, rfl⟩
  have k256 : k < 256 := by rw [hk]; exact allB_at hB 0
  have n256 : n < 256 := by rw [hn]; exact allB_at hB 1
  have e32 : e < 4294967296 := by
    have := gt_lt _ (part_byte hB 2 4)
    rw [four_len P hP _ (by omega)] at this
    rw [he]; exact this
  have s64 : s < 18446744073709551616 := by
    have := gt_lt _ (part_byte hB 6 8)
    rw [eight_len P hP] at this
    rw [hs]; exact this
  have l32 : l < 4294967296 := by
    have := gt_lt _ (part_byte hB 14 4)
    rw [four_len P hP _ (by omega)] at this
    rw [hl]; exact this
  obtain ⟨r, hr⟩ : ∃ r, r = w.heap.size := ⟨_, rfl⟩
  obtain ⟨w1, hw1⟩ : ∃ w1, w1 = w.alloc (.cells #[.int .i64 0, .int .i64 0, .int .i64 0, .int .i64 0, .slice none 0 0] 63) := ⟨_, rfl⟩
  have R1 : Hid (Bx w1 r 63 0 0 0 0 (.slice none 0 0)) := Lib.hid (by rw [hw1, hr]; exact bx_new _ _ _ _ _ _ _)
  have A1 : Hid (At w w1) := Lib.hid (by rw [hw1]; exact (At.start w).alloc _)
  have X1 : Hid (BV w1 (some ⟨b1, o1, none⟩) P) := Lib.hid (A1.out.bv hx)
  have H2 : Hid (Calls Try.prog 41 #[.slice (some ⟨b1, o1 + 2, none⟩) 62 (c - 2), .int .i64 4] w1 fun x w' => x = .returned (.tuple #[.int .u64 (e : Int), .bool true]) ∧ w1 = w') := Lib.hid (by
    have := rget4 (some ⟨b1, o1 + 2, none⟩) 62 (c - 2) (P.drop 2) (by omega) (by rw [List.length_drop, hP]) (allB_drop hB 2) w1 (BV.drop X1.out 2)
    rwa [show gt ((P.drop 2).take 4) = e from he.symm] at this)
  have H6 : Hid (Calls Try.prog 41 #[.slice (some ⟨b1, o1 + 6, none⟩) 58 (c - 6), .int .i64 8] w1 fun x w' => x = .returned (.tuple #[.int .u64 (s : Int), .bool true]) ∧ w1 = w') := Lib.hid (by
    have := rget8 (some ⟨b1, o1 + 6, none⟩) 58 (c - 6) (P.drop 6) (by omega) (by rw [List.length_drop, hP]) (allB_drop hB 6) w1 (BV.drop X1.out 6)
    rwa [show gt ((P.drop 6).take 8) = s from hs.symm] at this)
  have H14 : Hid (Calls Try.prog 41 #[.slice (some ⟨b1, o1 + 14, none⟩) 50 (c - 14), .int .i64 4] w1 fun x w' => x = .returned (.tuple #[.int .u64 (l : Int), .bool true]) ∧ w1 = w') := Lib.hid (by
    have := rget4 (some ⟨b1, o1 + 14, none⟩) 50 (c - 14) (P.drop 14) (by omega) (by rw [List.length_drop, hP]) (allB_drop hB 14) w1 (BV.drop X1.out 14)
    rwa [show gt ((P.drop 14).take 4) = l from hl.symm] at this)
  have x0 : w1.cell? ⟨b1, o1, none⟩ = some (.int .u8 (k : Int)) := by
    have := (Below.cell A1.out (p := ⟨b1, o1 + 0, none⟩) hlt).trans (p1 0 (by rw [hP]; omega))
    rwa [show P.getD 0 0 = k from hk.symm, Nat.add_zero] at this
  have x1 : w1.cell? ⟨b1, o1 + 1, none⟩ = some (.int .u8 (n : Int)) := by
    have := (Below.cell A1.out (p := ⟨b1, o1 + 1, none⟩) hlt).trans (p1 1 (by rw [hP]; omega))
    rwa [show P.getD 1 0 = n from hn.symm] at this
  have HK := Lib.hid hk
  have HN := Lib.hid hn
  have HE := Lib.hid he
  have HS := Lib.hid hs
  have HL := Lib.hid hl
  have HR := Lib.hid hr
  have HW1 := Lib.hid hw1
  have n2 : ¬ c = 2 := by omega
  have n6 : ¬ c = 6 := by omega
  have n14 : ¬ c = 14 := by omega
  clear hP hB hx p1 hr hw1 hlt hk hn he hs hl
  go_enter Try.func23, Try.ntmps23
  go_wp2_with fail
  rw [← HW1.out, ← HR.out]
  refine H2.out.mono ?_
  rintro x w' ⟨rfl, rfl⟩
  go_wp2_with fail
  refine H6.out.mono ?_
  rintro x w' ⟨rfl, rfl⟩
  go_wp2_with fail
  have HSR : Hid (w.heap.size ≤ r) := Lib.hid (by rw [HR.out]; exact Nat.le_refl _)
  by_cases h3 : s ≤ 1099511627776
  rotate_left
  · have dh3 : decide (1099511627776 < (s : Int)) = true := decide_eq_true (by omega)
    have q0 := R1.out.free 0
    have q1 := R1.out.free 1
    have q2 := R1.out.free 2
    have q3 := R1.out.free 3
    have q4 := R1.out.free 4
    obtain ⟨r0, r1, r2, r3, r4⟩ := R1.out.cells
    refine H14.out.mono ?_
    rintro x w' ⟨rfl, rfl⟩
    go_wp2
    (try simp only [Exit.inBlock, Exit.then])
    have hf := fin_bx R1.out A1.out HSR.out 0 0 0 0 (.slice none 0 0)
    exact bodyPost_ret (results_block rfl _ _ r 0 0 0 0 (.slice none 0 0) _ Try.underlying63 info_rblk rfl hf.1) rfl (Or.inr ⟨fun h => h3 (by have := h.s40; have := HS.out; omega), rfl, hf.2⟩)
  have dh3 : decide (1099511627776 < (s : Int)) = false := decide_eq_false (by omega)
  by_cases h4 : l ≤ 1048576
  rotate_left
  · have dh4 : decide (1048576 < (l : Int)) = true := decide_eq_true (by omega)
    have q0 := R1.out.free 0
    have q1 := R1.out.free 1
    have q2 := R1.out.free 2
    have q3 := R1.out.free 3
    have q4 := R1.out.free 4
    obtain ⟨r0, r1, r2, r3, r4⟩ := R1.out.cells
    refine H14.out.mono ?_
    rintro x w' ⟨rfl, rfl⟩
    go_wp2
    (try simp only [Exit.inBlock, Exit.then])
    have hf := fin_bx R1.out A1.out HSR.out 0 0 0 0 (.slice none 0 0)
    exact bodyPost_ret (results_block rfl _ _ r 0 0 0 0 (.slice none 0 0) _ Try.underlying63 info_rblk rfl hf.1) rfl (Or.inr ⟨fun h => h4 (by have := h.l20; have := HL.out; omega), rfl, hf.2⟩)
  have dh4 : decide (1048576 < (l : Int)) = false := decide_eq_false (by omega)
  by_cases h5 : n ≤ 40
  rotate_left
  · have dh5 : decide (40 < (n : Int)) = true := decide_eq_true (by omega)
    have q0 := R1.out.free 0
    have q1 := R1.out.free 1
    have q2 := R1.out.free 2
    have q3 := R1.out.free 3
    have q4 := R1.out.free 4
    obtain ⟨r0, r1, r2, r3, r4⟩ := R1.out.cells
    refine H14.out.mono ?_
    rintro x w' ⟨rfl, rfl⟩
    go_wp2
    (try simp only [Exit.inBlock, Exit.then])
    have hf := fin_bx R1.out A1.out HSR.out 0 0 0 0 (.slice none 0 0)
    exact bodyPost_ret (results_block rfl _ _ r 0 0 0 0 (.slice none 0 0) _ Try.underlying63 info_rblk rfl hf.1) rfl (Or.inr ⟨fun h => h5 (by have := h.n; have := HN.out; omega), rfl, hf.2⟩)
  have dh5 : decide (40 < (n : Int)) = false := decide_eq_false (by omega)
  have wk : IntKind.i64.wrap (k : Int) = (k : Int) := by rw [IntKind.wrap_i64]; omega
  have we : IntKind.i64.wrap (e : Int) = (e : Int) := by rw [IntKind.wrap_i64]; omega
  have ws : IntKind.i64.wrap (s : Int) = (s : Int) := by rw [IntKind.wrap_i64]; omega
  have wl : IntKind.i64.wrap (l : Int) = (l : Int) := by rw [IntKind.wrap_i64]; omega
  have n18 : ¬ c = 18 := by omega
  have g1 : (18 : Int) ≤ 18 + (n : Int) := by omega
  have g2 : 18 + (n : Int) ≤ (c : Int) := by omega
  have t18 : (18 + (n : Int)).toNat = 18 + n := by omega
  have wr18 : IntKind.i64.wrap (18 + (n : Int)) = 18 + (n : Int) := by rw [IntKind.wrap_i64]; omega
  refine H14.out.mono ?_
  rintro x w' ⟨rfl, rfl⟩
  go_wp2_with fail
  obtain ⟨Y, hY⟩ : ∃ Y, Y = fb P := ⟨_, rfl⟩
  have hYl : Y.length = n := by rw [hY, fb, List.length_take, List.length_drop, HP.out, ← HN.out]; omega
  have hYb : BV w1 (some ⟨b1, o1 + 18, none⟩) Y := by
    have := (BV.drop X1.out 18).take n
    rw [hY, fb, ← HN.out]; exact this
  have HY := Lib.hid hY
  have HYL := Lib.hid hYl
  have HYV := Lib.hid hYb
  clear hY hYl hYb
  obtain ⟨G, hG⟩ : ∃ G, G = w1.heap.size := ⟨_, rfl⟩
  have HG := Lib.hid hG
  have M1 : Hid ((w1.alloc (.cells #[] 5)).drew.ownsRow G 5 1 (.slice (some ⟨w1.heap.size, 0, none⟩) 0 0) 0 (([] : List Nat).map bt)) := Lib.hid (by rw [hG]; exact own_drew (made_own w1))
  have P1 : Hid (∀ w', At w1 w' → w'.cell? ⟨b1, o1, none⟩ = some (.int .u8 (k : Int))) := Lib.hid (fun w' h => (Below.cell h (p := ⟨b1, o1, none⟩) (Nat.lt_of_lt_of_le HLT.out A1.out.size)).trans x0)
  have M2 : Hid (((w1.alloc (.cells #[] 5)).alloc (.cells #[.int .i64 0, .int .i64 0, .int .i64 0, .int .i64 0, .slice none 0 0] 63)).drew.ownsRow G 5 1 (.slice (some ⟨w1.heap.size, 0, none⟩) 0 0) 0 (([] : List Nat).map bt)) := Lib.hid (by rw [hG]; exact own_drew ((made_own w1).alloc _))
  have M3 : Hid (((w1.alloc (.cells #[.int .i64 0, .int .i64 0, .int .i64 0, .int .i64 0, .slice none 0 0] 63)).alloc (.cells #[] 5)).drew.ownsRow G 5 1 (.slice (some ⟨w1.heap.size + 1, 0, none⟩) 0 0) 0 (([] : List Nat).map bt)) := Lib.hid (by
    have := World.ownsRow_made (base := G) (e := 5) (size := 1) (w1.alloc (.cells #[.int .i64 0, .int .i64 0, .int .i64 0, .int .i64 0, .slice none 0 0] 63)) #[] 0 (by rw [hG]; simp) (by unfold maxLen; omega) rfl
    rw [show (w1.alloc (.cells #[.int .i64 0, .int .i64 0, .int .i64 0, .int .i64 0, .slice none 0 0] 63)).heap.size = w1.heap.size + 1 by simp] at this
    exact own_drew this)
  have X2 : Hid (Bx ((w1.alloc (.cells #[] 5)).alloc (.cells #[.int .i64 0, .int .i64 0, .int .i64 0, .int .i64 0, .slice none 0 0] 63)).drew (w1.heap.size + 1) 63 0 0 0 0 (.slice none 0 0)) := Lib.hid (by
    have := bx_new (w1.alloc (.cells #[] 5)) 63 0 0 0 0 (.slice none 0 0)
    rw [show (w1.alloc (.cells #[] 5)).heap.size = w1.heap.size + 1 by simp] at this
    exact this)
  have X3 : Hid (Bx ((w1.alloc (.cells #[.int .i64 0, .int .i64 0, .int .i64 0, .int .i64 0, .slice none 0 0] 63)).alloc (.cells #[] 5)).drew w1.heap.size 63 0 0 0 0 (.slice none 0 0)) := Lib.hid ((bx_new w1 63 0 0 0 0 (.slice none 0 0)).on (At.drewN ((At.start _).alloc _) 1))
  have D1 : At w1 (w1.alloc (.cells #[] 5)).drew := At.drewN ((At.start w1).alloc _) 1
  have D2 : At w1 ((w1.alloc (.cells #[] 5)).alloc (.cells #[.int .i64 0, .int .i64 0, .int .i64 0, .int .i64 0, .slice none 0 0] 63)).drew := At.drewN (((At.start w1).alloc _).alloc _) 1
  have D3 : At w1 ((w1.alloc (.cells #[.int .i64 0, .int .i64 0, .int .i64 0, .int .i64 0, .slice none 0 0] 63)).alloc (.cells #[] 5)).drew := At.drewN (((At.start w1).alloc _).alloc _) 1
  have AF : ∀ (W w7 : World) (v : Value) (n : Nat) (xs : List Value), At w1 W → W.ownsRow G 5 1 v n xs → W.grownBy w7 v.ownBlock → At w1 w7 := fun W w7 v n xs h ho hg =>
    Below.grown h hg h.size (fun j hj => by have := (ho.lt j hj).1; rw [hG] at this; exact this)
  have hrG : r < G := by rw [hG]; exact lt_heap R1.out
  have RG := Lib.hid hrG
  have ON : Hid (∀ (A : Option Addr) (c : Nat) (W : World), W.ownsRow G 5 1 (.slice A n c) n (Y.map bt) → ∀ a, A = some a → a.block ≠ r) := Lib.hid (fun A c W ho a ha e => by
    subst ha
    rcases ho.2 with ⟨h, _⟩ | ⟨g, cap, cur, h, hb, _⟩
    · cases h
    · injection h with h1
      injection h1 with h1
      subst h1
      have e : g = r := e
      omega)
  clear hrG
  have D1 := Lib.hid D1
  have D2 := Lib.hid D2
  have D3 := Lib.hid D3
  have AF := Lib.hid AF
  clear hG
  go_cut [11] from 14 (fun s11 wx => ∃ (x9 c9 : Nat) (A9 : Option Addr), s11 = .pointer (some ⟨x9, 0, none⟩) ∧ Hid (Bx wx x9 63 (k : Int) (e : Int) (s : Int) (l : Int) (.slice A9 n c9)) ∧ Hid (BV wx A9 Y) ∧ Hid (A9 = none → n = 0 ∧ c9 = 0) ∧ Hid (∀ a, A9 = some a → a.block ≠ r) ∧ Hid (¬ r = x9) ∧ Hid (At w1 wx))
  case first =>
    go_region_held3 (fun w' => w'.cell? ⟨b1, o1, none⟩ = some (.int .u8 (k : Int))) (first | go_keep | exact P1.out _ a7 | exact P1.out _ (fin_bx x7 a7 (by omega) _ _ _ _ _).2 | exact P1.out _ (a7.alloc _))
      (first
        | ((with_reducible refine at_world (w1.alloc (.cells #[] 5)).drew ?_); refine step_bytes (by rfl) (.tmp 61) (.tmp 65) (by rfl) G _ 0 [] M1.out (by rfl) ⟨b1, o1 + 18, none⟩ n (c - 18) Y (by rfl) (HYV.out.below D1.out) HYL.out (by omega) (by rw [HG.out]; exact D1.out.size) ?_; intro v7 w7 o7 g7; have a7 := AF.out _ w7 _ _ _ D1.out M1.out g7; rw [Nat.zero_add, List.nil_append] at o7; obtain ⟨A7, c7, rfl, _, _⟩ := own_view o7)
        | ((with_reducible refine at_world ((w1.alloc (.cells #[] 5)).alloc (.cells #[.int .i64 0, .int .i64 0, .int .i64 0, .int .i64 0, .slice none 0 0] 63)).drew ?_); refine step_bytes (by rfl) (.tmp 61) (.tmp 65) (by rfl) G _ 0 [] M2.out (by rfl) ⟨b1, o1 + 18, none⟩ n (c - 18) Y (by rfl) (HYV.out.below D2.out) HYL.out (by omega) (by rw [HG.out]; exact D2.out.size) ?_; intro v7 w7 o7 g7; have a7 := AF.out _ w7 _ _ _ D2.out M2.out g7; have x7 := X2.out.grownBy g7 (by simp [Value.ownBlock]); rw [Nat.zero_add, List.nil_append] at o7; obtain ⟨A7, c7, rfl, _, _⟩ := own_view o7; obtain ⟨k0, k1, k2, k3, k4⟩ := x7.cells; have f0 := x7.free 0; have f1 := x7.free 1; have f2 := x7.free 2; have f3 := x7.free 3; have f4 := x7.free 4)
        | ((with_reducible refine at_world ((w1.alloc (.cells #[.int .i64 0, .int .i64 0, .int .i64 0, .int .i64 0, .slice none 0 0] 63)).alloc (.cells #[] 5)).drew ?_); refine step_bytes (by rfl) (.tmp 61) (.tmp 65) (by rfl) G _ 0 [] M3.out (by rfl) ⟨b1, o1 + 18, none⟩ n (c - 18) Y (by rfl) (HYV.out.below D3.out) HYL.out (by omega) (by rw [HG.out]; exact D3.out.size) ?_; intro v7 w7 o7 g7; have a7 := AF.out _ w7 _ _ _ D3.out M3.out g7; have x7 := X3.out.grownBy g7 (by simp [Value.ownBlock]); rw [Nat.zero_add, List.nil_append] at o7; obtain ⟨A7, c7, rfl, _, _⟩ := own_view o7; obtain ⟨k0, k1, k2, k3, k4⟩ := x7.cells; have f0 := x7.free 0; have f1 := x7.free 1; have f2 := x7.free 2; have f3 := x7.free 3; have f4 := x7.free 4))
    · go_wp2_with fail
      go_meet
      case rel => exact ⟨_, c7, A7, rfl, Lib.hid (bx_new _ _ _ _ _ _ _), Lib.hid ((own_bv o7).2.below ((Below.refl _ _).alloc (Nat.le_refl _) _)), Lib.hid (own_nil o7), Lib.hid (ON.out _ _ _ o7), Lib.hid (by have := a7.size; have := RG.out; have := HG.out; omega), Lib.hid (a7.alloc _)⟩
    · have hf := fin_bx x7 a7 (Nat.le_succ _) (k : Int) (e : Int) (s : Int) (l : Int) (.slice A7 n c7)
      have hv := own_fin_bv o7 x7 (by decide) (k : Int) (e : Int) (s : Int) (l : Int) (.slice A7 n c7)
      go_wp2_with fail
      go_meet
      case rel => exact ⟨_, c7, A7, rfl, Lib.hid hf.1, Lib.hid hv, Lib.hid (own_nil o7), Lib.hid (ON.out _ _ _ o7), Lib.hid (by have := RG.out; have := HG.out; omega), Lib.hid hf.2⟩
    · have hf := fin_bx x7 a7 (Nat.le_refl _) (k : Int) (e : Int) (s : Int) (l : Int) (.slice A7 n c7)
      have hv := own_fin_bv o7 x7 (by decide) (k : Int) (e : Int) (s : Int) (l : Int) (.slice A7 n c7)
      go_wp2_with fail
      go_meet
      case rel => exact ⟨_, c7, A7, rfl, Lib.hid hf.1, Lib.hid hv, Lib.hid (own_nil o7), Lib.hid (ON.out _ _ _ o7), Lib.hid (by have := RG.out; have := HG.out; omega), Lib.hid hf.2⟩
  obtain ⟨x9, c9, A9, rfl, X9, V9, N9, NRV, NRX, D9⟩ := hcut
  clear M1 M2 M3 X2 X3 D1 D2 D3 AF P1
  obtain ⟨y0, y1, y2, y3, y4⟩ := X9.out.cells
  by_cases hk : 1 ≤ k ∧ k ≤ 4
  rotate_left
  · have KE := Lib.hid (rencode_no (k : Int) (e : Int) (s : Int) (l : Int) A9 n c9 (fun h => hk (by obtain ⟨⟨_, _⟩, _⟩ := h; omega)) wc)
    go_wp2_with fail
    refine KE.out.mono ?_
    rintro x wq ⟨rfl, hq⟩
    have AQ := At.next D9.out hq
    have RQ := Lib.hid (R1.out.on AQ)
    have AQ := Lib.hid (A1.out.next AQ)
    clear hq KE
    have q0 := RQ.out.free 0
    have q1 := RQ.out.free 1
    have q2 := RQ.out.free 2
    have q3 := RQ.out.free 3
    have q4 := RQ.out.free 4
    obtain ⟨r0, r1, r2, r3, r4⟩ := RQ.out.cells
    go_wp2
    (try simp only [Exit.inBlock, Exit.then])
    have hf := fin_bx RQ.out AQ.out HSR.out 0 0 0 0 (.slice none 0 0)
    exact bodyPost_ret (results_block rfl _ _ r 0 0 0 0 (.slice none 0 0) _ Try.underlying63 info_rblk rfl hf.1) rfl (Or.inr ⟨fun h => hk (by have h1 := h.k1; have h2 := h.k4; rw [← HK.out] at h1 h2; exact ⟨h1, h2⟩), rfl, hf.2⟩)
  have hYB : AllB Y := by rw [HY.out]; exact part_byte HB.out _ _
  have hM : May k e s l Y := ⟨hk.1, hk.2, e32, h3, h4, by rw [HYL.out]; exact h5, hYB⟩
  have KE := Lib.hid (rencode_yes k e s l A9 n c9 Y hM HYL.out N9.out wc V9.out)
  obtain ⟨Z, hZ⟩ : ∃ Z, Z = en k e s l Y := ⟨_, rfl⟩
  have HZL : Hid (Z.length = 64) := Lib.hid (by rw [hZ]; exact en_len hM.n)
  rw [← hZ] at KE
  have HZ := Lib.hid hZ
  have HM := Lib.hid hM
  clear hZ hM hYB
  go_wp2_with fail
  refine KE.out.mono ?_
  rintro x wq ⟨gq, cq, rfl, vq, hq⟩
  have AQ1 := At.next D9.out hq
  have RQ := Lib.hid (R1.out.on AQ1)
  have XQ := Lib.hid (X9.out.on hq)
  have VQ := Lib.hid (V9.out.below hq)
  have PQ := Lib.hid (X1.out.below AQ1)
  have AQ := Lib.hid (A1.out.next AQ1)
  have ZQ := Lib.hid vq
  clear hq AQ1 vq KE
  have cv1 := conv_bv (n := 64) (c := cq) ZQ.out HZL.out (by omega)
  have cv2 := conv_bv (n := 64) (c := c) PQ.out HP.out (by omega)
  have hZB : AllB Z := by rw [HZ.out]; exact en_byte HM.out
  have hs := str_beq hZB HB.out
  obtain ⟨S1, hS1⟩ : ∃ S, S = str Z := ⟨_, rfl⟩
  obtain ⟨S2, hS2⟩ : ∃ S, S = str P := ⟨_, rfl⟩
  rw [← hS1] at cv1 hs
  rw [← hS2] at cv2 hs
  clear hS1 hS2 hZB
  have hen := en_of P HP.out HB.out (by rw [← HN.out]; exact h5)
  rw [← HK.out, ← HE.out, ← HS.out, ← HL.out, ← HY.out, ← HZ.out] at hen
  by_cases hzp : Z = P
  rotate_left
  · rw [decide_eq_false hzp] at hs
    have hno : ¬ Good P := fun h => hzp (hen.2 ⟨h.z, h.c⟩)
    have HNO := Lib.hid hno
    clear hen hno hzp
    have q0 := RQ.out.free 0
    have q1 := RQ.out.free 1
    have q2 := RQ.out.free 2
    have q3 := RQ.out.free 3
    have q4 := RQ.out.free 4
    obtain ⟨r0, r1, r2, r3, r4⟩ := RQ.out.cells
    go_wp2
    (try simp only [Exit.inBlock, Exit.then])
    have hf := fin_bx RQ.out AQ.out HSR.out 0 0 0 0 (.slice none 0 0)
    exact bodyPost_ret (results_block rfl _ _ r 0 0 0 0 (.slice none 0 0) _ Try.underlying63 info_rblk rfl hf.1) rfl (Or.inr ⟨HNO.out, rfl, hf.2⟩)
  rw [decide_eq_true hzp] at hs
  have hgz := hen.1 hzp
  have hyes : Good P := ⟨by rw [← HK.out]; exact hk.1, by rw [← HK.out]; exact hk.2, by rw [← HN.out]; exact h5, by rw [← HS.out]; exact h3, by rw [← HL.out]; exact h4, hgz.1, hgz.2⟩
  have HYES := Lib.hid hyes
  clear hen hzp hgz hyes y0 y1 y2 y3 y4
  obtain ⟨y0, y1, y2, y3, y4⟩ := XQ.out.cells
  have q0 := RQ.out.free 0
  have q1 := RQ.out.free 1
  have q2 := RQ.out.free 2
  have q3 := RQ.out.free 3
  have q4 := RQ.out.free 4
  obtain ⟨r0, r1, r2, r3, r4⟩ := RQ.out.cells
  have hrx : ¬ r = x9 := NRX.out
  go_wp2
  (try simp only [Exit.inBlock, Exit.then])
  have hf := fin_bx RQ.out AQ.out HSR.out (k : Int) (e : Int) (s : Int) (l : Int) (.slice A9 n c9)
  have hv := fun a ha => NRV.out a ha
  refine bodyPost_ret (results_block rfl _ _ r (k : Int) (e : Int) (s : Int) (l : Int) (.slice A9 n c9) _ Try.underlying63 info_rblk rfl hf.1) rfl (Or.inl ⟨HYES.out, A9, n, c9, ?_, ?_, ?_, hf.2⟩)
  · rw [← HK.out, ← HE.out, ← HS.out, ← HL.out]; rfl
  · rw [← HY.out]; exact HYL.out
  · rw [← HY.out]; exact (((((VQ.out.other hv 0 _).other hv 1 _).other hv 2 _).other hv 3 _).other hv 4 _)

end Go.Proofs.Ytgmekkenodiclaa
