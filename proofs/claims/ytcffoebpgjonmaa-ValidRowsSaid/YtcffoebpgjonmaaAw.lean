/- Proved: what the document fixes: a map of one transaction, beside three sets. -/
import Derived.Test.YtcffoebpgjonmaaVa
import Derived.Test.YtcffoebpgjonmaaSe
namespace Go.Proofs.Ytcffoebpgjonmaa
open Go.RowKit
open Iv (In Nm Is Vm Va Sv EV Ow allB nf)

set_option maxHeartbeats 400000 in
theorem data_any (k : Int) (w : World) : Calls Try.prog 24 #[.int .i64 k] w fun x w' => ∃ g, x = .returned (.slice (some ⟨g, 0, none⟩) 40 40) ∧ w.heap.size ≤ g ∧ BV w' (some ⟨g, 0, none⟩) (bk k) ∧ At w w' := by
  have HB := Lib.hid (block_any k w)
  go_enter Try.func24, Try.ntmps24
  go_wp2_with fail
  refine HB.out.mono ?_
  rintro e w' ⟨g, rfl, h1, h2, h3⟩
  have H1 := Lib.hid h1
  have H2 := Lib.hid h2
  have H3 := Lib.hid h3
  clear h1 h2 h3
  go_wp2
  go_ret
  exact ⟨g, rfl, H1.out, H2.out, H3.out⟩

/-- A slice of one extent. -/
theorem ev_one (w : World) (a m : Int) : EV (w.alloc (.cells #[.int .i64 a, .int .i64 m] 49)) (some ⟨w.heap.size, 0, none⟩) [(a, m)] := by
  have hb := heap_alloc_new w (.cells #[.int .i64 a, .int .i64 m] 49)
  refine Or.inr ⟨_, 0, rfl, lt_heap hb, fun j hj => ?_⟩
  obtain rfl : j = 0 := by simpa using hj
  exact ⟨(cell_at hb 0).trans rfl, (cell_at hb 1).trans rfl⟩
theorem all_one {a m : Int} (h : Va (a, m)) : allB [(a, m)] = true := Iv.allB_yes fun e he => by rw [List.mem_singleton.1 he]; exact h
theorem ex_one {a m : Int} (h : Va (a, m)) : ex [(a, m)] = [(a, m)] := by
  rw [ex_yes (all_one h)]
  exact Iv.is_one (Iv.nf_is (va_vm (all_one h))) (Is.self (Nm.one h.vm))

/-- The state behind the one transaction. -/
noncomputable def awM : Em.St := Em.took (Em.st0 5) 3 [(1, bk 1)]
theorem aw_fine : Em.rf (Em.st0 5) 3 [(1, bk 1)] = 0 := by
  have : Em.Fine (Em.st0 5) 3 [(1, bk 1)] := ⟨by decide, by decide, by simp, fun j a b => by simp at b; omega, fun j hj => by simp at hj; subst hj; decide, fun j hj => by simp at hj; subst hj; decide, fun j hj => by simp at hj; subst hj; exact bk_len 1⟩
  exact this.rf
theorem aw_ap : awM = Em.ap (Em.st0 5) 3 [(1, bk 1)] := Em.took_ok aw_fine
theorem aw_v : awM.V 1 = [(3, bk 1)] := by rw [aw_ap]; rfl
theorem aw_up : Up awM := up_took (Em.st0_ok (by omega) (by omega)) (up_st0 5) _ _
theorem aw_last {M : Em.St} (hM : Em.Ok M) (L : List (Int × Int)) : ¬ Lt_ M M.last L := by
  rintro ⟨k, -, v, hv, h⟩
  have := (hM.v k v hv).2.1; omega
theorem aw_8 : ck awM [] 2 (ex [(1, 1)]) (ex [(2, 1)]) = 8 := by
  rw [ex_one (by unfold Va; simp only; omega), ex_one (by unfold Va; simp only; omega)]
  exact ck_yes (by simp) (Or.inl (Or.inl ⟨1, (Iv.in_one _ _).2 (by simp only; omega), (3, bk 1), by rw [aw_v]; simp, by simp only; omega⟩))
theorem aw_0 (hM : Em.Ok awM) : ck awM [] 3 (ex [(1, 1)]) (ex [(2, 1)]) = 0 := by
  refine ck_no ?_
  have e : (3 : Int) = awM.last := by rw [aw_ap]; rfl
  rw [e]
  rintro ((h | ⟨_, h, _⟩) | (h | ⟨_, h, _⟩))
  · exact aw_last hM _ h
  · cases h
  · exact aw_last hM _ h
  · cases h

set_option maxHeartbeats 4000000 in
set_option maxRecDepth 100000 in
theorem awake_any (w : World) : Calls Try.prog 9 #[] w (Gives (.bool true) w) := by
  have HN := Lib.hid (Em.new_any 5 (by omega) (by omega) w)
  rw [show ((5 : Nat) : Int) = 5 from rfl] at HN
  go_enter Try.func9, Try.ntmps9
  go_wp2_with fail
  refine HN.out.mono ?_
  rintro e w1 ⟨b, F, rfl, hm, hF, hA⟩
  have HM := Lib.hid hm
  have HF := Lib.hid hF
  have HA := Lib.hid hA
  clear hm hF hA HN
  go_wp2_with fail
  refine (data_any 1 w1).mono ?_
  rintro e w2 ⟨g, rfl, hg, hb, hA⟩
  have HG := Lib.hid hg
  have HB := Lib.hid hb
  have HA2 := Lib.hid hA
  clear hg hb hA
  go_wp2_with fail
  have hA3 : At w2 (w2.alloc (.cells #[.int .i64 1, .slice (some ⟨g, 0, none⟩) 40 40] 61)) := (At.start w2).alloc _
  obtain ⟨q, hq⟩ : ∃ q, q = w2.heap.size := ⟨_, rfl⟩
  have HQ : Hid ((w2.alloc (.cells #[.int .i64 1, .slice (some ⟨g, 0, none⟩) 40 40] 61)).heap[q]? = some (.cells #[.int .i64 1, .slice (some ⟨g, 0, none⟩) 40 40] 61 (0, 0))) := Lib.hid (by rw [hq]; exact heap_alloc_new _ _)
  have HQL : Hid (w1.heap.size ≤ q) := Lib.hid (by rw [hq]; exact HA2.out.size)
  rw [← hq]
  have HA3 := Lib.hid hA3
  have HB3 := Lib.hid (HB.out.below hA3)
  clear hA3 hq
  generalize w2.alloc (.cells #[.int .i64 1, .slice (some ⟨g, 0, none⟩) 40 40] 61) = w3 at HQ HA3 HB3 ⊢
  have hft := HM.out.ft
  have hm3 := HM.out.on (HA2.out.next HA3.out)
  have HAP := Lib.hid (Em.apply_far hm3 3 (some ⟨q, 0, none⟩) [(1, bk 1)] 1 1 rfl (by omega) (fun W hW => by
    have hnq : ¬ F q := fun h => by have := hft q h; have := HQL.out; omega
    have hng : ¬ F g := fun h => by have := hft g h; have := HG.out; omega
    have hqw := hW.keep HQ.out hnq
    refine Or.inr ⟨q, 0, rfl, lt_heap hqw, fun j hj => ?_⟩
    have hj0 : j = 0 := by simp at hj; omega
    subst hj0
    refine ⟨(cell_at hqw 0).trans rfl, some ⟨g, 0, none⟩, 40, (cell_at hqw 1).trans ?_, bv_mv HB3.out hW hng⟩
    show some (Value.slice (some ⟨g, 0, none⟩) 40 40) = some (Value.slice (some ⟨g, 0, none⟩) (bk 1).length 40)
    rw [bk_len]) (fun p hp => by rw [List.mem_singleton] at hp; subst hp; exact bk_byte 1) (by show 0 < 20000; omega))
  rw [aw_fine] at HAP
  clear hm3 hft
  refine HAP.out.mono ?_
  rintro e w4 ⟨F', rfl, hm4, hdid⟩
  have HM4 : Hid (Em.Mp w4 b awM F') := Lib.hid hm4
  have HA4 : Hid (At w w4) := Lib.hid (hdid.at_ (HA.out.next (HA2.out.next HA3.out)) HF.out)
  clear hm4 hdid HAP HM HF HA HA2 HA3 HB3 HB HQ HQL HG
  have HS5 := Lib.hid (sets_any (some ⟨w4.heap.size, 0, none⟩) 1 1 [(1, 1)] rfl (by omega) (fun e => by cases e) _ (ev_one w4 1 1))
  have HA5 : Hid (At w4 (w4.alloc (.cells #[.int .i64 1, .int .i64 1] 49))) := Lib.hid ((At.start w4).alloc _)
  go_wp2_with fail
  refine HS5.out.mono ?_
  rintro e w5 ⟨br, dr, vr, rfl, hsr, -, hA⟩
  have HSR := Lib.hid hsr
  have HW5 : Hid (At w4 w5) := Lib.hid (HA5.out.next hA)
  clear hsr hA HS5 HA5
  have HS6 := Lib.hid (sets_any (some ⟨w5.heap.size, 0, none⟩) 1 1 [(2, 1)] rfl (by omega) (fun e => by cases e) _ (ev_one w5 2 1))
  have HA6 : Hid (At w5 (w5.alloc (.cells #[.int .i64 2, .int .i64 1] 49))) := Lib.hid ((At.start w5).alloc _)
  go_wp2_with fail
  refine HS6.out.mono ?_
  rintro e w6 ⟨bw, dw, vw, rfl, hsw, -, hA⟩
  have HSW := Lib.hid hsw
  have HW6 : Hid (At w5 w6) := Lib.hid (HA6.out.next hA)
  clear hsw hA HS6 HA6
  have HS7 := Lib.hid (sets_any none 0 0 [] rfl (by omega) (fun _ => ⟨rfl, rfl⟩) w6 (EV.nil _ _))
  go_wp2_with fail
  refine HS7.out.mono ?_
  rintro e w7 ⟨bn, dn, vn, rfl, hsn, -, hA⟩
  have HSN := Lib.hid hsn
  have HW7 : Hid (At w6 w7) := Lib.hid hA
  clear hsn hA HS7
  have HMX : Hid (∀ W, At w7 W → Em.Mp W b awM F' ∧ Sv W br vr 100 (ex [(1, 1)]) ∧ Sv W bw vw 100 (ex [(2, 1)]) ∧ Sv W bn vn 100 (ex [])) := Lib.hid fun W hW =>
    ⟨HM4.out.on (((HW5.out.next HW6.out).next HW7.out).next hW), HSR.out.on ((HW6.out.next HW7.out).next hW), HSW.out.on (HW7.out.next hW), HSN.out.on hW⟩
  have HLN : Hid ((ex [(1, 1)]).length ≤ 1000 ∧ (ex [(2, 1)]).length ≤ 1000 ∧ (ex []).length ≤ 1000) := Lib.hid ⟨Nat.le_trans (ex_len _) (by simp), Nat.le_trans (ex_len _) (by simp), Nat.le_trans (ex_len _) (by simp)⟩
  have HC1 : Hid (∀ W, At w7 W → Calls Try.prog 17 #[.pointer (some ⟨b, 0, none⟩), .slice none 0 0, .int .i64 2, .pointer (some ⟨br, 0, none⟩), .pointer (some ⟨bw, 0, none⟩)] W (Gives (.int .i64 8) W)) := Lib.hid fun W hW => by
    obtain ⟨h1, h2, h3, -⟩ := HMX.out W hW
    have := check_any h1 aw_up none [] 0 0 rfl (by omega) (fun _ h => by cases h) (TV.nil _ _) 2 h2 h3 HLN.out.1 HLN.out.2.1
    rwa [aw_8] at this
  have HC2 : Hid (∀ W, At w7 W → Calls Try.prog 17 #[.pointer (some ⟨b, 0, none⟩), .slice none 0 0, .int .i64 3, .pointer (some ⟨br, 0, none⟩), .pointer (some ⟨bw, 0, none⟩)] W (Gives (.int .i64 0) W)) := Lib.hid fun W hW => by
    obtain ⟨h1, h2, h3, -⟩ := HMX.out W hW
    have := check_any h1 aw_up none [] 0 0 rfl (by omega) (fun _ h => by cases h) (TV.nil _ _) 3 h2 h3 HLN.out.1 HLN.out.2.1
    rwa [aw_0 h1.ok] at this
  have HC3 : Hid (∀ W, At w7 W → Calls Try.prog 17 #[.pointer (some ⟨b, 0, none⟩), .slice none 0 0, .int .i64 2, .pointer (some ⟨br, 0, none⟩), .pointer (some ⟨bn, 0, none⟩)] W (Gives (.int .i64 0) W)) := Lib.hid fun W hW => by
    obtain ⟨h1, h2, -, h4⟩ := HMX.out W hW
    have := check_any h1 aw_up none [] 0 0 rfl (by omega) (fun _ h => by cases h) (TV.nil _ _) 2 h2 h4 HLN.out.1 HLN.out.2.2
    rwa [ex_nil, ck_none] at this
  have HA7 : Hid (At w w7) := Lib.hid (HA4.out.next ((HW5.out.next HW6.out).next HW7.out))
  clear HMX HLN HM4 HSR HSW HSN HW5 HW6 HW7 HA4
  go_wp2_with fail
  refine (HC1.out _ (At.start _)).mono ?_
  rintro e w8 ⟨rfl, hA⟩
  have HA8 : Hid (At w7 w8) := Lib.hid hA
  clear hA
  go_wp2_with fail
  refine (HC2.out _ HA8.out).mono ?_
  rintro e w9 ⟨rfl, hA⟩
  have HA9 := Lib.hid (HA8.out.next hA)
  clear hA
  go_wp2_with fail
  refine (HC3.out _ HA9.out).mono ?_
  rintro e w10 ⟨rfl, hA⟩
  have HA10 := Lib.hid (HA7.out.next (HA9.out.next hA))
  clear hA
  go_wp2
  go_ret
  exact ⟨rfl, HA10.out⟩

end Go.Proofs.Ytcffoebpgjonmaa
