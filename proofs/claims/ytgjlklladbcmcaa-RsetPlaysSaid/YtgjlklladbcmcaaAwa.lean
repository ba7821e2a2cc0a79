/- Proved: the law's own small view answers as the document fixes it. -/
import Derived.Test.YtgjlklladbcmcaaOps
namespace Go.Proofs.Ytgjlklladbcmcaa
open Go.RowKit

section
variable {w0 w : World} {F : Nat → Nat → Prop} {A : Ad} {M : Em.St} {B : St} {t : Int} {L : List (Int × Int)} {R : List Rd}
/-- One block is written. -/
theorem Ww.write1 (h : Ww w0 w F A M B t L R) {q g c : Nat} {x : Int} {d : List Nat} (hq : w.heap[q]? = some (.cells #[.int .i64 x, .slice (some ⟨g, 0, none⟩) 40 c] 76 (0, 0))) (hb : BV w (some ⟨g, 0, none⟩) d) (hd : d.length = 40 ∧ AllB d) (hf : rf B [(x, d)] = 0) :
    Calls Try.prog 14 #[.pointer (some ⟨A.bb, 0, none⟩), .slice (some ⟨q, 0, none⟩) 1 1] w fun e w' => e = .returned (.int .i64 0) ∧ Ww w0 w' F A M (upS B [(x, d)]) t L R ∧ Mv (fun g => g = A.mb) w w' := by
  have hpv := pv_row (l := [((x, d), g, c)]) hq (by simp only [pcs, hd.1]) (fun y hy => by
    rw [List.mem_singleton] at hy; subst hy; exact hb)
  refine (h.write (some ⟨q, 0, none⟩) [(x, d)] 1 1 rfl (by omega) hpv (fun p hp => by
    rw [List.mem_singleton] at hp; subst hp; exact hd.2)).mono ?_
  rintro e w' ⟨he, hW, hm⟩
  rw [hf] at he
  rw [wr_yes hf] at hW
  exact ⟨he, hW, hm⟩
end
/-- What awake reads. -/
theorem awk_code : rcode 5 [] 1 2 = 0 := rcode_ok (by omega) (by omega) (by
  have h := Iv.nf_is (L := [] ++ [((1 : Int), (2 : Int))]) (fun e he => by rw [List.nil_append, List.mem_singleton] at he; subst he; unfold Iv.Vm; simp)
  have := Iv.is_len (fun e he => by rw [List.nil_append, List.mem_singleton] at he; subst he; unfold Iv.Vm; simp) h
  simpa using Nat.le_trans this (by simp))
theorem awk_bytes (d : List Nat) (hd : d.length = 40) : rdB (Em.st0 5) (upS (st0 5 16) [(2, d)]) 0 [] 1 2 = zr 40 ++ d := by
  have h0 : rcode (Em.st0 5).n [] 1 2 = 0 := awk_code
  unfold rdB
  rw [if_pos h0]
  have e1 : see (Em.st0 5) (upS (st0 5 16) [(2, d)]) 0 1 = ⟨1, zr 40, false⟩ := see_map rfl
  have e2 : see (Em.st0 5) (upS (st0 5 16) [(2, d)]) 0 2 = ⟨2, d, true⟩ := see_own (B := upS (st0 5 16) [(2, d)]) (k := 2) (show d ≠ [] from fun e => by rw [e] at hd; cases hd)
  show byt [see (Em.st0 5) (upS (st0 5 16) [(2, d)]) 0 1, see (Em.st0 5) (upS (st0 5 16) [(2, d)]) 0 2] = _
  rw [e1, e2]
  unfold byt
  simp

set_option maxHeartbeats 2000000 in
set_option maxRecDepth 100000 in
theorem awake_any (w : World) : Calls Try.prog 9 #[] w (Gives (.bool true) w) := by
  have HN := Lib.hid (fresh_any 5 (by omega) (by omega) 0 w)
  rw [show ((5 : Nat) : Int) = 5 from rfl] at HN
  go_enter Try.func9, Try.ntmps9
  go_wp2_with fail
  refine HN.out.mono ?_
  rintro e w1 ⟨A, F, rfl, hW, -, -⟩
  have HW := Lib.hid hW
  have HC : Hid (∀ W, At w1 W → W.cell? ⟨A.bw, 1, none⟩ = some (.pointer (some ⟨A.bb, 0, none⟩))) := Lib.hid fun W hA => (HW.out.on hA).cells.2.1
  have d0 := HC.out w1 (At.start _)
  have HFI : Hid (rf (st0 5 16) [(2, bk 7)] = 0) := Lib.hid (fine_one (by omega) (by decide) (bk_len 7) (by omega)).rf
  clear hW HN
  go_wp2_with fail
  go_region_held3 (fun w' => w'.cell? ⟨A.bw, 1, none⟩ = some (.pointer (some ⟨A.bb, 0, none⟩))) (go_keep)
    (first
      | (go_at_call 26; refine (data_any 7 _).mono ?_; rintro e w3 ⟨g, rfl, hg, hb, hA⟩; have HA3 : Hid (At w1 w3) := Lib.hid (((At.start w1).drewN 1).next hA); have HB3 := Lib.hid hb; have e1 := HC.out w3 HA3.out; clear hg hb hA)
      | (go_at_call 14; refine (((HW.out.on HA3.out).on ((At.start w3).alloc _)).write1 (heap_alloc_new w3 _) (HB3.out.below ((At.start w3).alloc _)) ⟨bk_len 7, bk_byte 7⟩ HFI.out).mono ?_; rintro e w5 ⟨rfl, hW5, -⟩; have HW5 := Lib.hid hW5; have e5 := hW5.cells.2.1; clear hW5))
  have c2 := HW5.out.cells.2.2.1
  have HR := Lib.hid (HW5.out.read_ok (by simp) 1 2 awk_code (awk_bytes (bk 7) (bk_len 7)) (N := 80) (by rw [List.length_append, zr_len, bk_len]))
  clear d0 e1 e5 HB3 HFI HC HA3 HW
  go_wp2_with fail
  refine HR.out.mono ?_
  rintro e w6 ⟨g6, c6, F6, rfl, hb6, hc6, hW6, -, -, -⟩
  have HW6 := Lib.hid hW6
  have HB6 := Lib.hid hb6
  obtain ⟨b', o', he, hlt6, hc⟩ := hb6.pos (by rw [List.length_append, zr_len, bk_len]; omega)
  injection he with he
  injection he with he1 he2
  subst he1 he2
  have c0 := hc 0 (by rw [List.length_append, zr_len, bk_len]; omega)
  rw [show (zr 40 ++ bk 7).getD 0 0 = 0 from rfl] at c0
  have c0 : w6.cell? ⟨g6, 0, none⟩ = some (.int .u8 0) := c0
  have HC0 : Hid (∀ W, At w6 W → W.cell? ⟨g6, 0, none⟩ = some (.int .u8 0)) := Lib.hid fun W hW => (Below.cell hW (p := ⟨g6, 0, none⟩) hlt6).trans c0
  have HD6 : Hid (∀ W, At w6 W → BV W (some ⟨g6, 40, none⟩) (bk 7)) := Lib.hid fun W hW => by
    have := (HB6.out.below hW).drop 40
    rwa [List.drop_left' (zr_len 40), Nat.zero_add] at this
  have hne : ¬ c6 = 40 := by omega
  have k1 : (40 : Int) ≤ (c6 : Int) := by omega
  clear hW6 hb6 hc c2 HR HW5
  go_wp2_with fail
  go_region_held3 (fun w' => w'.cell? ⟨g6, 0, none⟩ = some (.int .u8 0)) (go_keep)
    (first
      | (go_at_call 26; refine (data_any 7 _).mono ?_; rintro e w7 ⟨g7, rfl, hg, hb, hA⟩; have HA7 : Hid (At w6 w7) := Lib.hid (((At.start w6).drewN 1).next hA); have HB7 := Lib.hid hb; have e1 := HC0.out w7 HA7.out; clear hg hb hA)
      | (go_at_call 13; refine (bytes_any (some ⟨g6, 40, none⟩) (some ⟨g7, 0, none⟩) 40 _ _ (bk 7) (bk 7) w7 (by omega) (bk_len 7) (bk_len 7) (bk_byte 7) (bk_byte 7) (HD6.out w7 HA7.out) HB7.out).mono ?_; rintro e w8 ⟨rfl, kk, rfl⟩; have e2 := HC0.out (w7.drewN kk) (HA7.out.next ((At.start w7).drewN kk))))
  have HE : Hid (∀ m, At w (w7.drewN m)) := Lib.hid fun m => HW6.out.at_.next (HA7.out.next ((At.start w7).drewN m))
  go_wp2
  go_ret
  exact ⟨by simp, HE.out _⟩

end Go.Proofs.Ytgjlklladbcmcaa
