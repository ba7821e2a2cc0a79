/- Proved: the law FsumKeeps answers true at any list and number, and leaves what there was as it was: no argument is written, and asked again the answers are the same. -/
import Derived.Test.YtphhonpibmbjmaaQuans
import Derived.Test.YtphhonpibmbjmaaWords
namespace Go.Proofs.Ytphhonpibmbjmaa
open Go.RowKit Fl

theorem one_cell (L : List Nat) : ∀ u ∈ L.map (Value.float .f64), u.oneCell' = true := by
  intro u hu; simp only [List.mem_map] at hu; obtain ⟨x, _, rfl⟩ := hu; rfl
theorem view_reads {w : World} {a : Option Addr} {n cap : Nat} {L : List Nat} (hv : View w (.slice a n cap) L) : L.length = n ∧ Reads w w.heap.size 1 a n (L.map (Value.float .f64)) := by
  rcases hv with ⟨h, rfl⟩ | ⟨ad, c, h, rfl⟩ | ⟨b, off, c, h, h0, hb, hc⟩
  · injection h with h1 h2 h3
    subst h1 h2 h3
    exact ⟨rfl, Reads.none_⟩
  · injection h with h1 h2 h3
    subst h1 h2 h3
    exact ⟨rfl, Reads.none_⟩
  · injection h with h1 h2 h3
    subst h1 h2 h3
    refine ⟨rfl, by simp, fun _ => ⟨_, rfl, hb, fun j u hu => ?_⟩⟩
    rw [List.getElem?_map] at hu
    by_cases h : j < L.length
    · rw [List.getElem?_eq_getElem h] at hu
      have := hc j h
      rw [List.getD_eq_getElem?_getD, List.getElem?_eq_getElem h] at this
      rw [Go.WideShapes.add_plain]
      simp only [Option.map_some, Option.some.injEq] at hu
      rw [← hu]; exact this
    · rw [List.getElem?_eq_none (by omega)] at hu; cases hu

set_option maxHeartbeats 2000000 in
theorem keeps_big (a : Option Addr) (n cap q : Nat) (h : 300 < n) (w : World) :
    Calls Try.prog 11 #[.slice a n cap, .float .f64 q] w fun e w' => e = .returned (.bool true) ∧ Below w.heap.size w w' := by
  have q1 : decide (n ≤ 300) = false := decide_eq_false (by omega)
  clear h
  go_enter Try.func11, Try.ntmps11
  go_wp2_with (first | (go_at_call 12; refine (small_any _ _ _ _).mono ?_; rintro e w' ⟨rfl, rfl⟩) | (go_at_call 13; refine (awake_any _).mono ?_; rintro e w' ⟨rfl, hb⟩))
  go_ret
  exact ⟨rfl, hb⟩

set_option maxHeartbeats 4000000 in
theorem keeps_small (a : Option Addr) (n cap q : Nat) (A : List Nat) (h : n ≤ 300) (hA : A.length = n) (hq : q < 18446744073709551616) (w : World) (hv : View w (.slice a n cap) A) (hf : ∀ x ∈ A, x < 18446744073709551616) :
    Calls Try.prog 11 #[.slice a n cap, .float .f64 q] w fun e w' => e = .returned (.bool true) ∧ Below w.heap.size w w' := by
  obtain ⟨i0, hi0, hz0, hz1, hz2⟩ := info_parts info_f64
  have hb : A.length ≤ 1000000 := by omega
  have q1 : decide (n ≤ 300) = true := decide_eq_true h
  have HR := Lib.hid (view_reads hv).2
  have HV := Lib.hid hv
  have HF := Lib.hid hf
  have HN := Lib.hid (And.intro h hA)
  have HB := Lib.hid hb
  have l1 := mv_lt A
  have l2 := sv_lt A
  have l3 := dv_lt A A
  have l4 := (sum_can A).2
  have hmade : (w.alloc (.cells #[] 25)).ownsRow w.heap.size 25 1 (.slice (some ⟨w.heap.size, 0, none⟩) 0 0) 0 [] := World.ownsRow_made w #[] 0 (Nat.le_refl _) (by unfold maxLen; omega) rfl
  clear hv hf hb
  go_enter Try.func11, Try.ntmps11
  go_wp2_with (first
    | (go_at_call 12; refine (small_any _ _ _ _).mono ?_; rintro e w' ⟨rfl, rfl⟩)
    | (at_builtin; refine wpList_append_any _ rfl _ _ 22 rfl w.heap.size 25 i0 (.float .f64 0) 1 8 Try.underlying22 hi0 hz0 hz1 hz2 rfl (by decide) _ 0 [] rfl hmade w.heap.size _ _ _ (A.map (Value.float .f64)) rfl (HR.out.alloc (Nat.le_refl _) _) (one_cell A) (by unfold maxLen; omega) (by omega) (by simp) ?_; intro v1 w1 hown hgrow _))
  have HV1 : Hid (View w1 v1 A) := Lib.hid (view_own (by simpa using hown))
  have HB1 : Hid (Below w.heap.size w w1) := Lib.hid (((Below.refl _ _).alloc (Nat.le_refl _) _).grown hgrow (by simp) (fun j hj => (hmade.lt j hj).1))
  clear hown hgrow hmade
  have H1 := Lib.hid (fun w' (h : At w1 w') => quan_any _ A q w' (h.view HV1.out) HB.out HF.out hq)
  have H3 := Lib.hid (fun w' (h : At w1 w') => spread_u (h.view HV1.out) HB.out HF.out)
  have H5 := Lib.hid (fun w' (h : At w1 w') => dot_u (h.view HV1.out) (h.view HV1.out) HB.out)
  have H7 := Lib.hid (fun w' (h : At w1 w') => sum_u (h.view HV1.out) HB.out HF.out)
  have hAt := At.start w1
  generalize hp2 : sv' A = p2 at *
  generalize hp3 : mc A = p3 at *
  generalize hp4 : dv A A = p4 at *
  generalize hp5 : dc A A = p5 at *
  generalize hp6 : sumW A = p6 at *
  generalize hcc : qc A.length q = c at *
  have HCC := Lib.hid hcc
  clear hp2 hp3 hp4 hp5 hp6 hcc hA h
  go_wp2_with (first
    | (go_at_call 23; refine (H1.out _ hAt).mono ?_; rintro e w2 ⟨⟨r1, R1, rfl, hs1, hr1, hl1⟩, hb⟩; replace hAt := hAt.next hb; have HS1 := Lib.hid hs1; have HR1 := Lib.hid hr1; clear hb hs1 hr1; rw [HCC.out])
    | (go_at_call 16; refine (H3.out _ hAt).mono ?_; rintro e w' ⟨rfl, hb⟩; replace hAt := hAt.next hb; clear hb)
    | (go_at_call 18; refine (H5.out _ hAt).mono ?_; rintro e w' ⟨rfl, hb⟩; replace hAt := hAt.next hb; clear hb)
    | (go_at_call 21; refine (H7.out _ hAt).mono ?_; rintro e w' ⟨rfl, hb⟩; replace hAt := hAt.next hb; clear hb))
  by_cases hn0 : n = 0
  · subst hn0
    refine wp_loop_rounds 1 ?_
    rw [rounds_succ]
    go_wp2_with (first
      | (go_at_call 23; refine (H1.out _ hAt).mono ?_; rintro e w3 ⟨⟨r2, R2, rfl, hs2, hr2, hl2⟩, hb⟩; replace hAt := hAt.next hb; have HS2 := Lib.hid hs2; have HR2 := Lib.hid hr2; clear hb hs2 hr2; rw [HCC.out])
      | (go_at_call 16; refine (H3.out _ hAt).mono ?_; rintro e w' ⟨rfl, hb⟩; replace hAt := hAt.next hb; clear hb)
      | (go_at_call 18; refine (H5.out _ hAt).mono ?_; rintro e w' ⟨rfl, hb⟩; replace hAt := hAt.next hb; clear hb)
      | (go_at_call 21; refine (H7.out _ hAt).mono ?_; rintro e w' ⟨rfl, hb⟩; replace hAt := hAt.next hb; clear hb)
      | (go_at_call 20; first | ((with_reducible refine (rsame_self _ (by assumption) _).mono ?_); rintro e w' ⟨rfl, rfl⟩) | ((with_reducible refine (rsame_val r1 r2 hl1 hl2 true (Lib.hid (sm_read (by rw [HR1.out, HR2.out]; exact qa_unique HS1.out HS2.out q))) _).mono ?_); rintro e w' ⟨rfl, rfl⟩))
      | (go_at_call 13; refine (awake_any _).mono ?_; rintro e w' ⟨rfl, hb⟩; replace hAt := hAt.next hb; clear hb))
    go_ret
    exact ⟨rfl, HB1.out.trans (Below.mono hAt HB1.out.size)⟩
  · have hn3 : n ≤ 300 := HN.out.1
    obtain ⟨bl, ol, cl, el, hbl, hcl⟩ := view_pos HV.out (by have := HN.out; omega)
    injection el with el1 el2 el3
    subst el1
    obtain ⟨bc, oc, cc, rfl, hbc, hcc⟩ := view_pos (hAt.view HV1.out) (by have := HN.out; omega)
    have HCL : Hid (∀ j, j < n → w'.cell? ⟨bl, ol + j, none⟩ = some (.float .f64 (A.getD j 0))) := Lib.hid (fun j hj => ((HB1.out.trans (Below.mono hAt HB1.out.size)).cell (p := ⟨bl, ol + j, none⟩) hbl).trans (hcl j (by have := HN.out; omega)))
    have HCC2 : Hid (∀ j, j < n → w'.cell? ⟨bc, oc + j, none⟩ = some (.float .f64 (A.getD j 0))) := Lib.hid (fun j hj => hcc j (by have := HN.out; omega))
    have hln : A.length = n := HN.out.2
    rw [hln] at H1 H3 H5 H7 ⊢
    clear hbl hcl hbc hcc el2 el3 hln
    go_loopw [13] (fun i wr => ∃ k m : Nat, k ≤ n ∧ i = .int .i64 k ∧ wr = w'.drewN m) (fun i _ => n - (intOf i).toNat)
    case atStart => exact ⟨0, 0, Nat.zero_le _, rfl, rfl⟩
    case round =>
      obtain ⟨k, m, hk, rfl, rfl⟩ := hrel
      by_cases hlt : k < n
      · have c1 := HCL.out k hlt
        have c2 := HCC2.out k hlt
        have d1 := getD_lt A HF.out k (by have := HN.out; omega)
        have b1 : (0 : Int) ≤ (k : Int) := by omega
        have b2 : (k : Int) < (n : Int) := by omega
        obtain ⟨x, hx⟩ : ∃ x, x = A.getD k 0 := ⟨_, rfl⟩
        rw [← hx] at c1 c2 d1
        clear hx
        go_wp2
        go_quiet ((go_at_call 20; exact same_drawn (rsame_self _ d1 _)))
        go_wp2
        go_roundw
        case rel => exact ⟨k + 1, _, by omega, by go_num, rfl⟩
        case measure => simp [intOf]; omega
      · obtain rfl : k = n := by omega
        have hge : ¬ ((k : Int) < (k : Int)) := by omega
        replace hAt := At.drawn hAt m
        generalize w'.drewN m = wz at hAt ⊢
        clear hlt hge HCL HCC2
        go_wp2_with (first
          | (go_at_call 23; refine (H1.out _ hAt).mono ?_; rintro e w3 ⟨⟨r2, R2, rfl, hs2, hr2, hl2⟩, hb⟩; replace hAt := hAt.next hb; have HS2 := Lib.hid hs2; have HR2 := Lib.hid hr2; clear hb hs2 hr2; rw [HCC.out])
          | (go_at_call 16; refine (H3.out _ hAt).mono ?_; rintro e w' ⟨rfl, hb⟩; replace hAt := hAt.next hb; clear hb)
          | (go_at_call 18; refine (H5.out _ hAt).mono ?_; rintro e w' ⟨rfl, hb⟩; replace hAt := hAt.next hb; clear hb)
          | (go_at_call 21; refine (H7.out _ hAt).mono ?_; rintro e w' ⟨rfl, hb⟩; replace hAt := hAt.next hb; clear hb)
          | (go_at_call 20; first | ((with_reducible refine (rsame_self _ (by assumption) _).mono ?_); rintro e w' ⟨rfl, rfl⟩) | ((with_reducible refine (rsame_val r1 r2 hl1 hl2 true (Lib.hid (sm_read (by rw [HR1.out, HR2.out]; exact qa_unique HS1.out HS2.out q))) _).mono ?_); rintro e w' ⟨rfl, rfl⟩))
          | (go_at_call 13; refine (awake_any _).mono ?_; rintro e w' ⟨rfl, hb⟩; replace hAt := hAt.next hb; clear hb))
        go_ret
        exact ⟨rfl, HB1.out.trans (Below.mono hAt HB1.out.size)⟩

end Go.Proofs.Ytphhonpibmbjmaa
