/- Proved: what the library's stable sort gives at a row of ints: the row in the one order that the comparison and the places before make. -/
import Derived.Test.YtefpaagbopmmlaaStp
namespace Go.Proofs.Ytefpaagbopmmlaa
open Go.RowKit Go.Sort

theorem insertion_any (F : Nat → Int) (cf : Nat → Nat → Int) (T : Nat → Nat → Prop) (hT : Ord T) (w : World) (blk off n cap sb : Nat) (H : Rw F w blk off n) (hC : CmpOk F cf w blk off n sb) (hn : n ≤ 1000000) (p A s : List Nat) (m : Nat) (a b : Int)
    (hA : A.Pairwise (Cross T cf)) (hlen : (p ++ A ++ s).length = n) (ha : a = p.length) (hb : b = (p.length + A.length : Nat)) :
    Calls Try.prog 40 #[.slice (some ⟨blk, off, none⟩) n cap, .int .i64 a, .int .i64 b, cv sb] (RW F w blk off (p ++ A ++ s) m) fun e w' =>
      e = .returned (.tuple #[]) ∧ ∃ m' C, w' = RW F w blk off (p ++ C ++ s) m' ∧ C.Perm A ∧ C.Pairwise T := by
  by_cases h0 : 0 < A.length
  · exact insertion_some F cf T hT w blk off n cap sb H hC hn p A s m a b h0 hA hlen ha hb
  · obtain rfl : A = [] := List.eq_nil_of_length_eq_zero (by omega)
    have hp : p.length ≤ n := by rw [← hlen]; simp
    refine (insertion_none _ _ a b _ (by simp at hb; omega) (by omega) (by omega)).mono ?_
    rintro e w' ⟨he, hw⟩
    exact ⟨he, m, [], hw, List.Perm.refl _, List.Pairwise.nil⟩

/-- The first way over the row: chunks that are sorted, and what is not yet. -/
structure Bl (T : Nat → Nat → Prop) (cf : Nat → Nat → Int) (L : List Nat) (full : List (List Nat)) (R : List Nat) : Prop where
  f : Full T 20 full
  r : R.Pairwise (Cross T cf)
  c : CrossAll T cf (full ++ [R])
  p : (full.flatten ++ R).Perm L
theorem bl_start {T : Nat → Nat → Prop} {cf : Nat → Nat → Int} {L : List Nat} (h : L.Pairwise (Cross T cf)) : Bl T cf L [] L :=
  ⟨fun _ h => absurd h (List.not_mem_nil), h, List.pairwise_singleton _ _, List.Perm.refl _⟩
theorem bl_step {T : Nat → Nat → Prop} {cf : Nat → Nat → Int} {L : List Nat} {full : List (List Nat)} {A C R : List Nat} (h : Bl T cf L full (A ++ R)) (hA : A.length = 20) (h1 : C.Perm A) (h2 : C.Pairwise T) : Bl T cf L (full ++ [C]) R := by
  refine ⟨full_snoc h.f (by rw [h1.length_eq, hA]) h2, (List.pairwise_append.1 h.r).2.1, ?_, ?_⟩
  · have := cross_perm (cross_cut h.c h.r) h1
    simpa using this
  · refine List.Perm.trans ?_ h.p
    simp only [List.flatten_append, List.flatten_cons, List.flatten_nil, List.append_nil, List.append_assoc]
    exact List.Perm.append_left _ (List.Perm.append_right _ h1)
theorem bl_end {T : Nat → Nat → Prop} {cf : Nat → Nat → Int} {L : List Nat} {full : List (List Nat)} {C R : List Nat} (h : Bl T cf L full R) (hR : R.length < 20) (h1 : C.Perm R) (h2 : C.Pairwise T) : St T cf L 20 full C :=
  ⟨h.f, h2, by rw [h1.length_eq]; exact hR, cross_perm (S := []) h.c h1, (List.Perm.append_left _ h1).trans h.p⟩

set_option maxHeartbeats 4000000 in
set_option maxRecDepth 100000 in
theorem stable_some (F : Nat → Int) (cf : Nat → Nat → Int) (T : Nat → Nat → Prop) (hT : Ord T) (w : World) (blk off n cap sb : Nat) (H : Rw F w blk off n) (hC : CmpOk F cf w blk off n sb) (hn : n ≤ 1000000) (L : List Nat) (m : Nat)
    (hL : L.Pairwise (Cross T cf)) (hlen : L.length = n) :
    Calls Try.prog 36 #[.slice (some ⟨blk, off, none⟩) n cap, .int .i64 (n : Int), cv sb] (RW F w blk off L m) fun e w' =>
      e = .returned (.tuple #[]) ∧ ∃ m' C, w' = RW F w blk off C m' ∧ C.Perm L ∧ C.Pairwise T := by
  have HH := Lib.hid H
  have HC := Lib.hid hC
  have HT := Lib.hid hT
  have HL := Lib.hid hL
  have HN := Lib.hid hlen
  clear H hC hT hL hlen
  obtain ⟨wx, hwx⟩ : ∃ wx, wx = RW F w blk off L m := ⟨_, rfl⟩
  rw [← hwx]
  have HWX := Lib.hid hwx
  clear hwx
  unfold cv
  go_enter Try.func36, Try.ntmps36
  go_wp2
  go_loopw [7, 8] (fun a b wr => ∃ (la m' : Nat) (full : List (List Nat)) (R : List Nat), la ≤ n ∧ a = .int .i64 (la : Int) ∧ b = .int .i64 ((la : Int) + 20) ∧ Hid (Bl T cf L full R ∧ full.flatten.length = la ∧ la + R.length = n ∧ wr = RW F w blk off (full.flatten ++ R) m')) (fun a _ _ => n - (intOf a).toNat)
  case atStart => exact ⟨0, m, [], L, Nat.zero_le _, rfl, by go_num, Lib.hid ⟨bl_start HL.out, rfl, by rw [HN.out]; omega, HWX.out⟩⟩
  case round =>
    clear HWX
    obtain ⟨la, m', full, R, hla, rfl, rfl, HR⟩ := hrel
    by_cases hlt : la + 20 ≤ n
    · obtain ⟨A, R2, e1, e2, e3⟩ := split_len R 20 (by have := HR.out.2.2.1; omega)
      have hb := HR.out.1
      rw [e1] at hb
      have hi := insertion_any F cf T HT.out w blk off n cap sb HH.out HC.out hn full.flatten A R2 m' (la : Int) ((la : Int) + 20) (List.pairwise_append.1 hb.r).1
        (by have := HR.out.2.1; have := HR.out.2.2.1; simp only [List.length_append]; omega) (by rw [HR.out.2.1]) (by rw [HR.out.2.1, e2]; omega)
      have ew : RW F w blk off (full.flatten ++ A ++ R2) m' = wr := by rw [HR.out.2.2.2, e1]; simp
      rw [ew] at hi
      unfold cv at hi
      have HI := Lib.hid hi
      have HREL : Hid (∀ C, C.Perm A → C.Pairwise T → Bl T cf L (full ++ [C]) R2 ∧ (full ++ [C]).flatten.length = la + 20 ∧ la + 20 + R2.length = n) := Lib.hid (fun C h1 h2 => by
        have := HR.out.2.1; have := HR.out.2.2.1; have := h1.length_eq
        exact ⟨bl_step hb e2 h1 h2, by simp only [List.flatten_append, List.flatten_cons, List.flatten_nil, List.append_nil, List.length_append]; omega, by omega⟩)
      clear e1 e2 e3 hb hi ew HR
      go_wp2_with (go_at_call 40; refine HI.out.mono ?_; rintro e w2 ⟨rfl, m2, C, hw2, hp2, hs2⟩; have HW2 := Lib.hid hw2; have HP2 := Lib.hid hp2; have HS2 := Lib.hid hs2; clear hw2 hp2 hs2)
      go_roundw
      case rel =>
        obtain ⟨r1, r2, r3⟩ := HREL.out C HP2.out HS2.out
        exact ⟨la + 20, m2, full ++ [C], R2, hlt, by go_num, by go_num, Lib.hid ⟨r1, r2, r3, by rw [HW2.out]; simp⟩⟩
      case measure => simp [intOf]; omega
    · have hR : R.length < 20 := by have := HR.out.2.2.1; omega
      have hi := insertion_any F cf T HT.out w blk off n cap sb HH.out HC.out hn full.flatten R [] m' (la : Int) (n : Int) HR.out.1.r
        (by have := HR.out.2.1; have := HR.out.2.2.1; simp only [List.length_append, List.length_nil]; omega) (by rw [HR.out.2.1]) (by rw [HR.out.2.1, HR.out.2.2.1])
      have ew : RW F w blk off (full.flatten ++ R ++ []) m' = wr := by rw [HR.out.2.2.2]; simp
      rw [ew] at hi
      unfold cv at hi
      have HI := Lib.hid hi
      have HREL : Hid (∀ C, C.Perm R → C.Pairwise T → St T cf L 20 full C) := Lib.hid (fun C h1 h2 => bl_end HR.out.1 hR h1 h2)
      clear hR hi ew HR
      go_wp2_with (go_at_call 40; refine HI.out.mono ?_; rintro e w2 ⟨rfl, m2, C, hw2, hp2, hs2⟩; have HW2 := Lib.hid hw2; have HP2 := Lib.hid hp2; have HS2 := Lib.hid hs2; clear hw2 hp2 hs2)
      go_loopw [6] (fun b wr => ∃ (bs m' : Nat) (full : List (List Nat)) (last : List Nat), 20 ≤ bs ∧ bs ≤ 2 * n + 20 ∧ b = .int .i64 (bs : Int) ∧ Hid (St T cf L bs full last ∧ wr = RW F w blk off (full.flatten ++ last) m')) (fun b _ => n - (intOf b).toNat)
      case atStart => exact ⟨20, m2, full, C, Nat.le_refl _, by omega, by go_num, Lib.hid ⟨HREL.out C HP2.out HS2.out, by rw [HW2.out]; simp⟩⟩
      case round =>
        clear HW2 HP2 HS2 HREL HI
        clear C full R hla hlt
        obtain ⟨bs, m', full, last, hbs, hb2, rfl, HR⟩ := hrel
        by_cases hlt : bs < n
        · obtain ⟨wo, hwo⟩ : ∃ wo : World, wo = wr := ⟨_, rfl⟩
          subst hwo
          go_wp2
          go_loopw [7, 8] (fun a b wr => ∃ (la m' : Nat) (done rest : List (List Nat)), la ≤ n ∧ a = .int .i64 (la : Int) ∧ b = .int .i64 ((la : Int) + 2 * (bs : Int)) ∧ Hid (Ps T cf L bs done rest last ∧ done.flatten.length = la ∧ la + (rest.flatten.length + last.length) = n ∧ wr = RW F w blk off (done.flatten ++ (rest.flatten ++ last)) m')) (fun a _ _ => n - (intOf a).toNat)
          case atStart =>
            have hp := HR.out.1.p.length_eq
            rw [List.length_append, HN.out] at hp
            exact ⟨0, m', [], full, Nat.zero_le _, rfl, by go_num, Lib.hid ⟨ps_start HR.out.1, rfl, by omega, HR.out.2⟩⟩
          case round =>
            clear HR
            obtain ⟨la, m', done, rest, hla, rfl, rfl, HR⟩ := hrel
            by_cases hle : la + 2 * bs ≤ n
            · obtain ⟨A, B, rest2, hrest⟩ : ∃ A B rest2, rest = A :: B :: rest2 := by
                have h1 := HR.out.2.2.1
                have h2 := HR.out.1.ll
                match rest, HR.out.1.f, h1 with
                | [], _, h1 => simp at h1; omega
                | [A], hf, h1 => have := (hf A (by simp)).1; simp at h1; omega
                | A :: B :: rest2, _, _ => exact ⟨A, B, rest2, rfl⟩
              subst hrest
              obtain ⟨hP, h1, h2, h3⟩ := HR.out
              have fA := hP.f A (by simp)
              have fB := hP.f B (by simp)
              have hcp := cross_pair (by have := hP.c; simpa using this : CrossAll T cf (done ++ A :: B :: (rest2 ++ [last])))
              have h2' : la + (bs + bs + rest2.flatten.length + last.length) = n := by
                simp only [List.flatten_cons, List.length_append] at h2; omega
              have hs := sym_any F cf T HT.out w blk off n cap sb HH.out HC.out hn (2 * bs) done.flatten A B (rest2.flatten ++ last) m' (la : Int) ((la : Int) + (bs : Int)) ((la : Int) + 2 * (bs : Int)) (by omega) (by omega) (by omega) fA.2 fB.2 hcp
                (by simp only [List.length_append]; omega) (by omega) (by omega) (by omega)
              have ew : RW F w blk off (done.flatten ++ A ++ B ++ (rest2.flatten ++ last)) m' = wr := by rw [h3]; simp
              rw [ew] at hs
              unfold cv at hs
              have HS := Lib.hid hs
              have HREL : Hid (∀ C, C.Perm (A ++ B) → C.Pairwise T → Ps T cf L bs (done ++ [C]) rest2 last ∧ (done ++ [C]).flatten.length = la + 2 * bs ∧ la + 2 * bs + (rest2.flatten.length + last.length) = n) := Lib.hid (fun C k1 k2 => by
                have := k1.length_eq
                rw [List.length_append] at this
                exact ⟨ps_step hP k1 k2, by simp only [List.flatten_append, List.flatten_cons, List.flatten_nil, List.append_nil, List.length_append]; omega, by omega⟩)
              have hlei : (la : Int) + 2 * (bs : Int) ≤ (n : Int) := by omega
              clear hP h1 h2 h3 fA fB hcp h2' hs ew HR
              go_wp2_with (go_at_call 41; refine HS.out.mono ?_; rintro e w2 ⟨rfl, m2, C, hw2, hp2, hs2⟩; have HW2 := Lib.hid hw2; have HP2 := Lib.hid hp2; have HS2 := Lib.hid hs2; clear hw2 hp2 hs2)
              go_roundw
              case rel =>
                obtain ⟨r1, r2, r3⟩ := HREL.out C HP2.out HS2.out
                exact ⟨la + 2 * bs, m2, done ++ [C], rest2, hle, by go_num, by go_num, Lib.hid ⟨r1, r2, r3, by rw [HW2.out]; simp⟩⟩
              case measure => simp [intOf]; omega
            · have hlei : ¬ ((la : Int) + 2 * (bs : Int) ≤ (n : Int)) := by omega
              obtain ⟨hP, h1, h2, h3⟩ := HR.out
              clear HR
              rcases rest with _ | ⟨A, _ | ⟨B, rest2⟩⟩
              · have hb' := hP.ll
                have h2' : la + last.length = n := by simpa using h2
                have HREL := Lib.hid (ps_end0 hP)
                have HW : Hid (wr = RW F w blk off (done.flatten ++ last) m') := Lib.hid (by rw [h3]; simp)
                have hm : ¬ ((la : Int) + (bs : Int) < (n : Int)) := by omega
                clear hP h1 h2 h3 h2' hb'
                go_wp2_with fail
                go_roundw
                case rel => exact ⟨2 * bs, m', done, last, by omega, by omega, by congr 1; omega, Lib.hid ⟨HREL.out, HW.out⟩⟩
                case measure => simp [intOf]; omega
              · have fA := hP.f A (by simp)
                have h2' : la + (bs + last.length) = n := by simp at h2; omega
                by_cases h0 : 0 < last.length
                · have hcp := cross_pair (S := []) (by have := hP.c; simpa using this : CrossAll T cf (done ++ A :: last :: []))
                  have hll := hP.ll
                  have hs := sym_any F cf T HT.out w blk off n cap sb HH.out HC.out hn (2 * bs) done.flatten A last [] m' (la : Int) ((la : Int) + (bs : Int)) (n : Int) (by omega) h0 (by omega) fA.2 hP.l hcp
                    (by simp only [List.length_append, List.length_nil]; omega) (by omega) (by omega) (by omega)
                  have ew : RW F w blk off (done.flatten ++ A ++ last ++ []) m' = wr := by rw [h3]; simp
                  rw [ew] at hs
                  unfold cv at hs
                  have HS := Lib.hid hs
                  have HREL : Hid (∀ C, C.Perm (A ++ last) → C.Pairwise T → St T cf L (2 * bs) done C) := Lib.hid (fun C k1 k2 => ps_end2 hP k1 k2)
                  have hm : (la : Int) + (bs : Int) < (n : Int) := by omega
                  clear hP h1 h2 h3 fA hcp h2' hs ew hll
                  go_wp2_with (go_at_call 41; refine HS.out.mono ?_; rintro e w2 ⟨rfl, m2, C, hw2, hp2, hs2⟩; have HW2 := Lib.hid hw2; have HP2 := Lib.hid hp2; have HS2 := Lib.hid hs2; clear hw2 hp2 hs2)
                  go_roundw
                  case rel => exact ⟨2 * bs, m2, done, C, by omega, by omega, by congr 1; omega, Lib.hid ⟨HREL.out C HP2.out HS2.out, by rw [HW2.out]; simp⟩⟩
                  case measure => simp [intOf]; omega
                · obtain rfl : last = [] := List.eq_nil_of_length_eq_zero (by omega)
                  have HREL := Lib.hid (ps_end1 hP)
                  have HW : Hid (wr = RW F w blk off (done.flatten ++ A) m') := Lib.hid (by rw [h3]; simp)
                  have hm : ¬ ((la : Int) + (bs : Int) < (n : Int)) := by simp at h2'; omega
                  clear hP h1 h2 h3 h2' fA h0
                  go_wp2_with fail
                  go_roundw
                  case rel => exact ⟨2 * bs, m', done, A, by omega, by omega, by congr 1; omega, Lib.hid ⟨HREL.out, HW.out⟩⟩
                  case measure => simp [intOf]; omega
              · exfalso
                have := (hP.f A (by simp)).1
                have := (hP.f B (by simp)).1
                simp at h2; omega
        · have HFIN : Hid (∃ m' C, wr = RW F w blk off C m' ∧ C.Perm L ∧ C.Pairwise T) := Lib.hid (by
            obtain ⟨h1, h2⟩ := HR.out
            exact ⟨m', _, h2, h1.p, st_end h1 (by rw [HN.out]; omega) (by omega)⟩)
          clear HR
          go_wp2
          go_end0
          exact ⟨rfl, HFIN.out⟩

end Go.Proofs.Ytefpaagbopmmlaa
