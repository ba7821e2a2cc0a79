/- Proved: the law's whole world: the three landed objects and the document's own three, each in its state; what a call of either side answers and leaves. -/
import Derived.Test.YtgjlklladbcmcaaRe
import Derived.Test.YtgjlklladbcmcaaRap
import Derived.Test.YtgjlklladbcmcaaTot
namespace Go.Proofs.Ytgjlklladbcmcaa
open Go.RowKit
open Em (Did)
open Iv (In Nm Is Vm nf nf_is)

/-- The document's own three in their states; its map has at most N versions. -/
structure Dd (w : World) (F : Nat → Nat → Prop) (A : Ad) (M : Em.St) (N : Nat) (B : St) (t : Int) (L : List (Int × Int)) (R : List Rd) : Prop where
  m : Rm w A.dx M N (F 3)
  b : Rb w A.dy B (F 4)
  z : Rz w A.dz A.dx A.dy t L R (F 5)
section
variable {w0 w w' : World} {F F' : Nat → Nat → Prop} {A : Ad} {M M2 : Em.St} {B B2 : St} {t : Int} {L L2 : List (Int × Int)} {R R2 : List Rd} {N : Nat}
theorem Dd.on (h : Dd w F A M N B t L R) (hA : At w w') : Dd w' F A M N B t L R := ⟨h.m.on hA, h.b.on hA, h.z.on hA⟩
/-- A landed object was turned. -/
theorem Dd.far {i : Nat} (h : Dd w F A M N B t L R) (al : Al w0 w F) (hi : i < 3) (hF : Fo F i F' w) (hm : Mv (F i) w w') : Dd w' F' A M N B t L R := by
  refine ⟨?_, ?_, ?_⟩
  · rw [hF.1 3 (by omega)]; exact h.m.mv hm (al.far (by omega))
  · rw [hF.1 4 (by omega)]; exact h.b.mv hm (al.far (by omega))
  · rw [hF.1 5 (by omega)]; exact h.z.mv hm (al.far (by omega))
/-- The blocks of an object that was turned: its own, and new ones. -/
def nfi (F : Nat → Nat → Prop) (i : Nat) (w w' : World) : Nat → Prop := fun g => (F i g ∨ w.heap.size ≤ g) ∧ g < w'.heap.size
/-- One of the document's objects was turned. -/
theorem Ww.far {i : Nat} (h : Ww w0 w F A M B t L R) (h3 : 3 ≤ i) (h5 : i ≤ 5) (hm : Mv (fun g => F i g ∨ w.heap.size ≤ g) w w') : Ww w0 w' (upd F i (nfi F i w w')) A M B t L R := by
  have hm2 : Mv (F i) w w' := hm.more fun g hg => hg
  have hd : Did (F i) w (nfi F i w w') w' := ⟨hm2, fun g hg => hg.1⟩
  exact ⟨by rw [upd_ne _ _ (by omega)]; exact h.m.mv hm2 (h.al.far (by omega)), h.b.mv hm2 (h.al.far (by omega) _ h.f1.1) (h.al.far (by omega) _ h.f1.2), by rw [upd_ne _ _ (by omega)]; exact h.f1, by rw [upd_ne _ _ (by omega)]; exact h.v.mv hm2 (h.al.far (by omega)), hm2.keep h.box (h.al.far (by omega) _ h.f6), by rw [upd_ne _ _ (by omega)]; exact h.f6, h.al.step i hd fun g hg => hg.2⟩
theorem fo_nfi (F : Nat → Nat → Prop) (i : Nat) (w w' : World) : Fo F i (upd F i (nfi F i w w')) w := ⟨fun _ hj => upd_ne _ _ hj, fun g hg => by rw [upd_at] at hg; exact hg.1⟩

/-- What lies in no object's blocks stays. -/
def Kp (F : Nat → Nat → Prop) (w : World) (F' : Nat → Nat → Prop) (w' : World) : Prop := ∀ g, Fre F w g → Fre F' w' g ∧ w'.heap[g]? = w.heap[g]?
theorem kp_of {i : Nat} (hF : Fo F i F' w) (hm : Mv (F i) w w') : Kp F w F' w' := fun g hg => ⟨hg.turn hF hm.size, hm.block g hg.2 (hg.1 i)⟩

/-- The law's six objects. -/
structure Py (w0 w : World) (F : Nat → Nat → Prop) (A : Ad) (t : Int) (M : Em.St) (B : St) (L : List (Int × Int)) (R : List Rd) (M2 : Em.St) (N : Nat) (B2 : St) (L2 : List (Int × Int)) (R2 : List Rd) : Prop where
  ww : Ww w0 w F A M B t L R
  dd : Dd w F A M2 N B2 t L2 R2
theorem Py.on (h : Py w0 w F A t M B L R M2 N B2 L2 R2) (hA : At w w') : Py w0 w' F A t M B L R M2 N B2 L2 R2 := ⟨h.ww.on hA, h.dd.on hA⟩
theorem Py.at_ (h : Py w0 w F A t M B L R M2 N B2 L2 R2) : At w0 w := h.ww.at_
theorem Py.back {wa : World} (h : Py w0 w F A t M B L R M2 N B2 L2 R2) (hA : At wa w0) : Py wa w F A t M B L R M2 N B2 L2 R2 := ⟨h.ww.back hA, h.dd⟩
/-- The landed Apply, and the document's. -/
theorem Py.apply (h : Py w0 w F A t M B L R M2 N B2 L2 R2) (T : Int) (X : Option Addr) (P : List Pt) (n c : Nat) (hn : P.length = n) (hl : n ≤ 1000000) (hv : PV w0 X P) (hB : AllBy P) (hc : M.c < 1000) :
    Calls Try.prog 16 #[.pointer (some ⟨A.bm, 0, none⟩), .agg #[.int .i64 T, .slice X n c]] w fun e w' => ∃ z F', e = .returned (.int .i64 z) ∧ Py w0 w' F' A t (Em.took M T P) B L R M2 N B2 L2 R2 ∧ Kp F w F' w' :=
  (h.ww.applyz T X P n c hn hl hv hB hc).mono fun _ _ ⟨z, F', he, hW, hf, hm⟩ => ⟨z, F', he, ⟨hW, h.dd.far h.ww.al (by decide) hf hm⟩, kp_of hf hm⟩
theorem Py.rapply (h : Py w0 w F A t M B L R M2 N B2 L2 R2) (T : Int) (X : Option Addr) (P : List Pt) (n c : Nat) (hn : P.length = n) (hl : n ≤ 1000000) (hv : PV w0 X P) (hB : AllBy P) (hc : M2.c < 1000) (hN : N ≤ 50000000) :
    Calls Try.prog 17 #[.pointer (some ⟨A.dx, 0, none⟩), .agg #[.int .i64 T, .slice X n c]] w fun e w' => ∃ z F', e = .returned (.int .i64 z) ∧ Py w0 w' F' A t M B L R (Em.took M2 T P) (N + n) B2 L2 R2 ∧ Kp F w F' w' := by
  refine (rapply_any (h.dd.m.more fun g _ hg => Or.inl hg) (P := fun g => F 3 g ∨ w.heap.size ≤ g) (fun g hg => Or.inr hg) hc hN T X P n c hn hl (hv.on h.at_) hB).mono ?_
  rintro e w' ⟨⟨z, rfl⟩, hr, hm⟩
  have hdx : F 3 A.dx := by obtain ⟨v, X, hq, _⟩ := h.dd.m; exact hq.pd
  have hmv : Mv (fun g => F 3 g ∨ w.heap.size ≤ g) w w' := hm.more fun g hg => Or.inl (Or.inl (by rw [hg]; exact hdx))
  have hm3 : Mv (F 3) w w' := hmv.more fun g hg => hg
  refine ⟨z, upd F 3 (nfi F 3 w w'), rfl, ⟨h.ww.far (by decide) (by decide) hmv, ?_, ?_, ?_⟩, kp_of (fo_nfi F 3 w w') hm3⟩
  · rw [upd_at]; exact hr.more fun g hg hp => ⟨hp, hg⟩
  · rw [upd_ne _ _ (by decide)]; exact h.dd.b.mv hm3 (h.ww.al.far (by decide))
  · rw [upd_ne _ _ (by decide)]; exact h.dd.z.mv hm3 (h.ww.al.far (by decide))
/-- The landed Write, and the document's. -/
theorem Py.write (h : Py w0 w F A t M B L R M2 N B2 L2 R2) (X : Option Addr) (P : List Pt) (n c : Nat) (hn : P.length = n) (hl : n ≤ 1000000) (hv : PV w0 X P) (hB : AllBy P) :
    Calls Try.prog 14 #[.pointer (some ⟨A.bb, 0, none⟩), .slice X n c] w fun e w' => ∃ z, e = .returned (.int .i64 z) ∧ Py w0 w' F A t M (wr B P) L R M2 N B2 L2 R2 ∧ Kp F w F w' :=
  (h.ww.write X P n c hn hl (hv.on h.at_) hB).mono fun _ w' ⟨he, hW, hm⟩ => by
    have hm1 : Mv (F 1) w w' := hm.more fun g hg => Or.inl (by rw [hg]; exact h.ww.f1.2)
    exact ⟨_, he, ⟨hW, h.dd.far h.ww.al (by decide) (Fo.refl _ _ _) hm1⟩, kp_of (Fo.refl _ _ _) hm1⟩
theorem Py.rwrite (h : Py w0 w F A t M B L R M2 N B2 L2 R2) (X : Option Addr) (P : List Pt) (n c : Nat) (hn : P.length = n) (hl : n ≤ 1000000) (hv : PV w0 X P) (hB : AllBy P) :
    Calls Try.prog 15 #[.pointer (some ⟨A.dy, 0, none⟩), .slice X n c] w fun e w' => ∃ z F', e = .returned (.int .i64 z) ∧ Py w0 w' F' A t M B L R M2 N (wr B2 P) L2 R2 ∧ Kp F w F' w' := by
  have hdy : F 4 A.dy := by obtain ⟨v, l, hq⟩ := h.dd.b; exact hq.pd
  refine (rwrite_any (h.dd.b.more fun g _ hg => Or.inl hg) (Z := fun g => F 4 g ∨ w.heap.size ≤ g) (fun g hg => Or.inr hg) X P n c hn hl (fun W hm => hv.on (hm.at_ h.at_ fun g hg => by rw [hg]; exact h.ww.al.ge 4 _ hdy)) hB).mono ?_
  rintro e w' ⟨rfl, hr, hm⟩
  have hmv : Mv (fun g => F 4 g ∨ w.heap.size ≤ g) w w' := hm.more fun g hg => Or.inl (Or.inl (by rw [hg]; exact hdy))
  have hm4 : Mv (F 4) w w' := hmv.more fun g hg => hg
  refine ⟨_, upd F 4 (nfi F 4 w w'), rfl, ⟨h.ww.far (by decide) (by decide) hmv, ?_, ?_, ?_⟩, kp_of (fo_nfi F 4 w w') hm4⟩
  · rw [upd_ne _ _ (by decide)]; exact h.dd.m.mv hm4 (h.ww.al.far (by decide))
  · rw [upd_at]; exact hr.more fun g hg hp => ⟨hp, hg⟩
  · rw [upd_ne _ _ (by decide)]; exact h.dd.z.mv hm4 (h.ww.al.far (by decide))
/-- The landed Read: its bytes stay while the document's view is turned. -/
theorem Py.read (h : Py w0 w F A t M B L R M2 N B2 L2 R2) (hR : R.length ≤ 100000) (a m : Int) {n : Nat} {z : Int} {D : List Nat} (hD : rdB M B t L a m = D) (hn : D.length = n) (hz : rcode M.n L a m = z) :
    Calls Try.prog 11 #[.pointer (some ⟨A.bv, 0, none⟩), .agg #[.int .i64 a, .int .i64 m]] w fun e w' => ∃ X c F', e = .returned (.tuple #[.slice X n c, .int .i64 z]) ∧ Py w0 w' F' A t M B (rdL M.n L a m) (rdR M B t L R a m) M2 N B2 L2 R2 ∧ Kp F w F' w' ∧ ∀ W W', At w' W → Mv (fun g => F' 5 g ∨ W.heap.size ≤ g) W W' → BV W' X D := by
  refine (h.ww.read hR a m).mono ?_
  rintro e w' ⟨X, c, F', he, hb, hx, hW, hF, hm⟩
  rw [hD, hz] at he
  rw [hn] at he
  rw [hD] at hb
  refine ⟨X, c, F', he, ⟨hW, h.dd.far h.ww.al (by decide) hF hm⟩, kp_of hF hm, fun W W' hA hm2 => ?_⟩
  by_cases h0 : rcode M.n L a m = 0
  · obtain ⟨g, rfl, hg, _⟩ := hx h0
    refine bv_mv (hb.below hA) hm2 fun hf => ?_
    rcases hf with hf | hf
    · exact hg.1 5 hf
    · have := hg.2; have := hA.size; omega
  · have : D = [] := by rw [← hD]; unfold rdB; rw [if_neg h0]
    rw [this]
    exact BV.nil _ _
/-- The document's Read. -/
theorem Py.rread (h : Py w0 w F A t M B L R M2 N B2 L2 R2) (hR : R2.length ≤ 100000) (hN : N ≤ 100000000) (a m : Int) {n : Nat} {z : Int} {D : List Nat} (hD : rdB M2 B2 t L2 a m = D) (hn : D.length = n) (hz : rcode M2.n L2 a m = z) :
    Calls Try.prog 12 #[.pointer (some ⟨A.dz, 0, none⟩), .agg #[.int .i64 a, .int .i64 m]] w fun e w' => ∃ X c F', e = .returned (.tuple #[.slice X n c, .int .i64 z]) ∧ Py w0 w' F' A t M B L R M2 N B2 (rdL M2.n L2 a m) (rdR M2 B2 t L2 R2 a m) ∧ BV w' X D ∧ Mv (fun g => F 5 g ∨ w.heap.size ≤ g) w w' ∧ Kp F w F' w' := by
  obtain ⟨vm, Xm, hqm, _⟩ := id h.dd.m
  refine (rread_any (h.dd.z.more fun g _ hg => Or.inl hg) h.dd.m h.dd.b (P := fun g => F 5 g ∨ w.heap.size ≤ g) (fun g hg => Or.inr hg) (fun g hg hp => ?_) (fun g hg hp => ?_) hR hN a m).mono ?_
  · rcases hp with hp | hp
    · exact h.ww.al.far (i := 3) (j := 5) (by decide) g hg hp
    · have := h.ww.al.lt 3 g hg; omega
  · rcases hp with hp | hp
    · exact h.ww.al.far (i := 4) (j := 5) (by decide) g hg hp
    · have := h.ww.al.lt 4 g hg; omega
  rintro e w' ⟨X, c, rfl, hb, hr, hmv⟩
  have hm5 : Mv (F 5) w w' := hmv.more fun g hg => hg
  refine ⟨X, c, upd F 5 (nfi F 5 w w'), by rw [hD, hz, hn], ⟨h.ww.far (by decide) (by decide) hmv, ?_, ?_, ?_⟩, by rw [← hD]; exact hb, hmv, kp_of (fo_nfi F 5 w w') hm5⟩
  · rw [upd_ne _ _ (by decide)]; exact h.dd.m.mv hm5 (h.ww.al.far (by decide))
  · rw [upd_ne _ _ (by decide)]; exact h.dd.b.mv hm5 (h.ww.al.far (by decide))
  · rw [upd_at]; exact hr.more fun g hg hp => ⟨hp, hg⟩
/-- In the beginning. -/
theorem py_new {n : Nat} (h : Ww w0 w F A (Em.st0 n) (st0 n 16) t [] []) (hd : Dn0 w A n t) (f3 : F 3 A.dx) (f4 : F 4 A.dy) (f5 : F 5 A.dz) : Py w0 w F A t (Em.st0 n) (st0 n 16) [] [] (Em.st0 n) 0 (st0 n 16) [] [] := by
  refine ⟨h, ⟨.slice none 0 0, [], ⟨h.m.ok, hd.x, Vr.nil _, ?_, f3, fun g hg => (by cases hg), fun x hx => (by cases hx)⟩, Nat.le_refl _⟩, ⟨.slice none 0 0, [], h.b.ok, hd.y, ⟨World.ownsRow_nil _ _ _ _, fun x hx => (by cases hx)⟩, ?_, f4, fun g hg => (by cases hg), fun x hx => (by cases hx)⟩, ⟨.slice none 0 0, .slice none 0 0, [], hd.z, Iv.Ow.nil _, Nm.nil, Nat.zero_le _, Rw.nil _, rfl, f5, fun g hg => (by cases hg), fun g hg => (by cases hg), fun x hx => (by cases hx), fun x hx => (by cases hx)⟩⟩
  · exact ⟨List.Pairwise.nil, fun k => rfl, fun v hv => by cases hv⟩
  · show List.map _ [] = ls (st0 n 16)
    unfold ls
    rw [us_st0]
    rfl
end
/-- The read set keeps within the blocks that there are. -/
theorem rdL_in {n : Nat} {L : List (Int × Int)} {a m : Int} (hv : ∀ e ∈ L, Vm e) (hn : n ≤ 1048576) (hL : ∀ x ∈ L, x.1 + x.2 ≤ (n : Int)) : ∀ x ∈ rdL n L a m, x.1 + x.2 ≤ (n : Int) := by
  unfold rdL
  by_cases h0 : rcode n L a m = 0
  · rw [if_pos h0]
    obtain ⟨h1, h2, _⟩ := rcode_0 h0
    have hvl : ∀ e ∈ L ++ [(a, m)], Vm e := fun e he => by
      rcases List.mem_append.1 he with he | he
      · exact hv e he
      · rw [List.mem_singleton] at he; subst he; unfold Vm; simp only; omega
    have hi := nf_is hvl
    intro x hx
    have hxv := hi.1.1 x hx
    unfold Vm at hxv
    have hin : In (nf (L ++ [(a, m)])) (x.1 + x.2 - 1) := ⟨x, hx, by omega, by omega⟩
    obtain ⟨e, he, h3, h4⟩ := (hi.2 _).1 hin
    have : e.1 + e.2 ≤ (n : Int) := by
      rcases List.mem_append.1 he with he | he
      · exact hL e he
      · rw [List.mem_singleton] at he; subst he; exact h2.2
    omega
  · rw [if_neg h0]; exact hL
theorem rdR_len (M : Em.St) (B : St) (t : Int) (L : List (Int × Int)) (R : List Rd) (a m : Int) : (rdR M B t L R a m).length ≤ R.length + 16 := by
  unfold rdR
  by_cases h0 : rcode M.n L a m = 0
  · rw [if_pos h0, List.length_append, sees_len]
    have := (rcode_0 h0).1
    omega
  · rw [if_neg h0]; omega

/-- A step that the law has laid beside. -/
theorem stc_cells {W : World} {q m cb : Nat} {kd ea em nm : Int} {B : Option Addr} (h : W.heap[q]? = some (.cells #[.int .i64 kd, .int .i64 ea, .int .i64 em, .slice B m cb, .int .i64 nm] 32 (0, 0))) :
    W.cell? ⟨q, 0, none⟩ = some (.int .i64 kd) ∧ W.cell? ⟨q, 1, none⟩ = some (.int .i64 ea) ∧ W.cell? ⟨q, 2, none⟩ = some (.int .i64 em) ∧ W.cell? ⟨q, 3, none⟩ = some (.slice B m cb) ∧ W.cell? ⟨q, 4, none⟩ = some (.int .i64 nm) :=
  ⟨(cell_at h 0).trans rfl, (cell_at h 1).trans rfl, (cell_at h 2).trans rfl, (cell_at h 3).trans rfl, (cell_at h 4).trans rfl⟩
theorem step_take {w : World} {X : Option Addr} {L : List Stp} {n k : Nat} (h : SV w X L) (hn : L.length = n) (hk : k < n) (hS : ∀ s ∈ L, SOk s) (hF : Few L) : ∃ (b o : Nat) (kd ea em nm : Int) (P : List Pt) (B : Option Addr) (m cb : Nat), X = some ⟨b, o, none⟩ ∧ P.length = m ∧ m ≤ 20000 ∧ PV w B P ∧ AllBy P ∧
    ∀ W, At w W → W.cell? ⟨b, o + k * 5, none⟩ = some (.int .i64 kd) ∧ W.cell? ⟨b, o + k * 5 + 1, none⟩ = some (.int .i64 ea) ∧ W.cell? ⟨b, o + k * 5 + 2, none⟩ = some (.int .i64 em) ∧ W.cell? ⟨b, o + k * 5 + 3, none⟩ = some (.slice B m cb) ∧ W.cell? ⟨b, o + k * 5 + 4, none⟩ = some (.int .i64 nm) := by
  have hkL : k < L.length := by omega
  obtain ⟨b, o, rfl, hbl, hcx⟩ := h.pos (by omega)
  obtain ⟨s0, s1, s2, ⟨B, cb, s3, hpv⟩, s4⟩ := hcx k hkL
  refine ⟨b, o, (L.getD k sz).kind, (L.getD k sz).a, (L.getD k sz).m, (L.getD k sz).num, (L.getD k sz).puts, B, _, cb, rfl, rfl, hF.2 k hkL, hpv, fun p hp => ((hS _ (step_mem hkL)).1 p hp).1, fun W hW => ?_⟩
  exact ⟨(Below.cell hW (p := ⟨b, o + k * 5, none⟩) hbl).trans s0, (Below.cell hW (p := ⟨b, o + k * 5 + 1, none⟩) hbl).trans s1, (Below.cell hW (p := ⟨b, o + k * 5 + 2, none⟩) hbl).trans s2, (Below.cell hW (p := ⟨b, o + k * 5 + 3, none⟩) hbl).trans s3, (Below.cell hW (p := ⟨b, o + k * 5 + 4, none⟩) hbl).trans s4⟩
theorem Kp.step {F F' : Nat → Nat → Prop} {wa W w' : World} {q : Nat} {o : Obj} (hk : Kp F W F' w') (hA : At wa W) (hf : Fre F wa q) (hb : wa.heap[q]? = some o) : Fre F' w' q ∧ w'.heap[q]? = some o := by
  obtain ⟨h1, h2⟩ := hk q ⟨hf.1, Nat.lt_of_lt_of_le hf.2 hA.size⟩
  exact ⟨h1, h2.trans (hA.keep hb)⟩
/-- Two rows of the same reads, at a place. -/
theorem rows_at {w : World} {A A' : Option Addr} {c c' u k : Nat} {l l' : List Lr} (h : Rw w (.slice A u c) l) (h' : Rw w (.slice A' u c') l') (he : l.map (·.1) = l'.map (·.1)) (hu : l.length = u) (hk : k < u) :
    ∃ (g g' p q p' q' : Nat) (x : Int) (d : List Nat) (o : Bool), A = some ⟨g, 0, none⟩ ∧ A' = some ⟨g', 0, none⟩ ∧ d.length = 40 ∧ AllB d ∧ ∀ W, At w W → W.cell? ⟨g, k * 3, none⟩ = some (.int .i64 x) ∧ W.cell? ⟨g, k * 3 + 1, none⟩ = some (.slice (some ⟨p, 0, none⟩) 40 q) ∧ W.cell? ⟨g, k * 3 + 2, none⟩ = some (.bool o) ∧
      W.cell? ⟨g', k * 3, none⟩ = some (.int .i64 x) ∧ W.cell? ⟨g', k * 3 + 1, none⟩ = some (.slice (some ⟨p', 0, none⟩) 40 q') ∧ W.cell? ⟨g', k * 3 + 2, none⟩ = some (.bool o) ∧ BV W (some ⟨p, 0, none⟩) d ∧ BV W (some ⟨p', 0, none⟩) d := by
  have hu' : l'.length = u := by rw [← hu, ← List.length_map (f := fun y : Lr => y.1), ← he, List.length_map]
  obtain ⟨B, b, e, -, hf⟩ := h.form
  obtain ⟨B', b', e', -, hf'⟩ := h'.form
  injection e with e1 _ e3
  injection e' with e1' _ e3'
  subst e1 e3 e1' e3'
  obtain ⟨g, rfl, hg, hc⟩ := hf (by omega)
  obtain ⟨g', rfl, hg', hc'⟩ := hf' (by omega)
  obtain ⟨h1, h2, h3⟩ := hc k (by omega)
  obtain ⟨h1', h2', h3'⟩ := hc' k (by omega)
  have hx : (l.getD k lrz).1 = (l'.getD k lrz).1 := by
    have a1 : (l.map (·.1))[k]? = (l'.map (·.1))[k]? := by rw [he]
    rw [List.getElem?_map, List.getElem?_map, List.getElem?_eq_getElem (by omega), List.getElem?_eq_getElem (by omega)] at a1
    rw [List.getD_eq_getElem?_getD, List.getElem?_eq_getElem (by omega), List.getD_eq_getElem?_getD, List.getElem?_eq_getElem (by omega)]
    injection a1
  have hb := (h.bv _ (lr_mem (show k < l.length by omega))).1
  have hb' := (h'.bv _ (lr_mem (show k < l'.length by omega))).1
  have hy := h.by_ _ (lr_mem (show k < l.length by omega))
  rw [← hx] at h1' h3' hb'
  refine ⟨g, g', (l.getD k lrz).2.1, (l.getD k lrz).2.2, (l'.getD k lrz).2.1, (l'.getD k lrz).2.2, (l.getD k lrz).1.n, (l.getD k lrz).1.d, (l.getD k lrz).1.o, rfl, rfl, hy.1, hy.2, fun W hW => ⟨?_, ?_, ?_, ?_, ?_, ?_, hb.below hW, hb'.below hW⟩⟩
  · exact (Below.cell hW (p := ⟨g, k * 3, none⟩) hg).trans h1
  · exact (Below.cell hW (p := ⟨g, k * 3 + 1, none⟩) hg).trans h2
  · exact (Below.cell hW (p := ⟨g, k * 3 + 2, none⟩) hg).trans h3
  · exact (Below.cell hW (p := ⟨g', k * 3, none⟩) hg').trans h1'
  · exact (Below.cell hW (p := ⟨g', k * 3 + 1, none⟩) hg').trans h2'
  · exact (Below.cell hW (p := ⟨g', k * 3 + 2, none⟩) hg').trans h3'
/-- What the law asks in the end: what is to be read of the document's own view, and what the calls answer. -/
theorem plays_tail {w wr : World} {F : Nat → Nat → Prop} {A : Ad} {t : Int} {M : Em.St} {B : St} {L : List (Int × Int)} {R : List Rd} {N nb : Nat} (h : Py w wr F A t M B L R M N B L R) (hnb : nb ≤ 1048576) (hR : R.length ≤ 100000) (hL : ∀ x ∈ L, x.1 + x.2 ≤ (nb : Int)) :
    ∃ (u ns cS cR : Nat) (AS AR : Option Addr) (lz : List Lr), u ≤ 100000 ∧ Hid (Calls Try.prog 18 #[.pointer (some ⟨A.bv, 0, none⟩)] wr fun e w' => ∃ A4 c4 l4, e = .returned (.slice A4 u c4) ∧ Rw w' (.slice A4 u c4) l4 ∧ l4.map (·.1) = lz.map (·.1) ∧ l4.length = u ∧ At wr w') ∧
      Hid (∀ W, At wr W → Calls Try.prog 19 #[.pointer (some ⟨A.bv, 0, none⟩)] W fun e w' => ∃ b5, e = .returned (.pointer (some ⟨b5, 0, none⟩)) ∧ At W w' ∧ Hid (∀ W2, At w' W2 → Calls Try.prog 21 #[.pointer (some ⟨b5, 0, none⟩)] W2 fun e w3 => ∃ A6 c6, e = .returned (.slice A6 ns c6) ∧ At W2 w3 ∧
        Hid (∀ W4, At w3 W4 → Calls Try.prog 20 #[.slice A6 ns c6, .slice AS ns cS] W4 (Gives (.bool true) W4)))) ∧
      Hid (∀ W, At wr W → Calls Try.prog 22 #[.pointer (some ⟨A.bv, 0, none⟩)] W fun e w' => e = .returned (.int .i64 t) ∧ W = w') ∧
      Hid (∀ W, At wr W → W.cell? ⟨A.bw, 2, none⟩ = some (.pointer (some ⟨A.bv, 0, none⟩)) ∧ W.cell? ⟨A.bw, 5, none⟩ = some (.pointer (some ⟨A.dz, 0, none⟩)) ∧ W.cell? ⟨A.dz, 4, none⟩ = some (.slice AS ns cS) ∧ W.cell? ⟨A.dz, 5, none⟩ = some (.slice AR u cR)) ∧ Hid (Rw wr (.slice AR u cR) lz) := by
  obtain ⟨vz, rz, lz, hz⟩ := id h.dd.z
  obtain ⟨AS, cS, rfl, -, -, hev⟩ := hz.ow.ev
  obtain ⟨AR, cR, rfl, -, -⟩ := hz.rw.form
  have hlz : lz.length = R.length := by rw [← hz.is, List.length_map]
  have hrw := hz.rw
  rw [hlz] at hrw
  have hnl := hz.le
  have hze := hz.is
  refine ⟨R.length, L.length, cS, cR, AS, AR, lz, hR, Lib.hid ?_, Lib.hid fun W hW => ?_, Lib.hid fun W hW => ?_, Lib.hid fun W hW => ?_, Lib.hid hrw⟩
  · refine (reads_any h.ww.v (by omega)).mono ?_
    rintro e w' ⟨v, l, rfl, hr, hl, hA⟩
    obtain ⟨A4, c4, rfl, -, -⟩ := hr.form
    have hll : l.length = R.length := by rw [← hl, List.length_map]
    rw [hll] at hr ⊢
    exact ⟨A4, c4, l, rfl, hr, by rw [hl, hze], hll, hA⟩
  · refine (set_any (h.ww.v.on hW) (fun x hx => by have := hL x hx; omega) hnl).mono ?_
    rintro e w' ⟨b, v, rfl, hs, hA⟩
    refine ⟨b, rfl, hA, Lib.hid fun W2 hW2 => ?_⟩
    refine (Iv.extents_any (hs.on hW2) (by omega)).mono ?_
    rintro e w3 ⟨v6, rfl, ho, hA3, -⟩
    obtain ⟨A6, c6, rfl, -, -, hev6⟩ := ho.ev
    refine ⟨A6, c6, rfl, hA3, Lib.hid fun W4 hW4 => ?_⟩
    have := Iv.same_any A6 AS L.length c6 L.length cS L L W4 (by omega) (by omega) rfl rfl (hev6.on hW4) (hev.on ((((hW.next hA).next hW2).next hA3).next hW4))
    rwa [show Iv.esB L L = true from decide_eq_true rfl] at this
  · obtain ⟨bs, vs, vr, l, hv⟩ := h.ww.v
    exact at_any (hW.keep hv.box)
  · obtain ⟨-, -, c2, -, -, c5⟩ := (h.ww.on hW).cells
    obtain ⟨-, -, -, z4, z5⟩ := (hz.on hW).cells
    rw [hlz] at z5
    exact ⟨c2, c5, z4, z5⟩
/-- Between two steps: both sides in one state. -/
structure Lp (w wr : World) (F : Nat → Nat → Prop) (A : Ad) (t : Int) (nb i : Nat) (M : Em.St) (B : St) (L : List (Int × Int)) (R : List Rd) (N : Nat) : Prop where
  py : Py w wr F A t M B L R M N B L R
  n : M.n = nb
  c : M.c ≤ i
  N_ : N ≤ 20000 * i
  R_ : R.length ≤ 16 * i
  L_ : ∀ x ∈ L, x.1 + x.2 ≤ (nb : Int)
section
variable {w wy wz : World} {F F' : Nat → Nat → Prop} {A : Ad} {t : Int} {nb i : Nat} {M : Em.St} {B : St} {L : List (Int × Int)} {R : List Rd} {N : Nat}
theorem Lp.on (h : Lp w wy F A t nb i M B L R N) (hA : At wy wz) : Lp w wz F A t nb i M B L R N := ⟨h.py.on hA, h.n, h.c, h.N_, h.R_, h.L_⟩
theorem Lp.idle (h : Lp w wy F A t nb i M B L R N) : Lp w wy F A t nb (i + 1) M B L R N := ⟨h.py, h.n, Nat.le_succ_of_le h.c, by have := h.N_; omega, by have := h.R_; omega, h.L_⟩
theorem Lp.vm (h : Lp w wy F A t nb i M B L R N) : ∀ e ∈ L, Vm e := by
  obtain ⟨v, r, l, hz⟩ := h.py.dd.z
  exact hz.nm.1
theorem Lp.did1 (h : Lp w wy F A t nb i M B L R N) (a m : Int) (hp : Py w wz F' A t M B (rdL M.n L a m) (rdR M B t L R a m) M N B (rdL M.n L a m) (rdR M B t L R a m)) : Lp w wz F' A t nb (i + 1) M B (rdL M.n L a m) (rdR M B t L R a m) N := by
  refine ⟨hp, h.n, Nat.le_succ_of_le h.c, by have := h.N_; omega, by have := h.R_; have := rdR_len M B t L R a m; omega, ?_⟩
  have := rdL_in (a := a) (m := m) h.vm h.py.ww.m.ok.n2 (by rw [h.n]; exact h.L_)
  rwa [h.n] at this ⊢
theorem Lp.did2 (h : Lp w wy F A t nb i M B L R N) (P : List Pt) (hp : Py w wz F' A t M (wr B P) L R M N (wr B P) L R) : Lp w wz F' A t nb (i + 1) M (wr B P) L R N := ⟨hp, h.n, Nat.le_succ_of_le h.c, by have := h.N_; omega, by have := h.R_; omega, h.L_⟩
theorem Lp.did3 (h : Lp w wy F A t nb i M B L R N) (T : Int) (P : List Pt) (m : Nat) (hm : m ≤ 20000) (hp : Py w wz F' A t (Em.took M T P) B L R (Em.took M T P) (N + m) B L R) : Lp w wz F' A t nb (i + 1) (Em.took M T P) B L R (N + m) :=
  ⟨hp, (Em.took_n _ _ _).trans h.n, Nat.le_trans (Em.took_c _ _ _) (Nat.succ_le_succ h.c), by have := h.N_; omega, by have := h.R_; omega, h.L_⟩
end

end Go.Proofs.Ytgjlklladbcmcaa
