/- Proved: Prune drops what nobody can read from a time on. -/
import Derived.Test.YtjpoiijifnfjhaaDle
import Derived.Test.YtjpoiijifnfjhaaDmp
import Derived.Test.YtjpoiijifnfjhaaVrs
namespace Go.Proofs.Ytjpoiijifnfjhaa
open Go.RowKit

/-- The state when the first k of the blocks that have a version are pruned. -/
def prk (S : St) (t : Int) (k : Nat) : St := ⟨S.n, S.last, fun u => if u ∈ (us S).take k then pr (S.V u) t else S.V u, S.c⟩
def pru (S : St) (t : Int) : St := ⟨S.n, S.last, fun u => pr (S.V u) t, S.c⟩
theorem pr_le (L : List Ver) (t : Int) : (pr L t).length ≤ L.length := by rw [pr_len]; omega
theorem prk_ok {S : St} (h : Ok S) (t : Int) (k : Nat) : Ok (prk S t k) := by
  refine ⟨h.n1, h.n2, h.l0, h.l1, fun u v hv => ?_, fun u hu => ?_, fun u => ?_, h.c1⟩
  · have hv' : v ∈ if u ∈ (us S).take k then pr (S.V u) t else S.V u := hv
    by_cases e : u ∈ (us S).take k
    · rw [if_pos e] at hv'; exact h.v u v (mem_drop hv')
    · rw [if_neg e] at hv'; exact h.v u v hv'
  · show (if u ∈ (us S).take k then pr (S.V u) t else S.V u) = []
    have h0 := h.e u hu
    rw [h0]
    split
    · exact (pr_nil [] t).2 rfl
    · rfl
  · show (if u ∈ (us S).take k then pr (S.V u) t else S.V u).length ≤ S.c
    have h1 := h.b u
    have h2 := pr_le (S.V u) t
    split <;> omega
theorem prk_none (S : St) (t : Int) : prk S t 0 = S := by
  unfold prk
  simp
theorem prk_all {S : St} (h : Ok S) (t : Int) (k : Nat) (hk : (us S).length ≤ k) : prk S t k = pru S t := by
  unfold prk pru
  rw [List.take_of_length_le hk]
  congr 1
  funext u
  by_cases e : u ∈ us S
  · rw [if_pos e]
  · rw [if_neg e]
    by_cases h0 : S.V u = []
    · rw [h0]; exact ((pr_nil [] t).2 rfl).symm
    · by_cases hn : u < S.n
      · exact absurd (mem_us.2 ⟨hn, h0⟩) e
      · exact absurd (h.e u (by omega)) h0

theorem take_mem {L : List Nat} (hn : L.Nodup) {k u : Nat} (hu : L[k]? = some u) : u ∉ L.take k ∧ ∀ x, x ∈ L.take (k + 1) ↔ x ∈ L.take k ∨ x = u := by
  constructor
  · intro hm
    obtain ⟨i, hi, he⟩ := List.mem_iff_getElem.1 hm
    rw [List.length_take] at hi
    rw [List.getElem_take] at he
    have hk : k < L.length := by
      rcases Nat.lt_or_ge k L.length with h | h
      · exact h
      · rw [List.getElem?_eq_none h] at hu; cases hu
    rw [List.getElem?_eq_getElem hk] at hu
    injection hu with hu
    have := (List.getElem_inj hn).1 (he.trans hu.symm)
    omega
  · intro x
    rw [List.take_add_one, hu, List.mem_append]
    simp
theorem prk_at {S : St} (t : Int) {k u : Nat} (hu : (us S)[k]? = some u) : (prk S t k).V u = S.V u := if_neg (take_mem (us_nodup S) hu).1
theorem prk_step {S : St} (t : Int) {k u : Nat} (hu : (us S)[k]? = some u) (x : Nat) : (prk S t (k + 1)).V x = if x = u then pr (S.V u) t else (prk S t k).V x := by
  have h2 := (take_mem (us_nodup S) hu).2 x
  show (if x ∈ (us S).take (k + 1) then pr (S.V x) t else S.V x) = if x = u then pr (S.V u) t else if x ∈ (us S).take k then pr (S.V x) t else S.V x
  by_cases e : x = u
  · subst e; rw [if_pos rfl, if_pos (h2.2 (Or.inr rfl))]
  · rw [if_neg e]
    by_cases e2 : x ∈ (us S).take k
    · rw [if_pos e2, if_pos (h2.2 (Or.inl e2))]
    · rw [if_neg e2, if_neg (fun h => (h2.1 h).elim e2 e)]
theorem prk_vs {S : St} (t : Int) {k u : Nat} (hu : (us S)[k]? = some u) : vs (prk S t k) = vs (prk S t (k + 1)) + (rk (S.V u) t - 1) := by
  have hl := rk_le (S.V u) t
  refine sg_bump (f := fun x => ((prk S t (k + 1)).V x).length) (g := fun x => ((prk S t k).V x).length) u _ S.n (mem_us.1 (List.mem_of_getElem? hu)).1 fun x _ => ?_
  show ((prk S t k).V x).length = if x = u then ((prk S t (k + 1)).V x).length + _ else ((prk S t (k + 1)).V x).length
  rw [prk_step t hu x]
  by_cases e : x = u
  · subst e; rw [if_pos rfl, if_pos rfl, prk_at t hu, pr_len]; omega
  · rw [if_neg e, if_neg e]
theorem row_obj {w : World} {B n s : Nat} {e : TypeId} {v : Value} {xs : List Value} (h : w.ownsRow B e s v n xs) {g : Nat} (hg : v.ownBlock = some g) : ∃ o, w.heap[g]? = some o := by
  rcases h.2 with ⟨h, _⟩ | ⟨g', cap, cur, hv, hB, hh, hr⟩
  · subst h; cases hg
  · subst hv; injection hg with hg; subst hg; exact ⟨_, hh⟩

/-- The call prunes the map and tells how many versions it dropped. -/
def Prunes (F : Nat → Prop) (b : Nat) (S : St) (t : Int) (w : World) (e : Ending) (w' : World) : Prop := ∃ (F' : Nat → Prop) (v : Nat), e = .returned (.int .i64 (v : Int)) ∧ v + vs (pru S t) = vs S ∧ Mp w' b (pru S t) F' ∧ Did F w F' w'

set_option maxHeartbeats 4000000 in
set_option maxRecDepth 100000 in
theorem prune_any {w : World} {b : Nat} {S : St} {F : Nat → Prop} {mb : Nat} {D : DataW Value} {hd : Nat → Value} (h : Mq w b S F mb D hd) (hn : S.n ≤ 1000) (t : Int) :
    Calls Try.prog 16 #[.pointer (some ⟨b, 0, none⟩), .int .i64 t] w (Prunes F b S t w) := by
  have HL := Lib.hid (lbas_mp h)
  have hul := us_len S
  have HU : Hid ((sus S).length = (us S).length) := Lib.hid (by unfold sus; simp)
  have H := Lib.hid h
  have hvs := vs_le h.ok
  clear h
  go_enter Try.func16, Try.ntmps16
  go_wp2_with fail
  refine HL.out.mono ?_
  rintro e w1 ⟨v, rfl, hrow, hA⟩
  rw [HU.out] at hrow
  obtain ⟨N, hN⟩ : ∃ N, N = (us S).length := ⟨_, rfl⟩
  rw [← hN] at hrow hul
  have HN := Lib.hid hN
  obtain ⟨VA, vcap, hvv⟩ : ∃ A c, v = .slice A N c := by
    rcases Joins.ownsRow_forms hrow with ⟨rfl, h0⟩ | ⟨g, cap, rfl⟩
    · exact ⟨none, 0, by rw [h0]⟩
    · exact ⟨_, cap, rfl⟩
  subst hvv
  have HROW := Lib.hid hrow
  have HA1 := Lib.hid hA
  have HM1 : Hid (Mp w1 b (prk S t 0) F) := Lib.hid (by rw [prk_none]; exact ⟨mb, D, hd, H.out.on hA⟩)
  clear hrow hA hN HL
  go_wp2
  go_loopw [5, 13] (fun c5 c13 wr => ∃ (k q : Nat) (Fk : Nat → Prop), k ≤ N ∧ c13 = .int .i64 (k : Int) ∧ c5 = .int .i64 (q : Int) ∧ Hid (q + vs (prk S t k) = vs S) ∧ Hid (Mp wr b (prk S t k) Fk) ∧ Hid (Did F w1 Fk wr)) (fun _ c13 _ => N - (RowKit.intOf c13).toNat)
  case atStart => exact ⟨0, 0, F, Nat.zero_le _, rfl, rfl, Lib.hid (by rw [prk_none, Nat.zero_add]), HM1, Lib.hid (Did.refl _ _)⟩
  case round =>
    obtain ⟨k, q, Fk, hk, rfl, rfl, HQ, HM, HD⟩ := hrel
    by_cases hlt : k < N
    · obtain ⟨g, cap, he⟩ := Joins.ownsRow_form HROW.out (by omega)
      injection he with he1 _ he3
      subst he1
      subst he3
      obtain ⟨u, hu⟩ : ∃ u, u = (us S).getD k 0 := ⟨_, rfl⟩
      have hkl : k < (us S).length := by rw [← HN.out]; exact hlt
      have hug : (us S)[k]? = some u := by rw [hu, List.getD_eq_getElem?_getD, List.getElem?_eq_getElem hkl]; rfl
      have hcell := HROW.out.cells (g := g) rfl k (.int .i64 (u : Int)) (by unfold sus; rw [List.map_map, List.getElem?_map, hug]; rfl)
      rw [Go.WideShapes.add_plain, Nat.zero_add] at hcell
      obtain ⟨o, ho⟩ := row_obj HROW.out (g := g) rfl
      have hgF : ¬ F g := fun e => by have h1 := H.out.ft g e; have h2 := (row_lt HROW.out (g := g) rfl).2; omega
      have hc1 : wr.cell? ⟨g, k, none⟩ = some (.int .i64 (u : Int)) := (World.cell?_of_block (a := ⟨g, k, none⟩) ((HD.out.keep ho hgF).1.trans ho.symm)).trans hcell
      obtain ⟨hun, hne⟩ := mem_us.1 (List.mem_of_getElem? hug)
      obtain ⟨mb2, D2, hd2, hm⟩ := HM.out
      have hm0 := hm
      have hlk := hm.look (k := u) (by omega)
      have hcb := hm.cells.2.1
      have hVu := prk_at t hug
      have hrow2 := hm.row u
      have hav : AllV (S.V u) := by rw [← hVu]; exact hm.allV u
      have hlc := hm.ok.b u
      have hc1k := hm.ok.c1
      rw [hVu] at hrow2 hlc
      rcases hrow2.form with ⟨_, e0⟩ | ⟨gr, c, T, hhd, hlc1, hlc2, hT, hheap⟩
      · exact absurd e0 hne
      rw [hhd] at hlk
      obtain ⟨A', c', hh1, _, _, hvv⟩ := hrow2.vv hav
      rw [hhd] at hh1
      injection hh1 with hh1 _ hh2
      subst hh1
      subst hh2
      have hrl := rk_le (S.V u) t
      have HRD := Lib.hid (readable_any hvv (by omega) c t)
      have h0L : 0 < (S.V u).length := List.length_pos_iff.2 hne
      obtain ⟨j, hj⟩ : ∃ j, j = rk (S.V u) t - 1 := ⟨_, rfl⟩
      have hpr : pr (S.V u) t = (S.V u).drop j := by rw [hj]; rfl
      have HDE := Lib.hid (delete_any (w := wr.drew) (c := c) (j := j) hav hheap hlc1 hT (by omega) (by omega))
      have hvdr : AllV ((S.V u).drop j) := fun v hv => hav v (List.mem_of_mem_drop hv)
      have hne2 : pr (S.V u) t ≠ [] := fun e => hne ((pr_nil _ _).1 e)
      have hok2 := prk_ok H.out.ok t (k + 1)
      have HST : Hid (∀ w3 T3, w3.heap[gr]? = some (.cells (vl ((S.V u).drop j) ++ T3).toArray 65 (0, 0)) → (vl ((S.V u).drop j) ++ T3).length = c * 41 → Mv (fun x => x = gr) wr.drew w3 →
          ∃ w4, (Instr.mapUpdate 60 (.map (some mb2)) (.int .i64 (u : Int)) (.slice (some ⟨gr, 0, none⟩) ((S.V u).drop j).length c)).run Try.prog w3 = .ok () w4 ∧ w3.cell? ⟨b, 1, none⟩ = some (.map (some mb2)) ∧ w4.cell? ⟨b, 1, none⟩ = some (.map (some mb2)) ∧ ∃ F2, Mp w4 b (prk S t (k + 1)) F2 ∧ Did F w1 F2 w4) := Lib.hid (fun w3 T3 k1 k2 k3 => by
        have hmv : Mv (fun x => (hd2 u).ownBlock = some x) wr w3 := by
          rw [hhd]
          exact ((Mv.drewN (Mv.refl (fun x => x = gr) wr) 1).trans k3 fun _ h => Or.inl h).more fun x hx => Or.inl (by rw [hx]; rfl)
        have hvo : Vo w3 (.slice (some ⟨gr, 0, none⟩) ((S.V u).drop j).length c) ((S.V u).drop j) := Vo.of_block hvdr (by rw [List.length_drop]; omega) hlc2 k2 k1
        have hbk := keep_type hm0.toMr u hm0.box (by decide)
        have hbox3 := hmv.keep hm0.box hbk.1
        obtain ⟨w4, hrun, hr4, hd4, hm4⟩ := hm0.toMr.store (k := u) hun hmv hvo (fun x hx => Or.inl (by rw [hhd]; exact hx)) hok2 rfl (fun i => by rw [prk_step t hug i, hpr]) (by rw [← hpr]; exact hne2)
        exact ⟨w4, hrun, (cell_at hbox3 1).trans rfl, (cell_at (hm4.keep hbox3 hbk.2) 1).trans rfl, _, ⟨mb2, _, _, ⟨hr4, hm4.keep hbox3 hbk.2, Or.inl hm0.fb⟩⟩, HD.out.trans hd4⟩)
      have hjv := prk_vs t hug
      rw [← hj] at hjv
      have HQ2 : Hid (q + j + vs (prk S t (k + 1)) = vs S) := Lib.hid (by have := HQ.out; omega)
      have hqv : q + j ≤ 1048576000 := by have := HQ2.out; omega
      obtain ⟨r, hr⟩ : ∃ r, r = rk (S.V u) t := ⟨_, rfl⟩
      rw [← hr] at HRD hj hrl
      obtain ⟨m, hmm⟩ : ∃ m, m = (S.V u).length := ⟨_, rfl⟩
      rw [← hmm] at hlk HRD HDE hrl
      obtain ⟨m2, hm2⟩ : ∃ m2, m2 = ((S.V u).drop j).length := ⟨_, rfl⟩
      unfold Dels at HDE
      rw [← hm2] at HDE HST
      have g1 : (0 : Int) ≤ (k : Int) := by omega
      have g2 : (k : Int) < (N : Int) := by omega
      clear hu hcell hm hm0 hvv hav hlc hc1k hug hne hun hrow2 hhd hlc1 hlc2 hT hheap hpr hvdr hne2 hok2 hjv hmm hm2 hr hVu ho hgF h0L
      by_cases hr0 : r = 0
      · subst hr0
        subst hj
        rw [show ((0 - 1 : Nat) : Int) = 0 from rfl] at HDE
        rw [show (((0 : Nat) : Int) - 1) = -1 from rfl] at HRD
        clear hrl
        go_wp2_with (first | (at_lookup; refine look_law rfl _ _ rfl _ _ _ rfl rfl hlk ?_) | (go_at_call 32; fail))
        refine HRD.out.mono ?_
        rintro e w' ⟨rfl, rfl⟩
        go_wp2_with fail
        go_region_held3 (fun w' => w'.cell? ⟨b, 1, none⟩ = some (.map (some mb2))) (go_keep)
          (first | (go_at_call 33; refine HDE.out.mono ?_; rintro e w3 ⟨rfl, hx⟩; obtain ⟨w4, hrun, d1, d2, hfin⟩ := HST.out w3 hx.choose hx.choose_spec.1 hx.choose_spec.2.1 hx.choose_spec.2.2; have HFIN := Lib.hid hfin; clear hx hfin))
        obtain ⟨F2, hmp, hdd⟩ := HFIN.out
        have HMP := Lib.hid hmp
        have HDD := Lib.hid hdd
        clear hmp hdd HFIN
        go_wp2
        go_roundw
        case rel => exact ⟨k + 1, q + 0, F2, by omega, by go_num, by go_num, HQ2, HMP, HDD⟩
        case measure => simp [RowKit.intOf]; omega
      · have hrj : (r : Int) - 1 = (j : Int) := by omega
        rw [hrj] at HRD
        clear hrl hr0 hj
        go_wp2_with (first | (at_lookup; refine look_law rfl _ _ rfl _ _ _ rfl rfl hlk ?_) | (go_at_call 32; fail))
        refine HRD.out.mono ?_
        rintro e w' ⟨rfl, rfl⟩
        clear hrj
        go_wp2_with fail
        go_region_held3 (fun w' => w'.cell? ⟨b, 1, none⟩ = some (.map (some mb2))) (go_keep)
          (first | (go_at_call 33; refine HDE.out.mono ?_; rintro e w3 ⟨rfl, hx⟩; obtain ⟨w4, hrun, d1, d2, hfin⟩ := HST.out w3 hx.choose hx.choose_spec.1 hx.choose_spec.2.1 hx.choose_spec.2.2; have HFIN := Lib.hid hfin; clear hx hfin))
        obtain ⟨F2, hmp, hdd⟩ := HFIN.out
        have HMP := Lib.hid hmp
        have HDD := Lib.hid hdd
        clear hmp hdd HFIN
        go_wp2
        go_roundw
        case rel => exact ⟨k + 1, q + j, F2, by omega, by go_num, by go_num, HQ2, HMP, HDD⟩
        case measure => simp [RowKit.intOf]; omega
    · have hkn : k = N := by omega
      have HE : Hid (Prunes F b S t w (.returned (.int .i64 (q : Int))) wr) := Lib.hid ⟨Fk, q, rfl, by rw [← prk_all H.out.ok t k (by rw [hkn, HN.out]; exact Nat.le_refl _)]; exact HQ.out, by rw [← prk_all H.out.ok t k (by rw [hkn, HN.out]; exact Nat.le_refl _)]; exact HM.out, (Did.of_at HA1.out).trans HD.out⟩
      subst hkn
      go_wp2
      go_ret
      exact HE.out

end Go.Proofs.Ytjpoiijifnfjhaa
