/- Proved: words for a map in memory: its box, its entries, each block's versions; what a call may have written. -/
import Derived.Test.YtjpoiijifnfjhaaVer
import Derived.Maps.OwnSet
import Derived.Maps.Range
import Derived.Lib.SlKeysI
namespace Go.Proofs.Ytjpoiijifnfjhaa
open Go.RowKit

/-- An element of the map stands for itself. -/
def raw (v : Value) : Option (DataW Value × List MemPlace) := some (.held v, [])
/-- A block's number as a key. -/
def ky (k : Nat) : Lit := .int .i64 (k : Int)
def nl : Value := .slice none 0 0
theorem ky_inj {j k : Nat} (h : ky j = ky k) : j = k := by
  unfold ky at h; injection h with _ h; omega
theorem ky_wf {k : Nat} (h : k ≤ 2000000) : (ky k).wf = true := WalkArith.wf_i64 (by omega)
theorem int_key : Maps.Keyed Try.prog 3 := Maps.int_keyed Try.underlying3
theorem key_of {k : Nat} (h : k ≤ 2000000) : keyOf Try.prog 3 (.int .i64 (k : Int)) = some (ky k) := Maps.keyOf_int_mk Try.underlying3 (ky_wf h)
theorem zero_slice (w : World) : (zeroValue 66).run Try.prog w = .ok nl w := by kernel_rfl
theorem own_tight {H : Type} {P : Program} {k : TypeId} {R : Value → Option (DataW H × List MemPlace)} {w : World} {b n : Nat} {D : DataW H} (h : w.ownsMap P k R b n D) : w.ownsMap P k R b (Maps.size D) D := by
  obtain ⟨es, clock, hb, F, hs, rfl⟩ := h
  exact ⟨es, clock, hb, F, by simp [Maps.size, length_sorted], rfl⟩

/-- The entries' block mb with the entries D and the slices hd holds the versions of the state S, among the blocks F. -/
structure Mr (w : World) (S : St) (F : Nat → Prop) (mb : Nat) (D : DataW Value) (hd : Nat → Value) : Prop where
  ok : Ok S
  own : w.ownsMap Try.prog 3 raw mb (Maps.size D) D
  at_ : ∀ k, D.atKey (ky k) (.held nl) = .held (hd k)
  has : ∀ k, Maps.has D (ky k) = true ↔ S.V k ≠ []
  only : ∀ l, Maps.has D l = true → ∃ k, k < S.n ∧ l = ky k
  row : ∀ k, Vo w (hd k) (S.V k)
  apart : ∀ j k g, j ≠ k → (hd j).ownBlock = some g → (hd k).ownBlock ≠ some g
  fm : F mb
  fr : ∀ k g, (hd k).ownBlock = some g → F g
  ft : ∀ g, F g → g < w.heap.size
/-- The map at b is in the state S; its blocks are among F. -/
structure Mq (w : World) (b : Nat) (S : St) (F : Nat → Prop) (mb : Nat) (D : DataW Value) (hd : Nat → Value) : Prop extends Mr w S F mb D hd where
  box : w.heap[b]? = some (.cells #[.int .i64 (S.n : Int), .map (some mb), .int .i64 S.last] 62 (0, 0))
  fb : F b
def Mp (w : World) (b : Nat) (S : St) (F : Nat → Prop) : Prop := ∃ mb D hd, Mq w b S F mb D hd

/-- What a call did with a map whose blocks were F, and are F'. -/
structure Did (F : Nat → Prop) (w : World) (F' : Nat → Prop) (w' : World) : Prop where
  mv : Mv F w w'
  new : ∀ g, F' g → F g ∨ w.heap.size ≤ g
theorem Did.refl (F : Nat → Prop) (w : World) : Did F w F w := ⟨Mv.refl F w, fun _ h => Or.inl h⟩
theorem Did.trans {F G K : Nat → Prop} {a b c : World} (h : Did F a G b) (k : Did G b K c) : Did F a K c :=
  ⟨h.mv.trans k.mv h.new, fun g hg => by
    rcases k.new g hg with h1 | h1
    · exact h.new g h1
    · right; have := h.mv.size; omega⟩
theorem Did.of_at {F : Nat → Prop} {w w' : World} (h : At w w') : Did F w F w' := ⟨Mv.of_below F h, fun _ h => Or.inl h⟩
theorem Did.next {F G : Nat → Prop} {a b c : World} (h : Did F a G b) (k : At b c) : Did F a G c := h.trans (Did.of_at k)
theorem Did.at_ {F G : Nat → Prop} {w0 w w' : World} (h : Did F w G w') (ha : At w0 w) (hF : ∀ g, F g → w0.heap.size ≤ g) : At w0 w' := h.mv.at_ ha hF
theorem Did.far {F G : Nat → Prop} {w0 w w' : World} (h : Did F w G w') (ha : w0.heap.size ≤ w.heap.size) (hF : ∀ g, F g → w0.heap.size ≤ g) : ∀ g, G g → w0.heap.size ≤ g := fun g hg => by
  rcases h.new g hg with h1 | h1
  · exact hF g h1
  · omega
/-- A block beside the map's stays, and stays beside it. -/
theorem Did.keep {F G : Nat → Prop} {w w' : World} (h : Did F w G w') {g : Nat} {o : Obj} (hg : w.heap[g]? = some o) (hF : ¬ F g) : w'.heap[g]? = some o ∧ ¬ G g :=
  ⟨h.mv.keep hg hF, fun hG => (h.new g hG).elim hF fun h1 => by have := lt_heap hg; omega⟩

section
variable {w w' : World} {b mb : Nat} {S : St} {F : Nat → Prop} {D : DataW Value} {hd : Nat → Value}
theorem Mr.on (h : Mr w S F mb D hd) (hm : At w w') : Mr w' S F mb D hd :=
  ⟨h.ok, h.own.kept (row := none) ⟨hm.os, hm.tape, hm.output, hm.size, fun k hk _ => hm.block k hk⟩ (by simp), h.at_, h.has, h.only, fun k => (h.row k).on hm, h.apart, h.fm, h.fr, fun g hg => Nat.lt_of_lt_of_le (h.ft g hg) hm.size⟩
theorem Mq.on (h : Mq w b S F mb D hd) (hm : At w w') : Mq w' b S F mb D hd := ⟨h.toMr.on hm, hm.keep h.box, h.fb⟩
theorem own_mv {G : Nat → Prop} {k : TypeId} {n : Nat} {R : Value → Option (DataW Value × List MemPlace)} (h : w.ownsMap Try.prog k R mb n D) (hm : Mv G w w') (hG : ¬ G mb) : w'.ownsMap Try.prog k R mb n D := by
  obtain ⟨es, clock, hb, r⟩ := h
  exact ⟨es, clock, hm.keep hb hG, r⟩
theorem Mr.st {S' : St} (h : Mr w S F mb D hd) (hok : Ok S') (hn : S'.n = S.n) (hV : S'.V = S.V) : Mr w S' F mb D hd :=
  ⟨hok, h.own, h.at_, fun k => by rw [hV]; exact h.has k, fun l hl => by rw [hn]; exact h.only l hl, fun k => by rw [hV]; exact h.row k, h.apart, h.fm, h.fr, h.ft⟩
theorem Mr.mvf {G : Nat → Prop} (h : Mr w S F mb D hd) (hm : Mv G w w') (hG : ¬ G mb) (hR : ∀ k g, (hd k).ownBlock = some g → ¬ G g) : Mr w' S F mb D hd :=
  ⟨h.ok, own_mv h.own hm hG, h.at_, h.has, h.only, fun k => (h.row k).mv hm fun g hg => hR k g hg, h.apart, h.fm, h.fr, fun g hg => Nat.lt_of_lt_of_le (h.ft g hg) hm.size⟩
theorem Mr.mv {G : Nat → Prop} (h : Mr w S F mb D hd) (hm : Mv G w w') (hG : ∀ g, F g → ¬ G g) : Mr w' S F mb D hd := h.mvf hm (hG _ h.fm) fun k g hg => hG _ (h.fr k g hg)
theorem Mq.mv {G : Nat → Prop} (h : Mq w b S F mb D hd) (hm : Mv G w w') (hG : ∀ g, F g → ¬ G g) : Mq w' b S F mb D hd := ⟨h.toMr.mv hm hG, hm.keep h.box (hG _ h.fb), h.fb⟩
/-- The entries' block is no row. -/
theorem Mr.ne (h : Mr w S F mb D hd) (k : Nat) : (hd k).ownBlock ≠ some mb := fun e => by
  obtain ⟨cs, hc⟩ := (h.row k).type e
  obtain ⟨es, clock, hb, _⟩ := h.own
  rw [hc] at hb; cases hb
theorem own_isKey (k : Nat) : WideAt.IsKeyLit (ky k) := by unfold ky; simp [WideAt.IsKeyLit]
/-- One entry is laid anew. -/
theorem Mr.store (h : Mr w S F mb D hd) {k : Nat} (hk : k < S.n) {v : Value} {L : List Ver} {w1 : World} (hm : Mv (fun g => (hd k).ownBlock = some g) w w1) (hv : Vo w1 v L) (hat : ∀ g, v.ownBlock = some g → (hd k).ownBlock = some g ∨ w.heap.size ≤ g)
    {S' : St} (hok : Ok S') (hn : S'.n = S.n) (hV : ∀ j, S'.V j = if j = k then L else S.V j) (hne : L ≠ []) :
    ∃ w2, (Instr.mapUpdate 60 (.map (some mb)) (.int .i64 (k : Int)) v).run Try.prog w1 = .ok () w2 ∧ Mr w2 S' (fun g => F g ∨ v.ownBlock = some g) mb (D.put (ky k) (.held v)) (fun j => if j = k then v else hd j) ∧ Did F w (fun g => F g ∨ v.ownBlock = some g) w2 ∧ Mv (fun g => g = mb) w1 w2 := by
  have hnn := hok.n2
  have hown1 := own_mv h.own hm (h.ne k)
  have hsz : Maps.size D < maxLen := by
    have hl := own_tight h.own
    obtain ⟨es, he, hp, hkk⟩ := h.own.entries int_key
    have : Maps.size D ≤ S.n := by
      subst he
      have hsub : (es.map fun p => intOf p.1).Nodup := by
        refine List.pairwise_map.2 (hp.imp_of_mem fun {p q} hp' hq' hne e => hne ?_)
        obtain ⟨a, _, ha⟩ := h.only p.1 (List.any_eq_true.2 ⟨p, hp', WideAt.sameKey_self (hkk p hp')⟩)
        obtain ⟨c, _, hc⟩ := h.only q.1 (List.any_eq_true.2 ⟨q, hq', WideAt.sameKey_self (hkk q hq')⟩)
        rw [ha, hc] at e ⊢
        unfold ky at e ⊢
        rw [show intOf (Lit.int .i64 (a : Int)) = (a : Int) from rfl, show intOf (Lit.int .i64 (c : Int)) = (c : Int) from rfl] at e
        rw [e]
      have hle : (es.map fun p => (intOf p.1).toNat).length ≤ (List.range S.n).length := by
        refine List.Nodup.length_le_of_subset ?_ fun x hx => ?_
        · refine List.pairwise_map.2 ((List.pairwise_map.1 hsub).imp_of_mem fun {p q} hp' hq' hne e => hne ?_)
          obtain ⟨a, _, ha⟩ := h.only p.1 (List.any_eq_true.2 ⟨p, hp', WideAt.sameKey_self (hkk p hp')⟩)
          obtain ⟨c, _, hc⟩ := h.only q.1 (List.any_eq_true.2 ⟨q, hq', WideAt.sameKey_self (hkk q hq')⟩)
          rw [ha, hc] at e ⊢
          unfold ky at e ⊢
          rw [show intOf (Lit.int .i64 (a : Int)) = (a : Int) from rfl, show intOf (Lit.int .i64 (c : Int)) = (c : Int) from rfl] at e ⊢
          omega
        · obtain ⟨p, hp', rfl⟩ := List.mem_map.1 hx
          obtain ⟨a, hl, ha⟩ := h.only p.1 (List.any_eq_true.2 ⟨p, hp', WideAt.sameKey_self (hkk p hp')⟩)
          rw [ha, List.mem_range]
          unfold ky
          rw [show intOf (Lit.int .i64 (a : Int)) = (a : Int) from rfl]
          omega
      simpa [Maps.size] using hle
    unfold maxLen; omega
  obtain ⟨w2, hrun, hown2, hturn⟩ := hown1.store int_key Try.underlying60 hsz (key_of (k := k) (by omega)) (show raw v = some (.held v, []) from rfl)
  have hm2 : Mv (fun g => g = mb) w1 w2 := (Mv.refl _ w1).grown hturn.grown fun g hg => by injection hg with hg; exact Or.inl hg.symm
  have hvm : v.ownBlock ≠ some mb := fun e => by
    obtain ⟨cs, hc⟩ := hv.type e
    obtain ⟨es, clock, hb, _⟩ := hown1
    rw [hc] at hb; cases hb
  have hmap := h.own.isMap
  refine ⟨w2, hrun, ⟨hok, own_tight hown2, fun j => ?_, fun j => ?_, fun l hl => ?_, fun j => ?_, fun i j g hij hi hj => ?_, Or.inl h.fm, fun j g hg => ?_, fun g hg => ?_⟩, ⟨?_, ?_⟩, hm2⟩
  · by_cases e : j = k
    · subst e
      show (D.put (ky j) (.held v)).atKey (ky j) (.held nl) = .held (if j = j then v else hd j)
      rw [if_pos rfl]; exact Maps.atKey_put_same hmap (own_isKey j) _ _
    · show (D.put (ky k) (.held v)).atKey (ky j) (.held nl) = .held (if j = k then v else hd j)
      rw [if_neg e, Maps.atKey_put_other (fun x => e (ky_inj x))]; exact h.at_ j
  · rw [hV j]
    by_cases e : j = k
    · subst e; rw [if_pos rfl, Maps.has_put_same hmap (own_isKey j)]; simp [hne]
    · rw [if_neg e, Maps.has_put_other (fun x => e (ky_inj x))]; exact h.has j
  · rw [hn]
    by_cases e : l = ky k
    · exact ⟨k, hk, e⟩
    · rw [Maps.has_put_other e] at hl; exact h.only l hl
  · rw [hV j]
    by_cases e : j = k
    · subst e; rw [if_pos rfl, if_pos rfl]; exact hv.mv hm2 fun g hg e => hvm (by rw [hg, e])
    · rw [if_neg e, if_neg e]
      exact ((h.row j).mv hm fun g hg => h.apart j k g e hg).mv hm2 fun g hg e' => h.ne j (by rw [hg, e'])
  · by_cases ei : i = k
    · subst ei
      rw [if_pos rfl] at hi
      rw [if_neg (fun e => hij e.symm)] at hj
      rcases hat g hi with h1 | h1
      · exact h.apart i j g hij h1 hj
      · have := (h.row j).lt hj; omega
    · rw [if_neg ei] at hi
      by_cases ej : j = k
      · subst ej
        rw [if_pos rfl] at hj
        rcases hat g hj with h1 | h1
        · exact h.apart i j g hij hi h1
        · have := (h.row i).lt hi; omega
      · rw [if_neg ej] at hj; exact h.apart i j g hij hi hj
  · by_cases e : j = k
    · subst e; rw [if_pos rfl] at hg; exact Or.inr hg
    · rw [if_neg e] at hg; exact Or.inl (h.fr j g hg)
  · rcases hg with hg | hg
    · have := h.ft g hg; have h1 := hm.size; have h2 := hm2.size; omega
    · have := hv.lt hg; have h2 := hm2.size; omega
  · exact (hm.more fun g hg => Or.inl (h.fr k g hg)).trans (hm2.more fun g hg => Or.inl (show F g by rw [hg]; exact h.fm)) fun g hg => Or.inl hg
  · intro g hg
    rcases hg with hg | hg
    · exact Or.inl hg
    · rcases hat g hg with h1 | h1
      · exact Or.inl (h.fr k g h1)
      · exact Or.inr h1
theorem Mq.allV (h : Mq w b S F mb D hd) (k : Nat) : AllV (S.V k) := fun v hv => (h.ok.v k v hv).2.2.1
theorem Mq.vv (h : Mq w b S F mb D hd) (k : Nat) : ∃ A c, hd k = .slice A (S.V k).length c ∧ (S.V k).length ≤ c ∧ c ≤ maxLen ∧ VV w A (S.V k) := (h.row k).vv (h.allV k)
theorem Mq.cells (h : Mq w b S F mb D hd) : w.cell? ⟨b, 0, none⟩ = some (.int .i64 (S.n : Int)) ∧ w.cell? ⟨b, 1, none⟩ = some (.map (some mb)) ∧ w.cell? ⟨b, 2, none⟩ = some (.int .i64 S.last) :=
  ⟨(cell_at h.box 0).trans rfl, (cell_at h.box 1).trans rfl, (cell_at h.box 2).trans rfl⟩
theorem Mq.free (h : Mq w b S F mb D hd) (i : Nat) : w.frozen? ⟨b, i, none⟩ = false := free_at h.box i
theorem Mq.lt (h : Mq w b S F mb D hd) : b < w.heap.size := lt_heap h.box
/-- An entry is looked up. -/
theorem Mr.look (h : Mr w S F mb D hd) {k : Nat} (hk : k ≤ 2000000) : (Instr.lookup 60 (.map (some mb)) (.int .i64 (k : Int)) false).run Try.prog w = .ok (hd k) w := by
  obtain ⟨v, ps, hrun, hv⟩ := h.own.lookup int_key Try.underlying60 (zero_slice w) (R := raw) (zd := .held nl) (zp := []) rfl (key_of hk)
  rw [h.at_ k] at hv
  simp only [raw, Option.some.injEq, Prod.mk.injEq] at hv
  have : v = hd k := by have := hv.1; injection this
  rw [hrun, this]
theorem Mq.look (h : Mq w b S F mb D hd) {k : Nat} (hk : k ≤ 2000000) : (Instr.lookup 60 (.map (some mb)) (.int .i64 (k : Int)) false).run Try.prog w = .ok (hd k) w := h.toMr.look hk
/-- The blocks that have a version. -/
def us (S : St) : List Nat := (List.range S.n).filter fun k => !(S.V k).isEmpty
theorem mem_us {S : St} {k : Nat} : k ∈ us S ↔ k < S.n ∧ S.V k ≠ [] := by
  unfold us
  rw [List.mem_filter, List.mem_range]
  simp
theorem us_nodup (S : St) : (us S).Nodup := List.nodup_range.filter _
theorem us_len (S : St) : (us S).length ≤ S.n := by
  have := List.length_filter_le (fun k => !(S.V k).isEmpty) (List.range S.n)
  rwa [List.length_range] at this
theorem Mq.mem (h : Mq w b S F mb D hd) {k : Nat} : k ∈ us S ↔ Maps.has D (ky k) = true := by
  rw [mem_us, h.has k]
  refine ⟨fun h => h.2, fun hk => ⟨?_, hk⟩⟩
  rcases Nat.lt_or_ge k S.n with h1 | h1
  · exact h1
  · exact absurd (h.ok.e k h1) hk
theorem Mq.keys (h : Mq w b S F mb D hd) : ((us S).map (fun k : Nat => (k : Int))).Perm (intKeys D) := by
  obtain ⟨es, he, hp, _⟩ := h.own.entries int_key
  subst he
  refine perm_intKeys hp (fun p hpm => ?_) ?_ fun x => ?_
  · have : Maps.has (.map es) p.1 = true := List.any_eq_true.2 ⟨p, hpm, WideAt.sameKey_self (by
      obtain ⟨es', he', _, hk⟩ := h.own.entries int_key
      injection he' with he'
      subst he'
      exact hk p hpm)⟩
    obtain ⟨k, _, e⟩ := h.only _ this
    exact ⟨_, e⟩
  · exact List.Pairwise.map _ (fun a b hab e => hab (by omega)) (us_nodup S)
  · rw [List.mem_map]
    constructor
    · rintro ⟨k, hk, rfl⟩; exact h.mem.1 hk
    · intro hx
      obtain ⟨k, _, e⟩ := h.only _ hx
      unfold ky at e
      injection e with _ e
      subst e
      exact ⟨k, h.mem.2 hx, rfl⟩
theorem Mq.size (h : Mq w b S F mb D hd) : Maps.size D = (us S).length := by
  have hl := h.keys.length_eq
  obtain ⟨es, he, _, _⟩ := h.own.entries int_key
  subst he
  rw [List.length_map] at hl
  rw [hl]
  simp [intKeys, Maps.size]
end

end Go.Proofs.Ytjpoiijifnfjhaa
