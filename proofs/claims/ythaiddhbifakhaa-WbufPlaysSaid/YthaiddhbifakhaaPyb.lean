/- Proved: what the two buffers answer alike, as the law WbufPlays asks. -/
import Derived.Test.YthaiddhbifakhaaPya
namespace Go.Proofs.Ythaiddhbifakhaa
open Go.RowKit
open Iv (Is Ow)

/-- A vector is written to both. -/
theorem writes_alike (w0 : World) (b mb d : Nat) (S : St) (A : Option Addr) (P : List Pt) (n c : Nat) (hn : P.length = n) (hl : n ≤ 1000000) (hP : PV w0 A P) (hB : AllBy P) : ∃ (z : Int) (S' : St) (q : Nat), (us S').length ≤ (us S).length + n ∧ q = (us S').length ∧
    (∀ T W, Py w0 b mb d S T W → Calls Try.prog 12 #[.pointer (some ⟨b, 0, none⟩), .slice A n c] W fun e w' => e = .returned (.int .i64 z) ∧ Py w0 b mb d S' T w') ∧
    (∀ T W, Py w0 b mb d T S W → Calls Try.prog 13 #[.pointer (some ⟨d, 0, none⟩), .slice A n c] W fun e w' => e = .returned (.int .i64 z) ∧ Py w0 b mb d T S' w') ∧
    (∀ T W, Py w0 b mb d S' T W → Calls Try.prog 14 #[.pointer (some ⟨b, 0, none⟩)] W fun e w' => e = .returned (.int .i64 (q : Int)) ∧ W = w') ∧
    (∀ T W, Py w0 b mb d T S' W → ∃ A5 c5, W.cell? ⟨d, 2, none⟩ = some (.slice A5 q c5)) :=
  ⟨rf S P, wr S P, _, by have := wr_len S P; omega, rfl, fun T W hW => hW.writeB A P n c hn hl hP hB, fun T W hW => hW.writeR A P n c hn hl hP hB, fun T W hW => len_bf hW.bo.bf, fun T W hW => by
    obtain ⟨A5, c5, _, h⟩ := hW.row
    exact ⟨A5, c5, h⟩⟩

/-- A set that was handed back; what it tells. -/
def Tellsets (M : List (Int × Int)) (N : Nat) (w : World) (e : Ending) (w' : World) : Prop := ∃ bs : Nat, e = .returned (.pointer (some ⟨bs, 0, none⟩)) ∧ At w w' ∧ ∀ W, At w' W → Calls Try.prog 22 #[.pointer (some ⟨bs, 0, none⟩)] W fun e w'' => ∃ A c, e = .returned (.slice A N c) ∧ Iv.EV w'' A M ∧ At W w''
theorem sl_vm (S : St) (h : S.n ≤ 1048576) : ∀ e ∈ sl (us S), Iv.Vm e := fun x hx => by
  obtain ⟨k, hk, rfl⟩ := List.mem_map.1 hx
  have := (mem_us.1 hk).1
  unfold sx Iv.Vm; simp only; omega

theorem plays_tail {w0 wc : World} {b mb d : Nat} {S : St} (h : Py w0 b mb d S S wc) (y : Int) (hy : (ky y).wf = true) (hc : (us S).length ≤ 400000) : ∃ (n : Nat) (r : Bool) (D : List Nat) (N K : Nat) (M : List (Int × Int)) (AR : Option Addr) (cR : Nat),
    Hid (Calls Try.prog 15 #[.pointer (some ⟨b, 0, none⟩), .int .i64 y] wc fun e w' => ∃ A c, e = .returned (.tuple #[.slice A n c, .bool r]) ∧ BV w' A D ∧ At wc w') ∧
    Hid (∀ W, At wc W → Calls Try.prog 16 #[.pointer (some ⟨d, 0, none⟩), .int .i64 y] W fun e w' => ∃ A c, e = .returned (.tuple #[.slice A n c, .bool r]) ∧ BV w' A D ∧ W = w') ∧
    Hid (∀ W A c A' c', BV W A D → BV W A' D → Calls Try.prog 18 #[.slice A n c, .slice A' n c'] W fun e w' => e = .returned (.bool true) ∧ At W w') ∧
    Hid (∀ W, At wc W → Calls Try.prog 20 #[.pointer (some ⟨b, 0, none⟩)] W fun e w' => ∃ A c, e = .returned (.slice A N c) ∧ PV w' A (ls S) ∧ At W w') ∧
    Hid (∀ W A c, At wc W → PV W A (ls S) → Calls Try.prog 19 #[.slice A N c, .slice AR N cR] W fun e w' => e = .returned (.bool true) ∧ At W w') ∧
    Hid (∀ W, At wc W → Calls Try.prog 17 #[.pointer (some ⟨b, 0, none⟩)] W (Tellsets M K W)) ∧
    Hid (∀ W, At wc W → Calls Try.prog 23 #[.pointer (some ⟨d, 0, none⟩)] W fun e w' => ∃ (bs : Nat) (A : Option Addr) (c : Nat), e = .returned (.pointer (some ⟨bs, 0, none⟩)) ∧ At W w' ∧ ∀ V, At w' V → V.cell? ⟨bs, 1, none⟩ = some (.slice A K c) ∧ Iv.EV V A M) ∧
    Hid (∀ W A c A' c', Iv.EV W A M → Iv.EV W A' M → Calls Try.prog 21 #[.slice A K c, .slice A' K c'] W fun e w' => e = .returned (.bool true) ∧ At W w') ∧
    Hid (∀ W, At wc W → W.cell? ⟨d, 2, none⟩ = some (.slice AR N cR)) := by
  have hok := h.bo.bf.ok
  have hn2 := hok.n2
  obtain ⟨n, r, hgl, hn40, hby, hgb, hgr⟩ := gets_alike S y hok hy
  obtain ⟨AR, cR, hpr, hcr⟩ := h.row
  have hn9 := us_len S
  have hlt := World.block_lt_of_cell? wc _ hcr
  obtain ⟨M, hM⟩ : ∃ M, Is (sl (us S)) M := ⟨_, Iv.nf_is (sl_vm S hn2)⟩
  have hML := Iv.is_len (sl_vm S hn2) hM
  rw [sl_len] at hML
  refine ⟨n, r, gi S y, (us S).length, M.length, M, AR, cR, Lib.hid (hgb wc b mb h.bo.bf), Lib.hid fun W hW => hgr W d (h.rb.on hW), Lib.hid fun W A c A' c' h1 h2 => ?_, Lib.hid fun W hW => ?_, Lib.hid fun W A c hW hp => ?_, Lib.hid fun W hW => ?_, Lib.hid fun W hW => ?_, Lib.hid fun W A c A' c' h1 h2 => ?_, Lib.hid fun W hW => ?_⟩
  · refine (bytes_any A A' n c c' _ _ W (by omega) hgl hgl hby hby h1 h2).mono fun e w' ⟨he, k, hk⟩ => ⟨?_, by rw [hk]; exact (At.start W).drewN k⟩
    rw [he]; simp
  · refine (puts_bf (h.bo.bf.on hW)).mono fun e w' ⟨A, c, he, hp, ha⟩ => ⟨A, c, ?_, hp, ha⟩
    rw [he, ls_len]
  · exact (samePuts_any A AR (ls S) _ c cR (ls_len S) (by omega) (ls_40 hok) W hp (hpr.out.on hW)).mono fun e w' ⟨he, m, hm⟩ => ⟨he, by rw [hm]; exact (At.start W).drewN m⟩
  · refine (set_bf (h.bo.bf.on hW) hc).mono fun e w' ⟨bs, v, M', he, hs, hi⟩ => ?_
    obtain rfl := Iv.is_one hi hM
    refine ⟨bs, he, hs.at_, fun V hV => ?_⟩
    refine (Iv.extents_any (hs.sv.on hV) (by omega)).mono fun e w'' ⟨v', he', ho, ha, _⟩ => ?_
    obtain ⟨A, c, rfl, _, _, hx⟩ := ho.ev
    exact ⟨A, c, he', hx, ha⟩
  · refine (rset_rb (h.rb.on hW) hc).mono fun e w' ⟨bs, v, M', he, hsb, ho, hi, _, ha⟩ => ?_
    obtain rfl := Iv.is_one hi hM
    obtain ⟨A, c, rfl, _, _, hx⟩ := ho.ev
    exact ⟨bs, A, c, he, ha, fun V hV => ⟨(cell_at (hV.keep hsb) 1).trans rfl, hx.on hV⟩⟩
  · refine (Iv.same_any A A' M.length c M.length c' M M W (by omega) (by omega) rfl rfl h1 h2).mono fun e w' ⟨he, ha⟩ => ⟨?_, (At.start W).next ha⟩
    rw [he]; unfold Iv.esB; simp
  · exact (Below.cell hW (p := ⟨d, 2, none⟩) hlt).trans hcr

end Go.Proofs.Ythaiddhbifakhaa
