/- Proved: the law FbitsFrom answers true, wherever Decode and the document's own Decode answer alike. -/
import Derived.Test.YtmdnahbopjkjhaaByt
import Derived.WalkSmall
import Derived.ProofKit
namespace Go.Proofs.Ytmdnahbopjkjhaa
open Go.RowKit Fl

def bf (c j : Nat) : Int := match (bl c)[j]? with | some (.int .u8 n) => n | _ => 0
theorem bl_get (c : Nat) : ∀ j, j < 8 → (bl c)[j]? = some (.int .u8 (bf c j)) := by
  intro j hj
  match j, hj with
  | 0, _ => rfl
  | 1, _ => rfl
  | 2, _ => rfl
  | 3, _ => rfl
  | 4, _ => rfl
  | 5, _ => rfl
  | 6, _ => rfl
  | 7, _ => rfl

theorem enc_cells (c : Nat) (w : World) : ∀ j, j < 8 → (w.alloc (.cells (encN c) 5)).cell? ⟨w.heap.size, j, none⟩ = some (.int .u8 (bf c j)) := by
  intro j hj
  rw [World.cell?_alloc_at _ _ _ _ rfl]
  have := bl_get c j hj
  simpa [bl] using this

theorem rencode_w (c : Nat) (hc : canon c) (w : World) :
    Calls Try.prog 30 #[.float .f64 c] w fun e w' => ∃ g cap, e = .returned (.slice (some ⟨g, 0, none⟩) 8 cap) ∧ (∀ j, j < 8 → w'.cell? ⟨g, j, none⟩ = some (.int .u8 (bf c j))) ∧ Below w.heap.size w w' := by
  refine (rencode_c c hc w).mono fun e w' ⟨v, he, hown, hnx⟩ => ?_
  rcases hown.2 with ⟨_, h⟩ | ⟨g, cap, cur, hv, _⟩
  · cases h
  · refine ⟨g, cap, by rw [he, hv], fun j hj => ?_, hnx⟩
    have := hown.cells (g := g) (by rw [hv]; rfl) j _ (bl_get c j hj)
    rw [Go.WideShapes.add_plain, Nat.zero_add] at this
    exact this

theorem decode_no (a : Option Addr) (len cap : Nat) (h : len ≠ 8) (w : World) :
    Calls Try.prog 24 #[.slice a len cap] w fun e w' => e = .returned (.tuple #[.float .f64 0, .int .i64 13]) ∧ w = w' := by
  have q : ((len : Int) != 8) = true := by rw [bne_iff_ne]; omega
  clear h
  go_enter Try.func24, Try.ntmps24
  go_wp2
  go_ret2
  exact ⟨rfl, rfl⟩
theorem rdecode_no (a : Option Addr) (len cap : Nat) (h : len ≠ 8) (w : World) :
    Calls Try.prog 25 #[.slice a len cap] w fun e w' => e = .returned (.tuple #[.float .f64 0, .int .i64 13]) ∧ w = w' := by
  have q : ((len : Int) != 8) = true := by rw [bne_iff_ne]; omega
  clear h
  go_enter Try.func25, Try.ntmps25
  go_wp2
  go_ret2
  exact ⟨rfl, rfl⟩

theorem rfrom_as (n : Int) (c : Nat) (h0 : 0 ≤ n) (h1 : n < 18446744073709551616) (hc : Hid (cb n.toNat = c)) (w : World) :
    Calls Try.prog 27 #[.int .u64 n] w fun e w' => e = .returned (.float .f64 c) ∧ w = w' := by
  have := rfrom_any n h0 h1 w
  rw [hc.out] at this
  exact this

set_option maxHeartbeats 1000000 in
theorem from_long (n : Int) (a : Option Addr) (len cap : Nat) (h : 300 < len) (w : World) :
    Calls Try.prog 4 #[.int .u64 n, .slice a len cap] w fun e w' => e = .returned (.bool true) ∧ Below w.heap.size w w' := by
  have q : decide ((300 : Int) < (len : Int)) = true := decide_eq_true (by omega)
  go_enter Try.func4, Try.ntmps4
  go_wp2_with (go_at_call 23; refine (awake_any _).mono ?_; rintro e w' ⟨rfl, rfl⟩)
  go_ret
  exact ⟨rfl, Below.refl _ _⟩

set_option maxHeartbeats 1000000 in
theorem from_core (n : Int) (wn : (Lit.int .u64 n).wf = true) (a : Option Addr) (len cap x : Nat) (er : Int) (hl : len ≤ 300) (hx : x < 18446744073709551616) (w : World)
    (hD : Calls Try.prog 24 #[.slice a len cap] w fun e w' => e = .returned (.tuple #[.float .f64 x, .int .i64 er]) ∧ w = w')
    (hR : Calls Try.prog 25 #[.slice a len cap] w fun e w' => e = .returned (.tuple #[.float .f64 x, .int .i64 er]) ∧ w = w') :
    Calls Try.prog 4 #[.int .u64 n, .slice a len cap] w fun e w' => e = .returned (.bool true) ∧ Below w.heap.size w w' := by
  obtain ⟨h0, h1⟩ := wf_u64 n wn
  clear wn
  have q : decide ((300 : Int) < (len : Int)) = false := decide_eq_false (by omega)
  obtain ⟨c, hc⟩ : ∃ c : Nat, cb n.toNat = c := ⟨_, rfl⟩
  have hk : canon c := by rw [← hc]; exact canon_cb _ (by omega)
  have hlt := hk.2
  have HC := Lib.hid hc
  have HK := Lib.hid hk
  have s1 := smB_self x
  clear hc hk
  go_enter Try.func4, Try.ntmps4
  go_wp2_with (first | (go_at_call 24; refine hD.mono ?_; rintro e w' ⟨rfl, rfl⟩) | (go_at_call 25; refine hR.mono ?_; rintro e w' ⟨rfl, rfl⟩) | (go_at_call 26; refine (from_as _ _ h0 h1 HC _).mono ?_; rintro e w' ⟨rfl, rfl⟩) | (go_at_call 27; refine (rfrom_as _ _ h0 h1 HC _).mono ?_; rintro e w' ⟨rfl, rfl⟩) | (go_at_call 14; refine (rbits_any _ hlt _).mono ?_; rintro e w' ⟨rfl, rfl⟩) | (go_at_call 17; refine (rsame_any _ _ hx hx _).mono ?_; rintro e w' ⟨rfl, rfl⟩) | (go_at_call 29; refine (encode_c _ HK.out _).mono ?_; rintro e w' ⟨rfl, rfl⟩))
  refine (rencode_w c HK.out _).mono ?_
  rintro e w2 ⟨g, cap2, rfl, hcells, hnx⟩
  have HX := Lib.hid hcells
  have HN := Lib.hid hnx
  clear hcells hnx
  go_wp2_with fail
  refine (bytes8 w.heap.size 8 g cap2 (bf c) _ (fun j hj => (HN.out.cell (p := ⟨w.heap.size, j, none⟩) (by simp)).trans (enc_cells c w j hj)) HX.out).mono ?_
  rintro e w3 ⟨rfl, m, rfl⟩
  go_wp2_with (go_at_call 23; refine (awake_any _).mono ?_; rintro e w' ⟨rfl, rfl⟩)
  go_ret
  refine ⟨rfl, below_drewN ?_ m⟩
  exact ((Below.refl _ _).alloc (Nat.le_refl _) _).trans (HN.out.mono (by simp))

end Go.Proofs.Ytmdnahbopjkjhaa
