/- Proved: the document's own hexOf. -/
import Derived.Test.YtlbnfnfenphfbaaGreatDoorRef
import Derived.Test.YtlbnfnfenphfbaaGreatDoorTx
namespace Go.Proofs.YtlbnfnfenphfbaaGreatDoor
open Go.RowKit Fl Tx

/-- A small hexadecimal digit's value; -1: it is none. -/
def hv (c : UInt8) : Int := if 48 ≤ c.toNat ∧ c.toNat ≤ 57 then (c.toNat : Int) - 48 else if 97 ≤ c.toNat ∧ c.toNat ≤ 102 then (c.toNat : Int) - 87 else -1
theorem hv_range (c : UInt8) : -1 ≤ hv c ∧ hv c < 16 := by unfold hv; split <;> (try split) <;> omega
theorem hv_hx (d : Nat) (h : d < 16) : hv (hx d) = (d : Int) := by
  have : ∀ d : Fin 16, hv (hx d.val) = (d.val : Int) := by decide
  exact this ⟨d, h⟩
theorem hv_p : hv 112 = -1 := by decide

theorem hexof_any (c : UInt8) (w : World) :
    Calls Tryz.prog 19 #[.int .u8 (c.toNat : Int)] w fun e w' => e = .returned (.int .i64 (hv c)) ∧ w = w' := by
  have hc := c.toNat_lt
  by_cases h1 : 48 ≤ c.toNat ∧ c.toNat ≤ 57
  · have HV : hv c = (c.toNat : Int) - 48 := by unfold hv; rw [if_pos h1]
    rw [HV]
    obtain ⟨n, hn⟩ : ∃ n, n = c.toNat := ⟨_, rfl⟩
    rw [← hn] at hc h1 ⊢
    clear hn HV
    go_enter Tryz.func19, Tryz.ntmps19
    go_wp2
    go_ret
    exact ⟨rfl, rfl⟩
  · by_cases h2 : 97 ≤ c.toNat ∧ c.toNat ≤ 102
    · have HV : hv c = (c.toNat : Int) - 97 + 10 := by unfold hv; rw [if_neg h1, if_pos h2]; omega
      rw [HV]
      obtain ⟨n, hn⟩ : ∃ n, n = c.toNat := ⟨_, rfl⟩
      rw [← hn] at hc h1 h2 ⊢
      clear hn HV
      go_enter Tryz.func19, Tryz.ntmps19
      go_wp2
      go_ret
      exact ⟨rfl, rfl⟩
    · have HV : hv c = -1 := by unfold hv; rw [if_neg h1, if_neg h2]
      rw [HV]
      obtain ⟨n, hn⟩ : ∃ n, n = c.toNat := ⟨_, rfl⟩
      rw [← hn] at hc h1 h2 ⊢
      clear hn HV
      have k1 : (decide ((48 : Int) ≤ (n : Int)) && decide ((n : Int) ≤ 57)) = false := by simp; omega
      have k2 : (decide ((97 : Int) ≤ (n : Int)) && decide ((n : Int) ≤ 102)) = false := by simp; omega
      by_cases a : 48 ≤ n
      · by_cases a2 : 97 ≤ n
        · go_enter Tryz.func19, Tryz.ntmps19
          go_wp2
          go_ret
          exact ⟨rfl, rfl⟩
        · go_enter Tryz.func19, Tryz.ntmps19
          go_wp2
          go_ret
          exact ⟨rfl, rfl⟩
      · go_enter Tryz.func19, Tryz.ntmps19
        go_wp2
        go_ret
        exact ⟨rfl, rfl⟩

end Go.Proofs.YtlbnfnfenphfbaaGreatDoor
