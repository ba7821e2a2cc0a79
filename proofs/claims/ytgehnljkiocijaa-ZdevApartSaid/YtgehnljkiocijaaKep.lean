/- Proved: what forZone and kept answer where nothing more than what lasts is picked. -/
import Derived.Test.YtgehnljkiocijaaAdd
namespace Go.Proofs.Ytgehnljkiocijaa
open Go.RowKit

/-- A list of numbers that is empty, or has one number. -/
def Fz (w : World) (A : Option Addr) (n : Nat) (v : Int) : Prop := (n = 0 ∧ v = 0) ∨ (n = 1 ∧ ∃ g o, A = some ⟨g, o, none⟩ ∧ g < w.heap.size ∧ w.cell? ⟨g, o, none⟩ = some (.int .i64 v))
theorem Fz.on {w w' : World} {A : Option Addr} {n : Nat} {v : Int} (h : Fz w A n v) (ha : At w w') : Fz w' A n v := by
  rcases h with h | ⟨h1, g, o, h2, h3, h4⟩
  · exact Or.inl h
  · exact Or.inr ⟨h1, g, o, h2, Nat.lt_of_lt_of_le h3 ha.size, (Below.cell ha (p := ⟨g, o, none⟩) h3).trans h4⟩

theorem forzone_any {w : World} {A : Option Addr} {n c : Nat} {v : Int} (h : Fz w A n v) (k : Nat) (hk : k < 8) :
    Calls Try.prog 31 #[.slice A n c, .int .i64 (k : Int)] w fun e w' => e = .returned (.int .i64 v) ∧ w = w' := by
  rcases h with ⟨rfl, rfl⟩ | ⟨rfl, g, o, rfl, hlt, hc⟩
  · go_enter Try.func31, Try.ntmps31
    go_wp2
    go_ret
    exact ⟨rfl, rfl⟩
  · have g1 : (0 : Int) ≤ (k : Int) := by omega
    have hm : (k : Int).tmod 1 = 0 := Int.tmod_one _
    have hm2 : (k : Int) % 1 = 0 := by omega
    go_enter Try.func31, Try.ntmps31
    go_wp2
    go_ret
    exact ⟨rfl, rfl⟩

set_option maxRecDepth 100000 in
theorem kept_any (g : Option Addr) (n c d : Nat) (v : Int) (hd : d ≤ n) (hn : n ≤ 192) (hv : v = 0 ∨ d = n) (w : World) :
    Calls Try.prog 30 #[.agg #[.slice g n c, .int .i64 (d : Int)], .int .i64 v] w (Gives (.int .i64 (d : Int)) w) := by
  have A1 : Hid (At w (w.alloc (.cells #[.slice g n c, .int .i64 (d : Int)] 54))) := Lib.hid ((At.start w).alloc _)
  have hm : v.tmod ((n : Int) - (d : Int) + 1) = 0 := by
    rcases hv with rfl | rfl
    · exact Int.zero_tmod _
    · rw [show ((d : Int) - (d : Int) + 1) = 1 by omega]; exact Int.tmod_one _
  have hz : ¬ (n : Int) - (d : Int) + 1 = 0 := by omega
  obtain ⟨y, hy⟩ : ∃ y : Int, y = (n : Int) - (d : Int) := ⟨_, rfl⟩
  have y0 : 0 ≤ y := by omega
  have y1 : y ≤ 192 := by omega
  have hyn : (n : Int) - (d : Int) = y := hy.symm
  rw [hyn] at hm hz
  clear hy hv
  go_enter Try.func30, Try.ntmps30
  go_wp2
  go_ret
  exact ⟨by first | rfl | (congr 2; omega), A1.out⟩

end Go.Proofs.Ytgehnljkiocijaa
