/-
  No cell of these rows narrows 'for every input' (looked for: loops, veiled, ifaces, maps, wideKeys, modest, calm, conditions, laid).
  DERIVED. THE GIVEN ROWS OF THIS SEAT. 4 by the template 'for every input the law returns true; each argument reads behind the call as it read before'; 0 by the template 'total and deterministic' (their statements: YtgehnljkiocijaaTotals.lean).
  GIVEN WITH THE SEED: the statements are not yours to turn. If you find one false, say at which input.
  Laid BY PROGRAM, IN A SANDBOX (cutbox-rows.mjs): the forced cells as the released guide's own fill.sh prints them over the translation 97ade4987fd3b97b… (all of the seat's roots in one cut). By AI agents, Wed Nov 11 2026. No macro, syntax, notation, axiom, sorry.
-/
import Derived.Test.YtgehnljkiocijaaChecked
import GoSem.Claim
import GoSem.ClaimJoined
import GoSem.ClaimMapViews
import Derived.JoinedTies
import Derived.KernelRfl
namespace Go.Proofs.Ytgehnljkiocijaa
/- THE CELL 'sum', in the pinned program and in every row, IS THE sha256 OF THE DUMP (.gsa) THAT YtgehnljkiocijaaProg.lean LOADS. Nothing in Lean hashes anything: it is a label: what it is worth is what the hold of that sum in a sandbox is worth. -/
noncomputable def Try.pinned : Pinned := { name := "ytgehnljkiocijaa", sum := "97ade4987fd3b97b7145aebcfb3da756c4d37f986dff007543deffc087b50be4", checked := Try.checked }
namespace Rows
def none {H : Type} : Left H := { results := [], args := [] }

/-- 'scarplaw9.ZdevZones': WHATEVER THE INPUT: true; the input reads as it did. -/
def zdevZonesSpec : ChangeSpec := { name := "zdevZones", fn := fun _ => fun
  | [d1, d2] => { results := [.lit (.bool true)], args := [d1, d2] }
  | _ => none }
def zdevZonesRow : OpenClaim := { program := "ytgehnljkiocijaa", sum := "97ade4987fd3b97b7145aebcfb3da756c4d37f986dff007543deffc087b50be4", func := "scarp/scarplaw9.ZdevZones", spec := "zdevZones", apart := false }
def ZdevZonesSaid : Prop := zdevZonesRow.holds Try.pinned (OpenSpec.ofChange zdevZonesSpec)

/-- ITS FALSE NEIGHBOUR: 'it returns false'. Refute it at one input. -/
def zdevZonesWrong : ChangeSpec := { name := "zdevZones", fn := fun _ => fun
  | [d1, d2] => { results := [.lit (.bool false)], args := [d1, d2] }
  | _ => none }
def ZdevZonesWrongFalsely : Prop := zdevZonesRow.holds Try.pinned (OpenSpec.ofChange zdevZonesWrong)

/-- 'scarplaw9.ZdevNothing': WHATEVER THE INPUT: true; the input reads as it did. -/
def zdevNothingSpec : ChangeSpec := { name := "zdevNothing", fn := fun _ => fun
  | [d1, d2] => { results := [.lit (.bool true)], args := [d1, d2] }
  | _ => none }
def zdevNothingRow : OpenClaim := { program := "ytgehnljkiocijaa", sum := "97ade4987fd3b97b7145aebcfb3da756c4d37f986dff007543deffc087b50be4", func := "scarp/scarplaw9.ZdevNothing", spec := "zdevNothing", apart := false }
def ZdevNothingSaid : Prop := zdevNothingRow.holds Try.pinned (OpenSpec.ofChange zdevNothingSpec)

/-- ITS FALSE NEIGHBOUR: 'it returns false'. Refute it at one input. -/
def zdevNothingWrong : ChangeSpec := { name := "zdevNothing", fn := fun _ => fun
  | [d1, d2] => { results := [.lit (.bool false)], args := [d1, d2] }
  | _ => none }
def ZdevNothingWrongFalsely : Prop := zdevNothingRow.holds Try.pinned (OpenSpec.ofChange zdevNothingWrong)

/-- 'scarplaw9.ZdevApart': WHATEVER THE INPUT: true; the input reads as it did. -/
def zdevApartSpec : ChangeSpec := { name := "zdevApart", fn := fun _ => fun
  | [d1, d2] => { results := [.lit (.bool true)], args := [d1, d2] }
  | _ => none }
def zdevApartRow : OpenClaim := { program := "ytgehnljkiocijaa", sum := "97ade4987fd3b97b7145aebcfb3da756c4d37f986dff007543deffc087b50be4", func := "scarp/scarplaw9.ZdevApart", spec := "zdevApart", apart := false }
def ZdevApartSaid : Prop := zdevApartRow.holds Try.pinned (OpenSpec.ofChange zdevApartSpec)

/-- ITS FALSE NEIGHBOUR: 'it returns false'. Refute it at one input. -/
def zdevApartWrong : ChangeSpec := { name := "zdevApart", fn := fun _ => fun
  | [d1, d2] => { results := [.lit (.bool false)], args := [d1, d2] }
  | _ => none }
def ZdevApartWrongFalsely : Prop := zdevApartRow.holds Try.pinned (OpenSpec.ofChange zdevApartWrong)

/-- 'scarplaw9.ZdevFull': WHATEVER THE INPUT: true; the input reads as it did. -/
def zdevFullSpec : ChangeSpec := { name := "zdevFull", fn := fun _ => fun
  | [d1, d2, d3] => { results := [.lit (.bool true)], args := [d1, d2, d3] }
  | _ => none }
def zdevFullRow : OpenClaim := { program := "ytgehnljkiocijaa", sum := "97ade4987fd3b97b7145aebcfb3da756c4d37f986dff007543deffc087b50be4", func := "scarp/scarplaw9.ZdevFull", spec := "zdevFull", apart := false }
def ZdevFullSaid : Prop := zdevFullRow.holds Try.pinned (OpenSpec.ofChange zdevFullSpec)

/-- ITS FALSE NEIGHBOUR: 'it returns false'. Refute it at one input. -/
def zdevFullWrong : ChangeSpec := { name := "zdevFull", fn := fun _ => fun
  | [d1, d2, d3] => { results := [.lit (.bool false)], args := [d1, d2, d3] }
  | _ => none }
def ZdevFullWrongFalsely : Prop := zdevFullRow.holds Try.pinned (OpenSpec.ofChange zdevFullWrong)

/- THE SECOND FORM. 'bulk': how many values and letters a reading holds, each counted each time it is reached (what is shared counts as often as it is met; a slice's spare places count too). A statement '..UptoSaid' is the law's where the arguments, and the package variables that the reading takes, are together of bulk at most 1048576: NARROWER than '..Said'. Prove '..Said' where nothing that the law and all that it calls make is longer than what came in: it says more and counts as full. Else prove '..UptoSaid'. A law counts once. -/
mutual
def uptoBulk {H : Type} : DataW H → Nat
  | .lit (.string bytes) => bytes.length + 1
  | .lit _ => 1
  | .nil => 1
  | .ptr d => uptoBulk d + 1
  | .slice elems spare => uptoBulkAll elems + uptoBulkAll spare + 1
  | .agg parts => uptoBulkAll parts + 1
  | .iface _ d => uptoBulk d + 1
  | .map entries => uptoBulkEntries entries + 1
  | .held _ => 1
def uptoBulkAll {H : Type} : List (DataW H) → Nat
  | [] => 0
  | d :: r => uptoBulk d + uptoBulkAll r
def uptoBulkEntries {H : Type} : List (Lit × DataW H) → Nat
  | [] => 0
  | x :: r => uptoBulkEntry x + uptoBulkEntries r
def uptoBulkEntry {H : Type} : Lit × DataW H → Nat
  | (.string bytes, d) => bytes.length + uptoBulk d + 1
  | (_, d) => uptoBulk d + 1
 end
def uptoSmall : (H : Type) → List (DataW H) → Bool := fun _ ds => decide (uptoBulkAll ds ≤ 1048576)
def OpenSpec.upto (s : _root_.Go.ChangeSpec) : _root_.Go.OpenSpec := { _root_.Go.OpenSpec.ofChange s with cond := some uptoSmall }

/-- 'scarplaw9.ZdevZones', WHERE WHAT IT READS IS OF BULK AT MOST 1048576: true; the input reads as it did. -/
def zdevZonesUptoRow : OpenClaim := { program := "ytgehnljkiocijaa", sum := "97ade4987fd3b97b7145aebcfb3da756c4d37f986dff007543deffc087b50be4", func := "scarp/scarplaw9.ZdevZones", spec := "zdevZones", apart := false, narrowed := true }
def ZdevZonesUptoSaid : Prop := zdevZonesUptoRow.holds Try.pinned (OpenSpec.upto zdevZonesSpec)

/-- 'scarplaw9.ZdevNothing', WHERE WHAT IT READS IS OF BULK AT MOST 1048576: true; the input reads as it did. -/
def zdevNothingUptoRow : OpenClaim := { program := "ytgehnljkiocijaa", sum := "97ade4987fd3b97b7145aebcfb3da756c4d37f986dff007543deffc087b50be4", func := "scarp/scarplaw9.ZdevNothing", spec := "zdevNothing", apart := false, narrowed := true }
def ZdevNothingUptoSaid : Prop := zdevNothingUptoRow.holds Try.pinned (OpenSpec.upto zdevNothingSpec)

/-- 'scarplaw9.ZdevApart', WHERE WHAT IT READS IS OF BULK AT MOST 1048576: true; the input reads as it did. -/
def zdevApartUptoRow : OpenClaim := { program := "ytgehnljkiocijaa", sum := "97ade4987fd3b97b7145aebcfb3da756c4d37f986dff007543deffc087b50be4", func := "scarp/scarplaw9.ZdevApart", spec := "zdevApart", apart := false, narrowed := true }
def ZdevApartUptoSaid : Prop := zdevApartUptoRow.holds Try.pinned (OpenSpec.upto zdevApartSpec)

/-- 'scarplaw9.ZdevFull', WHERE WHAT IT READS IS OF BULK AT MOST 1048576: true; the input reads as it did. -/
def zdevFullUptoRow : OpenClaim := { program := "ytgehnljkiocijaa", sum := "97ade4987fd3b97b7145aebcfb3da756c4d37f986dff007543deffc087b50be4", func := "scarp/scarplaw9.ZdevFull", spec := "zdevFull", apart := false, narrowed := true }
def ZdevFullUptoSaid : Prop := zdevFullUptoRow.holds Try.pinned (OpenSpec.upto zdevFullSpec)

end Rows
end Go.Proofs.Ytgehnljkiocijaa
