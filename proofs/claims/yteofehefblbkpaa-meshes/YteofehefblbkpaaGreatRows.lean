/-
  No cell of these rows narrows 'for every input' (looked for: loops, veiled, ifaces, maps, wideKeys, modest, calm, conditions, laid).
  DERIVED. THE GIVEN ROWS OF THIS SEAT. 4 by the template 'for every input the law returns true; each argument reads behind the call as it read before'; 0 by the template 'total and deterministic' (their statements: YteofehefblbkpaaGreatTotals.lean).
  GIVEN WITH THE SEED: the statements are not yours to turn. If you find one false, say at which input.
  Laid BY PROGRAM, IN A SANDBOX (cutbox-rows.mjs): the forced cells as the released guide's own fill.sh prints them over the translation 9e7f7ac487d28a3e… (all of the seat's roots in one cut). By AI agents, Wed Nov 11 2026. No macro, syntax, notation, axiom, sorry.
-/
import Derived.Test.YteofehefblbkpaaGreatChecked
import GoSem.Claim
import GoSem.ClaimJoined
import GoSem.ClaimMapViews
import Derived.JoinedTies
import Derived.KernelRfl
namespace Go.Proofs.YteofehefblbkpaaGreat
/- THE CELL 'sum', in the pinned program and in every row, IS THE sha256 OF THE DUMP (.gsa) THAT YteofehefblbkpaaGreatProg.lean LOADS. Nothing in Lean hashes anything: it is a label: what it is worth is what the hold of that sum in a sandbox is worth. -/
noncomputable def Tryz.pinned : Pinned := { name := "yteofehefblbkpaagreat", sum := "9e7f7ac487d28a3effd8dbdd51a02775533c1f47de0d2fe6b49cfe51fc964723", checked := Tryz.checked }
namespace Rows
def none {H : Type} : Left H := { results := [], args := [] }

/-- 'trigonlaw.Sides': WHATEVER THE INPUT: true; the input reads as it did. -/
def sidesSpec : ChangeSpec := { name := "sides", fn := fun _ => fun
  | [d] => { results := [.lit (.bool true)], args := [d] }
  | _ => none }
def sidesRow : OpenClaim := { program := "yteofehefblbkpaagreat", sum := "9e7f7ac487d28a3effd8dbdd51a02775533c1f47de0d2fe6b49cfe51fc964723", func := "trigon/trigonlaw.Sides", spec := "sides", unfollowed := true, recurses := true, plainKeys := false, apart := false }
def SidesSaid : Prop := sidesRow.holds Tryz.pinned (OpenSpec.ofChange sidesSpec)

/-- ITS FALSE NEIGHBOUR: 'it returns false'. Refute it at one input. -/
def sidesWrong : ChangeSpec := { name := "sides", fn := fun _ => fun
  | [d] => { results := [.lit (.bool false)], args := [d] }
  | _ => none }
def SidesWrongFalsely : Prop := sidesRow.holds Tryz.pinned (OpenSpec.ofChange sidesWrong)

/-- 'trigonlaw.Joins': WHATEVER THE INPUT: true; the input reads as it did. -/
def joinsSpec : ChangeSpec := { name := "joins", fn := fun _ => fun
  | [d] => { results := [.lit (.bool true)], args := [d] }
  | _ => none }
def joinsRow : OpenClaim := { program := "yteofehefblbkpaagreat", sum := "9e7f7ac487d28a3effd8dbdd51a02775533c1f47de0d2fe6b49cfe51fc964723", func := "trigon/trigonlaw.Joins", spec := "joins", unfollowed := true, recurses := true, plainKeys := false, apart := false }
def JoinsSaid : Prop := joinsRow.holds Tryz.pinned (OpenSpec.ofChange joinsSpec)

/-- ITS FALSE NEIGHBOUR: 'it returns false'. Refute it at one input. -/
def joinsWrong : ChangeSpec := { name := "joins", fn := fun _ => fun
  | [d] => { results := [.lit (.bool false)], args := [d] }
  | _ => none }
def JoinsWrongFalsely : Prop := joinsRow.holds Tryz.pinned (OpenSpec.ofChange joinsWrong)

/-- 'trigonlaw.Meshes': WHATEVER THE INPUT: true; the input reads as it did. -/
def meshesSpec : ChangeSpec := { name := "meshes", fn := fun _ => fun
  | [d] => { results := [.lit (.bool true)], args := [d] }
  | _ => none }
def meshesRow : OpenClaim := { program := "yteofehefblbkpaagreat", sum := "9e7f7ac487d28a3effd8dbdd51a02775533c1f47de0d2fe6b49cfe51fc964723", func := "trigon/trigonlaw.Meshes", spec := "meshes", unfollowed := true, recurses := true, plainKeys := false, apart := false }
def MeshesSaid : Prop := meshesRow.holds Tryz.pinned (OpenSpec.ofChange meshesSpec)

/-- ITS FALSE NEIGHBOUR: 'it returns false'. Refute it at one input. -/
def meshesWrong : ChangeSpec := { name := "meshes", fn := fun _ => fun
  | [d] => { results := [.lit (.bool false)], args := [d] }
  | _ => none }
def MeshesWrongFalsely : Prop := meshesRow.holds Tryz.pinned (OpenSpec.ofChange meshesWrong)

/-- 'trigonkeep.Found': WHATEVER THE INPUT: true; the input reads as it did. -/
def foundSpec : ChangeSpec := { name := "found", fn := fun _ => fun
  | [d1, d2, d3] => { results := [.lit (.bool true)], args := [d1, d2, d3] }
  | _ => none }
def foundRow : OpenClaim := { program := "yteofehefblbkpaagreat", sum := "9e7f7ac487d28a3effd8dbdd51a02775533c1f47de0d2fe6b49cfe51fc964723", func := "trigon/trigonkeep.Found", spec := "found", unfollowed := true, recurses := true, plainKeys := false, apart := false }
def FoundSaid : Prop := foundRow.holds Tryz.pinned (OpenSpec.ofChange foundSpec)

/-- ITS FALSE NEIGHBOUR: 'it returns false'. Refute it at one input. -/
def foundWrong : ChangeSpec := { name := "found", fn := fun _ => fun
  | [d1, d2, d3] => { results := [.lit (.bool false)], args := [d1, d2, d3] }
  | _ => none }
def FoundWrongFalsely : Prop := foundRow.holds Tryz.pinned (OpenSpec.ofChange foundWrong)

/- THE SECOND FORM. 'bulk': how many values and letters a reading holds, each counted each time it is reached (what is shared counts as often as it is met; a slice's spare places count too). A statement '..UptoSaid' is the law's where the arguments, and the package variables that the reading takes, are together of bulk at most 1048576: NARROWER than '..Said'. Prove '..Said' where nothing that the law and all that it calls make is longer than what came in: it says more and counts as full. Else prove '..UptoSaid'. A law counts once. -/
mutual
def uptoBulk {H : Type} : DataW H → Nat
  | .lit (.string bytes) => bytes.length + 1
  | .lit _ => 1
  | .nil => 1
  | .ptr d => uptoBulk d + 1
  | .slice elems spare => uptoBulkAll elems + uptoBulkAll spare + 1
  | .agg parts => uptoBulkAll parts + 1
  | .iface _ d => uptoBulk d + 1
  | .map entries => uptoBulkEntries entries + 1
  | .held _ => 1
def uptoBulkAll {H : Type} : List (DataW H) → Nat
  | [] => 0
  | d :: r => uptoBulk d + uptoBulkAll r
def uptoBulkEntries {H : Type} : List (Lit × DataW H) → Nat
  | [] => 0
  | x :: r => uptoBulkEntry x + uptoBulkEntries r
def uptoBulkEntry {H : Type} : Lit × DataW H → Nat
  | (.string bytes, d) => bytes.length + uptoBulk d + 1
  | (_, d) => uptoBulk d + 1
 end
def uptoSmall : (H : Type) → List (DataW H) → Bool := fun _ ds => decide (uptoBulkAll ds ≤ 1048576)
def OpenSpec.upto (s : _root_.Go.ChangeSpec) : _root_.Go.OpenSpec := { _root_.Go.OpenSpec.ofChange s with cond := some uptoSmall }

/-- 'trigonlaw.Sides', WHERE WHAT IT READS IS OF BULK AT MOST 1048576: true; the input reads as it did. -/
def sidesUptoRow : OpenClaim := { program := "yteofehefblbkpaagreat", sum := "9e7f7ac487d28a3effd8dbdd51a02775533c1f47de0d2fe6b49cfe51fc964723", func := "trigon/trigonlaw.Sides", spec := "sides", unfollowed := true, recurses := true, plainKeys := false, apart := false, narrowed := true }
def SidesUptoSaid : Prop := sidesUptoRow.holds Tryz.pinned (OpenSpec.upto sidesSpec)

/-- 'trigonlaw.Joins', WHERE WHAT IT READS IS OF BULK AT MOST 1048576: true; the input reads as it did. -/
def joinsUptoRow : OpenClaim := { program := "yteofehefblbkpaagreat", sum := "9e7f7ac487d28a3effd8dbdd51a02775533c1f47de0d2fe6b49cfe51fc964723", func := "trigon/trigonlaw.Joins", spec := "joins", unfollowed := true, recurses := true, plainKeys := false, apart := false, narrowed := true }
def JoinsUptoSaid : Prop := joinsUptoRow.holds Tryz.pinned (OpenSpec.upto joinsSpec)

/-- 'trigonlaw.Meshes', WHERE WHAT IT READS IS OF BULK AT MOST 1048576: true; the input reads as it did. -/
def meshesUptoRow : OpenClaim := { program := "yteofehefblbkpaagreat", sum := "9e7f7ac487d28a3effd8dbdd51a02775533c1f47de0d2fe6b49cfe51fc964723", func := "trigon/trigonlaw.Meshes", spec := "meshes", unfollowed := true, recurses := true, plainKeys := false, apart := false, narrowed := true }
def MeshesUptoSaid : Prop := meshesUptoRow.holds Tryz.pinned (OpenSpec.upto meshesSpec)

/-- 'trigonkeep.Found', WHERE WHAT IT READS IS OF BULK AT MOST 1048576: true; the input reads as it did. -/
def foundUptoRow : OpenClaim := { program := "yteofehefblbkpaagreat", sum := "9e7f7ac487d28a3effd8dbdd51a02775533c1f47de0d2fe6b49cfe51fc964723", func := "trigon/trigonkeep.Found", spec := "found", unfollowed := true, recurses := true, plainKeys := false, apart := false, narrowed := true }
def FoundUptoSaid : Prop := foundUptoRow.holds Tryz.pinned (OpenSpec.upto foundSpec)

end Rows
end Go.Proofs.YteofehefblbkpaaGreat
