/-
  No cell of these rows narrows 'for every input' (looked for: loops, veiled, ifaces, maps, wideKeys, modest, calm, conditions, laid).
  DERIVED. THE GIVEN ROWS OF THIS SEAT. 2 by the template 'for every input the law returns true; each argument reads behind the call as it read before'; 0 by the template 'total and deterministic' (their statements: YtelhpndlejommaaGreatTotals.lean).
  GIVEN WITH THE SEED: the statements are not yours to turn. If you find one false, say at which input.
  Laid BY PROGRAM, IN A SANDBOX (cutbox-rows.mjs): the forced cells as the released guide's own fill.sh prints them over the translation b9dc4f0a10958105… (all of the seat's roots in one cut). By AI agents, Wed Nov 11 2026. No macro, syntax, notation, axiom, sorry.
-/
import Derived.Test.YtelhpndlejommaaGreatChecked
import GoSem.Claim
import GoSem.ClaimJoined
import GoSem.ClaimMapViews
import Derived.JoinedTies
import Derived.KernelRfl
namespace Go.Proofs.YtelhpndlejommaaGreat
/- THE CELL 'sum', in the pinned program and in every row, IS THE sha256 OF THE DUMP (.gsa) THAT YtelhpndlejommaaGreatProg.lean LOADS. Nothing in Lean hashes anything: it is a label: what it is worth is what the hold of that sum in a sandbox is worth. -/
noncomputable def Tryz.pinned : Pinned := { name := "ytelhpndlejommaagreat", sum := "b9dc4f0a109581052edf85b23b210dcb41ec0f9cc9cca2e85cf078cff75c6870", checked := Tryz.checked }
namespace Rows
def none {H : Type} : Left H := { results := [], args := [] }

/-- 'priorartlaw06.ThingNormal': WHATEVER THE INPUT: true; the input reads as it did. -/
def thingNormalSpec : ChangeSpec := { name := "thingNormal", fn := fun _ => fun
  | [d1, d2, d3, d4, d5] => { results := [.lit (.bool true)], args := [d1, d2, d3, d4, d5] }
  | _ => none }
def thingNormalRow : OpenClaim := { program := "ytelhpndlejommaagreat", sum := "b9dc4f0a109581052edf85b23b210dcb41ec0f9cc9cca2e85cf078cff75c6870", func := "priorart/priorartlaw06.ThingNormal", spec := "thingNormal", unfollowed := true, recurses := true, apart := false }
def ThingNormalSaid : Prop := thingNormalRow.holds Tryz.pinned (OpenSpec.ofChange thingNormalSpec)

/-- ITS FALSE NEIGHBOUR: 'it returns false'. Refute it at one input. -/
def thingNormalWrong : ChangeSpec := { name := "thingNormal", fn := fun _ => fun
  | [d1, d2, d3, d4, d5] => { results := [.lit (.bool false)], args := [d1, d2, d3, d4, d5] }
  | _ => none }
def ThingNormalWrongFalsely : Prop := thingNormalRow.holds Tryz.pinned (OpenSpec.ofChange thingNormalWrong)

/-- 'priorartlaw06.ThingWith': WHATEVER THE INPUT: true; the input reads as it did. -/
def thingWithSpec : ChangeSpec := { name := "thingWith", fn := fun _ => fun
  | [d1, d2, d3, d4, d5] => { results := [.lit (.bool true)], args := [d1, d2, d3, d4, d5] }
  | _ => none }
def thingWithRow : OpenClaim := { program := "ytelhpndlejommaagreat", sum := "b9dc4f0a109581052edf85b23b210dcb41ec0f9cc9cca2e85cf078cff75c6870", func := "priorart/priorartlaw06.ThingWith", spec := "thingWith", inPlace := ["slices.overlaps[priorart/api.Thing]"], unfollowed := true, recurses := true, apart := false }
def ThingWithSaid : Prop := thingWithRow.holds Tryz.pinned (OpenSpec.ofChange thingWithSpec)

/-- ITS FALSE NEIGHBOUR: 'it returns false'. Refute it at one input. -/
def thingWithWrong : ChangeSpec := { name := "thingWith", fn := fun _ => fun
  | [d1, d2, d3, d4, d5] => { results := [.lit (.bool false)], args := [d1, d2, d3, d4, d5] }
  | _ => none }
def ThingWithWrongFalsely : Prop := thingWithRow.holds Tryz.pinned (OpenSpec.ofChange thingWithWrong)

/- THE SECOND FORM. 'bulk': how many values and letters a reading holds, each counted each time it is reached (what is shared counts as often as it is met; a slice's spare places count too). A statement '..UptoSaid' is the law's where the arguments, and the package variables that the reading takes, are together of bulk at most 1048576: NARROWER than '..Said'. Prove '..Said' where nothing that the law and all that it calls make is longer than what came in: it says more and counts as full. Else prove '..UptoSaid'. A law counts once. -/
mutual
def uptoBulk {H : Type} : DataW H → Nat
  | .lit (.string bytes) => bytes.length + 1
  | .lit _ => 1
  | .nil => 1
  | .ptr d => uptoBulk d + 1
  | .slice elems spare => uptoBulkAll elems + uptoBulkAll spare + 1
  | .agg parts => uptoBulkAll parts + 1
  | .iface _ d => uptoBulk d + 1
  | .map entries => uptoBulkEntries entries + 1
  | .held _ => 1
def uptoBulkAll {H : Type} : List (DataW H) → Nat
  | [] => 0
  | d :: r => uptoBulk d + uptoBulkAll r
def uptoBulkEntries {H : Type} : List (Lit × DataW H) → Nat
  | [] => 0
  | x :: r => uptoBulkEntry x + uptoBulkEntries r
def uptoBulkEntry {H : Type} : Lit × DataW H → Nat
  | (.string bytes, d) => bytes.length + uptoBulk d + 1
  | (_, d) => uptoBulk d + 1
 end
def uptoSmall : (H : Type) → List (DataW H) → Bool := fun _ ds => decide (uptoBulkAll ds ≤ 1048576)
def OpenSpec.upto (s : _root_.Go.ChangeSpec) : _root_.Go.OpenSpec := { _root_.Go.OpenSpec.ofChange s with cond := some uptoSmall }

/-- 'priorartlaw06.ThingNormal', WHERE WHAT IT READS IS OF BULK AT MOST 1048576: true; the input reads as it did. -/
def thingNormalUptoRow : OpenClaim := { program := "ytelhpndlejommaagreat", sum := "b9dc4f0a109581052edf85b23b210dcb41ec0f9cc9cca2e85cf078cff75c6870", func := "priorart/priorartlaw06.ThingNormal", spec := "thingNormal", unfollowed := true, recurses := true, apart := false, narrowed := true }
def ThingNormalUptoSaid : Prop := thingNormalUptoRow.holds Tryz.pinned (OpenSpec.upto thingNormalSpec)

/-- 'priorartlaw06.ThingWith', WHERE WHAT IT READS IS OF BULK AT MOST 1048576: true; the input reads as it did. -/
def thingWithUptoRow : OpenClaim := { program := "ytelhpndlejommaagreat", sum := "b9dc4f0a109581052edf85b23b210dcb41ec0f9cc9cca2e85cf078cff75c6870", func := "priorart/priorartlaw06.ThingWith", spec := "thingWith", inPlace := ["slices.overlaps[priorart/api.Thing]"], unfollowed := true, recurses := true, apart := false, narrowed := true }
def ThingWithUptoSaid : Prop := thingWithUptoRow.holds Tryz.pinned (OpenSpec.upto thingWithSpec)

end Rows
end Go.Proofs.YtelhpndlejommaaGreat
