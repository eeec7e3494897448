/-
  No cell of these rows narrows 'for every input' (looked for: loops, veiled, ifaces, maps, wideKeys, modest, calm, conditions, laid).
  DERIVED. THE GIVEN ROWS OF THIS SEAT. 5 by the template 'for every input the law returns true; each argument reads behind the call as it read before'; 0 by the template 'total and deterministic' (their statements: YtloddocibfbkpaaTotals.lean).
  GIVEN WITH THE SEED: the statements are not yours to turn. If you find one false, say at which input.
  Laid BY PROGRAM, IN A SANDBOX (cutbox-rows.mjs): the forced cells as the released guide's own fill.sh prints them over the translation df74cb666d791d3b… (all of the seat's roots in one cut). By AI agents, Wed Nov 11 2026. No macro, syntax, notation, axiom, sorry.
-/
import Derived.Test.YtloddocibfbkpaaChecked
import GoSem.Claim
import GoSem.ClaimJoined
import GoSem.ClaimMapViews
import Derived.JoinedTies
import Derived.KernelRfl
namespace Go.Proofs.Ytloddocibfbkpaa
/- THE CELL 'sum', in the pinned program and in every row, IS THE sha256 OF THE DUMP (.gsa) THAT YtloddocibfbkpaaProg.lean LOADS. Nothing in Lean hashes anything: it is a label: what it is worth is what the hold of that sum in a sandbox is worth. -/
noncomputable def Try.pinned : Pinned := { name := "ytloddocibfbkpaa", sum := "df74cb666d791d3b10c72c8c569e6a0af82c85ee8b9191fead0a82cbfead0d47", checked := Try.checked }
namespace Rows
def none {H : Type} : Left H := { results := [], args := [] }

/-- 'priorartlaw03.RatioNew': WHATEVER THE INPUT: true; the input reads as it did. -/
def ratioNewSpec : ChangeSpec := { name := "ratioNew", fn := fun _ => fun
  | [d1, d2, d3, d4, d5] => { results := [.lit (.bool true)], args := [d1, d2, d3, d4, d5] }
  | _ => none }
def ratioNewRow : OpenClaim := { program := "ytloddocibfbkpaa", sum := "df74cb666d791d3b10c72c8c569e6a0af82c85ee8b9191fead0a82cbfead0d47", func := "priorart/priorartlaw03.RatioNew", spec := "ratioNew", unfollowed := true, recurses := true, apart := false }
def RatioNewSaid : Prop := ratioNewRow.holds Try.pinned (OpenSpec.ofChange ratioNewSpec)

/-- ITS FALSE NEIGHBOUR: 'it returns false'. Refute it at one input. -/
def ratioNewWrong : ChangeSpec := { name := "ratioNew", fn := fun _ => fun
  | [d1, d2, d3, d4, d5] => { results := [.lit (.bool false)], args := [d1, d2, d3, d4, d5] }
  | _ => none }
def RatioNewWrongFalsely : Prop := ratioNewRow.holds Try.pinned (OpenSpec.ofChange ratioNewWrong)

/-- 'priorartlaw03.RatioOps': WHATEVER THE INPUT: true; the input reads as it did. -/
def ratioOpsSpec : ChangeSpec := { name := "ratioOps", fn := fun _ => fun
  | [d1, d2, d3, d4, d5, d6] => { results := [.lit (.bool true)], args := [d1, d2, d3, d4, d5, d6] }
  | _ => none }
def ratioOpsRow : OpenClaim := { program := "ytloddocibfbkpaa", sum := "df74cb666d791d3b10c72c8c569e6a0af82c85ee8b9191fead0a82cbfead0d47", func := "priorart/priorartlaw03.RatioOps", spec := "ratioOps", unfollowed := true, recurses := true, apart := false }
def RatioOpsSaid : Prop := ratioOpsRow.holds Try.pinned (OpenSpec.ofChange ratioOpsSpec)

/-- ITS FALSE NEIGHBOUR: 'it returns false'. Refute it at one input. -/
def ratioOpsWrong : ChangeSpec := { name := "ratioOps", fn := fun _ => fun
  | [d1, d2, d3, d4, d5, d6] => { results := [.lit (.bool false)], args := [d1, d2, d3, d4, d5, d6] }
  | _ => none }
def RatioOpsWrongFalsely : Prop := ratioOpsRow.holds Try.pinned (OpenSpec.ofChange ratioOpsWrong)

/-- 'priorartlaw03.RatioField': WHATEVER THE INPUT: true; the input reads as it did. -/
def ratioFieldSpec : ChangeSpec := { name := "ratioField", fn := fun _ => fun
  | [d1, d2, d3, d4, d5, d6] => { results := [.lit (.bool true)], args := [d1, d2, d3, d4, d5, d6] }
  | _ => none }
def ratioFieldRow : OpenClaim := { program := "ytloddocibfbkpaa", sum := "df74cb666d791d3b10c72c8c569e6a0af82c85ee8b9191fead0a82cbfead0d47", func := "priorart/priorartlaw03.RatioField", spec := "ratioField", unfollowed := true, recurses := true, apart := false }
def RatioFieldSaid : Prop := ratioFieldRow.holds Try.pinned (OpenSpec.ofChange ratioFieldSpec)

/-- ITS FALSE NEIGHBOUR: 'it returns false'. Refute it at one input. -/
def ratioFieldWrong : ChangeSpec := { name := "ratioField", fn := fun _ => fun
  | [d1, d2, d3, d4, d5, d6] => { results := [.lit (.bool false)], args := [d1, d2, d3, d4, d5, d6] }
  | _ => none }
def RatioFieldWrongFalsely : Prop := ratioFieldRow.holds Try.pinned (OpenSpec.ofChange ratioFieldWrong)

/-- 'priorartlaw03.RatioBetween': WHATEVER THE INPUT: true; the input reads as it did. -/
def ratioBetweenSpec : ChangeSpec := { name := "ratioBetween", fn := fun _ => fun
  | [d1, d2, d3, d4, d5, d6] => { results := [.lit (.bool true)], args := [d1, d2, d3, d4, d5, d6] }
  | _ => none }
def ratioBetweenRow : OpenClaim := { program := "ytloddocibfbkpaa", sum := "df74cb666d791d3b10c72c8c569e6a0af82c85ee8b9191fead0a82cbfead0d47", func := "priorart/priorartlaw03.RatioBetween", spec := "ratioBetween", unfollowed := true, recurses := true, apart := false }
def RatioBetweenSaid : Prop := ratioBetweenRow.holds Try.pinned (OpenSpec.ofChange ratioBetweenSpec)

/-- ITS FALSE NEIGHBOUR: 'it returns false'. Refute it at one input. -/
def ratioBetweenWrong : ChangeSpec := { name := "ratioBetween", fn := fun _ => fun
  | [d1, d2, d3, d4, d5, d6] => { results := [.lit (.bool false)], args := [d1, d2, d3, d4, d5, d6] }
  | _ => none }
def RatioBetweenWrongFalsely : Prop := ratioBetweenRow.holds Try.pinned (OpenSpec.ofChange ratioBetweenWrong)

/-- 'priorartlaw03.RatioParts': WHATEVER THE INPUT: true; the input reads as it did. -/
def ratioPartsSpec : ChangeSpec := { name := "ratioParts", fn := fun _ => fun
  | [d1, d2, d3] => { results := [.lit (.bool true)], args := [d1, d2, d3] }
  | _ => none }
def ratioPartsRow : OpenClaim := { program := "ytloddocibfbkpaa", sum := "df74cb666d791d3b10c72c8c569e6a0af82c85ee8b9191fead0a82cbfead0d47", func := "priorart/priorartlaw03.RatioParts", spec := "ratioParts", unfollowed := true, recurses := true, apart := false }
def RatioPartsSaid : Prop := ratioPartsRow.holds Try.pinned (OpenSpec.ofChange ratioPartsSpec)

/-- ITS FALSE NEIGHBOUR: 'it returns false'. Refute it at one input. -/
def ratioPartsWrong : ChangeSpec := { name := "ratioParts", fn := fun _ => fun
  | [d1, d2, d3] => { results := [.lit (.bool false)], args := [d1, d2, d3] }
  | _ => none }
def RatioPartsWrongFalsely : Prop := ratioPartsRow.holds Try.pinned (OpenSpec.ofChange ratioPartsWrong)

/- THE SECOND FORM. 'bulk': how many values and letters a reading holds, each counted each time it is reached (what is shared counts as often as it is met; a slice's spare places count too). A statement '..UptoSaid' is the law's where the arguments, and the package variables that the reading takes, are together of bulk at most 1048576: NARROWER than '..Said'. Prove '..Said' where nothing that the law and all that it calls make is longer than what came in: it says more and counts as full. Else prove '..UptoSaid'. A law counts once. -/
mutual
def uptoBulk {H : Type} : DataW H → Nat
  | .lit (.string bytes) => bytes.length + 1
  | .lit _ => 1
  | .nil => 1
  | .ptr d => uptoBulk d + 1
  | .slice elems spare => uptoBulkAll elems + uptoBulkAll spare + 1
  | .agg parts => uptoBulkAll parts + 1
  | .iface _ d => uptoBulk d + 1
  | .map entries => uptoBulkEntries entries + 1
  | .held _ => 1
def uptoBulkAll {H : Type} : List (DataW H) → Nat
  | [] => 0
  | d :: r => uptoBulk d + uptoBulkAll r
def uptoBulkEntries {H : Type} : List (Lit × DataW H) → Nat
  | [] => 0
  | x :: r => uptoBulkEntry x + uptoBulkEntries r
def uptoBulkEntry {H : Type} : Lit × DataW H → Nat
  | (.string bytes, d) => bytes.length + uptoBulk d + 1
  | (_, d) => uptoBulk d + 1
 end
def uptoSmall : (H : Type) → List (DataW H) → Bool := fun _ ds => decide (uptoBulkAll ds ≤ 1048576)
def OpenSpec.upto (s : _root_.Go.ChangeSpec) : _root_.Go.OpenSpec := { _root_.Go.OpenSpec.ofChange s with cond := some uptoSmall }

/-- 'priorartlaw03.RatioNew', WHERE WHAT IT READS IS OF BULK AT MOST 1048576: true; the input reads as it did. -/
def ratioNewUptoRow : OpenClaim := { program := "ytloddocibfbkpaa", sum := "df74cb666d791d3b10c72c8c569e6a0af82c85ee8b9191fead0a82cbfead0d47", func := "priorart/priorartlaw03.RatioNew", spec := "ratioNew", unfollowed := true, recurses := true, apart := false, narrowed := true }
def RatioNewUptoSaid : Prop := ratioNewUptoRow.holds Try.pinned (OpenSpec.upto ratioNewSpec)

/-- 'priorartlaw03.RatioOps', WHERE WHAT IT READS IS OF BULK AT MOST 1048576: true; the input reads as it did. -/
def ratioOpsUptoRow : OpenClaim := { program := "ytloddocibfbkpaa", sum := "df74cb666d791d3b10c72c8c569e6a0af82c85ee8b9191fead0a82cbfead0d47", func := "priorart/priorartlaw03.RatioOps", spec := "ratioOps", unfollowed := true, recurses := true, apart := false, narrowed := true }
def RatioOpsUptoSaid : Prop := ratioOpsUptoRow.holds Try.pinned (OpenSpec.upto ratioOpsSpec)

/-- 'priorartlaw03.RatioField', WHERE WHAT IT READS IS OF BULK AT MOST 1048576: true; the input reads as it did. -/
def ratioFieldUptoRow : OpenClaim := { program := "ytloddocibfbkpaa", sum := "df74cb666d791d3b10c72c8c569e6a0af82c85ee8b9191fead0a82cbfead0d47", func := "priorart/priorartlaw03.RatioField", spec := "ratioField", unfollowed := true, recurses := true, apart := false, narrowed := true }
def RatioFieldUptoSaid : Prop := ratioFieldUptoRow.holds Try.pinned (OpenSpec.upto ratioFieldSpec)

/-- 'priorartlaw03.RatioBetween', WHERE WHAT IT READS IS OF BULK AT MOST 1048576: true; the input reads as it did. -/
def ratioBetweenUptoRow : OpenClaim := { program := "ytloddocibfbkpaa", sum := "df74cb666d791d3b10c72c8c569e6a0af82c85ee8b9191fead0a82cbfead0d47", func := "priorart/priorartlaw03.RatioBetween", spec := "ratioBetween", unfollowed := true, recurses := true, apart := false, narrowed := true }
def RatioBetweenUptoSaid : Prop := ratioBetweenUptoRow.holds Try.pinned (OpenSpec.upto ratioBetweenSpec)

/-- 'priorartlaw03.RatioParts', WHERE WHAT IT READS IS OF BULK AT MOST 1048576: true; the input reads as it did. -/
def ratioPartsUptoRow : OpenClaim := { program := "ytloddocibfbkpaa", sum := "df74cb666d791d3b10c72c8c569e6a0af82c85ee8b9191fead0a82cbfead0d47", func := "priorart/priorartlaw03.RatioParts", spec := "ratioParts", unfollowed := true, recurses := true, apart := false, narrowed := true }
def RatioPartsUptoSaid : Prop := ratioPartsUptoRow.holds Try.pinned (OpenSpec.upto ratioPartsSpec)

end Rows
end Go.Proofs.Ytloddocibfbkpaa
