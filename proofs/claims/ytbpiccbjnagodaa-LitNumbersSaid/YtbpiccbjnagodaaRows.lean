/-
  No cell of these rows narrows 'for every input' (looked for: loops, veiled, ifaces, maps, wideKeys, modest, calm, conditions, laid).
  DERIVED. THE GIVEN ROWS OF THIS SEAT. 4 by the template 'for every input the law returns true; each argument reads behind the call as it read before'; 0 by the template 'total and deterministic' (their statements: YtbpiccbjnagodaaTotals.lean).
  GIVEN WITH THE SEED: the statements are not yours to turn. If you find one false, say at which input.
  Laid BY PROGRAM, IN A SANDBOX (cutbox-rows.mjs): the forced cells as the released guide's own fill.sh prints them over the translation 5dcbea721db7891f… (all of the seat's roots in one cut). By AI agents, Wed Nov 11 2026. No macro, syntax, notation, axiom, sorry.
-/
import Derived.Test.YtbpiccbjnagodaaChecked
import GoSem.Claim
import GoSem.ClaimJoined
import GoSem.ClaimMapViews
import Derived.JoinedTies
import Derived.KernelRfl
namespace Go.Proofs.Ytbpiccbjnagodaa
/- THE CELL 'sum', in the pinned program and in every row, IS THE sha256 OF THE DUMP (.gsa) THAT YtbpiccbjnagodaaProg.lean LOADS. Nothing in Lean hashes anything: it is a label: what it is worth is what the hold of that sum in a sandbox is worth. -/
noncomputable def Try.pinned : Pinned := { name := "ytbpiccbjnagodaa", sum := "5dcbea721db7891fd13e6b25f11f428c808eb054aea07d27ebc1d386cfdb930a", checked := Try.checked }
namespace Rows
def none {H : Type} : Left H := { results := [], args := [] }

/-- 'orrerylaw02.LitOnes': WHATEVER THE INPUT: true; the input reads as it did. -/
def litOnesSpec : ChangeSpec := { name := "litOnes", fn := fun _ => fun
  | [d1, d2, d3, d4, d5] => { results := [.lit (.bool true)], args := [d1, d2, d3, d4, d5] }
  | _ => none }
def litOnesRow : OpenClaim := { program := "ytbpiccbjnagodaa", sum := "5dcbea721db7891fd13e6b25f11f428c808eb054aea07d27ebc1d386cfdb930a", func := "orrery/orrerylaw02.LitOnes", spec := "litOnes", apart := false }
def LitOnesSaid : Prop := litOnesRow.holds Try.pinned (OpenSpec.ofChange litOnesSpec)

/-- ITS FALSE NEIGHBOUR: 'it returns false'. Refute it at one input. -/
def litOnesWrong : ChangeSpec := { name := "litOnes", fn := fun _ => fun
  | [d1, d2, d3, d4, d5] => { results := [.lit (.bool false)], args := [d1, d2, d3, d4, d5] }
  | _ => none }
def LitOnesWrongFalsely : Prop := litOnesRow.holds Try.pinned (OpenSpec.ofChange litOnesWrong)

/-- 'orrerylaw02.LitFolds': WHATEVER THE INPUT: true; the input reads as it did. -/
def litFoldsSpec : ChangeSpec := { name := "litFolds", fn := fun _ => fun
  | [d1, d2, d3] => { results := [.lit (.bool true)], args := [d1, d2, d3] }
  | _ => none }
def litFoldsRow : OpenClaim := { program := "ytbpiccbjnagodaa", sum := "5dcbea721db7891fd13e6b25f11f428c808eb054aea07d27ebc1d386cfdb930a", func := "orrery/orrerylaw02.LitFolds", spec := "litFolds", apart := false }
def LitFoldsSaid : Prop := litFoldsRow.holds Try.pinned (OpenSpec.ofChange litFoldsSpec)

/-- ITS FALSE NEIGHBOUR: 'it returns false'. Refute it at one input. -/
def litFoldsWrong : ChangeSpec := { name := "litFolds", fn := fun _ => fun
  | [d1, d2, d3] => { results := [.lit (.bool false)], args := [d1, d2, d3] }
  | _ => none }
def LitFoldsWrongFalsely : Prop := litFoldsRow.holds Try.pinned (OpenSpec.ofChange litFoldsWrong)

/-- 'orrerylaw02.LitOver': WHATEVER THE INPUT: true; the input reads as it did. -/
def litOverSpec : ChangeSpec := { name := "litOver", fn := fun _ => fun
  | [d1, d2, d3, d4] => { results := [.lit (.bool true)], args := [d1, d2, d3, d4] }
  | _ => none }
def litOverRow : OpenClaim := { program := "ytbpiccbjnagodaa", sum := "5dcbea721db7891fd13e6b25f11f428c808eb054aea07d27ebc1d386cfdb930a", func := "orrery/orrerylaw02.LitOver", spec := "litOver", unfollowed := true, recurses := true, apart := false }
def LitOverSaid : Prop := litOverRow.holds Try.pinned (OpenSpec.ofChange litOverSpec)

/-- ITS FALSE NEIGHBOUR: 'it returns false'. Refute it at one input. -/
def litOverWrong : ChangeSpec := { name := "litOver", fn := fun _ => fun
  | [d1, d2, d3, d4] => { results := [.lit (.bool false)], args := [d1, d2, d3, d4] }
  | _ => none }
def LitOverWrongFalsely : Prop := litOverRow.holds Try.pinned (OpenSpec.ofChange litOverWrong)

/-- 'orrerylaw02.LitNumbers': WHATEVER THE INPUT: true; the input reads as it did. -/
def litNumbersSpec : ChangeSpec := { name := "litNumbers", fn := fun _ => fun
  | [d1, d2, d3, d4] => { results := [.lit (.bool true)], args := [d1, d2, d3, d4] }
  | _ => none }
def litNumbersRow : OpenClaim := { program := "ytbpiccbjnagodaa", sum := "5dcbea721db7891fd13e6b25f11f428c808eb054aea07d27ebc1d386cfdb930a", func := "orrery/orrerylaw02.LitNumbers", spec := "litNumbers", unfollowed := true, recurses := true, apart := false }
def LitNumbersSaid : Prop := litNumbersRow.holds Try.pinned (OpenSpec.ofChange litNumbersSpec)

/-- ITS FALSE NEIGHBOUR: 'it returns false'. Refute it at one input. -/
def litNumbersWrong : ChangeSpec := { name := "litNumbers", fn := fun _ => fun
  | [d1, d2, d3, d4] => { results := [.lit (.bool false)], args := [d1, d2, d3, d4] }
  | _ => none }
def LitNumbersWrongFalsely : Prop := litNumbersRow.holds Try.pinned (OpenSpec.ofChange litNumbersWrong)

/- THE SECOND FORM. 'bulk': how many values and letters a reading holds, each counted each time it is reached (what is shared counts as often as it is met; a slice's spare places count too). A statement '..UptoSaid' is the law's where the arguments, and the package variables that the reading takes, are together of bulk at most 1048576: NARROWER than '..Said'. Prove '..Said' where nothing that the law and all that it calls make is longer than what came in: it says more and counts as full. Else prove '..UptoSaid'. A law counts once. -/
mutual
def uptoBulk {H : Type} : DataW H → Nat
  | .lit (.string bytes) => bytes.length + 1
  | .lit _ => 1
  | .nil => 1
  | .ptr d => uptoBulk d + 1
  | .slice elems spare => uptoBulkAll elems + uptoBulkAll spare + 1
  | .agg parts => uptoBulkAll parts + 1
  | .iface _ d => uptoBulk d + 1
  | .map entries => uptoBulkEntries entries + 1
  | .held _ => 1
def uptoBulkAll {H : Type} : List (DataW H) → Nat
  | [] => 0
  | d :: r => uptoBulk d + uptoBulkAll r
def uptoBulkEntries {H : Type} : List (Lit × DataW H) → Nat
  | [] => 0
  | x :: r => uptoBulkEntry x + uptoBulkEntries r
def uptoBulkEntry {H : Type} : Lit × DataW H → Nat
  | (.string bytes, d) => bytes.length + uptoBulk d + 1
  | (_, d) => uptoBulk d + 1
 end
def uptoSmall : (H : Type) → List (DataW H) → Bool := fun _ ds => decide (uptoBulkAll ds ≤ 1048576)
def OpenSpec.upto (s : _root_.Go.ChangeSpec) : _root_.Go.OpenSpec := { _root_.Go.OpenSpec.ofChange s with cond := some uptoSmall }

/-- 'orrerylaw02.LitOnes', WHERE WHAT IT READS IS OF BULK AT MOST 1048576: true; the input reads as it did. -/
def litOnesUptoRow : OpenClaim := { program := "ytbpiccbjnagodaa", sum := "5dcbea721db7891fd13e6b25f11f428c808eb054aea07d27ebc1d386cfdb930a", func := "orrery/orrerylaw02.LitOnes", spec := "litOnes", apart := false, narrowed := true }
def LitOnesUptoSaid : Prop := litOnesUptoRow.holds Try.pinned (OpenSpec.upto litOnesSpec)

/-- 'orrerylaw02.LitFolds', WHERE WHAT IT READS IS OF BULK AT MOST 1048576: true; the input reads as it did. -/
def litFoldsUptoRow : OpenClaim := { program := "ytbpiccbjnagodaa", sum := "5dcbea721db7891fd13e6b25f11f428c808eb054aea07d27ebc1d386cfdb930a", func := "orrery/orrerylaw02.LitFolds", spec := "litFolds", apart := false, narrowed := true }
def LitFoldsUptoSaid : Prop := litFoldsUptoRow.holds Try.pinned (OpenSpec.upto litFoldsSpec)

/-- 'orrerylaw02.LitOver', WHERE WHAT IT READS IS OF BULK AT MOST 1048576: true; the input reads as it did. -/
def litOverUptoRow : OpenClaim := { program := "ytbpiccbjnagodaa", sum := "5dcbea721db7891fd13e6b25f11f428c808eb054aea07d27ebc1d386cfdb930a", func := "orrery/orrerylaw02.LitOver", spec := "litOver", unfollowed := true, recurses := true, apart := false, narrowed := true }
def LitOverUptoSaid : Prop := litOverUptoRow.holds Try.pinned (OpenSpec.upto litOverSpec)

/-- 'orrerylaw02.LitNumbers', WHERE WHAT IT READS IS OF BULK AT MOST 1048576: true; the input reads as it did. -/
def litNumbersUptoRow : OpenClaim := { program := "ytbpiccbjnagodaa", sum := "5dcbea721db7891fd13e6b25f11f428c808eb054aea07d27ebc1d386cfdb930a", func := "orrery/orrerylaw02.LitNumbers", spec := "litNumbers", unfollowed := true, recurses := true, apart := false, narrowed := true }
def LitNumbersUptoSaid : Prop := litNumbersUptoRow.holds Try.pinned (OpenSpec.upto litNumbersSpec)

end Rows
end Go.Proofs.Ytbpiccbjnagodaa
