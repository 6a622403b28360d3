/-
  No cell of these rows narrows 'for every input' (looked for: loops, veiled, ifaces, maps, wideKeys, modest, calm, conditions, laid).
  DERIVED. THE GIVEN ROWS OF THIS SEAT. 3 by the template 'for every input the law returns true; each argument reads behind the call as it read before'; 0 by the template 'total and deterministic' (their statements: YtmfpelgkjgpfmaaTotals.lean).
  GIVEN WITH THE SEED: the statements are not yours to turn. If you find one false, say at which input.
  Laid BY PROGRAM, IN A SANDBOX (cutbox-rows.mjs): the forced cells as the released guide's own fill.sh prints them over the translation f5982b5171fbc8c5… (all of the seat's roots in one cut). By AI agents, Wed Nov 11 2026. No macro, syntax, notation, axiom, sorry.
-/
import Derived.Test.YtmfpelgkjgpfmaaChecked
import GoSem.Claim
import GoSem.ClaimJoined
import GoSem.ClaimMapViews
import Derived.JoinedTies
import Derived.KernelRfl
namespace Go.Proofs.Ytmfpelgkjgpfmaa
/- THE CELL 'sum', in the pinned program and in every row, IS THE sha256 OF THE DUMP (.gsa) THAT YtmfpelgkjgpfmaaProg.lean LOADS. Nothing in Lean hashes anything: it is a label: what it is worth is what the hold of that sum in a sandbox is worth. -/
noncomputable def Try.pinned : Pinned := { name := "ytmfpelgkjgpfmaa", sum := "f5982b5171fbc8c544519998a59cbb3d7104b58135217acef50dafd1753f4155", checked := Try.checked }
namespace Rows
def none {H : Type} : Left H := { results := [], args := [] }

/-- 'scullerylaw11.YardLives': WHATEVER THE INPUT: true; the input reads as it did. -/
def yardLivesSpec : ChangeSpec := { name := "yardLives", fn := fun _ => fun
  | [d1, d2, d3, d4] => { results := [.lit (.bool true)], args := [d1, d2, d3, d4] }
  | _ => none }
def yardLivesRow : OpenClaim := { program := "ytmfpelgkjgpfmaa", sum := "f5982b5171fbc8c544519998a59cbb3d7104b58135217acef50dafd1753f4155", func := "scullery/scullerylaw11.YardLives", spec := "yardLives", unfollowed := true, recurses := true, apart := false }
def YardLivesSaid : Prop := yardLivesRow.holds Try.pinned (OpenSpec.ofChange yardLivesSpec)

/-- ITS FALSE NEIGHBOUR: 'it returns false'. Refute it at one input. -/
def yardLivesWrong : ChangeSpec := { name := "yardLives", fn := fun _ => fun
  | [d1, d2, d3, d4] => { results := [.lit (.bool false)], args := [d1, d2, d3, d4] }
  | _ => none }
def YardLivesWrongFalsely : Prop := yardLivesRow.holds Try.pinned (OpenSpec.ofChange yardLivesWrong)

/-- 'scullerylaw11.YardCounts': WHATEVER THE INPUT: true; the input reads as it did. -/
def yardCountsSpec : ChangeSpec := { name := "yardCounts", fn := fun _ => fun
  | [d] => { results := [.lit (.bool true)], args := [d] }
  | _ => none }
def yardCountsRow : OpenClaim := { program := "ytmfpelgkjgpfmaa", sum := "f5982b5171fbc8c544519998a59cbb3d7104b58135217acef50dafd1753f4155", func := "scullery/scullerylaw11.YardCounts", spec := "yardCounts", unfollowed := true, recurses := true, apart := false }
def YardCountsSaid : Prop := yardCountsRow.holds Try.pinned (OpenSpec.ofChange yardCountsSpec)

/-- ITS FALSE NEIGHBOUR: 'it returns false'. Refute it at one input. -/
def yardCountsWrong : ChangeSpec := { name := "yardCounts", fn := fun _ => fun
  | [d] => { results := [.lit (.bool false)], args := [d] }
  | _ => none }
def YardCountsWrongFalsely : Prop := yardCountsRow.holds Try.pinned (OpenSpec.ofChange yardCountsWrong)

/-- 'scullerylaw11.YardWashes': WHATEVER THE INPUT: true; the input reads as it did. -/
def yardWashesSpec : ChangeSpec := { name := "yardWashes", fn := fun _ => fun
  | [d1, d2, d3, d4] => { results := [.lit (.bool true)], args := [d1, d2, d3, d4] }
  | _ => none }
def yardWashesRow : OpenClaim := { program := "ytmfpelgkjgpfmaa", sum := "f5982b5171fbc8c544519998a59cbb3d7104b58135217acef50dafd1753f4155", func := "scullery/scullerylaw11.YardWashes", spec := "yardWashes", unfollowed := true, recurses := true, apart := false }
def YardWashesSaid : Prop := yardWashesRow.holds Try.pinned (OpenSpec.ofChange yardWashesSpec)

/-- ITS FALSE NEIGHBOUR: 'it returns false'. Refute it at one input. -/
def yardWashesWrong : ChangeSpec := { name := "yardWashes", fn := fun _ => fun
  | [d1, d2, d3, d4] => { results := [.lit (.bool false)], args := [d1, d2, d3, d4] }
  | _ => none }
def YardWashesWrongFalsely : Prop := yardWashesRow.holds Try.pinned (OpenSpec.ofChange yardWashesWrong)

/- THE SECOND FORM. 'bulk': how many values and letters a reading holds, each counted each time it is reached (what is shared counts as often as it is met; a slice's spare places count too). A statement '..UptoSaid' is the law's where the arguments, and the package variables that the reading takes, are together of bulk at most 1048576: NARROWER than '..Said'. Prove '..Said' where nothing that the law and all that it calls make is longer than what came in: it says more and counts as full. Else prove '..UptoSaid'. A law counts once. -/
mutual
def uptoBulk {H : Type} : DataW H → Nat
  | .lit (.string bytes) => bytes.length + 1
  | .lit _ => 1
  | .nil => 1
  | .ptr d => uptoBulk d + 1
  | .slice elems spare => uptoBulkAll elems + uptoBulkAll spare + 1
  | .agg parts => uptoBulkAll parts + 1
  | .iface _ d => uptoBulk d + 1
  | .map entries => uptoBulkEntries entries + 1
  | .held _ => 1
def uptoBulkAll {H : Type} : List (DataW H) → Nat
  | [] => 0
  | d :: r => uptoBulk d + uptoBulkAll r
def uptoBulkEntries {H : Type} : List (Lit × DataW H) → Nat
  | [] => 0
  | x :: r => uptoBulkEntry x + uptoBulkEntries r
def uptoBulkEntry {H : Type} : Lit × DataW H → Nat
  | (.string bytes, d) => bytes.length + uptoBulk d + 1
  | (_, d) => uptoBulk d + 1
 end
def uptoSmall : (H : Type) → List (DataW H) → Bool := fun _ ds => decide (uptoBulkAll ds ≤ 1048576)
def OpenSpec.upto (s : _root_.Go.ChangeSpec) : _root_.Go.OpenSpec := { _root_.Go.OpenSpec.ofChange s with cond := some uptoSmall }

/-- 'scullerylaw11.YardLives', WHERE WHAT IT READS IS OF BULK AT MOST 1048576: true; the input reads as it did. -/
def yardLivesUptoRow : OpenClaim := { program := "ytmfpelgkjgpfmaa", sum := "f5982b5171fbc8c544519998a59cbb3d7104b58135217acef50dafd1753f4155", func := "scullery/scullerylaw11.YardLives", spec := "yardLives", unfollowed := true, recurses := true, apart := false, narrowed := true }
def YardLivesUptoSaid : Prop := yardLivesUptoRow.holds Try.pinned (OpenSpec.upto yardLivesSpec)

/-- 'scullerylaw11.YardCounts', WHERE WHAT IT READS IS OF BULK AT MOST 1048576: true; the input reads as it did. -/
def yardCountsUptoRow : OpenClaim := { program := "ytmfpelgkjgpfmaa", sum := "f5982b5171fbc8c544519998a59cbb3d7104b58135217acef50dafd1753f4155", func := "scullery/scullerylaw11.YardCounts", spec := "yardCounts", unfollowed := true, recurses := true, apart := false, narrowed := true }
def YardCountsUptoSaid : Prop := yardCountsUptoRow.holds Try.pinned (OpenSpec.upto yardCountsSpec)

/-- 'scullerylaw11.YardWashes', WHERE WHAT IT READS IS OF BULK AT MOST 1048576: true; the input reads as it did. -/
def yardWashesUptoRow : OpenClaim := { program := "ytmfpelgkjgpfmaa", sum := "f5982b5171fbc8c544519998a59cbb3d7104b58135217acef50dafd1753f4155", func := "scullery/scullerylaw11.YardWashes", spec := "yardWashes", unfollowed := true, recurses := true, apart := false, narrowed := true }
def YardWashesUptoSaid : Prop := yardWashesUptoRow.holds Try.pinned (OpenSpec.upto yardWashesSpec)

end Rows
end Go.Proofs.Ytmfpelgkjgpfmaa
