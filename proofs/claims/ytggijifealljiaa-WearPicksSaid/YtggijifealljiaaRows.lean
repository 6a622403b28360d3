/-
  No cell of these rows narrows 'for every input' (looked for: loops, veiled, ifaces, maps, wideKeys, modest, calm, conditions, laid).
  DERIVED. THE GIVEN ROWS OF THIS SEAT. 4 by the template 'for every input the law returns true; each argument reads behind the call as it read before'; 0 by the template 'total and deterministic' (their statements: YtggijifealljiaaTotals.lean).
  GIVEN WITH THE SEED: the statements are not yours to turn. If you find one false, say at which input.
  Laid BY PROGRAM, IN A SANDBOX (cutbox-rows.mjs): the forced cells as the released guide's own fill.sh prints them over the translation 1b6e023c8087e985… (all of the seat's roots in one cut). By AI agents, Wed Nov 11 2026. No macro, syntax, notation, axiom, sorry.
-/
import Derived.Test.YtggijifealljiaaChecked
import GoSem.Claim
import GoSem.ClaimJoined
import GoSem.ClaimMapViews
import Derived.JoinedTies
import Derived.KernelRfl
namespace Go.Proofs.Ytggijifealljiaa
/- THE CELL 'sum', in the pinned program and in every row, IS THE sha256 OF THE DUMP (.gsa) THAT YtggijifealljiaaProg.lean LOADS. Nothing in Lean hashes anything: it is a label: what it is worth is what the hold of that sum in a sandbox is worth. -/
noncomputable def Try.pinned : Pinned := { name := "ytggijifealljiaa", sum := "1b6e023c8087e985831211bcaa37c5c491fe472627a648ce752ed0793c864c19", checked := Try.checked }
namespace Rows
def none {H : Type} : Left H := { results := [], args := [] }

/-- 'scullerylaw12.WearTells': WHATEVER THE INPUT: true; the input reads as it did. -/
def wearTellsSpec : ChangeSpec := { name := "wearTells", fn := fun _ => fun
  | [d1, d2] => { results := [.lit (.bool true)], args := [d1, d2] }
  | _ => none }
def wearTellsRow : OpenClaim := { program := "ytggijifealljiaa", sum := "1b6e023c8087e985831211bcaa37c5c491fe472627a648ce752ed0793c864c19", func := "scullery/scullerylaw12.WearTells", spec := "wearTells", unfollowed := true, recurses := true, apart := false }
def WearTellsSaid : Prop := wearTellsRow.holds Try.pinned (OpenSpec.ofChange wearTellsSpec)

/-- ITS FALSE NEIGHBOUR: 'it returns false'. Refute it at one input. -/
def wearTellsWrong : ChangeSpec := { name := "wearTells", fn := fun _ => fun
  | [d1, d2] => { results := [.lit (.bool false)], args := [d1, d2] }
  | _ => none }
def WearTellsWrongFalsely : Prop := wearTellsRow.holds Try.pinned (OpenSpec.ofChange wearTellsWrong)

/-- 'scullerylaw12.WearEvens': WHATEVER THE INPUT: true; the input reads as it did. -/
def wearEvensSpec : ChangeSpec := { name := "wearEvens", fn := fun _ => fun
  | [d1, d2] => { results := [.lit (.bool true)], args := [d1, d2] }
  | _ => none }
def wearEvensRow : OpenClaim := { program := "ytggijifealljiaa", sum := "1b6e023c8087e985831211bcaa37c5c491fe472627a648ce752ed0793c864c19", func := "scullery/scullerylaw12.WearEvens", spec := "wearEvens", unfollowed := true, recurses := true, apart := false }
def WearEvensSaid : Prop := wearEvensRow.holds Try.pinned (OpenSpec.ofChange wearEvensSpec)

/-- ITS FALSE NEIGHBOUR: 'it returns false'. Refute it at one input. -/
def wearEvensWrong : ChangeSpec := { name := "wearEvens", fn := fun _ => fun
  | [d1, d2] => { results := [.lit (.bool false)], args := [d1, d2] }
  | _ => none }
def WearEvensWrongFalsely : Prop := wearEvensRow.holds Try.pinned (OpenSpec.ofChange wearEvensWrong)

/-- 'scullerylaw12.WearShifts': WHATEVER THE INPUT: true; the input reads as it did. -/
def wearShiftsSpec : ChangeSpec := { name := "wearShifts", fn := fun _ => fun
  | [d1, d2, d3, d4] => { results := [.lit (.bool true)], args := [d1, d2, d3, d4] }
  | _ => none }
def wearShiftsRow : OpenClaim := { program := "ytggijifealljiaa", sum := "1b6e023c8087e985831211bcaa37c5c491fe472627a648ce752ed0793c864c19", func := "scullery/scullerylaw12.WearShifts", spec := "wearShifts", unfollowed := true, recurses := true, apart := false }
def WearShiftsSaid : Prop := wearShiftsRow.holds Try.pinned (OpenSpec.ofChange wearShiftsSpec)

/-- ITS FALSE NEIGHBOUR: 'it returns false'. Refute it at one input. -/
def wearShiftsWrong : ChangeSpec := { name := "wearShifts", fn := fun _ => fun
  | [d1, d2, d3, d4] => { results := [.lit (.bool false)], args := [d1, d2, d3, d4] }
  | _ => none }
def WearShiftsWrongFalsely : Prop := wearShiftsRow.holds Try.pinned (OpenSpec.ofChange wearShiftsWrong)

/-- 'scullerylaw12.WearPicks': WHATEVER THE INPUT: true; the input reads as it did. -/
def wearPicksSpec : ChangeSpec := { name := "wearPicks", fn := fun _ => fun
  | [d1, d2] => { results := [.lit (.bool true)], args := [d1, d2] }
  | _ => none }
def wearPicksRow : OpenClaim := { program := "ytggijifealljiaa", sum := "1b6e023c8087e985831211bcaa37c5c491fe472627a648ce752ed0793c864c19", func := "scullery/scullerylaw12.WearPicks", spec := "wearPicks", unfollowed := true, recurses := true, apart := false }
def WearPicksSaid : Prop := wearPicksRow.holds Try.pinned (OpenSpec.ofChange wearPicksSpec)

/-- ITS FALSE NEIGHBOUR: 'it returns false'. Refute it at one input. -/
def wearPicksWrong : ChangeSpec := { name := "wearPicks", fn := fun _ => fun
  | [d1, d2] => { results := [.lit (.bool false)], args := [d1, d2] }
  | _ => none }
def WearPicksWrongFalsely : Prop := wearPicksRow.holds Try.pinned (OpenSpec.ofChange wearPicksWrong)

/- THE SECOND FORM. 'bulk': how many values and letters a reading holds, each counted each time it is reached (what is shared counts as often as it is met; a slice's spare places count too). A statement '..UptoSaid' is the law's where the arguments, and the package variables that the reading takes, are together of bulk at most 1048576: NARROWER than '..Said'. Prove '..Said' where nothing that the law and all that it calls make is longer than what came in: it says more and counts as full. Else prove '..UptoSaid'. A law counts once. -/
mutual
def uptoBulk {H : Type} : DataW H → Nat
  | .lit (.string bytes) => bytes.length + 1
  | .lit _ => 1
  | .nil => 1
  | .ptr d => uptoBulk d + 1
  | .slice elems spare => uptoBulkAll elems + uptoBulkAll spare + 1
  | .agg parts => uptoBulkAll parts + 1
  | .iface _ d => uptoBulk d + 1
  | .map entries => uptoBulkEntries entries + 1
  | .held _ => 1
def uptoBulkAll {H : Type} : List (DataW H) → Nat
  | [] => 0
  | d :: r => uptoBulk d + uptoBulkAll r
def uptoBulkEntries {H : Type} : List (Lit × DataW H) → Nat
  | [] => 0
  | x :: r => uptoBulkEntry x + uptoBulkEntries r
def uptoBulkEntry {H : Type} : Lit × DataW H → Nat
  | (.string bytes, d) => bytes.length + uptoBulk d + 1
  | (_, d) => uptoBulk d + 1
 end
def uptoSmall : (H : Type) → List (DataW H) → Bool := fun _ ds => decide (uptoBulkAll ds ≤ 1048576)
def OpenSpec.upto (s : _root_.Go.ChangeSpec) : _root_.Go.OpenSpec := { _root_.Go.OpenSpec.ofChange s with cond := some uptoSmall }

/-- 'scullerylaw12.WearTells', WHERE WHAT IT READS IS OF BULK AT MOST 1048576: true; the input reads as it did. -/
def wearTellsUptoRow : OpenClaim := { program := "ytggijifealljiaa", sum := "1b6e023c8087e985831211bcaa37c5c491fe472627a648ce752ed0793c864c19", func := "scullery/scullerylaw12.WearTells", spec := "wearTells", unfollowed := true, recurses := true, apart := false, narrowed := true }
def WearTellsUptoSaid : Prop := wearTellsUptoRow.holds Try.pinned (OpenSpec.upto wearTellsSpec)

/-- 'scullerylaw12.WearEvens', WHERE WHAT IT READS IS OF BULK AT MOST 1048576: true; the input reads as it did. -/
def wearEvensUptoRow : OpenClaim := { program := "ytggijifealljiaa", sum := "1b6e023c8087e985831211bcaa37c5c491fe472627a648ce752ed0793c864c19", func := "scullery/scullerylaw12.WearEvens", spec := "wearEvens", unfollowed := true, recurses := true, apart := false, narrowed := true }
def WearEvensUptoSaid : Prop := wearEvensUptoRow.holds Try.pinned (OpenSpec.upto wearEvensSpec)

/-- 'scullerylaw12.WearShifts', WHERE WHAT IT READS IS OF BULK AT MOST 1048576: true; the input reads as it did. -/
def wearShiftsUptoRow : OpenClaim := { program := "ytggijifealljiaa", sum := "1b6e023c8087e985831211bcaa37c5c491fe472627a648ce752ed0793c864c19", func := "scullery/scullerylaw12.WearShifts", spec := "wearShifts", unfollowed := true, recurses := true, apart := false, narrowed := true }
def WearShiftsUptoSaid : Prop := wearShiftsUptoRow.holds Try.pinned (OpenSpec.upto wearShiftsSpec)

/-- 'scullerylaw12.WearPicks', WHERE WHAT IT READS IS OF BULK AT MOST 1048576: true; the input reads as it did. -/
def wearPicksUptoRow : OpenClaim := { program := "ytggijifealljiaa", sum := "1b6e023c8087e985831211bcaa37c5c491fe472627a648ce752ed0793c864c19", func := "scullery/scullerylaw12.WearPicks", spec := "wearPicks", unfollowed := true, recurses := true, apart := false, narrowed := true }
def WearPicksUptoSaid : Prop := wearPicksUptoRow.holds Try.pinned (OpenSpec.upto wearPicksSpec)

end Rows
end Go.Proofs.Ytggijifealljiaa
