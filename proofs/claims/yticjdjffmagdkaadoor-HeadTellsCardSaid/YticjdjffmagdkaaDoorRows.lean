/-
  NARROWER THAN 'FOR EVERY INPUT', by the rows' own cells (each row's printed sentence says how): HeadTells: laid · HeadBack: laid · HeadTorn: laid · HeadApart: laid · HeadMixed: laid.
  DERIVED. THE GIVEN ROWS OF THIS SEAT. 5 by the template 'for every input the law returns true; each argument reads behind the call as it read before'; 0 by the template 'total and deterministic' (their statements: YticjdjffmagdkaaDoorTotals.lean).
  GIVEN WITH THE SEED: the statements are not yours to turn. If you find one false, say at which input.
  Laid BY PROGRAM, IN A SANDBOX (cutbox-rows.mjs): the forced cells as the released guide's own fill.sh prints them over the translation fdba31afde0a0c03… (all of the seat's roots in one cut). By AI agents, Wed Nov 11 2026. No macro, syntax, notation, axiom, sorry.
-/
import Derived.Test.YticjdjffmagdkaaDoorChecked
import GoSem.Claim
import GoSem.ClaimJoined
import GoSem.ClaimMapViews
import Derived.JoinedTies
import Derived.KernelRfl
namespace Go.Proofs.YticjdjffmagdkaaDoor
/- THE CELL 'sum', in the pinned program and in every row, IS THE sha256 OF THE DUMP (.gsa) THAT YticjdjffmagdkaaDoorProg.lean LOADS. Nothing in Lean hashes anything: it is a label: what it is worth is what the hold of that sum in a sandbox is worth. -/
noncomputable def Tryd.pinned : Pinned := { name := "yticjdjffmagdkaadoor", sum := "fdba31afde0a0c03b43b730989528a99dc651da670fc6a3d17d3d589a66e9084", checked := Tryd.checked }
namespace Rows
def none {H : Type} : Left H := { results := [], args := [] }

/- WHAT THE LISTED PACKAGE-LEVEL VARIABLES READ AS WHEN THE CALL BEGINS. Each datum BY PROGRAM (the guide's laid-datum.mjs) off the statement by which the dump's own 'gosem.cut.vars' lays the variable. In a bare row this is a premise. The card (YticjdjffmagdkaaDoorCards.lean) ties it to the program's text. -/
def laid_scullery_sum_lower {H : Type} : DataW H := .agg [.lit (.int .u32 0), .lit (.int .u32 4067132163), .lit (.int .u32 3778769143), .lit (.int .u32 324072436), .lit (.int .u32 3348797215), .lit (.int .u32 904991772), .lit (.int .u32 648144872), .lit (.int .u32 3570033899), .lit (.int .u32 2329499855), .lit (.int .u32 2024987596), .lit (.int .u32 1809983544), .lit (.int .u32 2575936315), .lit (.int .u32 1296289744), .lit (.int .u32 3207089363), .lit (.int .u32 2893594407), .lit (.int .u32 1578318884)]
def laid_scullery_sum_higher {H : Type} : DataW H := .agg [.lit (.int .u32 0), .lit (.int .u32 274646895), .lit (.int .u32 549293790), .lit (.int .u32 820201905), .lit (.int .u32 1098587580), .lit (.int .u32 1361435347), .lit (.int .u32 1640403810), .lit (.int .u32 1905808397), .lit (.int .u32 2197175160), .lit (.int .u32 2460548119), .lit (.int .u32 2722870694), .lit (.int .u32 2987750089), .lit (.int .u32 3280807620), .lit (.int .u32 3553878443), .lit (.int .u32 3811616794), .lit (.int .u32 4084100981)]
def laid_scullery_head_widths {H : Type} : DataW H := .agg [.lit (.int .i64 1), .lit (.int .i64 8), .lit (.int .i64 5), .lit (.int .i64 3), .lit (.int .i64 6)]

/-- 'scullerylaw4.HeadTells': WHATEVER THE INPUT: true; the input reads as it did. -/
def headTellsSpec : ChangeSpec := { name := "headTells", fn := fun _ => fun
  | [d1, d2, d3] => { results := [.lit (.bool true)], args := [d1, d2, d3] }
  | _ => none }
def headTellsRow : OpenClaim := { program := "yticjdjffmagdkaadoor", sum := "fdba31afde0a0c03b43b730989528a99dc651da670fc6a3d17d3d589a66e9084", func := "scullery/scullerylaw4.HeadTells", spec := "headTells", named := ["scullery/head.widths", "scullery/sum.lower", "scullery/sum.higher"], apart := false, laid := [("scullery/sum.lower", laid_scullery_sum_lower), ("scullery/sum.higher", laid_scullery_sum_higher), ("scullery/head.widths", laid_scullery_head_widths)] }
def HeadTellsSaid : Prop := headTellsRow.holds Tryd.pinned (OpenSpec.ofChange headTellsSpec)

/-- ITS FALSE NEIGHBOUR: 'it returns false'. Refute it at one input. -/
def headTellsWrong : ChangeSpec := { name := "headTells", fn := fun _ => fun
  | [d1, d2, d3] => { results := [.lit (.bool false)], args := [d1, d2, d3] }
  | _ => none }
def HeadTellsWrongFalsely : Prop := headTellsRow.holds Tryd.pinned (OpenSpec.ofChange headTellsWrong)

/-- 'scullerylaw4.HeadBack': WHATEVER THE INPUT: true; the input reads as it did. -/
def headBackSpec : ChangeSpec := { name := "headBack", fn := fun _ => fun
  | [d1, d2, d3, d4, d5] => { results := [.lit (.bool true)], args := [d1, d2, d3, d4, d5] }
  | _ => none }
def headBackRow : OpenClaim := { program := "yticjdjffmagdkaadoor", sum := "fdba31afde0a0c03b43b730989528a99dc651da670fc6a3d17d3d589a66e9084", func := "scullery/scullerylaw4.HeadBack", spec := "headBack", named := ["scullery/head.widths", "scullery/sum.lower", "scullery/sum.higher"], apart := false, laid := [("scullery/sum.lower", laid_scullery_sum_lower), ("scullery/sum.higher", laid_scullery_sum_higher), ("scullery/head.widths", laid_scullery_head_widths)] }
def HeadBackSaid : Prop := headBackRow.holds Tryd.pinned (OpenSpec.ofChange headBackSpec)

/-- ITS FALSE NEIGHBOUR: 'it returns false'. Refute it at one input. -/
def headBackWrong : ChangeSpec := { name := "headBack", fn := fun _ => fun
  | [d1, d2, d3, d4, d5] => { results := [.lit (.bool false)], args := [d1, d2, d3, d4, d5] }
  | _ => none }
def HeadBackWrongFalsely : Prop := headBackRow.holds Tryd.pinned (OpenSpec.ofChange headBackWrong)

/-- 'scullerylaw4.HeadTorn': WHATEVER THE INPUT: true; the input reads as it did. -/
def headTornSpec : ChangeSpec := { name := "headTorn", fn := fun _ => fun
  | [d1, d2, d3, d4, d5] => { results := [.lit (.bool true)], args := [d1, d2, d3, d4, d5] }
  | _ => none }
def headTornRow : OpenClaim := { program := "yticjdjffmagdkaadoor", sum := "fdba31afde0a0c03b43b730989528a99dc651da670fc6a3d17d3d589a66e9084", func := "scullery/scullerylaw4.HeadTorn", spec := "headTorn", named := ["scullery/head.widths", "scullery/sum.lower", "scullery/sum.higher"], apart := false, laid := [("scullery/sum.lower", laid_scullery_sum_lower), ("scullery/sum.higher", laid_scullery_sum_higher), ("scullery/head.widths", laid_scullery_head_widths)] }
def HeadTornSaid : Prop := headTornRow.holds Tryd.pinned (OpenSpec.ofChange headTornSpec)

/-- ITS FALSE NEIGHBOUR: 'it returns false'. Refute it at one input. -/
def headTornWrong : ChangeSpec := { name := "headTorn", fn := fun _ => fun
  | [d1, d2, d3, d4, d5] => { results := [.lit (.bool false)], args := [d1, d2, d3, d4, d5] }
  | _ => none }
def HeadTornWrongFalsely : Prop := headTornRow.holds Tryd.pinned (OpenSpec.ofChange headTornWrong)

/-- 'scullerylaw4.HeadApart': WHATEVER THE INPUT: true; the input reads as it did. -/
def headApartSpec : ChangeSpec := { name := "headApart", fn := fun _ => fun
  | [d1, d2, d3, d4, d5] => { results := [.lit (.bool true)], args := [d1, d2, d3, d4, d5] }
  | _ => none }
def headApartRow : OpenClaim := { program := "yticjdjffmagdkaadoor", sum := "fdba31afde0a0c03b43b730989528a99dc651da670fc6a3d17d3d589a66e9084", func := "scullery/scullerylaw4.HeadApart", spec := "headApart", named := ["scullery/head.widths", "scullery/sum.lower", "scullery/sum.higher"], apart := false, laid := [("scullery/sum.lower", laid_scullery_sum_lower), ("scullery/sum.higher", laid_scullery_sum_higher), ("scullery/head.widths", laid_scullery_head_widths)] }
def HeadApartSaid : Prop := headApartRow.holds Tryd.pinned (OpenSpec.ofChange headApartSpec)

/-- ITS FALSE NEIGHBOUR: 'it returns false'. Refute it at one input. -/
def headApartWrong : ChangeSpec := { name := "headApart", fn := fun _ => fun
  | [d1, d2, d3, d4, d5] => { results := [.lit (.bool false)], args := [d1, d2, d3, d4, d5] }
  | _ => none }
def HeadApartWrongFalsely : Prop := headApartRow.holds Tryd.pinned (OpenSpec.ofChange headApartWrong)

/-- 'scullerylaw4.HeadMixed': WHATEVER THE INPUT: true; the input reads as it did. -/
def headMixedSpec : ChangeSpec := { name := "headMixed", fn := fun _ => fun
  | [d1, d2, d3, d4, d5] => { results := [.lit (.bool true)], args := [d1, d2, d3, d4, d5] }
  | _ => none }
def headMixedRow : OpenClaim := { program := "yticjdjffmagdkaadoor", sum := "fdba31afde0a0c03b43b730989528a99dc651da670fc6a3d17d3d589a66e9084", func := "scullery/scullerylaw4.HeadMixed", spec := "headMixed", named := ["scullery/head.widths", "scullery/sum.lower", "scullery/sum.higher"], apart := false, laid := [("scullery/sum.lower", laid_scullery_sum_lower), ("scullery/sum.higher", laid_scullery_sum_higher), ("scullery/head.widths", laid_scullery_head_widths)] }
def HeadMixedSaid : Prop := headMixedRow.holds Tryd.pinned (OpenSpec.ofChange headMixedSpec)

/-- ITS FALSE NEIGHBOUR: 'it returns false'. Refute it at one input. -/
def headMixedWrong : ChangeSpec := { name := "headMixed", fn := fun _ => fun
  | [d1, d2, d3, d4, d5] => { results := [.lit (.bool false)], args := [d1, d2, d3, d4, d5] }
  | _ => none }
def HeadMixedWrongFalsely : Prop := headMixedRow.holds Tryd.pinned (OpenSpec.ofChange headMixedWrong)

/- THE SECOND FORM. 'bulk': how many values and letters a reading holds, each counted each time it is reached (what is shared counts as often as it is met; a slice's spare places count too). A statement '..UptoSaid' is the law's where the arguments, and the package variables that the reading takes, are together of bulk at most 1048576: NARROWER than '..Said'. Prove '..Said' where nothing that the law and all that it calls make is longer than what came in: it says more and counts as full. Else prove '..UptoSaid'. A law counts once. -/
mutual
def uptoBulk {H : Type} : DataW H → Nat
  | .lit (.string bytes) => bytes.length + 1
  | .lit _ => 1
  | .nil => 1
  | .ptr d => uptoBulk d + 1
  | .slice elems spare => uptoBulkAll elems + uptoBulkAll spare + 1
  | .agg parts => uptoBulkAll parts + 1
  | .iface _ d => uptoBulk d + 1
  | .map entries => uptoBulkEntries entries + 1
  | .held _ => 1
def uptoBulkAll {H : Type} : List (DataW H) → Nat
  | [] => 0
  | d :: r => uptoBulk d + uptoBulkAll r
def uptoBulkEntries {H : Type} : List (Lit × DataW H) → Nat
  | [] => 0
  | x :: r => uptoBulkEntry x + uptoBulkEntries r
def uptoBulkEntry {H : Type} : Lit × DataW H → Nat
  | (.string bytes, d) => bytes.length + uptoBulk d + 1
  | (_, d) => uptoBulk d + 1
 end
def uptoSmall : (H : Type) → List (DataW H) → Bool := fun _ ds => decide (uptoBulkAll ds ≤ 1048576)
def OpenSpec.upto (s : _root_.Go.ChangeSpec) : _root_.Go.OpenSpec := { _root_.Go.OpenSpec.ofChange s with cond := some uptoSmall }

/-- 'scullerylaw4.HeadTells', WHERE WHAT IT READS IS OF BULK AT MOST 1048576: true; the input reads as it did. -/
def headTellsUptoRow : OpenClaim := { program := "yticjdjffmagdkaadoor", sum := "fdba31afde0a0c03b43b730989528a99dc651da670fc6a3d17d3d589a66e9084", func := "scullery/scullerylaw4.HeadTells", spec := "headTells", named := ["scullery/head.widths", "scullery/sum.lower", "scullery/sum.higher"], apart := false, laid := [("scullery/sum.lower", laid_scullery_sum_lower), ("scullery/sum.higher", laid_scullery_sum_higher), ("scullery/head.widths", laid_scullery_head_widths)], narrowed := true }
def HeadTellsUptoSaid : Prop := headTellsUptoRow.holds Tryd.pinned (OpenSpec.upto headTellsSpec)

/-- 'scullerylaw4.HeadBack', WHERE WHAT IT READS IS OF BULK AT MOST 1048576: true; the input reads as it did. -/
def headBackUptoRow : OpenClaim := { program := "yticjdjffmagdkaadoor", sum := "fdba31afde0a0c03b43b730989528a99dc651da670fc6a3d17d3d589a66e9084", func := "scullery/scullerylaw4.HeadBack", spec := "headBack", named := ["scullery/head.widths", "scullery/sum.lower", "scullery/sum.higher"], apart := false, laid := [("scullery/sum.lower", laid_scullery_sum_lower), ("scullery/sum.higher", laid_scullery_sum_higher), ("scullery/head.widths", laid_scullery_head_widths)], narrowed := true }
def HeadBackUptoSaid : Prop := headBackUptoRow.holds Tryd.pinned (OpenSpec.upto headBackSpec)

/-- 'scullerylaw4.HeadTorn', WHERE WHAT IT READS IS OF BULK AT MOST 1048576: true; the input reads as it did. -/
def headTornUptoRow : OpenClaim := { program := "yticjdjffmagdkaadoor", sum := "fdba31afde0a0c03b43b730989528a99dc651da670fc6a3d17d3d589a66e9084", func := "scullery/scullerylaw4.HeadTorn", spec := "headTorn", named := ["scullery/head.widths", "scullery/sum.lower", "scullery/sum.higher"], apart := false, laid := [("scullery/sum.lower", laid_scullery_sum_lower), ("scullery/sum.higher", laid_scullery_sum_higher), ("scullery/head.widths", laid_scullery_head_widths)], narrowed := true }
def HeadTornUptoSaid : Prop := headTornUptoRow.holds Tryd.pinned (OpenSpec.upto headTornSpec)

/-- 'scullerylaw4.HeadApart', WHERE WHAT IT READS IS OF BULK AT MOST 1048576: true; the input reads as it did. -/
def headApartUptoRow : OpenClaim := { program := "yticjdjffmagdkaadoor", sum := "fdba31afde0a0c03b43b730989528a99dc651da670fc6a3d17d3d589a66e9084", func := "scullery/scullerylaw4.HeadApart", spec := "headApart", named := ["scullery/head.widths", "scullery/sum.lower", "scullery/sum.higher"], apart := false, laid := [("scullery/sum.lower", laid_scullery_sum_lower), ("scullery/sum.higher", laid_scullery_sum_higher), ("scullery/head.widths", laid_scullery_head_widths)], narrowed := true }
def HeadApartUptoSaid : Prop := headApartUptoRow.holds Tryd.pinned (OpenSpec.upto headApartSpec)

/-- 'scullerylaw4.HeadMixed', WHERE WHAT IT READS IS OF BULK AT MOST 1048576: true; the input reads as it did. -/
def headMixedUptoRow : OpenClaim := { program := "yticjdjffmagdkaadoor", sum := "fdba31afde0a0c03b43b730989528a99dc651da670fc6a3d17d3d589a66e9084", func := "scullery/scullerylaw4.HeadMixed", spec := "headMixed", named := ["scullery/head.widths", "scullery/sum.lower", "scullery/sum.higher"], apart := false, laid := [("scullery/sum.lower", laid_scullery_sum_lower), ("scullery/sum.higher", laid_scullery_sum_higher), ("scullery/head.widths", laid_scullery_head_widths)], narrowed := true }
def HeadMixedUptoSaid : Prop := headMixedUptoRow.holds Tryd.pinned (OpenSpec.upto headMixedSpec)

end Rows
end Go.Proofs.YticjdjffmagdkaaDoor
