/-
  NARROWER THAN 'FOR EVERY INPUT', by the rows' own cells (each row's printed sentence says how): StoreScript: laid · StoreRoom: laid · StoreSpreads: laid · StoreNone: laid · StoreKeeps: laid · StoreBad: laid · StorePlaces: laid · StoreSealed: laid.
  DERIVED. THE GIVEN ROWS OF THIS SEAT. 8 by the template 'for every input the law returns true; each argument reads behind the call as it read before'; 0 by the template 'total and deterministic' (their statements: YthgkdnegnecnjaaGreatDoorTotals.lean).
  GIVEN WITH THE SEED: the statements are not yours to turn. If you find one false, say at which input.
  Laid BY PROGRAM, IN A SANDBOX (cutbox-rows.mjs): the forced cells as the released guide's own fill.sh prints them over the translation cd964491a7e11182… (all of the seat's roots in one cut). By AI agents, Wed Nov 11 2026. No macro, syntax, notation, axiom, sorry.
-/
import Derived.Test.YthgkdnegnecnjaaGreatDoorChecked
import GoSem.Claim
import GoSem.ClaimJoined
import GoSem.ClaimMapViews
import Derived.JoinedTies
import Derived.KernelRfl
namespace Go.Proofs.YthgkdnegnecnjaaGreatDoor
/- THE CELL 'sum', in the pinned program and in every row, IS THE sha256 OF THE DUMP (.gsa) THAT YthgkdnegnecnjaaGreatDoorProg.lean LOADS. Nothing in Lean hashes anything: it is a label: what it is worth is what the hold of that sum in a sandbox is worth. -/
noncomputable def Tryz.pinned : Pinned := { name := "ythgkdnegnecnjaagreatdoor", sum := "cd964491a7e111821c062fa8c342a113665059713e369edcc368162f8417c8d6", checked := Tryz.checked }
namespace Rows
def none {H : Type} : Left H := { results := [], args := [] }

/- WHAT THE LISTED PACKAGE-LEVEL VARIABLES READ AS WHEN THE CALL BEGINS. Each datum BY PROGRAM (the guide's laid-datum.mjs) off the statement by which the dump's own 'gosem.cut.vars' lays the variable. In a bare row this is a premise. The card (YthgkdnegnecnjaaGreatDoorCards.lean) ties it to the program's text. -/
def laid_scullery_sum_lower {H : Type} : DataW H := .agg [.lit (.int .u32 0), .lit (.int .u32 4067132163), .lit (.int .u32 3778769143), .lit (.int .u32 324072436), .lit (.int .u32 3348797215), .lit (.int .u32 904991772), .lit (.int .u32 648144872), .lit (.int .u32 3570033899), .lit (.int .u32 2329499855), .lit (.int .u32 2024987596), .lit (.int .u32 1809983544), .lit (.int .u32 2575936315), .lit (.int .u32 1296289744), .lit (.int .u32 3207089363), .lit (.int .u32 2893594407), .lit (.int .u32 1578318884)]
def laid_scullery_sum_higher {H : Type} : DataW H := .agg [.lit (.int .u32 0), .lit (.int .u32 274646895), .lit (.int .u32 549293790), .lit (.int .u32 820201905), .lit (.int .u32 1098587580), .lit (.int .u32 1361435347), .lit (.int .u32 1640403810), .lit (.int .u32 1905808397), .lit (.int .u32 2197175160), .lit (.int .u32 2460548119), .lit (.int .u32 2722870694), .lit (.int .u32 2987750089), .lit (.int .u32 3280807620), .lit (.int .u32 3553878443), .lit (.int .u32 3811616794), .lit (.int .u32 4084100981)]
def laid_scullery_head_widths {H : Type} : DataW H := .agg [.lit (.int .i64 1), .lit (.int .i64 8), .lit (.int .i64 5), .lit (.int .i64 3), .lit (.int .i64 6)]

/-- 'scullerylaw16.StoreScript': WHATEVER THE INPUT: true; the input reads as it did. -/
def storeScriptSpec : ChangeSpec := { name := "storeScript", fn := fun _ => fun
  | [d1, d2, d3] => { results := [.lit (.bool true)], args := [d1, d2, d3] }
  | _ => none }
def storeScriptRow : OpenClaim := { program := "ythgkdnegnecnjaagreatdoor", sum := "cd964491a7e111821c062fa8c342a113665059713e369edcc368162f8417c8d6", func := "scullery/scullerylaw16.StoreScript", spec := "storeScript", unfollowed := true, recurses := true, named := ["scullery/head.widths", "scullery/sum.lower", "scullery/sum.higher"], apart := false, laid := [("scullery/sum.lower", laid_scullery_sum_lower), ("scullery/sum.higher", laid_scullery_sum_higher), ("scullery/head.widths", laid_scullery_head_widths)] }
def StoreScriptSaid : Prop := storeScriptRow.holds Tryz.pinned (OpenSpec.ofChange storeScriptSpec)

/-- ITS FALSE NEIGHBOUR: 'it returns false'. Refute it at one input. -/
def storeScriptWrong : ChangeSpec := { name := "storeScript", fn := fun _ => fun
  | [d1, d2, d3] => { results := [.lit (.bool false)], args := [d1, d2, d3] }
  | _ => none }
def StoreScriptWrongFalsely : Prop := storeScriptRow.holds Tryz.pinned (OpenSpec.ofChange storeScriptWrong)

/-- 'scullerylaw16.StoreRoom': WHATEVER THE INPUT: true; the input reads as it did. -/
def storeRoomSpec : ChangeSpec := { name := "storeRoom", fn := fun _ => fun
  | [d1, d2] => { results := [.lit (.bool true)], args := [d1, d2] }
  | _ => none }
def storeRoomRow : OpenClaim := { program := "ythgkdnegnecnjaagreatdoor", sum := "cd964491a7e111821c062fa8c342a113665059713e369edcc368162f8417c8d6", func := "scullery/scullerylaw16.StoreRoom", spec := "storeRoom", unfollowed := true, recurses := true, named := ["scullery/head.widths", "scullery/sum.lower", "scullery/sum.higher"], apart := false, laid := [("scullery/sum.lower", laid_scullery_sum_lower), ("scullery/sum.higher", laid_scullery_sum_higher), ("scullery/head.widths", laid_scullery_head_widths)] }
def StoreRoomSaid : Prop := storeRoomRow.holds Tryz.pinned (OpenSpec.ofChange storeRoomSpec)

/-- ITS FALSE NEIGHBOUR: 'it returns false'. Refute it at one input. -/
def storeRoomWrong : ChangeSpec := { name := "storeRoom", fn := fun _ => fun
  | [d1, d2] => { results := [.lit (.bool false)], args := [d1, d2] }
  | _ => none }
def StoreRoomWrongFalsely : Prop := storeRoomRow.holds Tryz.pinned (OpenSpec.ofChange storeRoomWrong)

/-- 'scullerylaw16.StoreSpreads': WHATEVER THE INPUT: true; the input reads as it did. -/
def storeSpreadsSpec : ChangeSpec := { name := "storeSpreads", fn := fun _ => fun
  | [d1, d2] => { results := [.lit (.bool true)], args := [d1, d2] }
  | _ => none }
def storeSpreadsRow : OpenClaim := { program := "ythgkdnegnecnjaagreatdoor", sum := "cd964491a7e111821c062fa8c342a113665059713e369edcc368162f8417c8d6", func := "scullery/scullerylaw16.StoreSpreads", spec := "storeSpreads", unfollowed := true, recurses := true, named := ["scullery/head.widths", "scullery/sum.lower", "scullery/sum.higher"], apart := false, laid := [("scullery/sum.lower", laid_scullery_sum_lower), ("scullery/sum.higher", laid_scullery_sum_higher), ("scullery/head.widths", laid_scullery_head_widths)] }
def StoreSpreadsSaid : Prop := storeSpreadsRow.holds Tryz.pinned (OpenSpec.ofChange storeSpreadsSpec)

/-- ITS FALSE NEIGHBOUR: 'it returns false'. Refute it at one input. -/
def storeSpreadsWrong : ChangeSpec := { name := "storeSpreads", fn := fun _ => fun
  | [d1, d2] => { results := [.lit (.bool false)], args := [d1, d2] }
  | _ => none }
def StoreSpreadsWrongFalsely : Prop := storeSpreadsRow.holds Tryz.pinned (OpenSpec.ofChange storeSpreadsWrong)

/-- 'scullerylaw16.StoreNone': WHATEVER THE INPUT: true; the input reads as it did. -/
def storeNoneSpec : ChangeSpec := { name := "storeNone", fn := fun _ => fun
  | [d1, d2] => { results := [.lit (.bool true)], args := [d1, d2] }
  | _ => none }
def storeNoneRow : OpenClaim := { program := "ythgkdnegnecnjaagreatdoor", sum := "cd964491a7e111821c062fa8c342a113665059713e369edcc368162f8417c8d6", func := "scullery/scullerylaw16.StoreNone", spec := "storeNone", unfollowed := true, recurses := true, named := ["scullery/head.widths", "scullery/sum.lower", "scullery/sum.higher"], apart := false, laid := [("scullery/sum.lower", laid_scullery_sum_lower), ("scullery/sum.higher", laid_scullery_sum_higher), ("scullery/head.widths", laid_scullery_head_widths)] }
def StoreNoneSaid : Prop := storeNoneRow.holds Tryz.pinned (OpenSpec.ofChange storeNoneSpec)

/-- ITS FALSE NEIGHBOUR: 'it returns false'. Refute it at one input. -/
def storeNoneWrong : ChangeSpec := { name := "storeNone", fn := fun _ => fun
  | [d1, d2] => { results := [.lit (.bool false)], args := [d1, d2] }
  | _ => none }
def StoreNoneWrongFalsely : Prop := storeNoneRow.holds Tryz.pinned (OpenSpec.ofChange storeNoneWrong)

/-- 'scullerylaw16.StoreKeeps': WHATEVER THE INPUT: true; the input reads as it did. -/
def storeKeepsSpec : ChangeSpec := { name := "storeKeeps", fn := fun _ => fun
  | [d1, d2] => { results := [.lit (.bool true)], args := [d1, d2] }
  | _ => none }
def storeKeepsRow : OpenClaim := { program := "ythgkdnegnecnjaagreatdoor", sum := "cd964491a7e111821c062fa8c342a113665059713e369edcc368162f8417c8d6", func := "scullery/scullerylaw16.StoreKeeps", spec := "storeKeeps", unfollowed := true, recurses := true, named := ["scullery/head.widths", "scullery/sum.lower", "scullery/sum.higher"], apart := false, laid := [("scullery/sum.lower", laid_scullery_sum_lower), ("scullery/sum.higher", laid_scullery_sum_higher), ("scullery/head.widths", laid_scullery_head_widths)] }
def StoreKeepsSaid : Prop := storeKeepsRow.holds Tryz.pinned (OpenSpec.ofChange storeKeepsSpec)

/-- ITS FALSE NEIGHBOUR: 'it returns false'. Refute it at one input. -/
def storeKeepsWrong : ChangeSpec := { name := "storeKeeps", fn := fun _ => fun
  | [d1, d2] => { results := [.lit (.bool false)], args := [d1, d2] }
  | _ => none }
def StoreKeepsWrongFalsely : Prop := storeKeepsRow.holds Tryz.pinned (OpenSpec.ofChange storeKeepsWrong)

/-- 'scullerylaw16.StoreBad': WHATEVER THE INPUT: true; the input reads as it did. -/
def storeBadSpec : ChangeSpec := { name := "storeBad", fn := fun _ => fun
  | [d1, d2, d3] => { results := [.lit (.bool true)], args := [d1, d2, d3] }
  | _ => none }
def storeBadRow : OpenClaim := { program := "ythgkdnegnecnjaagreatdoor", sum := "cd964491a7e111821c062fa8c342a113665059713e369edcc368162f8417c8d6", func := "scullery/scullerylaw16.StoreBad", spec := "storeBad", unfollowed := true, recurses := true, named := ["scullery/head.widths", "scullery/sum.lower", "scullery/sum.higher"], apart := false, laid := [("scullery/sum.lower", laid_scullery_sum_lower), ("scullery/sum.higher", laid_scullery_sum_higher), ("scullery/head.widths", laid_scullery_head_widths)] }
def StoreBadSaid : Prop := storeBadRow.holds Tryz.pinned (OpenSpec.ofChange storeBadSpec)

/-- ITS FALSE NEIGHBOUR: 'it returns false'. Refute it at one input. -/
def storeBadWrong : ChangeSpec := { name := "storeBad", fn := fun _ => fun
  | [d1, d2, d3] => { results := [.lit (.bool false)], args := [d1, d2, d3] }
  | _ => none }
def StoreBadWrongFalsely : Prop := storeBadRow.holds Tryz.pinned (OpenSpec.ofChange storeBadWrong)

/-- 'scullerylaw16.StorePlaces': WHATEVER THE INPUT: true; the input reads as it did. -/
def storePlacesSpec : ChangeSpec := { name := "storePlaces", fn := fun _ => fun
  | [d1, d2] => { results := [.lit (.bool true)], args := [d1, d2] }
  | _ => none }
def storePlacesRow : OpenClaim := { program := "ythgkdnegnecnjaagreatdoor", sum := "cd964491a7e111821c062fa8c342a113665059713e369edcc368162f8417c8d6", func := "scullery/scullerylaw16.StorePlaces", spec := "storePlaces", unfollowed := true, recurses := true, named := ["scullery/head.widths", "scullery/sum.lower", "scullery/sum.higher"], apart := false, laid := [("scullery/sum.lower", laid_scullery_sum_lower), ("scullery/sum.higher", laid_scullery_sum_higher), ("scullery/head.widths", laid_scullery_head_widths)] }
def StorePlacesSaid : Prop := storePlacesRow.holds Tryz.pinned (OpenSpec.ofChange storePlacesSpec)

/-- ITS FALSE NEIGHBOUR: 'it returns false'. Refute it at one input. -/
def storePlacesWrong : ChangeSpec := { name := "storePlaces", fn := fun _ => fun
  | [d1, d2] => { results := [.lit (.bool false)], args := [d1, d2] }
  | _ => none }
def StorePlacesWrongFalsely : Prop := storePlacesRow.holds Tryz.pinned (OpenSpec.ofChange storePlacesWrong)

/-- 'scullerylaw16.StoreSealed': WHATEVER THE INPUT: true; the input reads as it did. -/
def storeSealedSpec : ChangeSpec := { name := "storeSealed", fn := fun _ => fun
  | [d1, d2, d3] => { results := [.lit (.bool true)], args := [d1, d2, d3] }
  | _ => none }
def storeSealedRow : OpenClaim := { program := "ythgkdnegnecnjaagreatdoor", sum := "cd964491a7e111821c062fa8c342a113665059713e369edcc368162f8417c8d6", func := "scullery/scullerylaw16.StoreSealed", spec := "storeSealed", unfollowed := true, recurses := true, named := ["scullery/head.widths", "scullery/sum.lower", "scullery/sum.higher"], apart := false, laid := [("scullery/sum.lower", laid_scullery_sum_lower), ("scullery/sum.higher", laid_scullery_sum_higher), ("scullery/head.widths", laid_scullery_head_widths)] }
def StoreSealedSaid : Prop := storeSealedRow.holds Tryz.pinned (OpenSpec.ofChange storeSealedSpec)

/-- ITS FALSE NEIGHBOUR: 'it returns false'. Refute it at one input. -/
def storeSealedWrong : ChangeSpec := { name := "storeSealed", fn := fun _ => fun
  | [d1, d2, d3] => { results := [.lit (.bool false)], args := [d1, d2, d3] }
  | _ => none }
def StoreSealedWrongFalsely : Prop := storeSealedRow.holds Tryz.pinned (OpenSpec.ofChange storeSealedWrong)

/- THE SECOND FORM. 'bulk': how many values and letters a reading holds, each counted each time it is reached (what is shared counts as often as it is met; a slice's spare places count too). A statement '..UptoSaid' is the law's where the arguments, and the package variables that the reading takes, are together of bulk at most 1048576: NARROWER than '..Said'. Prove '..Said' where nothing that the law and all that it calls make is longer than what came in: it says more and counts as full. Else prove '..UptoSaid'. A law counts once. -/
mutual
def uptoBulk {H : Type} : DataW H → Nat
  | .lit (.string bytes) => bytes.length + 1
  | .lit _ => 1
  | .nil => 1
  | .ptr d => uptoBulk d + 1
  | .slice elems spare => uptoBulkAll elems + uptoBulkAll spare + 1
  | .agg parts => uptoBulkAll parts + 1
  | .iface _ d => uptoBulk d + 1
  | .map entries => uptoBulkEntries entries + 1
  | .held _ => 1
def uptoBulkAll {H : Type} : List (DataW H) → Nat
  | [] => 0
  | d :: r => uptoBulk d + uptoBulkAll r
def uptoBulkEntries {H : Type} : List (Lit × DataW H) → Nat
  | [] => 0
  | x :: r => uptoBulkEntry x + uptoBulkEntries r
def uptoBulkEntry {H : Type} : Lit × DataW H → Nat
  | (.string bytes, d) => bytes.length + uptoBulk d + 1
  | (_, d) => uptoBulk d + 1
 end
def uptoSmall : (H : Type) → List (DataW H) → Bool := fun _ ds => decide (uptoBulkAll ds ≤ 1048576)
def OpenSpec.upto (s : _root_.Go.ChangeSpec) : _root_.Go.OpenSpec := { _root_.Go.OpenSpec.ofChange s with cond := some uptoSmall }

/-- 'scullerylaw16.StoreScript', WHERE WHAT IT READS IS OF BULK AT MOST 1048576: true; the input reads as it did. -/
def storeScriptUptoRow : OpenClaim := { program := "ythgkdnegnecnjaagreatdoor", sum := "cd964491a7e111821c062fa8c342a113665059713e369edcc368162f8417c8d6", func := "scullery/scullerylaw16.StoreScript", spec := "storeScript", unfollowed := true, recurses := true, named := ["scullery/head.widths", "scullery/sum.lower", "scullery/sum.higher"], apart := false, laid := [("scullery/sum.lower", laid_scullery_sum_lower), ("scullery/sum.higher", laid_scullery_sum_higher), ("scullery/head.widths", laid_scullery_head_widths)], narrowed := true }
def StoreScriptUptoSaid : Prop := storeScriptUptoRow.holds Tryz.pinned (OpenSpec.upto storeScriptSpec)

/-- 'scullerylaw16.StoreRoom', WHERE WHAT IT READS IS OF BULK AT MOST 1048576: true; the input reads as it did. -/
def storeRoomUptoRow : OpenClaim := { program := "ythgkdnegnecnjaagreatdoor", sum := "cd964491a7e111821c062fa8c342a113665059713e369edcc368162f8417c8d6", func := "scullery/scullerylaw16.StoreRoom", spec := "storeRoom", unfollowed := true, recurses := true, named := ["scullery/head.widths", "scullery/sum.lower", "scullery/sum.higher"], apart := false, laid := [("scullery/sum.lower", laid_scullery_sum_lower), ("scullery/sum.higher", laid_scullery_sum_higher), ("scullery/head.widths", laid_scullery_head_widths)], narrowed := true }
def StoreRoomUptoSaid : Prop := storeRoomUptoRow.holds Tryz.pinned (OpenSpec.upto storeRoomSpec)

/-- 'scullerylaw16.StoreSpreads', WHERE WHAT IT READS IS OF BULK AT MOST 1048576: true; the input reads as it did. -/
def storeSpreadsUptoRow : OpenClaim := { program := "ythgkdnegnecnjaagreatdoor", sum := "cd964491a7e111821c062fa8c342a113665059713e369edcc368162f8417c8d6", func := "scullery/scullerylaw16.StoreSpreads", spec := "storeSpreads", unfollowed := true, recurses := true, named := ["scullery/head.widths", "scullery/sum.lower", "scullery/sum.higher"], apart := false, laid := [("scullery/sum.lower", laid_scullery_sum_lower), ("scullery/sum.higher", laid_scullery_sum_higher), ("scullery/head.widths", laid_scullery_head_widths)], narrowed := true }
def StoreSpreadsUptoSaid : Prop := storeSpreadsUptoRow.holds Tryz.pinned (OpenSpec.upto storeSpreadsSpec)

/-- 'scullerylaw16.StoreNone', WHERE WHAT IT READS IS OF BULK AT MOST 1048576: true; the input reads as it did. -/
def storeNoneUptoRow : OpenClaim := { program := "ythgkdnegnecnjaagreatdoor", sum := "cd964491a7e111821c062fa8c342a113665059713e369edcc368162f8417c8d6", func := "scullery/scullerylaw16.StoreNone", spec := "storeNone", unfollowed := true, recurses := true, named := ["scullery/head.widths", "scullery/sum.lower", "scullery/sum.higher"], apart := false, laid := [("scullery/sum.lower", laid_scullery_sum_lower), ("scullery/sum.higher", laid_scullery_sum_higher), ("scullery/head.widths", laid_scullery_head_widths)], narrowed := true }
def StoreNoneUptoSaid : Prop := storeNoneUptoRow.holds Tryz.pinned (OpenSpec.upto storeNoneSpec)

/-- 'scullerylaw16.StoreKeeps', WHERE WHAT IT READS IS OF BULK AT MOST 1048576: true; the input reads as it did. -/
def storeKeepsUptoRow : OpenClaim := { program := "ythgkdnegnecnjaagreatdoor", sum := "cd964491a7e111821c062fa8c342a113665059713e369edcc368162f8417c8d6", func := "scullery/scullerylaw16.StoreKeeps", spec := "storeKeeps", unfollowed := true, recurses := true, named := ["scullery/head.widths", "scullery/sum.lower", "scullery/sum.higher"], apart := false, laid := [("scullery/sum.lower", laid_scullery_sum_lower), ("scullery/sum.higher", laid_scullery_sum_higher), ("scullery/head.widths", laid_scullery_head_widths)], narrowed := true }
def StoreKeepsUptoSaid : Prop := storeKeepsUptoRow.holds Tryz.pinned (OpenSpec.upto storeKeepsSpec)

/-- 'scullerylaw16.StoreBad', WHERE WHAT IT READS IS OF BULK AT MOST 1048576: true; the input reads as it did. -/
def storeBadUptoRow : OpenClaim := { program := "ythgkdnegnecnjaagreatdoor", sum := "cd964491a7e111821c062fa8c342a113665059713e369edcc368162f8417c8d6", func := "scullery/scullerylaw16.StoreBad", spec := "storeBad", unfollowed := true, recurses := true, named := ["scullery/head.widths", "scullery/sum.lower", "scullery/sum.higher"], apart := false, laid := [("scullery/sum.lower", laid_scullery_sum_lower), ("scullery/sum.higher", laid_scullery_sum_higher), ("scullery/head.widths", laid_scullery_head_widths)], narrowed := true }
def StoreBadUptoSaid : Prop := storeBadUptoRow.holds Tryz.pinned (OpenSpec.upto storeBadSpec)

/-- 'scullerylaw16.StorePlaces', WHERE WHAT IT READS IS OF BULK AT MOST 1048576: true; the input reads as it did. -/
def storePlacesUptoRow : OpenClaim := { program := "ythgkdnegnecnjaagreatdoor", sum := "cd964491a7e111821c062fa8c342a113665059713e369edcc368162f8417c8d6", func := "scullery/scullerylaw16.StorePlaces", spec := "storePlaces", unfollowed := true, recurses := true, named := ["scullery/head.widths", "scullery/sum.lower", "scullery/sum.higher"], apart := false, laid := [("scullery/sum.lower", laid_scullery_sum_lower), ("scullery/sum.higher", laid_scullery_sum_higher), ("scullery/head.widths", laid_scullery_head_widths)], narrowed := true }
def StorePlacesUptoSaid : Prop := storePlacesUptoRow.holds Tryz.pinned (OpenSpec.upto storePlacesSpec)

/-- 'scullerylaw16.StoreSealed', WHERE WHAT IT READS IS OF BULK AT MOST 1048576: true; the input reads as it did. -/
def storeSealedUptoRow : OpenClaim := { program := "ythgkdnegnecnjaagreatdoor", sum := "cd964491a7e111821c062fa8c342a113665059713e369edcc368162f8417c8d6", func := "scullery/scullerylaw16.StoreSealed", spec := "storeSealed", unfollowed := true, recurses := true, named := ["scullery/head.widths", "scullery/sum.lower", "scullery/sum.higher"], apart := false, laid := [("scullery/sum.lower", laid_scullery_sum_lower), ("scullery/sum.higher", laid_scullery_sum_higher), ("scullery/head.widths", laid_scullery_head_widths)], narrowed := true }
def StoreSealedUptoSaid : Prop := storeSealedUptoRow.holds Tryz.pinned (OpenSpec.upto storeSealedSpec)

end Rows
end Go.Proofs.YthgkdnegnecnjaaGreatDoor
