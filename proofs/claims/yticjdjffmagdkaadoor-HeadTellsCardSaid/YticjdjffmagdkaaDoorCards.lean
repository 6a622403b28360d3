/-
  DERIVED. GIVEN WITH THE SEED: THE CARDS: each row of YticjdjffmagdkaaDoorRows.lean that lists a variable, with what it lists TIED to the program's text (the seventh form; the later family's looks); each row that meets fmt, with fmt's text TOLD by the authors' own Lean function (tested against real Go, not proved from fmt's source: count such statements apart). THE CARD IS WHAT COUNTS. Prove the row's statement (the work); the ties are given (YticjdjffmagdkaaDoorTie.lean); close each card by the builder's one call (the guide's Derived/Test/ToyasCard.lean, 'card_holds'). Laid BY PROGRAM, IN A SANDBOX (cutbox-door.mjs). By AI agents, Wed Nov 11 2026. No macro, syntax, notation, axiom, sorry.
-/
import Derived.Test.YticjdjffmagdkaaDoorRows
import GoSem.ClaimSeven
namespace Go.Proofs.YticjdjffmagdkaaDoor
namespace Rows

/-- THE TIED CARD OF 'scullerylaw4.HeadTells'. -/
def headTellsCard : Claim7 := { stood := { row := headTellsRow, standIns := [], harness := (true, "ab65e921de3b956cbe7c6c2350025d430be026644b49e1788960132a0d658019"), looks := true }, kinds := [], alts := [], laidByText := true, laidKinds := [.data, .data, .data], laidTests := true, laidLooks := .later }
def HeadTellsCardSaid : Prop := Claim7.holds Tryd.pinned (.plain (OpenSpec.ofChange headTellsSpec)) headTellsCard

/-- THE TIED CARD OF 'scullerylaw4.HeadBack'. -/
def headBackCard : Claim7 := { stood := { row := headBackRow, standIns := [], harness := (true, "ab65e921de3b956cbe7c6c2350025d430be026644b49e1788960132a0d658019"), looks := true }, kinds := [], alts := [], laidByText := true, laidKinds := [.data, .data, .data], laidTests := true, laidLooks := .later }
def HeadBackCardSaid : Prop := Claim7.holds Tryd.pinned (.plain (OpenSpec.ofChange headBackSpec)) headBackCard

/-- THE TIED CARD OF 'scullerylaw4.HeadTorn'. -/
def headTornCard : Claim7 := { stood := { row := headTornRow, standIns := [], harness := (true, "ab65e921de3b956cbe7c6c2350025d430be026644b49e1788960132a0d658019"), looks := true }, kinds := [], alts := [], laidByText := true, laidKinds := [.data, .data, .data], laidTests := true, laidLooks := .later }
def HeadTornCardSaid : Prop := Claim7.holds Tryd.pinned (.plain (OpenSpec.ofChange headTornSpec)) headTornCard

/-- THE TIED CARD OF 'scullerylaw4.HeadApart'. -/
def headApartCard : Claim7 := { stood := { row := headApartRow, standIns := [], harness := (true, "ab65e921de3b956cbe7c6c2350025d430be026644b49e1788960132a0d658019"), looks := true }, kinds := [], alts := [], laidByText := true, laidKinds := [.data, .data, .data], laidTests := true, laidLooks := .later }
def HeadApartCardSaid : Prop := Claim7.holds Tryd.pinned (.plain (OpenSpec.ofChange headApartSpec)) headApartCard

/-- THE TIED CARD OF 'scullerylaw4.HeadMixed'. -/
def headMixedCard : Claim7 := { stood := { row := headMixedRow, standIns := [], harness := (true, "ab65e921de3b956cbe7c6c2350025d430be026644b49e1788960132a0d658019"), looks := true }, kinds := [], alts := [], laidByText := true, laidKinds := [.data, .data, .data], laidTests := true, laidLooks := .later }
def HeadMixedCardSaid : Prop := Claim7.holds Tryd.pinned (.plain (OpenSpec.ofChange headMixedSpec)) headMixedCard

/-- THE SECOND FORM's CARD OF 'scullerylaw4.HeadTells'. -/
def headTellsUptoCard : Claim7 := { stood := { row := headTellsUptoRow, standIns := [], harness := (true, "ab65e921de3b956cbe7c6c2350025d430be026644b49e1788960132a0d658019"), looks := true }, kinds := [], alts := [], laidByText := true, laidKinds := [.data, .data, .data], laidTests := true, laidLooks := .later }
def HeadTellsUptoCardSaid : Prop := Claim7.holds Tryd.pinned (.plain (OpenSpec.upto headTellsSpec)) headTellsUptoCard

/-- THE SECOND FORM's CARD OF 'scullerylaw4.HeadBack'. -/
def headBackUptoCard : Claim7 := { stood := { row := headBackUptoRow, standIns := [], harness := (true, "ab65e921de3b956cbe7c6c2350025d430be026644b49e1788960132a0d658019"), looks := true }, kinds := [], alts := [], laidByText := true, laidKinds := [.data, .data, .data], laidTests := true, laidLooks := .later }
def HeadBackUptoCardSaid : Prop := Claim7.holds Tryd.pinned (.plain (OpenSpec.upto headBackSpec)) headBackUptoCard

/-- THE SECOND FORM's CARD OF 'scullerylaw4.HeadTorn'. -/
def headTornUptoCard : Claim7 := { stood := { row := headTornUptoRow, standIns := [], harness := (true, "ab65e921de3b956cbe7c6c2350025d430be026644b49e1788960132a0d658019"), looks := true }, kinds := [], alts := [], laidByText := true, laidKinds := [.data, .data, .data], laidTests := true, laidLooks := .later }
def HeadTornUptoCardSaid : Prop := Claim7.holds Tryd.pinned (.plain (OpenSpec.upto headTornSpec)) headTornUptoCard

/-- THE SECOND FORM's CARD OF 'scullerylaw4.HeadApart'. -/
def headApartUptoCard : Claim7 := { stood := { row := headApartUptoRow, standIns := [], harness := (true, "ab65e921de3b956cbe7c6c2350025d430be026644b49e1788960132a0d658019"), looks := true }, kinds := [], alts := [], laidByText := true, laidKinds := [.data, .data, .data], laidTests := true, laidLooks := .later }
def HeadApartUptoCardSaid : Prop := Claim7.holds Tryd.pinned (.plain (OpenSpec.upto headApartSpec)) headApartUptoCard

/-- THE SECOND FORM's CARD OF 'scullerylaw4.HeadMixed'. -/
def headMixedUptoCard : Claim7 := { stood := { row := headMixedUptoRow, standIns := [], harness := (true, "ab65e921de3b956cbe7c6c2350025d430be026644b49e1788960132a0d658019"), looks := true }, kinds := [], alts := [], laidByText := true, laidKinds := [.data, .data, .data], laidTests := true, laidLooks := .later }
def HeadMixedUptoCardSaid : Prop := Claim7.holds Tryd.pinned (.plain (OpenSpec.upto headMixedSpec)) headMixedUptoCard
end Rows
end Go.Proofs.YticjdjffmagdkaaDoor
