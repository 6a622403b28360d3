/-
  DERIVED. GIVEN WITH THE SEED: THE CARDS: each row of YthgkdnegnecnjaaGreatDoorRows.lean that lists a variable, with what it lists TIED to the program's text (the seventh form; the later family's looks); each row that meets fmt, with fmt's text TOLD by the authors' own Lean function (tested against real Go, not proved from fmt's source: count such statements apart). THE CARD IS WHAT COUNTS. Prove the row's statement (the work); the ties are given (YthgkdnegnecnjaaGreatDoorTie.lean); close each card by the builder's one call (the guide's Derived/Test/ToyasCard.lean, 'card_holds'). Laid BY PROGRAM, IN A SANDBOX (cutbox-door.mjs). By AI agents, Wed Nov 11 2026. No macro, syntax, notation, axiom, sorry.
-/
import Derived.Test.YthgkdnegnecnjaaGreatDoorRows
import GoSem.ClaimSeven
namespace Go.Proofs.YthgkdnegnecnjaaGreatDoor
namespace Rows

/-- THE TIED CARD OF 'scullerylaw16.StoreScript'. -/
def storeScriptCard : Claim7 := { stood := { row := storeScriptRow, standIns := [], harness := (true, "d5ea7a9805e0dd9907207953b3e4e4c72f96c35c834d2546a2aec23700401781"), looks := true }, kinds := [], alts := [], laidByText := true, laidKinds := [.data, .data, .data], laidTests := true, laidLooks := .later }
def StoreScriptCardSaid : Prop := Claim7.holds Tryz.pinned (.plain (OpenSpec.ofChange storeScriptSpec)) storeScriptCard

/-- THE TIED CARD OF 'scullerylaw16.StoreRoom'. -/
def storeRoomCard : Claim7 := { stood := { row := storeRoomRow, standIns := [], harness := (true, "d5ea7a9805e0dd9907207953b3e4e4c72f96c35c834d2546a2aec23700401781"), looks := true }, kinds := [], alts := [], laidByText := true, laidKinds := [.data, .data, .data], laidTests := true, laidLooks := .later }
def StoreRoomCardSaid : Prop := Claim7.holds Tryz.pinned (.plain (OpenSpec.ofChange storeRoomSpec)) storeRoomCard

/-- THE TIED CARD OF 'scullerylaw16.StoreSpreads'. -/
def storeSpreadsCard : Claim7 := { stood := { row := storeSpreadsRow, standIns := [], harness := (true, "d5ea7a9805e0dd9907207953b3e4e4c72f96c35c834d2546a2aec23700401781"), looks := true }, kinds := [], alts := [], laidByText := true, laidKinds := [.data, .data, .data], laidTests := true, laidLooks := .later }
def StoreSpreadsCardSaid : Prop := Claim7.holds Tryz.pinned (.plain (OpenSpec.ofChange storeSpreadsSpec)) storeSpreadsCard

/-- THE TIED CARD OF 'scullerylaw16.StoreNone'. -/
def storeNoneCard : Claim7 := { stood := { row := storeNoneRow, standIns := [], harness := (true, "d5ea7a9805e0dd9907207953b3e4e4c72f96c35c834d2546a2aec23700401781"), looks := true }, kinds := [], alts := [], laidByText := true, laidKinds := [.data, .data, .data], laidTests := true, laidLooks := .later }
def StoreNoneCardSaid : Prop := Claim7.holds Tryz.pinned (.plain (OpenSpec.ofChange storeNoneSpec)) storeNoneCard

/-- THE TIED CARD OF 'scullerylaw16.StoreKeeps'. -/
def storeKeepsCard : Claim7 := { stood := { row := storeKeepsRow, standIns := [], harness := (true, "d5ea7a9805e0dd9907207953b3e4e4c72f96c35c834d2546a2aec23700401781"), looks := true }, kinds := [], alts := [], laidByText := true, laidKinds := [.data, .data, .data], laidTests := true, laidLooks := .later }
def StoreKeepsCardSaid : Prop := Claim7.holds Tryz.pinned (.plain (OpenSpec.ofChange storeKeepsSpec)) storeKeepsCard

/-- THE TIED CARD OF 'scullerylaw16.StoreBad'. -/
def storeBadCard : Claim7 := { stood := { row := storeBadRow, standIns := [], harness := (true, "d5ea7a9805e0dd9907207953b3e4e4c72f96c35c834d2546a2aec23700401781"), looks := true }, kinds := [], alts := [], laidByText := true, laidKinds := [.data, .data, .data], laidTests := true, laidLooks := .later }
def StoreBadCardSaid : Prop := Claim7.holds Tryz.pinned (.plain (OpenSpec.ofChange storeBadSpec)) storeBadCard

/-- THE TIED CARD OF 'scullerylaw16.StorePlaces'. -/
def storePlacesCard : Claim7 := { stood := { row := storePlacesRow, standIns := [], harness := (true, "d5ea7a9805e0dd9907207953b3e4e4c72f96c35c834d2546a2aec23700401781"), looks := true }, kinds := [], alts := [], laidByText := true, laidKinds := [.data, .data, .data], laidTests := true, laidLooks := .later }
def StorePlacesCardSaid : Prop := Claim7.holds Tryz.pinned (.plain (OpenSpec.ofChange storePlacesSpec)) storePlacesCard

/-- THE TIED CARD OF 'scullerylaw16.StoreSealed'. -/
def storeSealedCard : Claim7 := { stood := { row := storeSealedRow, standIns := [], harness := (true, "d5ea7a9805e0dd9907207953b3e4e4c72f96c35c834d2546a2aec23700401781"), looks := true }, kinds := [], alts := [], laidByText := true, laidKinds := [.data, .data, .data], laidTests := true, laidLooks := .later }
def StoreSealedCardSaid : Prop := Claim7.holds Tryz.pinned (.plain (OpenSpec.ofChange storeSealedSpec)) storeSealedCard

/-- THE SECOND FORM's CARD OF 'scullerylaw16.StoreScript'. -/
def storeScriptUptoCard : Claim7 := { stood := { row := storeScriptUptoRow, standIns := [], harness := (true, "d5ea7a9805e0dd9907207953b3e4e4c72f96c35c834d2546a2aec23700401781"), looks := true }, kinds := [], alts := [], laidByText := true, laidKinds := [.data, .data, .data], laidTests := true, laidLooks := .later }
def StoreScriptUptoCardSaid : Prop := Claim7.holds Tryz.pinned (.plain (OpenSpec.upto storeScriptSpec)) storeScriptUptoCard

/-- THE SECOND FORM's CARD OF 'scullerylaw16.StoreRoom'. -/
def storeRoomUptoCard : Claim7 := { stood := { row := storeRoomUptoRow, standIns := [], harness := (true, "d5ea7a9805e0dd9907207953b3e4e4c72f96c35c834d2546a2aec23700401781"), looks := true }, kinds := [], alts := [], laidByText := true, laidKinds := [.data, .data, .data], laidTests := true, laidLooks := .later }
def StoreRoomUptoCardSaid : Prop := Claim7.holds Tryz.pinned (.plain (OpenSpec.upto storeRoomSpec)) storeRoomUptoCard

/-- THE SECOND FORM's CARD OF 'scullerylaw16.StoreSpreads'. -/
def storeSpreadsUptoCard : Claim7 := { stood := { row := storeSpreadsUptoRow, standIns := [], harness := (true, "d5ea7a9805e0dd9907207953b3e4e4c72f96c35c834d2546a2aec23700401781"), looks := true }, kinds := [], alts := [], laidByText := true, laidKinds := [.data, .data, .data], laidTests := true, laidLooks := .later }
def StoreSpreadsUptoCardSaid : Prop := Claim7.holds Tryz.pinned (.plain (OpenSpec.upto storeSpreadsSpec)) storeSpreadsUptoCard

/-- THE SECOND FORM's CARD OF 'scullerylaw16.StoreNone'. -/
def storeNoneUptoCard : Claim7 := { stood := { row := storeNoneUptoRow, standIns := [], harness := (true, "d5ea7a9805e0dd9907207953b3e4e4c72f96c35c834d2546a2aec23700401781"), looks := true }, kinds := [], alts := [], laidByText := true, laidKinds := [.data, .data, .data], laidTests := true, laidLooks := .later }
def StoreNoneUptoCardSaid : Prop := Claim7.holds Tryz.pinned (.plain (OpenSpec.upto storeNoneSpec)) storeNoneUptoCard

/-- THE SECOND FORM's CARD OF 'scullerylaw16.StoreKeeps'. -/
def storeKeepsUptoCard : Claim7 := { stood := { row := storeKeepsUptoRow, standIns := [], harness := (true, "d5ea7a9805e0dd9907207953b3e4e4c72f96c35c834d2546a2aec23700401781"), looks := true }, kinds := [], alts := [], laidByText := true, laidKinds := [.data, .data, .data], laidTests := true, laidLooks := .later }
def StoreKeepsUptoCardSaid : Prop := Claim7.holds Tryz.pinned (.plain (OpenSpec.upto storeKeepsSpec)) storeKeepsUptoCard

/-- THE SECOND FORM's CARD OF 'scullerylaw16.StoreBad'. -/
def storeBadUptoCard : Claim7 := { stood := { row := storeBadUptoRow, standIns := [], harness := (true, "d5ea7a9805e0dd9907207953b3e4e4c72f96c35c834d2546a2aec23700401781"), looks := true }, kinds := [], alts := [], laidByText := true, laidKinds := [.data, .data, .data], laidTests := true, laidLooks := .later }
def StoreBadUptoCardSaid : Prop := Claim7.holds Tryz.pinned (.plain (OpenSpec.upto storeBadSpec)) storeBadUptoCard

/-- THE SECOND FORM's CARD OF 'scullerylaw16.StorePlaces'. -/
def storePlacesUptoCard : Claim7 := { stood := { row := storePlacesUptoRow, standIns := [], harness := (true, "d5ea7a9805e0dd9907207953b3e4e4c72f96c35c834d2546a2aec23700401781"), looks := true }, kinds := [], alts := [], laidByText := true, laidKinds := [.data, .data, .data], laidTests := true, laidLooks := .later }
def StorePlacesUptoCardSaid : Prop := Claim7.holds Tryz.pinned (.plain (OpenSpec.upto storePlacesSpec)) storePlacesUptoCard

/-- THE SECOND FORM's CARD OF 'scullerylaw16.StoreSealed'. -/
def storeSealedUptoCard : Claim7 := { stood := { row := storeSealedUptoRow, standIns := [], harness := (true, "d5ea7a9805e0dd9907207953b3e4e4c72f96c35c834d2546a2aec23700401781"), looks := true }, kinds := [], alts := [], laidByText := true, laidKinds := [.data, .data, .data], laidTests := true, laidLooks := .later }
def StoreSealedUptoCardSaid : Prop := Claim7.holds Tryz.pinned (.plain (OpenSpec.upto storeSealedSpec)) storeSealedUptoCard
end Rows
end Go.Proofs.YthgkdnegnecnjaaGreatDoor
