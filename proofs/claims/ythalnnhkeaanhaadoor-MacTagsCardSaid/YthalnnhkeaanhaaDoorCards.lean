/-
  DERIVED. GIVEN WITH THE SEED: THE CARDS: each row of YthalnnhkeaanhaaDoorRows.lean that lists a variable, with what it lists TIED to the program's text (the seventh form; the later family's looks); each row that meets fmt, with fmt's text TOLD by the authors' own Lean function (tested against real Go, not proved from fmt's source: count such statements apart). THE CARD IS WHAT COUNTS. Prove the row's statement (the work); the ties are given (YthalnnhkeaanhaaDoorTie.lean); close each card by the builder's one call (the guide's Derived/Test/ToyasCard.lean, 'card_holds'). Laid BY PROGRAM, IN A SANDBOX (cutbox-door.mjs). By AI agents, Wed Nov 11 2026. No macro, syntax, notation, axiom, sorry.
-/
import Derived.Test.YthalnnhkeaanhaaDoorRows
import GoSem.ClaimSeven
namespace Go.Proofs.YthalnnhkeaanhaaDoor
namespace Rows

/-- THE TIED CARD OF 'bikesharelaw06.MacSums'. -/
def macSumsCard : Claim7 := { stood := { row := macSumsRow, standIns := [], harness := (true, "999134e931017c2f748f8408f81ed0bdaa4568c092fe8d9fb522c2f62efaef85"), looks := false }, kinds := [], alts := [], laidByText := true, laidKinds := [.data], laidTests := true, laidLooks := .later }
def MacSumsCardSaid : Prop := Claim7.holds Tryd.pinned (.plain (OpenSpec.ofChange macSumsSpec)) macSumsCard

/-- THE TIED CARD OF 'bikesharelaw06.MacNumbers'. -/
def macNumbersCard : Claim7 := { stood := { row := macNumbersRow, standIns := [], harness := (true, "999134e931017c2f748f8408f81ed0bdaa4568c092fe8d9fb522c2f62efaef85"), looks := false }, kinds := [], alts := [], laidByText := true, laidKinds := [.data], laidTests := true, laidLooks := .later }
def MacNumbersCardSaid : Prop := Claim7.holds Tryd.pinned (.plain (OpenSpec.ofChange macNumbersSpec)) macNumbersCard

/-- THE TIED CARD OF 'bikesharelaw06.MacDerives'. -/
def macDerivesCard : Claim7 := { stood := { row := macDerivesRow, standIns := [], harness := (true, "999134e931017c2f748f8408f81ed0bdaa4568c092fe8d9fb522c2f62efaef85"), looks := false }, kinds := [], alts := [], laidByText := true, laidKinds := [.data], laidTests := true, laidLooks := .later }
def MacDerivesCardSaid : Prop := Claim7.holds Tryd.pinned (.plain (OpenSpec.ofChange macDerivesSpec)) macDerivesCard

/-- THE TIED CARD OF 'bikesharelaw06.MacTags'. -/
def macTagsCard : Claim7 := { stood := { row := macTagsRow, standIns := [], harness := (true, "999134e931017c2f748f8408f81ed0bdaa4568c092fe8d9fb522c2f62efaef85"), looks := false }, kinds := [], alts := [], laidByText := true, laidKinds := [.data], laidTests := true, laidLooks := .later }
def MacTagsCardSaid : Prop := Claim7.holds Tryd.pinned (.plain (OpenSpec.ofChange macTagsSpec)) macTagsCard

/-- THE TIED CARD OF 'bikesharelaw06.MacPlaces'. -/
def macPlacesCard : Claim7 := { stood := { row := macPlacesRow, standIns := [], harness := (true, "999134e931017c2f748f8408f81ed0bdaa4568c092fe8d9fb522c2f62efaef85"), looks := false }, kinds := [], alts := [], laidByText := true, laidKinds := [.data], laidTests := true, laidLooks := .later }
def MacPlacesCardSaid : Prop := Claim7.holds Tryd.pinned (.plain (OpenSpec.ofChange macPlacesSpec)) macPlacesCard

/-- THE TIED CARD OF 'bikesharelaw06.MacKeys'. -/
def macKeysCard : Claim7 := { stood := { row := macKeysRow, standIns := [], harness := (true, "999134e931017c2f748f8408f81ed0bdaa4568c092fe8d9fb522c2f62efaef85"), looks := false }, kinds := [], alts := [], laidByText := true, laidKinds := [.data], laidTests := true, laidLooks := .later }
def MacKeysCardSaid : Prop := Claim7.holds Tryd.pinned (.plain (OpenSpec.ofChange macKeysSpec)) macKeysCard

/-- THE SECOND FORM's CARD OF 'bikesharelaw06.MacSums'. -/
def macSumsUptoCard : Claim7 := { stood := { row := macSumsUptoRow, standIns := [], harness := (true, "999134e931017c2f748f8408f81ed0bdaa4568c092fe8d9fb522c2f62efaef85"), looks := false }, kinds := [], alts := [], laidByText := true, laidKinds := [.data], laidTests := true, laidLooks := .later }
def MacSumsUptoCardSaid : Prop := Claim7.holds Tryd.pinned (.plain (OpenSpec.upto macSumsSpec)) macSumsUptoCard

/-- THE SECOND FORM's CARD OF 'bikesharelaw06.MacNumbers'. -/
def macNumbersUptoCard : Claim7 := { stood := { row := macNumbersUptoRow, standIns := [], harness := (true, "999134e931017c2f748f8408f81ed0bdaa4568c092fe8d9fb522c2f62efaef85"), looks := false }, kinds := [], alts := [], laidByText := true, laidKinds := [.data], laidTests := true, laidLooks := .later }
def MacNumbersUptoCardSaid : Prop := Claim7.holds Tryd.pinned (.plain (OpenSpec.upto macNumbersSpec)) macNumbersUptoCard

/-- THE SECOND FORM's CARD OF 'bikesharelaw06.MacDerives'. -/
def macDerivesUptoCard : Claim7 := { stood := { row := macDerivesUptoRow, standIns := [], harness := (true, "999134e931017c2f748f8408f81ed0bdaa4568c092fe8d9fb522c2f62efaef85"), looks := false }, kinds := [], alts := [], laidByText := true, laidKinds := [.data], laidTests := true, laidLooks := .later }
def MacDerivesUptoCardSaid : Prop := Claim7.holds Tryd.pinned (.plain (OpenSpec.upto macDerivesSpec)) macDerivesUptoCard

/-- THE SECOND FORM's CARD OF 'bikesharelaw06.MacTags'. -/
def macTagsUptoCard : Claim7 := { stood := { row := macTagsUptoRow, standIns := [], harness := (true, "999134e931017c2f748f8408f81ed0bdaa4568c092fe8d9fb522c2f62efaef85"), looks := false }, kinds := [], alts := [], laidByText := true, laidKinds := [.data], laidTests := true, laidLooks := .later }
def MacTagsUptoCardSaid : Prop := Claim7.holds Tryd.pinned (.plain (OpenSpec.upto macTagsSpec)) macTagsUptoCard

/-- THE SECOND FORM's CARD OF 'bikesharelaw06.MacPlaces'. -/
def macPlacesUptoCard : Claim7 := { stood := { row := macPlacesUptoRow, standIns := [], harness := (true, "999134e931017c2f748f8408f81ed0bdaa4568c092fe8d9fb522c2f62efaef85"), looks := false }, kinds := [], alts := [], laidByText := true, laidKinds := [.data], laidTests := true, laidLooks := .later }
def MacPlacesUptoCardSaid : Prop := Claim7.holds Tryd.pinned (.plain (OpenSpec.upto macPlacesSpec)) macPlacesUptoCard

/-- THE SECOND FORM's CARD OF 'bikesharelaw06.MacKeys'. -/
def macKeysUptoCard : Claim7 := { stood := { row := macKeysUptoRow, standIns := [], harness := (true, "999134e931017c2f748f8408f81ed0bdaa4568c092fe8d9fb522c2f62efaef85"), looks := false }, kinds := [], alts := [], laidByText := true, laidKinds := [.data], laidTests := true, laidLooks := .later }
def MacKeysUptoCardSaid : Prop := Claim7.holds Tryd.pinned (.plain (OpenSpec.upto macKeysSpec)) macKeysUptoCard
end Rows
end Go.Proofs.YthalnnhkeaanhaaDoor
