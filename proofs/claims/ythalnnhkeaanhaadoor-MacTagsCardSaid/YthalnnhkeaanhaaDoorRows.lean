/-
  NARROWER THAN 'FOR EVERY INPUT', by the rows' own cells (each row's printed sentence says how): MacSums: laid · MacNumbers: laid · MacDerives: laid · MacTags: laid · MacPlaces: laid · MacKeys: laid.
  DERIVED. THE GIVEN ROWS OF THIS SEAT. 6 by the template 'for every input the law returns true; each argument reads behind the call as it read before'; 0 by the template 'total and deterministic' (their statements: YthalnnhkeaanhaaDoorTotals.lean).
  GIVEN WITH THE SEED: the statements are not yours to turn. If you find one false, say at which input.
  Laid BY PROGRAM, IN A SANDBOX (cutbox-rows.mjs): the forced cells as the released guide's own fill.sh prints them over the translation 6b9d8b31d4b764db… (all of the seat's roots in one cut). By AI agents, Wed Nov 11 2026. No macro, syntax, notation, axiom, sorry.
-/
import Derived.Test.YthalnnhkeaanhaaDoorChecked
import GoSem.Claim
import GoSem.ClaimJoined
import GoSem.ClaimMapViews
import Derived.JoinedTies
import Derived.KernelRfl
namespace Go.Proofs.YthalnnhkeaanhaaDoor
/- THE CELL 'sum', in the pinned program and in every row, IS THE sha256 OF THE DUMP (.gsa) THAT YthalnnhkeaanhaaDoorProg.lean LOADS. Nothing in Lean hashes anything: it is a label: what it is worth is what the hold of that sum in a sandbox is worth. -/
noncomputable def Tryd.pinned : Pinned := { name := "ythalnnhkeaanhaadoor", sum := "6b9d8b31d4b764db694334b7313474a59257f89e9ac60962317fed3fe5843f04", checked := Tryd.checked }
namespace Rows
def none {H : Type} : Left H := { results := [], args := [] }

/- WHAT THE LISTED PACKAGE-LEVEL VARIABLES READ AS WHEN THE CALL BEGINS. Each datum BY PROGRAM (the guide's laid-datum.mjs) off the statement by which the dump's own 'gosem.cut.vars' lays the variable. In a bare row this is a premise. The card (YthalnnhkeaanhaaDoorCards.lean) ties it to the program's text. -/
def laid_bikeshare_mac_start {H : Type} : DataW H := .agg [.lit (.int .u64 8317987319222330741), .lit (.int .u64 7237128888997146477), .lit (.int .u64 7816392313619706465), .lit (.int .u64 8387220255154660723)]

/-- 'bikesharelaw06.MacSums': WHATEVER THE INPUT: true; the input reads as it did. -/
def macSumsSpec : ChangeSpec := { name := "macSums", fn := fun _ => fun
  | [d1, d2] => { results := [.lit (.bool true)], args := [d1, d2] }
  | _ => none }
def macSumsRow : OpenClaim := { program := "ythalnnhkeaanhaadoor", sum := "6b9d8b31d4b764db694334b7313474a59257f89e9ac60962317fed3fe5843f04", func := "bikeshare/bikesharelaw06.MacSums", spec := "macSums", named := ["bikeshare/mac.start"], apart := false, laid := [("bikeshare/mac.start", laid_bikeshare_mac_start)] }
def MacSumsSaid : Prop := macSumsRow.holds Tryd.pinned (OpenSpec.ofChange macSumsSpec)

/-- ITS FALSE NEIGHBOUR: 'it returns false'. Refute it at one input. -/
def macSumsWrong : ChangeSpec := { name := "macSums", fn := fun _ => fun
  | [d1, d2] => { results := [.lit (.bool false)], args := [d1, d2] }
  | _ => none }
def MacSumsWrongFalsely : Prop := macSumsRow.holds Tryd.pinned (OpenSpec.ofChange macSumsWrong)

/-- 'bikesharelaw06.MacNumbers': WHATEVER THE INPUT: true; the input reads as it did. -/
def macNumbersSpec : ChangeSpec := { name := "macNumbers", fn := fun _ => fun
  | [d1, d2] => { results := [.lit (.bool true)], args := [d1, d2] }
  | _ => none }
def macNumbersRow : OpenClaim := { program := "ythalnnhkeaanhaadoor", sum := "6b9d8b31d4b764db694334b7313474a59257f89e9ac60962317fed3fe5843f04", func := "bikeshare/bikesharelaw06.MacNumbers", spec := "macNumbers", named := ["bikeshare/mac.start"], apart := false, laid := [("bikeshare/mac.start", laid_bikeshare_mac_start)] }
def MacNumbersSaid : Prop := macNumbersRow.holds Tryd.pinned (OpenSpec.ofChange macNumbersSpec)

/-- ITS FALSE NEIGHBOUR: 'it returns false'. Refute it at one input. -/
def macNumbersWrong : ChangeSpec := { name := "macNumbers", fn := fun _ => fun
  | [d1, d2] => { results := [.lit (.bool false)], args := [d1, d2] }
  | _ => none }
def MacNumbersWrongFalsely : Prop := macNumbersRow.holds Tryd.pinned (OpenSpec.ofChange macNumbersWrong)

/-- 'bikesharelaw06.MacDerives': WHATEVER THE INPUT: true; the input reads as it did. -/
def macDerivesSpec : ChangeSpec := { name := "macDerives", fn := fun _ => fun
  | [d1, d2, d3] => { results := [.lit (.bool true)], args := [d1, d2, d3] }
  | _ => none }
def macDerivesRow : OpenClaim := { program := "ythalnnhkeaanhaadoor", sum := "6b9d8b31d4b764db694334b7313474a59257f89e9ac60962317fed3fe5843f04", func := "bikeshare/bikesharelaw06.MacDerives", spec := "macDerives", named := ["bikeshare/mac.start"], apart := false, laid := [("bikeshare/mac.start", laid_bikeshare_mac_start)] }
def MacDerivesSaid : Prop := macDerivesRow.holds Tryd.pinned (OpenSpec.ofChange macDerivesSpec)

/-- ITS FALSE NEIGHBOUR: 'it returns false'. Refute it at one input. -/
def macDerivesWrong : ChangeSpec := { name := "macDerives", fn := fun _ => fun
  | [d1, d2, d3] => { results := [.lit (.bool false)], args := [d1, d2, d3] }
  | _ => none }
def MacDerivesWrongFalsely : Prop := macDerivesRow.holds Tryd.pinned (OpenSpec.ofChange macDerivesWrong)

/-- 'bikesharelaw06.MacTags': WHATEVER THE INPUT: true; the input reads as it did. -/
def macTagsSpec : ChangeSpec := { name := "macTags", fn := fun _ => fun
  | [d1, d2, d3] => { results := [.lit (.bool true)], args := [d1, d2, d3] }
  | _ => none }
def macTagsRow : OpenClaim := { program := "ythalnnhkeaanhaadoor", sum := "6b9d8b31d4b764db694334b7313474a59257f89e9ac60962317fed3fe5843f04", func := "bikeshare/bikesharelaw06.MacTags", spec := "macTags", named := ["bikeshare/mac.start"], apart := false, laid := [("bikeshare/mac.start", laid_bikeshare_mac_start)] }
def MacTagsSaid : Prop := macTagsRow.holds Tryd.pinned (OpenSpec.ofChange macTagsSpec)

/-- ITS FALSE NEIGHBOUR: 'it returns false'. Refute it at one input. -/
def macTagsWrong : ChangeSpec := { name := "macTags", fn := fun _ => fun
  | [d1, d2, d3] => { results := [.lit (.bool false)], args := [d1, d2, d3] }
  | _ => none }
def MacTagsWrongFalsely : Prop := macTagsRow.holds Tryd.pinned (OpenSpec.ofChange macTagsWrong)

/-- 'bikesharelaw06.MacPlaces': WHATEVER THE INPUT: true; the input reads as it did. -/
def macPlacesSpec : ChangeSpec := { name := "macPlaces", fn := fun _ => fun
  | [d1, d2, d3, d4, d5] => { results := [.lit (.bool true)], args := [d1, d2, d3, d4, d5] }
  | _ => none }
def macPlacesRow : OpenClaim := { program := "ythalnnhkeaanhaadoor", sum := "6b9d8b31d4b764db694334b7313474a59257f89e9ac60962317fed3fe5843f04", func := "bikeshare/bikesharelaw06.MacPlaces", spec := "macPlaces", named := ["bikeshare/mac.start"], apart := false, laid := [("bikeshare/mac.start", laid_bikeshare_mac_start)] }
def MacPlacesSaid : Prop := macPlacesRow.holds Tryd.pinned (OpenSpec.ofChange macPlacesSpec)

/-- ITS FALSE NEIGHBOUR: 'it returns false'. Refute it at one input. -/
def macPlacesWrong : ChangeSpec := { name := "macPlaces", fn := fun _ => fun
  | [d1, d2, d3, d4, d5] => { results := [.lit (.bool false)], args := [d1, d2, d3, d4, d5] }
  | _ => none }
def MacPlacesWrongFalsely : Prop := macPlacesRow.holds Tryd.pinned (OpenSpec.ofChange macPlacesWrong)

/-- 'bikesharelaw06.MacKeys': WHATEVER THE INPUT: true; the input reads as it did. -/
def macKeysSpec : ChangeSpec := { name := "macKeys", fn := fun _ => fun
  | [d1, d2] => { results := [.lit (.bool true)], args := [d1, d2] }
  | _ => none }
def macKeysRow : OpenClaim := { program := "ythalnnhkeaanhaadoor", sum := "6b9d8b31d4b764db694334b7313474a59257f89e9ac60962317fed3fe5843f04", func := "bikeshare/bikesharelaw06.MacKeys", spec := "macKeys", named := ["bikeshare/mac.start"], apart := false, laid := [("bikeshare/mac.start", laid_bikeshare_mac_start)] }
def MacKeysSaid : Prop := macKeysRow.holds Tryd.pinned (OpenSpec.ofChange macKeysSpec)

/-- ITS FALSE NEIGHBOUR: 'it returns false'. Refute it at one input. -/
def macKeysWrong : ChangeSpec := { name := "macKeys", fn := fun _ => fun
  | [d1, d2] => { results := [.lit (.bool false)], args := [d1, d2] }
  | _ => none }
def MacKeysWrongFalsely : Prop := macKeysRow.holds Tryd.pinned (OpenSpec.ofChange macKeysWrong)

/- THE SECOND FORM. 'bulk': how many values and letters a reading holds, each counted each time it is reached (what is shared counts as often as it is met; a slice's spare places count too). A statement '..UptoSaid' is the law's where the arguments, and the package variables that the reading takes, are together of bulk at most 1048576: NARROWER than '..Said'. Prove '..Said' where nothing that the law and all that it calls make is longer than what came in: it says more and counts as full. Else prove '..UptoSaid'. A law counts once. -/
mutual
def uptoBulk {H : Type} : DataW H → Nat
  | .lit (.string bytes) => bytes.length + 1
  | .lit _ => 1
  | .nil => 1
  | .ptr d => uptoBulk d + 1
  | .slice elems spare => uptoBulkAll elems + uptoBulkAll spare + 1
  | .agg parts => uptoBulkAll parts + 1
  | .iface _ d => uptoBulk d + 1
  | .map entries => uptoBulkEntries entries + 1
  | .held _ => 1
def uptoBulkAll {H : Type} : List (DataW H) → Nat
  | [] => 0
  | d :: r => uptoBulk d + uptoBulkAll r
def uptoBulkEntries {H : Type} : List (Lit × DataW H) → Nat
  | [] => 0
  | x :: r => uptoBulkEntry x + uptoBulkEntries r
def uptoBulkEntry {H : Type} : Lit × DataW H → Nat
  | (.string bytes, d) => bytes.length + uptoBulk d + 1
  | (_, d) => uptoBulk d + 1
 end
def uptoSmall : (H : Type) → List (DataW H) → Bool := fun _ ds => decide (uptoBulkAll ds ≤ 1048576)
def OpenSpec.upto (s : _root_.Go.ChangeSpec) : _root_.Go.OpenSpec := { _root_.Go.OpenSpec.ofChange s with cond := some uptoSmall }

/-- 'bikesharelaw06.MacSums', WHERE WHAT IT READS IS OF BULK AT MOST 1048576: true; the input reads as it did. -/
def macSumsUptoRow : OpenClaim := { program := "ythalnnhkeaanhaadoor", sum := "6b9d8b31d4b764db694334b7313474a59257f89e9ac60962317fed3fe5843f04", func := "bikeshare/bikesharelaw06.MacSums", spec := "macSums", named := ["bikeshare/mac.start"], apart := false, laid := [("bikeshare/mac.start", laid_bikeshare_mac_start)], narrowed := true }
def MacSumsUptoSaid : Prop := macSumsUptoRow.holds Tryd.pinned (OpenSpec.upto macSumsSpec)

/-- 'bikesharelaw06.MacNumbers', WHERE WHAT IT READS IS OF BULK AT MOST 1048576: true; the input reads as it did. -/
def macNumbersUptoRow : OpenClaim := { program := "ythalnnhkeaanhaadoor", sum := "6b9d8b31d4b764db694334b7313474a59257f89e9ac60962317fed3fe5843f04", func := "bikeshare/bikesharelaw06.MacNumbers", spec := "macNumbers", named := ["bikeshare/mac.start"], apart := false, laid := [("bikeshare/mac.start", laid_bikeshare_mac_start)], narrowed := true }
def MacNumbersUptoSaid : Prop := macNumbersUptoRow.holds Tryd.pinned (OpenSpec.upto macNumbersSpec)

/-- 'bikesharelaw06.MacDerives', WHERE WHAT IT READS IS OF BULK AT MOST 1048576: true; the input reads as it did. -/
def macDerivesUptoRow : OpenClaim := { program := "ythalnnhkeaanhaadoor", sum := "6b9d8b31d4b764db694334b7313474a59257f89e9ac60962317fed3fe5843f04", func := "bikeshare/bikesharelaw06.MacDerives", spec := "macDerives", named := ["bikeshare/mac.start"], apart := false, laid := [("bikeshare/mac.start", laid_bikeshare_mac_start)], narrowed := true }
def MacDerivesUptoSaid : Prop := macDerivesUptoRow.holds Tryd.pinned (OpenSpec.upto macDerivesSpec)

/-- 'bikesharelaw06.MacTags', WHERE WHAT IT READS IS OF BULK AT MOST 1048576: true; the input reads as it did. -/
def macTagsUptoRow : OpenClaim := { program := "ythalnnhkeaanhaadoor", sum := "6b9d8b31d4b764db694334b7313474a59257f89e9ac60962317fed3fe5843f04", func := "bikeshare/bikesharelaw06.MacTags", spec := "macTags", named := ["bikeshare/mac.start"], apart := false, laid := [("bikeshare/mac.start", laid_bikeshare_mac_start)], narrowed := true }
def MacTagsUptoSaid : Prop := macTagsUptoRow.holds Tryd.pinned (OpenSpec.upto macTagsSpec)

/-- 'bikesharelaw06.MacPlaces', WHERE WHAT IT READS IS OF BULK AT MOST 1048576: true; the input reads as it did. -/
def macPlacesUptoRow : OpenClaim := { program := "ythalnnhkeaanhaadoor", sum := "6b9d8b31d4b764db694334b7313474a59257f89e9ac60962317fed3fe5843f04", func := "bikeshare/bikesharelaw06.MacPlaces", spec := "macPlaces", named := ["bikeshare/mac.start"], apart := false, laid := [("bikeshare/mac.start", laid_bikeshare_mac_start)], narrowed := true }
def MacPlacesUptoSaid : Prop := macPlacesUptoRow.holds Tryd.pinned (OpenSpec.upto macPlacesSpec)

/-- 'bikesharelaw06.MacKeys', WHERE WHAT IT READS IS OF BULK AT MOST 1048576: true; the input reads as it did. -/
def macKeysUptoRow : OpenClaim := { program := "ythalnnhkeaanhaadoor", sum := "6b9d8b31d4b764db694334b7313474a59257f89e9ac60962317fed3fe5843f04", func := "bikeshare/bikesharelaw06.MacKeys", spec := "macKeys", named := ["bikeshare/mac.start"], apart := false, laid := [("bikeshare/mac.start", laid_bikeshare_mac_start)], narrowed := true }
def MacKeysUptoSaid : Prop := macKeysUptoRow.holds Tryd.pinned (OpenSpec.upto macKeysSpec)

end Rows
end Go.Proofs.YthalnnhkeaanhaaDoor
