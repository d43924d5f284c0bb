/-
  DERIVED. GIVEN WITH THE SEED: THE CARDS: each row of YtikdpiedjkailaaDoorRows.lean that lists a variable, with what it lists TIED to the program's text (the seventh form; the later family's looks); each row that meets fmt, with fmt's text TOLD by the authors' own Lean function (tested against real Go, not proved from fmt's source: count such statements apart). THE CARD IS WHAT COUNTS. Prove the row's statement (the work); the ties are given (YtikdpiedjkailaaDoorTie.lean); close each card by the builder's one call (the guide's Derived/Test/ToyasCard.lean, 'card_holds'). Laid BY PROGRAM, IN A SANDBOX (cutbox-door.mjs). By AI agents, Wed Nov 11 2026. No macro, syntax, notation, axiom, sorry.
-/
import Derived.Test.YtikdpiedjkailaaDoorRows
import GoSem.ClaimSeven
namespace Go.Proofs.YtikdpiedjkailaaDoor
namespace Rows

/-- THE TIED CARD OF 'tallysticklaw02.HmacTags'. -/
def hmacTagsCard : Claim7 := { stood := { row := hmacTagsRow, standIns := [], harness := (true, "544dcca1c9e181243975ca7d37078b9aa1cc85fc5261cdd4784716fbb8c0a843"), looks := false }, kinds := [], alts := [], laidByText := true, laidKinds := [.data], laidTests := true, laidLooks := .later }
def HmacTagsCardSaid : Prop := Claim7.holds Tryd.pinned (.plain (OpenSpec.ofChange hmacTagsSpec)) hmacTagsCard

/-- THE TIED CARD OF 'tallysticklaw02.HmacRights'. -/
def hmacRightsCard : Claim7 := { stood := { row := hmacRightsRow, standIns := [], harness := (true, "544dcca1c9e181243975ca7d37078b9aa1cc85fc5261cdd4784716fbb8c0a843"), looks := false }, kinds := [], alts := [], laidByText := true, laidKinds := [.data], laidTests := true, laidLooks := .later }
def HmacRightsCardSaid : Prop := Claim7.holds Tryd.pinned (.plain (OpenSpec.ofChange hmacRightsSpec)) hmacRightsCard

/-- THE TIED CARD OF 'tallysticklaw02.HmacExpands'. -/
def hmacExpandsCard : Claim7 := { stood := { row := hmacExpandsRow, standIns := [], harness := (true, "544dcca1c9e181243975ca7d37078b9aa1cc85fc5261cdd4784716fbb8c0a843"), looks := false }, kinds := [], alts := [], laidByText := true, laidKinds := [.data], laidTests := true, laidLooks := .later }
def HmacExpandsCardSaid : Prop := Claim7.holds Tryd.pinned (.plain (OpenSpec.ofChange hmacExpandsSpec)) hmacExpandsCard

/-- THE TIED CARD OF 'tallysticklaw02.HmacChildren'. -/
def hmacChildrenCard : Claim7 := { stood := { row := hmacChildrenRow, standIns := [], harness := (true, "544dcca1c9e181243975ca7d37078b9aa1cc85fc5261cdd4784716fbb8c0a843"), looks := false }, kinds := [], alts := [], laidByText := true, laidKinds := [.data], laidTests := true, laidLooks := .later }
def HmacChildrenCardSaid : Prop := Claim7.holds Tryd.pinned (.plain (OpenSpec.ofChange hmacChildrenSpec)) hmacChildrenCard

/-- THE TIED CARD OF 'tallysticklaw02.HmacPlays'. -/
def hmacPlaysCard : Claim7 := { stood := { row := hmacPlaysRow, standIns := [], harness := (true, "544dcca1c9e181243975ca7d37078b9aa1cc85fc5261cdd4784716fbb8c0a843"), looks := false }, kinds := [], alts := [], laidByText := true, laidKinds := [.data], laidTests := true, laidLooks := .later }
def HmacPlaysCardSaid : Prop := Claim7.holds Tryd.pinned (.plain (OpenSpec.ofChange hmacPlaysSpec)) hmacPlaysCard

/-- THE TIED CARD OF 'tallysticklaw02.HmacHolds'. -/
def hmacHoldsCard : Claim7 := { stood := { row := hmacHoldsRow, standIns := [], harness := (true, "544dcca1c9e181243975ca7d37078b9aa1cc85fc5261cdd4784716fbb8c0a843"), looks := false }, kinds := [], alts := [], laidByText := true, laidKinds := [.data], laidTests := true, laidLooks := .later }
def HmacHoldsCardSaid : Prop := Claim7.holds Tryd.pinned (.plain (OpenSpec.ofChange hmacHoldsSpec)) hmacHoldsCard

/-- THE SECOND FORM's CARD OF 'tallysticklaw02.HmacTags'. -/
def hmacTagsUptoCard : Claim7 := { stood := { row := hmacTagsUptoRow, standIns := [], harness := (true, "544dcca1c9e181243975ca7d37078b9aa1cc85fc5261cdd4784716fbb8c0a843"), looks := false }, kinds := [], alts := [], laidByText := true, laidKinds := [.data], laidTests := true, laidLooks := .later }
def HmacTagsUptoCardSaid : Prop := Claim7.holds Tryd.pinned (.plain (OpenSpec.upto hmacTagsSpec)) hmacTagsUptoCard

/-- THE SECOND FORM's CARD OF 'tallysticklaw02.HmacRights'. -/
def hmacRightsUptoCard : Claim7 := { stood := { row := hmacRightsUptoRow, standIns := [], harness := (true, "544dcca1c9e181243975ca7d37078b9aa1cc85fc5261cdd4784716fbb8c0a843"), looks := false }, kinds := [], alts := [], laidByText := true, laidKinds := [.data], laidTests := true, laidLooks := .later }
def HmacRightsUptoCardSaid : Prop := Claim7.holds Tryd.pinned (.plain (OpenSpec.upto hmacRightsSpec)) hmacRightsUptoCard

/-- THE SECOND FORM's CARD OF 'tallysticklaw02.HmacExpands'. -/
def hmacExpandsUptoCard : Claim7 := { stood := { row := hmacExpandsUptoRow, standIns := [], harness := (true, "544dcca1c9e181243975ca7d37078b9aa1cc85fc5261cdd4784716fbb8c0a843"), looks := false }, kinds := [], alts := [], laidByText := true, laidKinds := [.data], laidTests := true, laidLooks := .later }
def HmacExpandsUptoCardSaid : Prop := Claim7.holds Tryd.pinned (.plain (OpenSpec.upto hmacExpandsSpec)) hmacExpandsUptoCard

/-- THE SECOND FORM's CARD OF 'tallysticklaw02.HmacChildren'. -/
def hmacChildrenUptoCard : Claim7 := { stood := { row := hmacChildrenUptoRow, standIns := [], harness := (true, "544dcca1c9e181243975ca7d37078b9aa1cc85fc5261cdd4784716fbb8c0a843"), looks := false }, kinds := [], alts := [], laidByText := true, laidKinds := [.data], laidTests := true, laidLooks := .later }
def HmacChildrenUptoCardSaid : Prop := Claim7.holds Tryd.pinned (.plain (OpenSpec.upto hmacChildrenSpec)) hmacChildrenUptoCard

/-- THE SECOND FORM's CARD OF 'tallysticklaw02.HmacPlays'. -/
def hmacPlaysUptoCard : Claim7 := { stood := { row := hmacPlaysUptoRow, standIns := [], harness := (true, "544dcca1c9e181243975ca7d37078b9aa1cc85fc5261cdd4784716fbb8c0a843"), looks := false }, kinds := [], alts := [], laidByText := true, laidKinds := [.data], laidTests := true, laidLooks := .later }
def HmacPlaysUptoCardSaid : Prop := Claim7.holds Tryd.pinned (.plain (OpenSpec.upto hmacPlaysSpec)) hmacPlaysUptoCard

/-- THE SECOND FORM's CARD OF 'tallysticklaw02.HmacHolds'. -/
def hmacHoldsUptoCard : Claim7 := { stood := { row := hmacHoldsUptoRow, standIns := [], harness := (true, "544dcca1c9e181243975ca7d37078b9aa1cc85fc5261cdd4784716fbb8c0a843"), looks := false }, kinds := [], alts := [], laidByText := true, laidKinds := [.data], laidTests := true, laidLooks := .later }
def HmacHoldsUptoCardSaid : Prop := Claim7.holds Tryd.pinned (.plain (OpenSpec.upto hmacHoldsSpec)) hmacHoldsUptoCard
end Rows
end Go.Proofs.YtikdpiedjkailaaDoor
