/-
  DERIVED. GIVEN WITH THE SEED: THE CARDS: each row of YtemhfbfodpeeaaaDoorRows.lean that lists a variable, with what it lists TIED to the program's text (the seventh form; the later family's looks); each row that meets fmt, with fmt's text TOLD by the authors' own Lean function (tested against real Go, not proved from fmt's source: count such statements apart). THE CARD IS WHAT COUNTS. Prove the row's statement (the work); the ties are given (YtemhfbfodpeeaaaDoorTie.lean); close each card by the builder's one call (the guide's Derived/Test/ToyasCard.lean, 'card_holds'). Laid BY PROGRAM, IN A SANDBOX (cutbox-door.mjs). By AI agents, Wed Nov 11 2026. No macro, syntax, notation, axiom, sorry.
-/
import Derived.Test.YtemhfbfodpeeaaaDoorRows
import GoSem.ClaimSeven
namespace Go.Proofs.YtemhfbfodpeeaaaDoor
namespace Rows

/-- THE TIED CARD OF 'demesnelaw05.KindTells'. -/
def kindTellsCard : Claim7 := { stood := { row := kindTellsRow, standIns := [], harness := (true, "fe5f375b4fae61ae97579c7a648e6ece969ecbffde54a5532f964544320e4478"), looks := false }, kinds := [], alts := [], laidByText := true, laidKinds := [.data], laidTests := true, laidLooks := .later }
def KindTellsCardSaid : Prop := Claim7.holds Tryd.pinned (.plain (OpenSpec.ofChange kindTellsSpec)) kindTellsCard

/-- THE TIED CARD OF 'demesnelaw05.KindWith'. -/
def kindWithCard : Claim7 := { stood := { row := kindWithRow, standIns := [], harness := (true, "fe5f375b4fae61ae97579c7a648e6ece969ecbffde54a5532f964544320e4478"), looks := false }, kinds := [], alts := [], laidByText := true, laidKinds := [.data], laidTests := true, laidLooks := .later }
def KindWithCardSaid : Prop := Claim7.holds Tryd.pinned (.plain (OpenSpec.ofChange kindWithSpec)) kindWithCard

/-- THE TIED CARD OF 'demesnelaw05.KindApart'. -/
def kindApartCard : Claim7 := { stood := { row := kindApartRow, standIns := [], harness := (true, "fe5f375b4fae61ae97579c7a648e6ece969ecbffde54a5532f964544320e4478"), looks := false }, kinds := [], alts := [], laidByText := true, laidKinds := [.data], laidTests := true, laidLooks := .later }
def KindApartCardSaid : Prop := Claim7.holds Tryd.pinned (.plain (OpenSpec.ofChange kindApartSpec)) kindApartCard

/-- THE SECOND FORM's CARD OF 'demesnelaw05.KindTells'. -/
def kindTellsUptoCard : Claim7 := { stood := { row := kindTellsUptoRow, standIns := [], harness := (true, "fe5f375b4fae61ae97579c7a648e6ece969ecbffde54a5532f964544320e4478"), looks := false }, kinds := [], alts := [], laidByText := true, laidKinds := [.data], laidTests := true, laidLooks := .later }
def KindTellsUptoCardSaid : Prop := Claim7.holds Tryd.pinned (.plain (OpenSpec.upto kindTellsSpec)) kindTellsUptoCard

/-- THE SECOND FORM's CARD OF 'demesnelaw05.KindWith'. -/
def kindWithUptoCard : Claim7 := { stood := { row := kindWithUptoRow, standIns := [], harness := (true, "fe5f375b4fae61ae97579c7a648e6ece969ecbffde54a5532f964544320e4478"), looks := false }, kinds := [], alts := [], laidByText := true, laidKinds := [.data], laidTests := true, laidLooks := .later }
def KindWithUptoCardSaid : Prop := Claim7.holds Tryd.pinned (.plain (OpenSpec.upto kindWithSpec)) kindWithUptoCard

/-- THE SECOND FORM's CARD OF 'demesnelaw05.KindApart'. -/
def kindApartUptoCard : Claim7 := { stood := { row := kindApartUptoRow, standIns := [], harness := (true, "fe5f375b4fae61ae97579c7a648e6ece969ecbffde54a5532f964544320e4478"), looks := false }, kinds := [], alts := [], laidByText := true, laidKinds := [.data], laidTests := true, laidLooks := .later }
def KindApartUptoCardSaid : Prop := Claim7.holds Tryd.pinned (.plain (OpenSpec.upto kindApartSpec)) kindApartUptoCard
end Rows
end Go.Proofs.YtemhfbfodpeeaaaDoor
