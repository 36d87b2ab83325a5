/-
  DERIVED. GIVEN WITH THE SEED: THE CARDS: each row of YtenbklkjfebajaaDoorRows.lean that lists a variable, with what it lists TIED to the program's text (the seventh form; the later family's looks); each row that meets fmt, with fmt's text TOLD by the authors' own Lean function (tested against real Go, not proved from fmt's source: count such statements apart). THE CARD IS WHAT COUNTS. Prove the row's statement (the work); the ties are given (YtenbklkjfebajaaDoorTie.lean); close each card by the builder's one call (the guide's Derived/Test/ToyasCard.lean, 'card_holds'). Laid BY PROGRAM, IN A SANDBOX (cutbox-door.mjs). By AI agents, Wed Nov 11 2026. No macro, syntax, notation, axiom, sorry.
-/
import Derived.Test.YtenbklkjfebajaaDoorRows
import GoSem.ClaimSeven
namespace Go.Proofs.YtenbklkjfebajaaDoor
namespace Rows

/-- THE TIED CARD OF 'demesnelaw02.WordTells'. -/
def wordTellsCard : Claim7 := { stood := { row := wordTellsRow, standIns := [], harness := (true, "bbb43da01a4a695e3f997627eb698840822d505b9004e12756d2b104694e2b27"), looks := false }, kinds := [], alts := [], laidByText := true, laidKinds := [.data], laidTests := true, laidLooks := .later }
def WordTellsCardSaid : Prop := Claim7.holds Tryd.pinned (.plain (OpenSpec.ofChange wordTellsSpec)) wordTellsCard

/-- THE TIED CARD OF 'demesnelaw02.WordNumber'. -/
def wordNumberCard : Claim7 := { stood := { row := wordNumberRow, standIns := [], harness := (true, "bbb43da01a4a695e3f997627eb698840822d505b9004e12756d2b104694e2b27"), looks := false }, kinds := [], alts := [], laidByText := true, laidKinds := [.data, .data, .data, .data], laidTests := true, laidLooks := .later }
def WordNumberCardSaid : Prop := Claim7.holds Tryd.pinned (.plain (OpenSpec.ofChange wordNumberSpec)) wordNumberCard

/-- THE TIED CARD OF 'demesnelaw02.WordBack'. -/
def wordBackCard : Claim7 := { stood := { row := wordBackRow, standIns := [], harness := (true, "bbb43da01a4a695e3f997627eb698840822d505b9004e12756d2b104694e2b27"), looks := false }, kinds := [], alts := [], laidByText := true, laidKinds := [.data, .data, .data, .data], laidTests := true, laidLooks := .later }
def WordBackCardSaid : Prop := Claim7.holds Tryd.pinned (.plain (OpenSpec.ofChange wordBackSpec)) wordBackCard

/-- THE SECOND FORM's CARD OF 'demesnelaw02.WordTells'. -/
def wordTellsUptoCard : Claim7 := { stood := { row := wordTellsUptoRow, standIns := [], harness := (true, "bbb43da01a4a695e3f997627eb698840822d505b9004e12756d2b104694e2b27"), looks := false }, kinds := [], alts := [], laidByText := true, laidKinds := [.data], laidTests := true, laidLooks := .later }
def WordTellsUptoCardSaid : Prop := Claim7.holds Tryd.pinned (.plain (OpenSpec.upto wordTellsSpec)) wordTellsUptoCard

/-- THE SECOND FORM's CARD OF 'demesnelaw02.WordNumber'. -/
def wordNumberUptoCard : Claim7 := { stood := { row := wordNumberUptoRow, standIns := [], harness := (true, "bbb43da01a4a695e3f997627eb698840822d505b9004e12756d2b104694e2b27"), looks := false }, kinds := [], alts := [], laidByText := true, laidKinds := [.data, .data, .data, .data], laidTests := true, laidLooks := .later }
def WordNumberUptoCardSaid : Prop := Claim7.holds Tryd.pinned (.plain (OpenSpec.upto wordNumberSpec)) wordNumberUptoCard

/-- THE SECOND FORM's CARD OF 'demesnelaw02.WordBack'. -/
def wordBackUptoCard : Claim7 := { stood := { row := wordBackUptoRow, standIns := [], harness := (true, "bbb43da01a4a695e3f997627eb698840822d505b9004e12756d2b104694e2b27"), looks := false }, kinds := [], alts := [], laidByText := true, laidKinds := [.data, .data, .data, .data], laidTests := true, laidLooks := .later }
def WordBackUptoCardSaid : Prop := Claim7.holds Tryd.pinned (.plain (OpenSpec.upto wordBackSpec)) wordBackUptoCard
end Rows
end Go.Proofs.YtenbklkjfebajaaDoor
