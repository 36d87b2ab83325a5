/-
  DERIVED. GIVEN WITH THE SEED: THE CARDS: each row of YtjghgpmkepfdhaaGreatDoorRows.lean that lists a variable, with what it lists TIED to the program's text (the seventh form; the later family's looks); each row that meets fmt, with fmt's text TOLD by the authors' own Lean function (tested against real Go, not proved from fmt's source: count such statements apart). THE CARD IS WHAT COUNTS. Prove the row's statement (the work); the ties are given (YtjghgpmkepfdhaaGreatDoorTie.lean); close each card by the builder's one call (the guide's Derived/Test/ToyasCard.lean, 'card_holds'). Laid BY PROGRAM, IN A SANDBOX (cutbox-door.mjs). By AI agents, Wed Nov 11 2026. No macro, syntax, notation, axiom, sorry.
-/
import Derived.Test.YtjghgpmkepfdhaaGreatDoorRows
import GoSem.ClaimSeven
namespace Go.Proofs.YtjghgpmkepfdhaaGreatDoor
namespace Rows

/-- THE TIED CARD OF 'demesnelaw10.SizeTells'. -/
def sizeTellsCard : Claim7 := { stood := { row := sizeTellsRow, standIns := [], harness := (true, "842c3290dc961874234c831eabcc4160f3144008d0a68ca38924b72108682544"), looks := false }, kinds := [], alts := [], laidByText := true, laidKinds := [.data, .data, .data, .data], laidTests := true, laidLooks := .later }
def SizeTellsCardSaid : Prop := Claim7.holds Tryz.pinned (.plain (OpenSpec.ofChange sizeTellsSpec)) sizeTellsCard

/-- THE TIED CARD OF 'demesnelaw10.SizeBare'. -/
def sizeBareCard : Claim7 := { stood := { row := sizeBareRow, standIns := [], harness := (true, "842c3290dc961874234c831eabcc4160f3144008d0a68ca38924b72108682544"), looks := false }, kinds := [], alts := [], laidByText := true, laidKinds := [.data, .data, .data, .data], laidTests := true, laidLooks := .later }
def SizeBareCardSaid : Prop := Claim7.holds Tryz.pinned (.plain (OpenSpec.ofChange sizeBareSpec)) sizeBareCard

/-- THE TIED CARD OF 'demesnelaw10.SizeRead'. -/
def sizeReadCard : Claim7 := { stood := { row := sizeReadRow, standIns := [], harness := (true, "842c3290dc961874234c831eabcc4160f3144008d0a68ca38924b72108682544"), looks := false }, kinds := [], alts := [], laidByText := true, laidKinds := [.data, .data, .data, .data], laidTests := true, laidLooks := .later }
def SizeReadCardSaid : Prop := Claim7.holds Tryz.pinned (.plain (OpenSpec.ofChange sizeReadSpec)) sizeReadCard

/-- THE SECOND FORM's CARD OF 'demesnelaw10.SizeTells'. -/
def sizeTellsUptoCard : Claim7 := { stood := { row := sizeTellsUptoRow, standIns := [], harness := (true, "842c3290dc961874234c831eabcc4160f3144008d0a68ca38924b72108682544"), looks := false }, kinds := [], alts := [], laidByText := true, laidKinds := [.data, .data, .data, .data], laidTests := true, laidLooks := .later }
def SizeTellsUptoCardSaid : Prop := Claim7.holds Tryz.pinned (.plain (OpenSpec.upto sizeTellsSpec)) sizeTellsUptoCard

/-- THE SECOND FORM's CARD OF 'demesnelaw10.SizeBare'. -/
def sizeBareUptoCard : Claim7 := { stood := { row := sizeBareUptoRow, standIns := [], harness := (true, "842c3290dc961874234c831eabcc4160f3144008d0a68ca38924b72108682544"), looks := false }, kinds := [], alts := [], laidByText := true, laidKinds := [.data, .data, .data, .data], laidTests := true, laidLooks := .later }
def SizeBareUptoCardSaid : Prop := Claim7.holds Tryz.pinned (.plain (OpenSpec.upto sizeBareSpec)) sizeBareUptoCard

/-- THE SECOND FORM's CARD OF 'demesnelaw10.SizeRead'. -/
def sizeReadUptoCard : Claim7 := { stood := { row := sizeReadUptoRow, standIns := [], harness := (true, "842c3290dc961874234c831eabcc4160f3144008d0a68ca38924b72108682544"), looks := false }, kinds := [], alts := [], laidByText := true, laidKinds := [.data, .data, .data, .data], laidTests := true, laidLooks := .later }
def SizeReadUptoCardSaid : Prop := Claim7.holds Tryz.pinned (.plain (OpenSpec.upto sizeReadSpec)) sizeReadUptoCard
end Rows
end Go.Proofs.YtjghgpmkepfdhaaGreatDoor
