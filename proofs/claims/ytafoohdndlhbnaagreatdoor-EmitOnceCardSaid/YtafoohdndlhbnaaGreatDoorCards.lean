/-
  DERIVED. GIVEN WITH THE SEED: THE CARDS: each row of YtafoohdndlhbnaaGreatDoorRows.lean that lists a variable, with what it lists TIED to the program's text (the seventh form; the later family's looks); each row that meets fmt, with fmt's text TOLD by the authors' own Lean function (tested against real Go, not proved from fmt's source: count such statements apart). THE CARD IS WHAT COUNTS. Prove the row's statement (the work); the ties are given (YtafoohdndlhbnaaGreatDoorTie.lean); close each card by the builder's one call (the guide's Derived/Test/ToyasCard.lean, 'card_holds'). Laid BY PROGRAM, IN A SANDBOX (cutbox-door.mjs). By AI agents, Wed Nov 11 2026. No macro, syntax, notation, axiom, sorry.
-/
import Derived.Test.YtafoohdndlhbnaaGreatDoorRows
import GoSem.ClaimSeven
namespace Go.Proofs.YtafoohdndlhbnaaGreatDoor
namespace Rows

/-- THE TIED CARD OF 'orrerylaw10.EmitTells'. -/
def emitTellsCard : Claim7 := { stood := { row := emitTellsRow, standIns := [], harness := (true, "1beba393cb32252261ce1193bcc6a1bd2db01ec76690b3dd0857632e6cc0942d"), looks := true }, kinds := [], alts := [], laidByText := true, laidKinds := [.data, .data, .data], laidTests := true, laidLooks := .later }
def EmitTellsCardSaid : Prop := Claim7.holds Tryz.pinned (.plain (OpenSpec.ofChange emitTellsSpec)) emitTellsCard

/-- THE TIED CARD OF 'orrerylaw10.EmitOnce'. -/
def emitOnceCard : Claim7 := { stood := { row := emitOnceRow, standIns := [], harness := (true, "1beba393cb32252261ce1193bcc6a1bd2db01ec76690b3dd0857632e6cc0942d"), looks := true }, kinds := [], alts := [], laidByText := true, laidKinds := [.data, .data, .data, .data, .sentinel, .sentinel, .pinned], laidTests := true, laidLooks := .later }
def EmitOnceCardSaid : Prop := Claim7.holds Tryz.pinned (.plain (OpenSpec.ofChange emitOnceSpec)) emitOnceCard

/-- THE TIED CARD OF 'orrerylaw11.ReadBack'. -/
def readBackCard : Claim7 := { stood := { row := readBackRow, standIns := [], harness := (true, "1beba393cb32252261ce1193bcc6a1bd2db01ec76690b3dd0857632e6cc0942d"), looks := true }, kinds := [], alts := [], laidByText := true, laidKinds := [.data, .data, .data, .data, .sentinel, .sentinel, .pinned], laidTests := true, laidLooks := .later }
def ReadBackCardSaid : Prop := Claim7.holds Tryz.pinned (.plain (OpenSpec.ofChange readBackSpec)) readBackCard

/-- THE TIED CARD OF 'orrerylaw11.ReadForm'. -/
def readFormCard : Claim7 := { stood := { row := readFormRow, standIns := [], harness := (true, "1beba393cb32252261ce1193bcc6a1bd2db01ec76690b3dd0857632e6cc0942d"), looks := true }, kinds := [], alts := [], laidByText := true, laidKinds := [.data, .data, .data, .data, .sentinel, .sentinel, .pinned], laidTests := true, laidLooks := .later }
def ReadFormCardSaid : Prop := Claim7.holds Tryz.pinned (.plain (OpenSpec.ofChange readFormSpec)) readFormCard

/-- THE TIED CARD OF 'orrerylaw11.ReadOrder'. -/
def readOrderCard : Claim7 := { stood := { row := readOrderRow, standIns := [], harness := (true, "1beba393cb32252261ce1193bcc6a1bd2db01ec76690b3dd0857632e6cc0942d"), looks := true }, kinds := [], alts := [], laidByText := true, laidKinds := [.data, .data, .data, .data, .sentinel, .sentinel, .pinned], laidTests := true, laidLooks := .later }
def ReadOrderCardSaid : Prop := Claim7.holds Tryz.pinned (.plain (OpenSpec.ofChange readOrderSpec)) readOrderCard

/-- THE TIED CARD OF 'orrerylaw11.ReadKnown'. -/
def readKnownCard : Claim7 := { stood := { row := readKnownRow, standIns := [], harness := (true, "1beba393cb32252261ce1193bcc6a1bd2db01ec76690b3dd0857632e6cc0942d"), looks := true }, kinds := [], alts := [], laidByText := true, laidKinds := [.data, .data, .data, .data, .sentinel, .sentinel, .pinned], laidTests := true, laidLooks := .later }
def ReadKnownCardSaid : Prop := Claim7.holds Tryz.pinned (.plain (OpenSpec.ofChange readKnownSpec)) readKnownCard

/-- THE SECOND FORM's CARD OF 'orrerylaw10.EmitTells'. -/
def emitTellsUptoCard : Claim7 := { stood := { row := emitTellsUptoRow, standIns := [], harness := (true, "1beba393cb32252261ce1193bcc6a1bd2db01ec76690b3dd0857632e6cc0942d"), looks := true }, kinds := [], alts := [], laidByText := true, laidKinds := [.data, .data, .data], laidTests := true, laidLooks := .later }
def EmitTellsUptoCardSaid : Prop := Claim7.holds Tryz.pinned (.plain (OpenSpec.upto emitTellsSpec)) emitTellsUptoCard

/-- THE SECOND FORM's CARD OF 'orrerylaw10.EmitOnce'. -/
def emitOnceUptoCard : Claim7 := { stood := { row := emitOnceUptoRow, standIns := [], harness := (true, "1beba393cb32252261ce1193bcc6a1bd2db01ec76690b3dd0857632e6cc0942d"), looks := true }, kinds := [], alts := [], laidByText := true, laidKinds := [.data, .data, .data, .data, .sentinel, .sentinel, .pinned], laidTests := true, laidLooks := .later }
def EmitOnceUptoCardSaid : Prop := Claim7.holds Tryz.pinned (.plain (OpenSpec.upto emitOnceSpec)) emitOnceUptoCard

/-- THE SECOND FORM's CARD OF 'orrerylaw11.ReadBack'. -/
def readBackUptoCard : Claim7 := { stood := { row := readBackUptoRow, standIns := [], harness := (true, "1beba393cb32252261ce1193bcc6a1bd2db01ec76690b3dd0857632e6cc0942d"), looks := true }, kinds := [], alts := [], laidByText := true, laidKinds := [.data, .data, .data, .data, .sentinel, .sentinel, .pinned], laidTests := true, laidLooks := .later }
def ReadBackUptoCardSaid : Prop := Claim7.holds Tryz.pinned (.plain (OpenSpec.upto readBackSpec)) readBackUptoCard

/-- THE SECOND FORM's CARD OF 'orrerylaw11.ReadForm'. -/
def readFormUptoCard : Claim7 := { stood := { row := readFormUptoRow, standIns := [], harness := (true, "1beba393cb32252261ce1193bcc6a1bd2db01ec76690b3dd0857632e6cc0942d"), looks := true }, kinds := [], alts := [], laidByText := true, laidKinds := [.data, .data, .data, .data, .sentinel, .sentinel, .pinned], laidTests := true, laidLooks := .later }
def ReadFormUptoCardSaid : Prop := Claim7.holds Tryz.pinned (.plain (OpenSpec.upto readFormSpec)) readFormUptoCard

/-- THE SECOND FORM's CARD OF 'orrerylaw11.ReadOrder'. -/
def readOrderUptoCard : Claim7 := { stood := { row := readOrderUptoRow, standIns := [], harness := (true, "1beba393cb32252261ce1193bcc6a1bd2db01ec76690b3dd0857632e6cc0942d"), looks := true }, kinds := [], alts := [], laidByText := true, laidKinds := [.data, .data, .data, .data, .sentinel, .sentinel, .pinned], laidTests := true, laidLooks := .later }
def ReadOrderUptoCardSaid : Prop := Claim7.holds Tryz.pinned (.plain (OpenSpec.upto readOrderSpec)) readOrderUptoCard

/-- THE SECOND FORM's CARD OF 'orrerylaw11.ReadKnown'. -/
def readKnownUptoCard : Claim7 := { stood := { row := readKnownUptoRow, standIns := [], harness := (true, "1beba393cb32252261ce1193bcc6a1bd2db01ec76690b3dd0857632e6cc0942d"), looks := true }, kinds := [], alts := [], laidByText := true, laidKinds := [.data, .data, .data, .data, .sentinel, .sentinel, .pinned], laidTests := true, laidLooks := .later }
def ReadKnownUptoCardSaid : Prop := Claim7.holds Tryz.pinned (.plain (OpenSpec.upto readKnownSpec)) readKnownUptoCard
end Rows
end Go.Proofs.YtafoohdndlhbnaaGreatDoor
