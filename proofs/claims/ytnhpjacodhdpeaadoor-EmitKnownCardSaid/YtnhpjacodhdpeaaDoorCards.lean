/-
  DERIVED. GIVEN WITH THE SEED: THE CARDS: each row of YtnhpjacodhdpeaaDoorRows.lean that lists a variable, with what it lists TIED to the program's text (the seventh form; the later family's looks); each row that meets fmt, with fmt's text TOLD by the authors' own Lean function (tested against real Go, not proved from fmt's source: count such statements apart). THE CARD IS WHAT COUNTS. Prove the row's statement (the work); the ties are given (YtnhpjacodhdpeaaDoorTie.lean); close each card by the builder's one call (the guide's Derived/Test/ToyasCard.lean, 'card_holds'). Laid BY PROGRAM, IN A SANDBOX (cutbox-door.mjs). By AI agents, Wed Nov 11 2026. No macro, syntax, notation, axiom, sorry.
-/
import Derived.Test.YtnhpjacodhdpeaaDoorRows
import GoSem.ClaimSeven
namespace Go.Proofs.YtnhpjacodhdpeaaDoor
namespace Rows

/-- THE TIED CARD OF 'orrerylaw09.TraceCalls'. -/
def traceCallsCard : Claim7 := { stood := { row := traceCallsRow, standIns := [], harness := (true, "8adaa9df5afd60536f3f2df439ccb40c884fe76cd4141744b4fa5047299e6e6c"), looks := true }, kinds := [], alts := [], laidByText := true, laidKinds := [.data, .data, .data], laidTests := true, laidLooks := .later }
def TraceCallsCardSaid : Prop := Claim7.holds Tryd.pinned (.plain (OpenSpec.ofChange traceCallsSpec)) traceCallsCard

/-- THE TIED CARD OF 'orrerylaw09.TracePacks'. -/
def tracePacksCard : Claim7 := { stood := { row := tracePacksRow, standIns := [], harness := (true, "8adaa9df5afd60536f3f2df439ccb40c884fe76cd4141744b4fa5047299e6e6c"), looks := true }, kinds := [], alts := [], laidByText := true, laidKinds := [.data, .data, .data], laidTests := true, laidLooks := .later }
def TracePacksCardSaid : Prop := Claim7.holds Tryd.pinned (.plain (OpenSpec.ofChange tracePacksSpec)) tracePacksCard

/-- THE TIED CARD OF 'orrerylaw09.TraceForm'. -/
def traceFormCard : Claim7 := { stood := { row := traceFormRow, standIns := [], harness := (true, "8adaa9df5afd60536f3f2df439ccb40c884fe76cd4141744b4fa5047299e6e6c"), looks := true }, kinds := [], alts := [], laidByText := true, laidKinds := [.data, .data, .data], laidTests := true, laidLooks := .later }
def TraceFormCardSaid : Prop := Claim7.holds Tryd.pinned (.plain (OpenSpec.ofChange traceFormSpec)) traceFormCard

/-- THE TIED CARD OF 'orrerylaw09.TraceDiffers'. -/
def traceDiffersCard : Claim7 := { stood := { row := traceDiffersRow, standIns := [], harness := (true, "8adaa9df5afd60536f3f2df439ccb40c884fe76cd4141744b4fa5047299e6e6c"), looks := true }, kinds := [], alts := [], laidByText := true, laidKinds := [.data, .data, .data], laidTests := true, laidLooks := .later }
def TraceDiffersCardSaid : Prop := Claim7.holds Tryd.pinned (.plain (OpenSpec.ofChange traceDiffersSpec)) traceDiffersCard

/-- THE TIED CARD OF 'orrerylaw09.TracePacked'. -/
def tracePackedCard : Claim7 := { stood := { row := tracePackedRow, standIns := [], harness := (true, "8adaa9df5afd60536f3f2df439ccb40c884fe76cd4141744b4fa5047299e6e6c"), looks := true }, kinds := [], alts := [], laidByText := true, laidKinds := [.data, .data, .data], laidTests := true, laidLooks := .later }
def TracePackedCardSaid : Prop := Claim7.holds Tryd.pinned (.plain (OpenSpec.ofChange tracePackedSpec)) tracePackedCard

/-- THE TIED CARD OF 'orrerylaw09.TraceKnown'. -/
def traceKnownCard : Claim7 := { stood := { row := traceKnownRow, standIns := [], harness := (true, "8adaa9df5afd60536f3f2df439ccb40c884fe76cd4141744b4fa5047299e6e6c"), looks := true }, kinds := [], alts := [], laidByText := true, laidKinds := [.data, .data, .data], laidTests := true, laidLooks := .later }
def TraceKnownCardSaid : Prop := Claim7.holds Tryd.pinned (.plain (OpenSpec.ofChange traceKnownSpec)) traceKnownCard

/-- THE TIED CARD OF 'orrerylaw10.EmitKnown'. -/
def emitKnownCard : Claim7 := { stood := { row := emitKnownRow, standIns := [], harness := (true, "8adaa9df5afd60536f3f2df439ccb40c884fe76cd4141744b4fa5047299e6e6c"), looks := true }, kinds := [], alts := [], laidByText := true, laidKinds := [.data, .data, .data], laidTests := true, laidLooks := .later }
def EmitKnownCardSaid : Prop := Claim7.holds Tryd.pinned (.plain (OpenSpec.ofChange emitKnownSpec)) emitKnownCard

/-- THE SECOND FORM's CARD OF 'orrerylaw09.TraceCalls'. -/
def traceCallsUptoCard : Claim7 := { stood := { row := traceCallsUptoRow, standIns := [], harness := (true, "8adaa9df5afd60536f3f2df439ccb40c884fe76cd4141744b4fa5047299e6e6c"), looks := true }, kinds := [], alts := [], laidByText := true, laidKinds := [.data, .data, .data], laidTests := true, laidLooks := .later }
def TraceCallsUptoCardSaid : Prop := Claim7.holds Tryd.pinned (.plain (OpenSpec.upto traceCallsSpec)) traceCallsUptoCard

/-- THE SECOND FORM's CARD OF 'orrerylaw09.TracePacks'. -/
def tracePacksUptoCard : Claim7 := { stood := { row := tracePacksUptoRow, standIns := [], harness := (true, "8adaa9df5afd60536f3f2df439ccb40c884fe76cd4141744b4fa5047299e6e6c"), looks := true }, kinds := [], alts := [], laidByText := true, laidKinds := [.data, .data, .data], laidTests := true, laidLooks := .later }
def TracePacksUptoCardSaid : Prop := Claim7.holds Tryd.pinned (.plain (OpenSpec.upto tracePacksSpec)) tracePacksUptoCard

/-- THE SECOND FORM's CARD OF 'orrerylaw09.TraceForm'. -/
def traceFormUptoCard : Claim7 := { stood := { row := traceFormUptoRow, standIns := [], harness := (true, "8adaa9df5afd60536f3f2df439ccb40c884fe76cd4141744b4fa5047299e6e6c"), looks := true }, kinds := [], alts := [], laidByText := true, laidKinds := [.data, .data, .data], laidTests := true, laidLooks := .later }
def TraceFormUptoCardSaid : Prop := Claim7.holds Tryd.pinned (.plain (OpenSpec.upto traceFormSpec)) traceFormUptoCard

/-- THE SECOND FORM's CARD OF 'orrerylaw09.TraceDiffers'. -/
def traceDiffersUptoCard : Claim7 := { stood := { row := traceDiffersUptoRow, standIns := [], harness := (true, "8adaa9df5afd60536f3f2df439ccb40c884fe76cd4141744b4fa5047299e6e6c"), looks := true }, kinds := [], alts := [], laidByText := true, laidKinds := [.data, .data, .data], laidTests := true, laidLooks := .later }
def TraceDiffersUptoCardSaid : Prop := Claim7.holds Tryd.pinned (.plain (OpenSpec.upto traceDiffersSpec)) traceDiffersUptoCard

/-- THE SECOND FORM's CARD OF 'orrerylaw09.TracePacked'. -/
def tracePackedUptoCard : Claim7 := { stood := { row := tracePackedUptoRow, standIns := [], harness := (true, "8adaa9df5afd60536f3f2df439ccb40c884fe76cd4141744b4fa5047299e6e6c"), looks := true }, kinds := [], alts := [], laidByText := true, laidKinds := [.data, .data, .data], laidTests := true, laidLooks := .later }
def TracePackedUptoCardSaid : Prop := Claim7.holds Tryd.pinned (.plain (OpenSpec.upto tracePackedSpec)) tracePackedUptoCard

/-- THE SECOND FORM's CARD OF 'orrerylaw09.TraceKnown'. -/
def traceKnownUptoCard : Claim7 := { stood := { row := traceKnownUptoRow, standIns := [], harness := (true, "8adaa9df5afd60536f3f2df439ccb40c884fe76cd4141744b4fa5047299e6e6c"), looks := true }, kinds := [], alts := [], laidByText := true, laidKinds := [.data, .data, .data], laidTests := true, laidLooks := .later }
def TraceKnownUptoCardSaid : Prop := Claim7.holds Tryd.pinned (.plain (OpenSpec.upto traceKnownSpec)) traceKnownUptoCard

/-- THE SECOND FORM's CARD OF 'orrerylaw10.EmitKnown'. -/
def emitKnownUptoCard : Claim7 := { stood := { row := emitKnownUptoRow, standIns := [], harness := (true, "8adaa9df5afd60536f3f2df439ccb40c884fe76cd4141744b4fa5047299e6e6c"), looks := true }, kinds := [], alts := [], laidByText := true, laidKinds := [.data, .data, .data], laidTests := true, laidLooks := .later }
def EmitKnownUptoCardSaid : Prop := Claim7.holds Tryd.pinned (.plain (OpenSpec.upto emitKnownSpec)) emitKnownUptoCard
end Rows
end Go.Proofs.YtnhpjacodhdpeaaDoor
