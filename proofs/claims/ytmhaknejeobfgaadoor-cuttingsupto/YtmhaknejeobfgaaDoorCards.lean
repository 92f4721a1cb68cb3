/-
  DERIVED. GIVEN WITH THE SEED: THE CARDS: each row of YtmhaknejeobfgaaDoorRows.lean that lists a variable, with what it lists TIED to the program's text (the seventh form; the later family's looks); each row that meets fmt, with fmt's text TOLD by the authors' own Lean function (tested against real Go, not proved from fmt's source: count such statements apart). THE CARD IS WHAT COUNTS. Prove the row's statement (the work); the ties are given (YtmhaknejeobfgaaDoorTie.lean); close each card by the builder's one call (the guide's Derived/Test/ToyasCard.lean, 'card_holds'). Laid BY PROGRAM, IN A SANDBOX (cutbox-door.mjs). By AI agents, Wed Nov 11 2026. No macro, syntax, notation, axiom, sorry.
-/
import Derived.Test.YtmhaknejeobfgaaDoorRows
import GoSem.ClaimSeven
namespace Go.Proofs.YtmhaknejeobfgaaDoor
namespace Rows

/-- THE TIED CARD OF 'equatelaw.Cuttings'. -/
def cuttingsCard : Claim7 := { stood := { row := cuttingsRow, standIns := [], harness := (true, "11a90a157ef966dd079e76aa32876eb0a52dca89de52e3cab2574f96926e2a21"), looks := true }, kinds := [], alts := [], laidByText := true, laidKinds := [.data, .data, .data, .data, .sentinel, .sentinel, .listed, .data, .pinned], laidTests := true, laidLooks := .later }
def CuttingsCardSaid : Prop := Claim7.holds Tryd.pinned (.plain (OpenSpec.ofChange cuttingsSpec)) cuttingsCard

/-- THE SECOND FORM's CARD OF 'equatelaw.Cuttings'. -/
def cuttingsUptoCard : Claim7 := { stood := { row := cuttingsUptoRow, standIns := [], harness := (true, "11a90a157ef966dd079e76aa32876eb0a52dca89de52e3cab2574f96926e2a21"), looks := true }, kinds := [], alts := [], laidByText := true, laidKinds := [.data, .data, .data, .data, .sentinel, .sentinel, .listed, .data, .pinned], laidTests := true, laidLooks := .later }
def CuttingsUptoCardSaid : Prop := Claim7.holds Tryd.pinned (.plain (OpenSpec.upto cuttingsSpec)) cuttingsUptoCard
end Rows
end Go.Proofs.YtmhaknejeobfgaaDoor
