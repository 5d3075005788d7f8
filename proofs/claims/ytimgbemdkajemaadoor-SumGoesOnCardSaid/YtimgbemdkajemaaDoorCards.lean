/-
  DERIVED. GIVEN WITH THE SEED: THE CARDS: each row of YtimgbemdkajemaaDoorRows.lean that lists a variable, with what it lists TIED to the program's text (the seventh form; the later family's looks); each row that meets fmt, with fmt's text TOLD by the authors' own Lean function (tested against real Go, not proved from fmt's source: count such statements apart). THE CARD IS WHAT COUNTS. Prove the row's statement (the work); the ties are given (YtimgbemdkajemaaDoorTie.lean); close each card by the builder's one call (the guide's Derived/Test/ToyasCard.lean, 'card_holds'). Laid BY PROGRAM, IN A SANDBOX (cutbox-door.mjs). By AI agents, Wed Nov 11 2026. No macro, syntax, notation, axiom, sorry.
-/
import Derived.Test.YtimgbemdkajemaaDoorRows
import GoSem.ClaimSeven
namespace Go.Proofs.YtimgbemdkajemaaDoor
namespace Rows

/-- THE TIED CARD OF 'scrivenerlaw01.SumOf'. -/
def sumOfCard : Claim7 := { stood := { row := sumOfRow, standIns := [], harness := (true, "cd226d575b5c80970c2956fcc36c2eb3e20e786afaf618a27b15dfb7d5d915c6"), looks := false }, kinds := [], alts := [], laidByText := true, laidKinds := [.data, .data], laidTests := true, laidLooks := .later }
def SumOfCardSaid : Prop := Claim7.holds Tryd.pinned (.plain (OpenSpec.ofChange sumOfSpec)) sumOfCard

/-- THE TIED CARD OF 'scrivenerlaw01.SumSeals'. -/
def sumSealsCard : Claim7 := { stood := { row := sumSealsRow, standIns := [], harness := (true, "cd226d575b5c80970c2956fcc36c2eb3e20e786afaf618a27b15dfb7d5d915c6"), looks := false }, kinds := [], alts := [], laidByText := true, laidKinds := [.data, .data], laidTests := true, laidLooks := .later }
def SumSealsCardSaid : Prop := Claim7.holds Tryd.pinned (.plain (OpenSpec.ofChange sumSealsSpec)) sumSealsCard

/-- THE TIED CARD OF 'scrivenerlaw01.SumGoesOn'. -/
def sumGoesOnCard : Claim7 := { stood := { row := sumGoesOnRow, standIns := [], harness := (true, "cd226d575b5c80970c2956fcc36c2eb3e20e786afaf618a27b15dfb7d5d915c6"), looks := false }, kinds := [], alts := [], laidByText := true, laidKinds := [.data, .data], laidTests := true, laidLooks := .later }
def SumGoesOnCardSaid : Prop := Claim7.holds Tryd.pinned (.plain (OpenSpec.ofChange sumGoesOnSpec)) sumGoesOnCard

/-- THE TIED CARD OF 'scrivenerlaw01.SumOneForAll'. -/
def sumOneForAllCard : Claim7 := { stood := { row := sumOneForAllRow, standIns := [], harness := (true, "cd226d575b5c80970c2956fcc36c2eb3e20e786afaf618a27b15dfb7d5d915c6"), looks := false }, kinds := [], alts := [], laidByText := true, laidKinds := [.data, .data], laidTests := true, laidLooks := .later }
def SumOneForAllCardSaid : Prop := Claim7.holds Tryd.pinned (.plain (OpenSpec.ofChange sumOneForAllSpec)) sumOneForAllCard

/-- THE TIED CARD OF 'scrivenerlaw01.SumFar'. -/
def sumFarCard : Claim7 := { stood := { row := sumFarRow, standIns := [], harness := (true, "cd226d575b5c80970c2956fcc36c2eb3e20e786afaf618a27b15dfb7d5d915c6"), looks := false }, kinds := [], alts := [], laidByText := true, laidKinds := [.data, .data], laidTests := true, laidLooks := .later }
def SumFarCardSaid : Prop := Claim7.holds Tryd.pinned (.plain (OpenSpec.ofChange sumFarSpec)) sumFarCard

/-- THE SECOND FORM's CARD OF 'scrivenerlaw01.SumOf'. -/
def sumOfUptoCard : Claim7 := { stood := { row := sumOfUptoRow, standIns := [], harness := (true, "cd226d575b5c80970c2956fcc36c2eb3e20e786afaf618a27b15dfb7d5d915c6"), looks := false }, kinds := [], alts := [], laidByText := true, laidKinds := [.data, .data], laidTests := true, laidLooks := .later }
def SumOfUptoCardSaid : Prop := Claim7.holds Tryd.pinned (.plain (OpenSpec.upto sumOfSpec)) sumOfUptoCard

/-- THE SECOND FORM's CARD OF 'scrivenerlaw01.SumSeals'. -/
def sumSealsUptoCard : Claim7 := { stood := { row := sumSealsUptoRow, standIns := [], harness := (true, "cd226d575b5c80970c2956fcc36c2eb3e20e786afaf618a27b15dfb7d5d915c6"), looks := false }, kinds := [], alts := [], laidByText := true, laidKinds := [.data, .data], laidTests := true, laidLooks := .later }
def SumSealsUptoCardSaid : Prop := Claim7.holds Tryd.pinned (.plain (OpenSpec.upto sumSealsSpec)) sumSealsUptoCard

/-- THE SECOND FORM's CARD OF 'scrivenerlaw01.SumGoesOn'. -/
def sumGoesOnUptoCard : Claim7 := { stood := { row := sumGoesOnUptoRow, standIns := [], harness := (true, "cd226d575b5c80970c2956fcc36c2eb3e20e786afaf618a27b15dfb7d5d915c6"), looks := false }, kinds := [], alts := [], laidByText := true, laidKinds := [.data, .data], laidTests := true, laidLooks := .later }
def SumGoesOnUptoCardSaid : Prop := Claim7.holds Tryd.pinned (.plain (OpenSpec.upto sumGoesOnSpec)) sumGoesOnUptoCard

/-- THE SECOND FORM's CARD OF 'scrivenerlaw01.SumOneForAll'. -/
def sumOneForAllUptoCard : Claim7 := { stood := { row := sumOneForAllUptoRow, standIns := [], harness := (true, "cd226d575b5c80970c2956fcc36c2eb3e20e786afaf618a27b15dfb7d5d915c6"), looks := false }, kinds := [], alts := [], laidByText := true, laidKinds := [.data, .data], laidTests := true, laidLooks := .later }
def SumOneForAllUptoCardSaid : Prop := Claim7.holds Tryd.pinned (.plain (OpenSpec.upto sumOneForAllSpec)) sumOneForAllUptoCard

/-- THE SECOND FORM's CARD OF 'scrivenerlaw01.SumFar'. -/
def sumFarUptoCard : Claim7 := { stood := { row := sumFarUptoRow, standIns := [], harness := (true, "cd226d575b5c80970c2956fcc36c2eb3e20e786afaf618a27b15dfb7d5d915c6"), looks := false }, kinds := [], alts := [], laidByText := true, laidKinds := [.data, .data], laidTests := true, laidLooks := .later }
def SumFarUptoCardSaid : Prop := Claim7.holds Tryd.pinned (.plain (OpenSpec.upto sumFarSpec)) sumFarUptoCard
end Rows
end Go.Proofs.YtimgbemdkajemaaDoor
