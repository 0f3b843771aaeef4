/-
  DERIVED. GIVEN WITH THE SEED: THE CARDS: each row of YtnmdpolgbdkffaaDoorRows.lean that lists a variable, with what it lists TIED to the program's text (the seventh form; the later family's looks); each row that meets fmt, with fmt's text TOLD by the authors' own Lean function (tested against real Go, not proved from fmt's source: count such statements apart). THE CARD IS WHAT COUNTS. Prove the row's statement (the work); the ties are given (YtnmdpolgbdkffaaDoorTie.lean); close each card by the builder's one call (the guide's Derived/Test/ToyasCard.lean, 'card_holds'). Laid BY PROGRAM, IN A SANDBOX (cutbox-door.mjs). By AI agents, Wed Nov 11 2026. No macro, syntax, notation, axiom, sorry.
-/
import Derived.Test.YtnmdpolgbdkffaaDoorRows
import GoSem.ClaimSeven
namespace Go.Proofs.YtnmdpolgbdkffaaDoor
namespace Rows

/-- THE TIED CARD OF 'encausticlaw06.PatternSymmetries'. -/
def patternSymmetriesCard : Claim7 := { stood := { row := patternSymmetriesRow, standIns := [], harness := (true, "452311a80df6b8bb3692bd3b4a834cd436728729f06750534141a40ea04808d2"), looks := false }, kinds := [], alts := [], laidByText := true, laidKinds := [.data], laidTests := true, laidLooks := .later }
def PatternSymmetriesCardSaid : Prop := Claim7.holds Tryd.pinned (.plain (OpenSpec.ofChange patternSymmetriesSpec)) patternSymmetriesCard

/-- THE TIED CARD OF 'encausticlaw06.PatternOrbits'. -/
def patternOrbitsCard : Claim7 := { stood := { row := patternOrbitsRow, standIns := [], harness := (true, "452311a80df6b8bb3692bd3b4a834cd436728729f06750534141a40ea04808d2"), looks := false }, kinds := [], alts := [], laidByText := true, laidKinds := [.data], laidTests := true, laidLooks := .later }
def PatternOrbitsCardSaid : Prop := Claim7.holds Tryd.pinned (.plain (OpenSpec.ofChange patternOrbitsSpec)) patternOrbitsCard

/-- THE TIED CARD OF 'encausticlaw06.PatternMoves'. -/
def patternMovesCard : Claim7 := { stood := { row := patternMovesRow, standIns := [], harness := (true, "452311a80df6b8bb3692bd3b4a834cd436728729f06750534141a40ea04808d2"), looks := false }, kinds := [], alts := [], laidByText := true, laidKinds := [.data], laidTests := true, laidLooks := .later }
def PatternMovesCardSaid : Prop := Claim7.holds Tryd.pinned (.plain (OpenSpec.ofChange patternMovesSpec)) patternMovesCard

/-- THE TIED CARD OF 'encausticlaw06.PatternGroup'. -/
def patternGroupCard : Claim7 := { stood := { row := patternGroupRow, standIns := [], harness := (true, "452311a80df6b8bb3692bd3b4a834cd436728729f06750534141a40ea04808d2"), looks := false }, kinds := [], alts := [], laidByText := true, laidKinds := [.data], laidTests := true, laidLooks := .later }
def PatternGroupCardSaid : Prop := Claim7.holds Tryd.pinned (.plain (OpenSpec.ofChange patternGroupSpec)) patternGroupCard

/-- THE TIED CARD OF 'encausticlaw06.PatternEuler'. -/
def patternEulerCard : Claim7 := { stood := { row := patternEulerRow, standIns := [], harness := (true, "452311a80df6b8bb3692bd3b4a834cd436728729f06750534141a40ea04808d2"), looks := false }, kinds := [], alts := [], laidByText := true, laidKinds := [.data], laidTests := true, laidLooks := .later }
def PatternEulerCardSaid : Prop := Claim7.holds Tryd.pinned (.plain (OpenSpec.ofChange patternEulerSpec)) patternEulerCard

/-- THE TIED CARD OF 'encausticlaw06.PatternSame'. -/
def patternSameCard : Claim7 := { stood := { row := patternSameRow, standIns := [], harness := (true, "452311a80df6b8bb3692bd3b4a834cd436728729f06750534141a40ea04808d2"), looks := false }, kinds := [], alts := [], laidByText := true, laidKinds := [.data], laidTests := true, laidLooks := .later }
def PatternSameCardSaid : Prop := Claim7.holds Tryd.pinned (.plain (OpenSpec.ofChange patternSameSpec)) patternSameCard

/-- THE TIED CARD OF 'encausticlaw06.PatternBurnside'. -/
def patternBurnsideCard : Claim7 := { stood := { row := patternBurnsideRow, standIns := [], harness := (true, "452311a80df6b8bb3692bd3b4a834cd436728729f06750534141a40ea04808d2"), looks := false }, kinds := [], alts := [], laidByText := true, laidKinds := [.data], laidTests := true, laidLooks := .later }
def PatternBurnsideCardSaid : Prop := Claim7.holds Tryd.pinned (.plain (OpenSpec.ofChange patternBurnsideSpec)) patternBurnsideCard

/-- THE SECOND FORM's CARD OF 'encausticlaw06.PatternSymmetries'. -/
def patternSymmetriesUptoCard : Claim7 := { stood := { row := patternSymmetriesUptoRow, standIns := [], harness := (true, "452311a80df6b8bb3692bd3b4a834cd436728729f06750534141a40ea04808d2"), looks := false }, kinds := [], alts := [], laidByText := true, laidKinds := [.data], laidTests := true, laidLooks := .later }
def PatternSymmetriesUptoCardSaid : Prop := Claim7.holds Tryd.pinned (.plain (OpenSpec.upto patternSymmetriesSpec)) patternSymmetriesUptoCard

/-- THE SECOND FORM's CARD OF 'encausticlaw06.PatternOrbits'. -/
def patternOrbitsUptoCard : Claim7 := { stood := { row := patternOrbitsUptoRow, standIns := [], harness := (true, "452311a80df6b8bb3692bd3b4a834cd436728729f06750534141a40ea04808d2"), looks := false }, kinds := [], alts := [], laidByText := true, laidKinds := [.data], laidTests := true, laidLooks := .later }
def PatternOrbitsUptoCardSaid : Prop := Claim7.holds Tryd.pinned (.plain (OpenSpec.upto patternOrbitsSpec)) patternOrbitsUptoCard

/-- THE SECOND FORM's CARD OF 'encausticlaw06.PatternMoves'. -/
def patternMovesUptoCard : Claim7 := { stood := { row := patternMovesUptoRow, standIns := [], harness := (true, "452311a80df6b8bb3692bd3b4a834cd436728729f06750534141a40ea04808d2"), looks := false }, kinds := [], alts := [], laidByText := true, laidKinds := [.data], laidTests := true, laidLooks := .later }
def PatternMovesUptoCardSaid : Prop := Claim7.holds Tryd.pinned (.plain (OpenSpec.upto patternMovesSpec)) patternMovesUptoCard

/-- THE SECOND FORM's CARD OF 'encausticlaw06.PatternGroup'. -/
def patternGroupUptoCard : Claim7 := { stood := { row := patternGroupUptoRow, standIns := [], harness := (true, "452311a80df6b8bb3692bd3b4a834cd436728729f06750534141a40ea04808d2"), looks := false }, kinds := [], alts := [], laidByText := true, laidKinds := [.data], laidTests := true, laidLooks := .later }
def PatternGroupUptoCardSaid : Prop := Claim7.holds Tryd.pinned (.plain (OpenSpec.upto patternGroupSpec)) patternGroupUptoCard

/-- THE SECOND FORM's CARD OF 'encausticlaw06.PatternEuler'. -/
def patternEulerUptoCard : Claim7 := { stood := { row := patternEulerUptoRow, standIns := [], harness := (true, "452311a80df6b8bb3692bd3b4a834cd436728729f06750534141a40ea04808d2"), looks := false }, kinds := [], alts := [], laidByText := true, laidKinds := [.data], laidTests := true, laidLooks := .later }
def PatternEulerUptoCardSaid : Prop := Claim7.holds Tryd.pinned (.plain (OpenSpec.upto patternEulerSpec)) patternEulerUptoCard

/-- THE SECOND FORM's CARD OF 'encausticlaw06.PatternSame'. -/
def patternSameUptoCard : Claim7 := { stood := { row := patternSameUptoRow, standIns := [], harness := (true, "452311a80df6b8bb3692bd3b4a834cd436728729f06750534141a40ea04808d2"), looks := false }, kinds := [], alts := [], laidByText := true, laidKinds := [.data], laidTests := true, laidLooks := .later }
def PatternSameUptoCardSaid : Prop := Claim7.holds Tryd.pinned (.plain (OpenSpec.upto patternSameSpec)) patternSameUptoCard

/-- THE SECOND FORM's CARD OF 'encausticlaw06.PatternBurnside'. -/
def patternBurnsideUptoCard : Claim7 := { stood := { row := patternBurnsideUptoRow, standIns := [], harness := (true, "452311a80df6b8bb3692bd3b4a834cd436728729f06750534141a40ea04808d2"), looks := false }, kinds := [], alts := [], laidByText := true, laidKinds := [.data], laidTests := true, laidLooks := .later }
def PatternBurnsideUptoCardSaid : Prop := Claim7.holds Tryd.pinned (.plain (OpenSpec.upto patternBurnsideSpec)) patternBurnsideUptoCard
end Rows
end Go.Proofs.YtnmdpolgbdkffaaDoor
