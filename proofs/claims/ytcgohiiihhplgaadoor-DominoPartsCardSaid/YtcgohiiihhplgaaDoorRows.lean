/-
  NARROWER THAN 'FOR EVERY INPUT', by the rows' own cells (each row's printed sentence says how): DominoTiles: laid · DominoRefutes: laid · DominoCounts: laid · DominoParts: laid · DominoHall: laid · DominoKasteleyn: laid · DominoSums: laid · DominoBoards: laid · DominoAztec: laid.
  DERIVED. THE GIVEN ROWS OF THIS SEAT. 9 by the template 'for every input the law returns true; each argument reads behind the call as it read before'; 0 by the template 'total and deterministic' (their statements: YtcgohiiihhplgaaDoorTotals.lean).
  GIVEN WITH THE SEED: the statements are not yours to turn. If you find one false, say at which input.
  Laid BY PROGRAM, IN A SANDBOX (cutbox-rows.mjs): the forced cells as the released guide's own fill.sh prints them over the translation 75c1ef6e939ccd4e… (all of the seat's roots in one cut). By AI agents, Wed Nov 11 2026. No macro, syntax, notation, axiom, sorry.
-/
import Derived.Test.YtcgohiiihhplgaaDoorChecked
import GoSem.Claim
import GoSem.ClaimJoined
import GoSem.ClaimMapViews
import Derived.JoinedTies
import Derived.KernelRfl
namespace Go.Proofs.YtcgohiiihhplgaaDoor
/- THE CELL 'sum', in the pinned program and in every row, IS THE sha256 OF THE DUMP (.gsa) THAT YtcgohiiihhplgaaDoorProg.lean LOADS. Nothing in Lean hashes anything: it is a label: what it is worth is what the hold of that sum in a sandbox is worth. -/
noncomputable def Tryd.pinned : Pinned := { name := "ytcgohiiihhplgaadoor", sum := "75c1ef6e939ccd4e3268bba71c4e90fe7443b2f0f9006db0bba46fd3156e6d28", checked := Tryd.checked }
namespace Rows
def none {H : Type} : Left H := { results := [], args := [] }

/- WHAT THE LISTED PACKAGE-LEVEL VARIABLES READ AS WHEN THE CALL BEGINS. Each datum BY PROGRAM (the guide's laid-datum.mjs) off the statement by which the dump's own 'gosem.cut.vars' lays the variable. In a bare row this is a premise. The card (YtcgohiiihhplgaaDoorCards.lean) ties it to the program's text. -/
def laid_math_bits_deBruijn64tab {H : Type} : DataW H := .agg [.lit (.int .u8 0), .lit (.int .u8 1), .lit (.int .u8 56), .lit (.int .u8 2), .lit (.int .u8 57), .lit (.int .u8 49), .lit (.int .u8 28), .lit (.int .u8 3), .lit (.int .u8 61), .lit (.int .u8 58), .lit (.int .u8 42), .lit (.int .u8 50), .lit (.int .u8 38), .lit (.int .u8 29), .lit (.int .u8 17), .lit (.int .u8 4), .lit (.int .u8 62), .lit (.int .u8 47), .lit (.int .u8 59), .lit (.int .u8 36), .lit (.int .u8 45), .lit (.int .u8 43), .lit (.int .u8 51), .lit (.int .u8 22), .lit (.int .u8 53), .lit (.int .u8 39), .lit (.int .u8 33), .lit (.int .u8 30), .lit (.int .u8 24), .lit (.int .u8 18), .lit (.int .u8 12), .lit (.int .u8 5), .lit (.int .u8 63), .lit (.int .u8 55), .lit (.int .u8 48), .lit (.int .u8 27), .lit (.int .u8 60), .lit (.int .u8 41), .lit (.int .u8 37), .lit (.int .u8 16), .lit (.int .u8 46), .lit (.int .u8 35), .lit (.int .u8 44), .lit (.int .u8 21), .lit (.int .u8 52), .lit (.int .u8 32), .lit (.int .u8 23), .lit (.int .u8 11), .lit (.int .u8 54), .lit (.int .u8 26), .lit (.int .u8 40), .lit (.int .u8 15), .lit (.int .u8 34), .lit (.int .u8 20), .lit (.int .u8 31), .lit (.int .u8 10), .lit (.int .u8 25), .lit (.int .u8 14), .lit (.int .u8 19), .lit (.int .u8 9), .lit (.int .u8 13), .lit (.int .u8 8), .lit (.int .u8 7), .lit (.int .u8 6)]

/-- 'encausticlaw02.DominoTiles': WHATEVER THE INPUT: true; the input reads as it did. -/
def dominoTilesSpec : ChangeSpec := { name := "dominoTiles", fn := fun _ => fun
  | [d1, d2] => { results := [.lit (.bool true)], args := [d1, d2] }
  | _ => none }
def dominoTilesRow : OpenClaim := { program := "ytcgohiiihhplgaadoor", sum := "75c1ef6e939ccd4e3268bba71c4e90fe7443b2f0f9006db0bba46fd3156e6d28", func := "encaustic/encausticlaw02.DominoTiles", spec := "dominoTiles", unfollowed := true, recurses := true, named := ["math/bits.deBruijn64tab"], apart := false, laid := [("math/bits.deBruijn64tab", laid_math_bits_deBruijn64tab)] }
def DominoTilesSaid : Prop := dominoTilesRow.holds Tryd.pinned (OpenSpec.ofChange dominoTilesSpec)

/-- ITS FALSE NEIGHBOUR: 'it returns false'. Refute it at one input. -/
def dominoTilesWrong : ChangeSpec := { name := "dominoTiles", fn := fun _ => fun
  | [d1, d2] => { results := [.lit (.bool false)], args := [d1, d2] }
  | _ => none }
def DominoTilesWrongFalsely : Prop := dominoTilesRow.holds Tryd.pinned (OpenSpec.ofChange dominoTilesWrong)

/-- 'encausticlaw02.DominoRefutes': WHATEVER THE INPUT: true; the input reads as it did. -/
def dominoRefutesSpec : ChangeSpec := { name := "dominoRefutes", fn := fun _ => fun
  | [d1, d2] => { results := [.lit (.bool true)], args := [d1, d2] }
  | _ => none }
def dominoRefutesRow : OpenClaim := { program := "ytcgohiiihhplgaadoor", sum := "75c1ef6e939ccd4e3268bba71c4e90fe7443b2f0f9006db0bba46fd3156e6d28", func := "encaustic/encausticlaw02.DominoRefutes", spec := "dominoRefutes", unfollowed := true, recurses := true, named := ["math/bits.deBruijn64tab"], apart := false, laid := [("math/bits.deBruijn64tab", laid_math_bits_deBruijn64tab)] }
def DominoRefutesSaid : Prop := dominoRefutesRow.holds Tryd.pinned (OpenSpec.ofChange dominoRefutesSpec)

/-- ITS FALSE NEIGHBOUR: 'it returns false'. Refute it at one input. -/
def dominoRefutesWrong : ChangeSpec := { name := "dominoRefutes", fn := fun _ => fun
  | [d1, d2] => { results := [.lit (.bool false)], args := [d1, d2] }
  | _ => none }
def DominoRefutesWrongFalsely : Prop := dominoRefutesRow.holds Tryd.pinned (OpenSpec.ofChange dominoRefutesWrong)

/-- 'encausticlaw02.DominoCounts': WHATEVER THE INPUT: true; the input reads as it did. -/
def dominoCountsSpec : ChangeSpec := { name := "dominoCounts", fn := fun _ => fun
  | [d] => { results := [.lit (.bool true)], args := [d] }
  | _ => none }
def dominoCountsRow : OpenClaim := { program := "ytcgohiiihhplgaadoor", sum := "75c1ef6e939ccd4e3268bba71c4e90fe7443b2f0f9006db0bba46fd3156e6d28", func := "encaustic/encausticlaw02.DominoCounts", spec := "dominoCounts", unfollowed := true, recurses := true, named := ["math/bits.deBruijn64tab"], apart := false, laid := [("math/bits.deBruijn64tab", laid_math_bits_deBruijn64tab)] }
def DominoCountsSaid : Prop := dominoCountsRow.holds Tryd.pinned (OpenSpec.ofChange dominoCountsSpec)

/-- ITS FALSE NEIGHBOUR: 'it returns false'. Refute it at one input. -/
def dominoCountsWrong : ChangeSpec := { name := "dominoCounts", fn := fun _ => fun
  | [d] => { results := [.lit (.bool false)], args := [d] }
  | _ => none }
def DominoCountsWrongFalsely : Prop := dominoCountsRow.holds Tryd.pinned (OpenSpec.ofChange dominoCountsWrong)

/-- 'encausticlaw02.DominoParts': WHATEVER THE INPUT: true; the input reads as it did. -/
def dominoPartsSpec : ChangeSpec := { name := "dominoParts", fn := fun _ => fun
  | [d] => { results := [.lit (.bool true)], args := [d] }
  | _ => none }
def dominoPartsRow : OpenClaim := { program := "ytcgohiiihhplgaadoor", sum := "75c1ef6e939ccd4e3268bba71c4e90fe7443b2f0f9006db0bba46fd3156e6d28", func := "encaustic/encausticlaw02.DominoParts", spec := "dominoParts", unfollowed := true, recurses := true, named := ["math/bits.deBruijn64tab"], apart := false, laid := [("math/bits.deBruijn64tab", laid_math_bits_deBruijn64tab)] }
def DominoPartsSaid : Prop := dominoPartsRow.holds Tryd.pinned (OpenSpec.ofChange dominoPartsSpec)

/-- ITS FALSE NEIGHBOUR: 'it returns false'. Refute it at one input. -/
def dominoPartsWrong : ChangeSpec := { name := "dominoParts", fn := fun _ => fun
  | [d] => { results := [.lit (.bool false)], args := [d] }
  | _ => none }
def DominoPartsWrongFalsely : Prop := dominoPartsRow.holds Tryd.pinned (OpenSpec.ofChange dominoPartsWrong)

/-- 'encausticlaw02.DominoHall': WHATEVER THE INPUT: true; the input reads as it did. -/
def dominoHallSpec : ChangeSpec := { name := "dominoHall", fn := fun _ => fun
  | [d1, d2] => { results := [.lit (.bool true)], args := [d1, d2] }
  | _ => none }
def dominoHallRow : OpenClaim := { program := "ytcgohiiihhplgaadoor", sum := "75c1ef6e939ccd4e3268bba71c4e90fe7443b2f0f9006db0bba46fd3156e6d28", func := "encaustic/encausticlaw02.DominoHall", spec := "dominoHall", unfollowed := true, recurses := true, named := ["math/bits.deBruijn64tab"], apart := false, laid := [("math/bits.deBruijn64tab", laid_math_bits_deBruijn64tab)] }
def DominoHallSaid : Prop := dominoHallRow.holds Tryd.pinned (OpenSpec.ofChange dominoHallSpec)

/-- ITS FALSE NEIGHBOUR: 'it returns false'. Refute it at one input. -/
def dominoHallWrong : ChangeSpec := { name := "dominoHall", fn := fun _ => fun
  | [d1, d2] => { results := [.lit (.bool false)], args := [d1, d2] }
  | _ => none }
def DominoHallWrongFalsely : Prop := dominoHallRow.holds Tryd.pinned (OpenSpec.ofChange dominoHallWrong)

/-- 'encausticlaw02.DominoKasteleyn': WHATEVER THE INPUT: true; the input reads as it did. -/
def dominoKasteleynSpec : ChangeSpec := { name := "dominoKasteleyn", fn := fun _ => fun
  | [d] => { results := [.lit (.bool true)], args := [d] }
  | _ => none }
def dominoKasteleynRow : OpenClaim := { program := "ytcgohiiihhplgaadoor", sum := "75c1ef6e939ccd4e3268bba71c4e90fe7443b2f0f9006db0bba46fd3156e6d28", func := "encaustic/encausticlaw02.DominoKasteleyn", spec := "dominoKasteleyn", unfollowed := true, recurses := true, named := ["math/bits.deBruijn64tab"], apart := false, laid := [("math/bits.deBruijn64tab", laid_math_bits_deBruijn64tab)] }
def DominoKasteleynSaid : Prop := dominoKasteleynRow.holds Tryd.pinned (OpenSpec.ofChange dominoKasteleynSpec)

/-- ITS FALSE NEIGHBOUR: 'it returns false'. Refute it at one input. -/
def dominoKasteleynWrong : ChangeSpec := { name := "dominoKasteleyn", fn := fun _ => fun
  | [d] => { results := [.lit (.bool false)], args := [d] }
  | _ => none }
def DominoKasteleynWrongFalsely : Prop := dominoKasteleynRow.holds Tryd.pinned (OpenSpec.ofChange dominoKasteleynWrong)

/-- 'encausticlaw02.DominoSums': WHATEVER THE INPUT: true; the input reads as it did. -/
def dominoSumsSpec : ChangeSpec := { name := "dominoSums", fn := fun _ => fun
  | [d] => { results := [.lit (.bool true)], args := [d] }
  | _ => none }
def dominoSumsRow : OpenClaim := { program := "ytcgohiiihhplgaadoor", sum := "75c1ef6e939ccd4e3268bba71c4e90fe7443b2f0f9006db0bba46fd3156e6d28", func := "encaustic/encausticlaw02.DominoSums", spec := "dominoSums", unfollowed := true, recurses := true, named := ["math/bits.deBruijn64tab"], apart := false, laid := [("math/bits.deBruijn64tab", laid_math_bits_deBruijn64tab)] }
def DominoSumsSaid : Prop := dominoSumsRow.holds Tryd.pinned (OpenSpec.ofChange dominoSumsSpec)

/-- ITS FALSE NEIGHBOUR: 'it returns false'. Refute it at one input. -/
def dominoSumsWrong : ChangeSpec := { name := "dominoSums", fn := fun _ => fun
  | [d] => { results := [.lit (.bool false)], args := [d] }
  | _ => none }
def DominoSumsWrongFalsely : Prop := dominoSumsRow.holds Tryd.pinned (OpenSpec.ofChange dominoSumsWrong)

/-- 'encausticlaw02.DominoBoards': WHATEVER THE INPUT: true; the input reads as it did. -/
def dominoBoardsSpec : ChangeSpec := { name := "dominoBoards", fn := fun _ => fun
  | [d1, d2] => { results := [.lit (.bool true)], args := [d1, d2] }
  | _ => none }
def dominoBoardsRow : OpenClaim := { program := "ytcgohiiihhplgaadoor", sum := "75c1ef6e939ccd4e3268bba71c4e90fe7443b2f0f9006db0bba46fd3156e6d28", func := "encaustic/encausticlaw02.DominoBoards", spec := "dominoBoards", unfollowed := true, recurses := true, named := ["math/bits.deBruijn64tab"], apart := false, laid := [("math/bits.deBruijn64tab", laid_math_bits_deBruijn64tab)] }
def DominoBoardsSaid : Prop := dominoBoardsRow.holds Tryd.pinned (OpenSpec.ofChange dominoBoardsSpec)

/-- ITS FALSE NEIGHBOUR: 'it returns false'. Refute it at one input. -/
def dominoBoardsWrong : ChangeSpec := { name := "dominoBoards", fn := fun _ => fun
  | [d1, d2] => { results := [.lit (.bool false)], args := [d1, d2] }
  | _ => none }
def DominoBoardsWrongFalsely : Prop := dominoBoardsRow.holds Tryd.pinned (OpenSpec.ofChange dominoBoardsWrong)

/-- 'encausticlaw02.DominoAztec': WHATEVER THE INPUT: true; the input reads as it did. -/
def dominoAztecSpec : ChangeSpec := { name := "dominoAztec", fn := fun _ => fun
  | [d] => { results := [.lit (.bool true)], args := [d] }
  | _ => none }
def dominoAztecRow : OpenClaim := { program := "ytcgohiiihhplgaadoor", sum := "75c1ef6e939ccd4e3268bba71c4e90fe7443b2f0f9006db0bba46fd3156e6d28", func := "encaustic/encausticlaw02.DominoAztec", spec := "dominoAztec", unfollowed := true, recurses := true, named := ["math/bits.deBruijn64tab"], apart := false, laid := [("math/bits.deBruijn64tab", laid_math_bits_deBruijn64tab)] }
def DominoAztecSaid : Prop := dominoAztecRow.holds Tryd.pinned (OpenSpec.ofChange dominoAztecSpec)

/-- ITS FALSE NEIGHBOUR: 'it returns false'. Refute it at one input. -/
def dominoAztecWrong : ChangeSpec := { name := "dominoAztec", fn := fun _ => fun
  | [d] => { results := [.lit (.bool false)], args := [d] }
  | _ => none }
def DominoAztecWrongFalsely : Prop := dominoAztecRow.holds Tryd.pinned (OpenSpec.ofChange dominoAztecWrong)

/- THE SECOND FORM. 'bulk': how many values and letters a reading holds, each counted each time it is reached (what is shared counts as often as it is met; a slice's spare places count too). A statement '..UptoSaid' is the law's where the arguments, and the package variables that the reading takes, are together of bulk at most 1048576: NARROWER than '..Said'. Prove '..Said' where nothing that the law and all that it calls make is longer than what came in: it says more and counts as full. Else prove '..UptoSaid'. A law counts once. -/
mutual
def uptoBulk {H : Type} : DataW H → Nat
  | .lit (.string bytes) => bytes.length + 1
  | .lit _ => 1
  | .nil => 1
  | .ptr d => uptoBulk d + 1
  | .slice elems spare => uptoBulkAll elems + uptoBulkAll spare + 1
  | .agg parts => uptoBulkAll parts + 1
  | .iface _ d => uptoBulk d + 1
  | .map entries => uptoBulkEntries entries + 1
  | .held _ => 1
def uptoBulkAll {H : Type} : List (DataW H) → Nat
  | [] => 0
  | d :: r => uptoBulk d + uptoBulkAll r
def uptoBulkEntries {H : Type} : List (Lit × DataW H) → Nat
  | [] => 0
  | x :: r => uptoBulkEntry x + uptoBulkEntries r
def uptoBulkEntry {H : Type} : Lit × DataW H → Nat
  | (.string bytes, d) => bytes.length + uptoBulk d + 1
  | (_, d) => uptoBulk d + 1
 end
def uptoSmall : (H : Type) → List (DataW H) → Bool := fun _ ds => decide (uptoBulkAll ds ≤ 1048576)
def OpenSpec.upto (s : _root_.Go.ChangeSpec) : _root_.Go.OpenSpec := { _root_.Go.OpenSpec.ofChange s with cond := some uptoSmall }

/-- 'encausticlaw02.DominoTiles', WHERE WHAT IT READS IS OF BULK AT MOST 1048576: true; the input reads as it did. -/
def dominoTilesUptoRow : OpenClaim := { program := "ytcgohiiihhplgaadoor", sum := "75c1ef6e939ccd4e3268bba71c4e90fe7443b2f0f9006db0bba46fd3156e6d28", func := "encaustic/encausticlaw02.DominoTiles", spec := "dominoTiles", unfollowed := true, recurses := true, named := ["math/bits.deBruijn64tab"], apart := false, laid := [("math/bits.deBruijn64tab", laid_math_bits_deBruijn64tab)], narrowed := true }
def DominoTilesUptoSaid : Prop := dominoTilesUptoRow.holds Tryd.pinned (OpenSpec.upto dominoTilesSpec)

/-- 'encausticlaw02.DominoRefutes', WHERE WHAT IT READS IS OF BULK AT MOST 1048576: true; the input reads as it did. -/
def dominoRefutesUptoRow : OpenClaim := { program := "ytcgohiiihhplgaadoor", sum := "75c1ef6e939ccd4e3268bba71c4e90fe7443b2f0f9006db0bba46fd3156e6d28", func := "encaustic/encausticlaw02.DominoRefutes", spec := "dominoRefutes", unfollowed := true, recurses := true, named := ["math/bits.deBruijn64tab"], apart := false, laid := [("math/bits.deBruijn64tab", laid_math_bits_deBruijn64tab)], narrowed := true }
def DominoRefutesUptoSaid : Prop := dominoRefutesUptoRow.holds Tryd.pinned (OpenSpec.upto dominoRefutesSpec)

/-- 'encausticlaw02.DominoCounts', WHERE WHAT IT READS IS OF BULK AT MOST 1048576: true; the input reads as it did. -/
def dominoCountsUptoRow : OpenClaim := { program := "ytcgohiiihhplgaadoor", sum := "75c1ef6e939ccd4e3268bba71c4e90fe7443b2f0f9006db0bba46fd3156e6d28", func := "encaustic/encausticlaw02.DominoCounts", spec := "dominoCounts", unfollowed := true, recurses := true, named := ["math/bits.deBruijn64tab"], apart := false, laid := [("math/bits.deBruijn64tab", laid_math_bits_deBruijn64tab)], narrowed := true }
def DominoCountsUptoSaid : Prop := dominoCountsUptoRow.holds Tryd.pinned (OpenSpec.upto dominoCountsSpec)

/-- 'encausticlaw02.DominoParts', WHERE WHAT IT READS IS OF BULK AT MOST 1048576: true; the input reads as it did. -/
def dominoPartsUptoRow : OpenClaim := { program := "ytcgohiiihhplgaadoor", sum := "75c1ef6e939ccd4e3268bba71c4e90fe7443b2f0f9006db0bba46fd3156e6d28", func := "encaustic/encausticlaw02.DominoParts", spec := "dominoParts", unfollowed := true, recurses := true, named := ["math/bits.deBruijn64tab"], apart := false, laid := [("math/bits.deBruijn64tab", laid_math_bits_deBruijn64tab)], narrowed := true }
def DominoPartsUptoSaid : Prop := dominoPartsUptoRow.holds Tryd.pinned (OpenSpec.upto dominoPartsSpec)

/-- 'encausticlaw02.DominoHall', WHERE WHAT IT READS IS OF BULK AT MOST 1048576: true; the input reads as it did. -/
def dominoHallUptoRow : OpenClaim := { program := "ytcgohiiihhplgaadoor", sum := "75c1ef6e939ccd4e3268bba71c4e90fe7443b2f0f9006db0bba46fd3156e6d28", func := "encaustic/encausticlaw02.DominoHall", spec := "dominoHall", unfollowed := true, recurses := true, named := ["math/bits.deBruijn64tab"], apart := false, laid := [("math/bits.deBruijn64tab", laid_math_bits_deBruijn64tab)], narrowed := true }
def DominoHallUptoSaid : Prop := dominoHallUptoRow.holds Tryd.pinned (OpenSpec.upto dominoHallSpec)

/-- 'encausticlaw02.DominoKasteleyn', WHERE WHAT IT READS IS OF BULK AT MOST 1048576: true; the input reads as it did. -/
def dominoKasteleynUptoRow : OpenClaim := { program := "ytcgohiiihhplgaadoor", sum := "75c1ef6e939ccd4e3268bba71c4e90fe7443b2f0f9006db0bba46fd3156e6d28", func := "encaustic/encausticlaw02.DominoKasteleyn", spec := "dominoKasteleyn", unfollowed := true, recurses := true, named := ["math/bits.deBruijn64tab"], apart := false, laid := [("math/bits.deBruijn64tab", laid_math_bits_deBruijn64tab)], narrowed := true }
def DominoKasteleynUptoSaid : Prop := dominoKasteleynUptoRow.holds Tryd.pinned (OpenSpec.upto dominoKasteleynSpec)

/-- 'encausticlaw02.DominoSums', WHERE WHAT IT READS IS OF BULK AT MOST 1048576: true; the input reads as it did. -/
def dominoSumsUptoRow : OpenClaim := { program := "ytcgohiiihhplgaadoor", sum := "75c1ef6e939ccd4e3268bba71c4e90fe7443b2f0f9006db0bba46fd3156e6d28", func := "encaustic/encausticlaw02.DominoSums", spec := "dominoSums", unfollowed := true, recurses := true, named := ["math/bits.deBruijn64tab"], apart := false, laid := [("math/bits.deBruijn64tab", laid_math_bits_deBruijn64tab)], narrowed := true }
def DominoSumsUptoSaid : Prop := dominoSumsUptoRow.holds Tryd.pinned (OpenSpec.upto dominoSumsSpec)

/-- 'encausticlaw02.DominoBoards', WHERE WHAT IT READS IS OF BULK AT MOST 1048576: true; the input reads as it did. -/
def dominoBoardsUptoRow : OpenClaim := { program := "ytcgohiiihhplgaadoor", sum := "75c1ef6e939ccd4e3268bba71c4e90fe7443b2f0f9006db0bba46fd3156e6d28", func := "encaustic/encausticlaw02.DominoBoards", spec := "dominoBoards", unfollowed := true, recurses := true, named := ["math/bits.deBruijn64tab"], apart := false, laid := [("math/bits.deBruijn64tab", laid_math_bits_deBruijn64tab)], narrowed := true }
def DominoBoardsUptoSaid : Prop := dominoBoardsUptoRow.holds Tryd.pinned (OpenSpec.upto dominoBoardsSpec)

/-- 'encausticlaw02.DominoAztec', WHERE WHAT IT READS IS OF BULK AT MOST 1048576: true; the input reads as it did. -/
def dominoAztecUptoRow : OpenClaim := { program := "ytcgohiiihhplgaadoor", sum := "75c1ef6e939ccd4e3268bba71c4e90fe7443b2f0f9006db0bba46fd3156e6d28", func := "encaustic/encausticlaw02.DominoAztec", spec := "dominoAztec", unfollowed := true, recurses := true, named := ["math/bits.deBruijn64tab"], apart := false, laid := [("math/bits.deBruijn64tab", laid_math_bits_deBruijn64tab)], narrowed := true }
def DominoAztecUptoSaid : Prop := dominoAztecUptoRow.holds Tryd.pinned (OpenSpec.upto dominoAztecSpec)

end Rows
end Go.Proofs.YtcgohiiihhplgaaDoor
