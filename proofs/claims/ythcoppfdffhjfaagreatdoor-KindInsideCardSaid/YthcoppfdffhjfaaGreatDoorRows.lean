/-
  NARROWER THAN 'FOR EVERY INPUT', by the rows' own cells (each row's printed sentence says how): KindChecks: laid · KindParts: laid · KindMakes: laid · KindWith: laid · KindInside: laid · KindPut: laid · KindMatched: laid · KindRebuilt: laid · KindLevels: laid · KindNames: laid.
  DERIVED. THE GIVEN ROWS OF THIS SEAT. 10 by the template 'for every input the law returns true; each argument reads behind the call as it read before'; 0 by the template 'total and deterministic' (their statements: YthcoppfdffhjfaaGreatDoorTotals.lean).
  GIVEN WITH THE SEED: the statements are not yours to turn. If you find one false, say at which input.
  Laid BY PROGRAM, IN A SANDBOX (cutbox-rows.mjs): the forced cells as the released guide's own fill.sh prints them over the translation 42ff3bbd9c59b01f… (all of the seat's roots in one cut). By AI agents, Wed Nov 11 2026. No macro, syntax, notation, axiom, sorry.
-/
import Derived.Test.YthcoppfdffhjfaaGreatDoorChecked
import GoSem.PinnedTables
import GoSem.Claim
import GoSem.ClaimJoined
import GoSem.ClaimMapViews
import Derived.JoinedTies
import Derived.KernelRfl
namespace Go.Proofs.YthcoppfdffhjfaaGreatDoor
/- THE CELL 'sum', in the pinned program and in every row, IS THE sha256 OF THE DUMP (.gsa) THAT YthcoppfdffhjfaaGreatDoorProg.lean LOADS. Nothing in Lean hashes anything: it is a label: what it is worth is what the hold of that sum in a sandbox is worth. -/
noncomputable def Tryz.pinned : Pinned := { name := "ythcoppfdffhjfaagreatdoor", sum := "42ff3bbd9c59b01f37742800c831bf6becfe452fe15416670b071e9d62120b47", checked := Tryz.checked }
namespace Rows
def none {H : Type} : Left H := { results := [], args := [] }

/- WHAT THE LISTED PACKAGE-LEVEL VARIABLES READ AS WHEN THE CALL BEGINS. Each datum BY PROGRAM (the guide's laid-datum.mjs) off the statement by which the dump's own 'gosem.cut.vars' lays the variable. In a bare row this is a premise. The card (YthcoppfdffhjfaaGreatDoorCards.lean) ties it to the program's text. -/
def laid_unicode_utf8_acceptRanges {H : Type} : DataW H := .agg [.agg [.lit (.int .u8 128), .lit (.int .u8 191)], .agg [.lit (.int .u8 160), .lit (.int .u8 191)], .agg [.lit (.int .u8 128), .lit (.int .u8 159)], .agg [.lit (.int .u8 144), .lit (.int .u8 191)], .agg [.lit (.int .u8 128), .lit (.int .u8 143)], .agg [.lit (.int .u8 0), .lit (.int .u8 0)], .agg [.lit (.int .u8 0), .lit (.int .u8 0)], .agg [.lit (.int .u8 0), .lit (.int .u8 0)], .agg [.lit (.int .u8 0), .lit (.int .u8 0)], .agg [.lit (.int .u8 0), .lit (.int .u8 0)], .agg [.lit (.int .u8 0), .lit (.int .u8 0)], .agg [.lit (.int .u8 0), .lit (.int .u8 0)], .agg [.lit (.int .u8 0), .lit (.int .u8 0)], .agg [.lit (.int .u8 0), .lit (.int .u8 0)], .agg [.lit (.int .u8 0), .lit (.int .u8 0)], .agg [.lit (.int .u8 0), .lit (.int .u8 0)]]
def laid_argus_token_allWords {H : Type} : DataW H := .agg [.lit (.string [97, 110, 100]), .lit (.string [97, 114, 114, 97, 121]), .lit (.string [98, 101, 103, 105, 110]), .lit (.string [98, 111, 111, 108]), .lit (.string [98, 114, 101, 97, 107]), .lit (.string [99, 108, 117, 115, 116, 101, 114]), .lit (.string [100, 111]), .lit (.string [100, 111, 119, 110]), .lit (.string [101, 108, 115, 101]), .lit (.string [101, 108, 115, 101, 105, 102]), .lit (.string [101, 110, 100]), .lit (.string [101, 120, 99, 101, 112, 116]), .lit (.string [102, 97, 108, 115, 101]), .lit (.string [102, 111, 114]), .lit (.string [104, 97, 115]), .lit (.string [105, 102]), .lit (.string [105, 110]), .lit (.string [105, 110, 116]), .lit (.string [105, 115]), .lit (.string [105, 116, 101, 114]), .lit (.string [109, 111, 100]), .lit (.string [110, 105, 108]), .lit (.string [110, 111, 116]), .lit (.string [110, 117, 108, 108]), .lit (.string [111, 110, 101, 111, 102]), .lit (.string [111, 114]), .lit (.string [111, 116, 104, 101, 114, 115]), .lit (.string [112, 114, 111, 99]), .lit (.string [112, 117, 116]), .lit (.string [114, 101, 99, 111, 114, 100]), .lit (.string [114, 101, 112]), .lit (.string [114, 101, 116, 117, 114, 110]), .lit (.string [114, 101, 116, 117, 114, 110, 115]), .lit (.string [115, 105, 103, 110, 97, 108]), .lit (.string [115, 105, 103, 110, 97, 108, 115]), .lit (.string [116, 97, 103]), .lit (.string [116, 97, 103, 99, 97, 115, 101]), .lit (.string [116, 104, 101, 110]), .lit (.string [116, 114, 117, 101]), .lit (.string [117, 112]), .lit (.string [118, 97, 114]), .lit (.string [119, 104, 101, 110]), .lit (.string [119, 104, 101, 114, 101]), .lit (.string [119, 104, 105, 108, 101]), .lit (.string [121, 105, 101, 108, 100]), .lit (.string [121, 105, 101, 108, 100, 115])]
/-- One of Go's own tables, pinned by name: the form's constant. -/
def laid_unicode_utf8_first : DataW Unit := Go.Pinned.utf8First

/-- 'arguslaw03.KindChecks': WHATEVER THE INPUT: true; the input reads as it did. -/
def kindChecksSpec : ChangeSpec := { name := "kindChecks", fn := fun _ => fun
  | [d] => { results := [.lit (.bool true)], args := [d] }
  | _ => none }
def kindChecksRow : OpenClaim := { program := "ythcoppfdffhjfaagreatdoor", sum := "42ff3bbd9c59b01f37742800c831bf6becfe452fe15416670b071e9d62120b47", func := "argus/arguslaw03.KindChecks", spec := "kindChecks", inPlace := ["internal/bytealg.IndexByteString", "internal/bytealg.IndexString", "internal/bytealg.CountString", "internal/abi.NoEscape", "internal/bytealg.MakeNoZero", "internal/bytealg.abigen_runtime_cmpstring"], unfollowed := true, recurses := true, named := ["argus/token.allWords", "internal/bytealg.MaxLen", "unicode/utf8.first", "unicode/utf8.acceptRanges"], apart := false, laid := [("unicode/utf8.acceptRanges", laid_unicode_utf8_acceptRanges), ("argus/token.allWords", laid_argus_token_allWords), ("unicode/utf8.first", laid_unicode_utf8_first)] }
def KindChecksSaid : Prop := kindChecksRow.holds Tryz.pinned (OpenSpec.ofChange kindChecksSpec)

/-- ITS FALSE NEIGHBOUR: 'it returns false'. Refute it at one input. -/
def kindChecksWrong : ChangeSpec := { name := "kindChecks", fn := fun _ => fun
  | [d] => { results := [.lit (.bool false)], args := [d] }
  | _ => none }
def KindChecksWrongFalsely : Prop := kindChecksRow.holds Tryz.pinned (OpenSpec.ofChange kindChecksWrong)

/-- 'arguslaw03.KindParts': WHATEVER THE INPUT: true; the input reads as it did. -/
def kindPartsSpec : ChangeSpec := { name := "kindParts", fn := fun _ => fun
  | [d] => { results := [.lit (.bool true)], args := [d] }
  | _ => none }
def kindPartsRow : OpenClaim := { program := "ythcoppfdffhjfaagreatdoor", sum := "42ff3bbd9c59b01f37742800c831bf6becfe452fe15416670b071e9d62120b47", func := "argus/arguslaw03.KindParts", spec := "kindParts", inPlace := ["internal/bytealg.IndexByteString", "internal/bytealg.IndexString", "internal/bytealg.CountString", "internal/abi.NoEscape", "internal/bytealg.MakeNoZero", "internal/bytealg.abigen_runtime_cmpstring"], unfollowed := true, recurses := true, named := ["argus/token.allWords", "internal/bytealg.MaxLen", "unicode/utf8.first", "unicode/utf8.acceptRanges"], apart := false, laid := [("unicode/utf8.acceptRanges", laid_unicode_utf8_acceptRanges), ("argus/token.allWords", laid_argus_token_allWords), ("unicode/utf8.first", laid_unicode_utf8_first)] }
def KindPartsSaid : Prop := kindPartsRow.holds Tryz.pinned (OpenSpec.ofChange kindPartsSpec)

/-- ITS FALSE NEIGHBOUR: 'it returns false'. Refute it at one input. -/
def kindPartsWrong : ChangeSpec := { name := "kindParts", fn := fun _ => fun
  | [d] => { results := [.lit (.bool false)], args := [d] }
  | _ => none }
def KindPartsWrongFalsely : Prop := kindPartsRow.holds Tryz.pinned (OpenSpec.ofChange kindPartsWrong)

/-- 'arguslaw03.KindMakes': WHATEVER THE INPUT: true; the input reads as it did. -/
def kindMakesSpec : ChangeSpec := { name := "kindMakes", fn := fun _ => fun
  | [d1, d2, d3] => { results := [.lit (.bool true)], args := [d1, d2, d3] }
  | _ => none }
def kindMakesRow : OpenClaim := { program := "ythcoppfdffhjfaagreatdoor", sum := "42ff3bbd9c59b01f37742800c831bf6becfe452fe15416670b071e9d62120b47", func := "argus/arguslaw03.KindMakes", spec := "kindMakes", inPlace := ["internal/bytealg.IndexByteString", "internal/bytealg.IndexString", "internal/bytealg.CountString", "internal/abi.NoEscape", "internal/bytealg.MakeNoZero", "internal/bytealg.abigen_runtime_cmpstring"], unfollowed := true, recurses := true, named := ["argus/token.allWords", "internal/bytealg.MaxLen", "unicode/utf8.first", "unicode/utf8.acceptRanges"], apart := false, laid := [("unicode/utf8.acceptRanges", laid_unicode_utf8_acceptRanges), ("argus/token.allWords", laid_argus_token_allWords), ("unicode/utf8.first", laid_unicode_utf8_first)] }
def KindMakesSaid : Prop := kindMakesRow.holds Tryz.pinned (OpenSpec.ofChange kindMakesSpec)

/-- ITS FALSE NEIGHBOUR: 'it returns false'. Refute it at one input. -/
def kindMakesWrong : ChangeSpec := { name := "kindMakes", fn := fun _ => fun
  | [d1, d2, d3] => { results := [.lit (.bool false)], args := [d1, d2, d3] }
  | _ => none }
def KindMakesWrongFalsely : Prop := kindMakesRow.holds Tryz.pinned (OpenSpec.ofChange kindMakesWrong)

/-- 'arguslaw03.KindWith': WHATEVER THE INPUT: true; the input reads as it did. -/
def kindWithSpec : ChangeSpec := { name := "kindWith", fn := fun _ => fun
  | [d1, d2] => { results := [.lit (.bool true)], args := [d1, d2] }
  | _ => none }
def kindWithRow : OpenClaim := { program := "ythcoppfdffhjfaagreatdoor", sum := "42ff3bbd9c59b01f37742800c831bf6becfe452fe15416670b071e9d62120b47", func := "argus/arguslaw03.KindWith", spec := "kindWith", inPlace := ["internal/bytealg.IndexByteString", "internal/bytealg.IndexString", "internal/bytealg.CountString", "internal/abi.NoEscape", "internal/bytealg.MakeNoZero", "internal/bytealg.abigen_runtime_cmpstring"], unfollowed := true, recurses := true, named := ["argus/token.allWords", "internal/bytealg.MaxLen", "unicode/utf8.first", "unicode/utf8.acceptRanges"], apart := false, laid := [("unicode/utf8.acceptRanges", laid_unicode_utf8_acceptRanges), ("argus/token.allWords", laid_argus_token_allWords), ("unicode/utf8.first", laid_unicode_utf8_first)] }
def KindWithSaid : Prop := kindWithRow.holds Tryz.pinned (OpenSpec.ofChange kindWithSpec)

/-- ITS FALSE NEIGHBOUR: 'it returns false'. Refute it at one input. -/
def kindWithWrong : ChangeSpec := { name := "kindWith", fn := fun _ => fun
  | [d1, d2] => { results := [.lit (.bool false)], args := [d1, d2] }
  | _ => none }
def KindWithWrongFalsely : Prop := kindWithRow.holds Tryz.pinned (OpenSpec.ofChange kindWithWrong)

/-- 'arguslaw03.KindInside': WHATEVER THE INPUT: true; the input reads as it did. -/
def kindInsideSpec : ChangeSpec := { name := "kindInside", fn := fun _ => fun
  | [d] => { results := [.lit (.bool true)], args := [d] }
  | _ => none }
def kindInsideRow : OpenClaim := { program := "ythcoppfdffhjfaagreatdoor", sum := "42ff3bbd9c59b01f37742800c831bf6becfe452fe15416670b071e9d62120b47", func := "argus/arguslaw03.KindInside", spec := "kindInside", inPlace := ["internal/bytealg.IndexByteString", "internal/bytealg.IndexString", "internal/bytealg.CountString", "internal/abi.NoEscape", "internal/bytealg.MakeNoZero", "internal/bytealg.abigen_runtime_cmpstring"], unfollowed := true, recurses := true, named := ["argus/token.allWords", "internal/bytealg.MaxLen", "unicode/utf8.first", "unicode/utf8.acceptRanges"], apart := false, laid := [("unicode/utf8.acceptRanges", laid_unicode_utf8_acceptRanges), ("argus/token.allWords", laid_argus_token_allWords), ("unicode/utf8.first", laid_unicode_utf8_first)] }
def KindInsideSaid : Prop := kindInsideRow.holds Tryz.pinned (OpenSpec.ofChange kindInsideSpec)

/-- ITS FALSE NEIGHBOUR: 'it returns false'. Refute it at one input. -/
def kindInsideWrong : ChangeSpec := { name := "kindInside", fn := fun _ => fun
  | [d] => { results := [.lit (.bool false)], args := [d] }
  | _ => none }
def KindInsideWrongFalsely : Prop := kindInsideRow.holds Tryz.pinned (OpenSpec.ofChange kindInsideWrong)

/-- 'arguslaw03.KindPut': WHATEVER THE INPUT: true; the input reads as it did. -/
def kindPutSpec : ChangeSpec := { name := "kindPut", fn := fun _ => fun
  | [d1, d2, d3] => { results := [.lit (.bool true)], args := [d1, d2, d3] }
  | _ => none }
def kindPutRow : OpenClaim := { program := "ythcoppfdffhjfaagreatdoor", sum := "42ff3bbd9c59b01f37742800c831bf6becfe452fe15416670b071e9d62120b47", func := "argus/arguslaw03.KindPut", spec := "kindPut", inPlace := ["internal/bytealg.IndexByteString", "internal/bytealg.IndexString", "internal/bytealg.CountString", "internal/abi.NoEscape", "internal/bytealg.MakeNoZero", "internal/bytealg.abigen_runtime_cmpstring"], unfollowed := true, recurses := true, named := ["argus/token.allWords", "internal/bytealg.MaxLen", "unicode/utf8.first", "unicode/utf8.acceptRanges"], apart := false, laid := [("unicode/utf8.acceptRanges", laid_unicode_utf8_acceptRanges), ("argus/token.allWords", laid_argus_token_allWords), ("unicode/utf8.first", laid_unicode_utf8_first)] }
def KindPutSaid : Prop := kindPutRow.holds Tryz.pinned (OpenSpec.ofChange kindPutSpec)

/-- ITS FALSE NEIGHBOUR: 'it returns false'. Refute it at one input. -/
def kindPutWrong : ChangeSpec := { name := "kindPut", fn := fun _ => fun
  | [d1, d2, d3] => { results := [.lit (.bool false)], args := [d1, d2, d3] }
  | _ => none }
def KindPutWrongFalsely : Prop := kindPutRow.holds Tryz.pinned (OpenSpec.ofChange kindPutWrong)

/-- 'arguslaw03.KindMatched': WHATEVER THE INPUT: true; the input reads as it did. -/
def kindMatchedSpec : ChangeSpec := { name := "kindMatched", fn := fun _ => fun
  | [d1, d2, d3] => { results := [.lit (.bool true)], args := [d1, d2, d3] }
  | _ => none }
def kindMatchedRow : OpenClaim := { program := "ythcoppfdffhjfaagreatdoor", sum := "42ff3bbd9c59b01f37742800c831bf6becfe452fe15416670b071e9d62120b47", func := "argus/arguslaw03.KindMatched", spec := "kindMatched", inPlace := ["internal/bytealg.IndexByteString", "internal/bytealg.IndexString", "internal/bytealg.CountString", "internal/abi.NoEscape", "internal/bytealg.MakeNoZero", "internal/bytealg.abigen_runtime_cmpstring"], unfollowed := true, recurses := true, named := ["argus/token.allWords", "internal/bytealg.MaxLen", "unicode/utf8.first", "unicode/utf8.acceptRanges"], apart := false, laid := [("unicode/utf8.acceptRanges", laid_unicode_utf8_acceptRanges), ("argus/token.allWords", laid_argus_token_allWords), ("unicode/utf8.first", laid_unicode_utf8_first)] }
def KindMatchedSaid : Prop := kindMatchedRow.holds Tryz.pinned (OpenSpec.ofChange kindMatchedSpec)

/-- ITS FALSE NEIGHBOUR: 'it returns false'. Refute it at one input. -/
def kindMatchedWrong : ChangeSpec := { name := "kindMatched", fn := fun _ => fun
  | [d1, d2, d3] => { results := [.lit (.bool false)], args := [d1, d2, d3] }
  | _ => none }
def KindMatchedWrongFalsely : Prop := kindMatchedRow.holds Tryz.pinned (OpenSpec.ofChange kindMatchedWrong)

/-- 'arguslaw03.KindRebuilt': WHATEVER THE INPUT: true; the input reads as it did. -/
def kindRebuiltSpec : ChangeSpec := { name := "kindRebuilt", fn := fun _ => fun
  | [d1, d2] => { results := [.lit (.bool true)], args := [d1, d2] }
  | _ => none }
def kindRebuiltRow : OpenClaim := { program := "ythcoppfdffhjfaagreatdoor", sum := "42ff3bbd9c59b01f37742800c831bf6becfe452fe15416670b071e9d62120b47", func := "argus/arguslaw03.KindRebuilt", spec := "kindRebuilt", inPlace := ["internal/bytealg.IndexByteString", "internal/bytealg.IndexString", "internal/bytealg.CountString", "internal/abi.NoEscape", "internal/bytealg.MakeNoZero", "internal/bytealg.abigen_runtime_cmpstring"], unfollowed := true, recurses := true, named := ["argus/token.allWords", "internal/bytealg.MaxLen", "unicode/utf8.first", "unicode/utf8.acceptRanges"], apart := false, laid := [("unicode/utf8.acceptRanges", laid_unicode_utf8_acceptRanges), ("argus/token.allWords", laid_argus_token_allWords), ("unicode/utf8.first", laid_unicode_utf8_first)] }
def KindRebuiltSaid : Prop := kindRebuiltRow.holds Tryz.pinned (OpenSpec.ofChange kindRebuiltSpec)

/-- ITS FALSE NEIGHBOUR: 'it returns false'. Refute it at one input. -/
def kindRebuiltWrong : ChangeSpec := { name := "kindRebuilt", fn := fun _ => fun
  | [d1, d2] => { results := [.lit (.bool false)], args := [d1, d2] }
  | _ => none }
def KindRebuiltWrongFalsely : Prop := kindRebuiltRow.holds Tryz.pinned (OpenSpec.ofChange kindRebuiltWrong)

/-- 'arguslaw03.KindLevels': WHATEVER THE INPUT: true; the input reads as it did. -/
def kindLevelsSpec : ChangeSpec := { name := "kindLevels", fn := fun _ => fun
  | [d1, d2] => { results := [.lit (.bool true)], args := [d1, d2] }
  | _ => none }
def kindLevelsRow : OpenClaim := { program := "ythcoppfdffhjfaagreatdoor", sum := "42ff3bbd9c59b01f37742800c831bf6becfe452fe15416670b071e9d62120b47", func := "argus/arguslaw03.KindLevels", spec := "kindLevels", inPlace := ["internal/bytealg.IndexByteString", "internal/bytealg.IndexString", "internal/bytealg.CountString", "internal/abi.NoEscape", "internal/bytealg.MakeNoZero", "internal/bytealg.abigen_runtime_cmpstring"], unfollowed := true, recurses := true, named := ["argus/token.allWords", "internal/bytealg.MaxLen", "unicode/utf8.first", "unicode/utf8.acceptRanges"], apart := false, laid := [("unicode/utf8.acceptRanges", laid_unicode_utf8_acceptRanges), ("argus/token.allWords", laid_argus_token_allWords), ("unicode/utf8.first", laid_unicode_utf8_first)] }
def KindLevelsSaid : Prop := kindLevelsRow.holds Tryz.pinned (OpenSpec.ofChange kindLevelsSpec)

/-- ITS FALSE NEIGHBOUR: 'it returns false'. Refute it at one input. -/
def kindLevelsWrong : ChangeSpec := { name := "kindLevels", fn := fun _ => fun
  | [d1, d2] => { results := [.lit (.bool false)], args := [d1, d2] }
  | _ => none }
def KindLevelsWrongFalsely : Prop := kindLevelsRow.holds Tryz.pinned (OpenSpec.ofChange kindLevelsWrong)

/-- 'arguslaw03.KindNames': WHATEVER THE INPUT: true; the input reads as it did. -/
def kindNamesSpec : ChangeSpec := { name := "kindNames", fn := fun _ => fun
  | [d1, d2] => { results := [.lit (.bool true)], args := [d1, d2] }
  | _ => none }
def kindNamesRow : OpenClaim := { program := "ythcoppfdffhjfaagreatdoor", sum := "42ff3bbd9c59b01f37742800c831bf6becfe452fe15416670b071e9d62120b47", func := "argus/arguslaw03.KindNames", spec := "kindNames", inPlace := ["internal/bytealg.IndexByteString", "internal/bytealg.IndexString", "internal/bytealg.CountString", "internal/abi.NoEscape", "internal/bytealg.MakeNoZero", "internal/bytealg.abigen_runtime_cmpstring"], unfollowed := true, recurses := true, named := ["argus/token.allWords", "internal/bytealg.MaxLen", "unicode/utf8.first", "unicode/utf8.acceptRanges"], apart := false, laid := [("unicode/utf8.acceptRanges", laid_unicode_utf8_acceptRanges), ("argus/token.allWords", laid_argus_token_allWords), ("unicode/utf8.first", laid_unicode_utf8_first)] }
def KindNamesSaid : Prop := kindNamesRow.holds Tryz.pinned (OpenSpec.ofChange kindNamesSpec)

/-- ITS FALSE NEIGHBOUR: 'it returns false'. Refute it at one input. -/
def kindNamesWrong : ChangeSpec := { name := "kindNames", fn := fun _ => fun
  | [d1, d2] => { results := [.lit (.bool false)], args := [d1, d2] }
  | _ => none }
def KindNamesWrongFalsely : Prop := kindNamesRow.holds Tryz.pinned (OpenSpec.ofChange kindNamesWrong)

/- THE SECOND FORM. 'bulk': how many values and letters a reading holds, each counted each time it is reached (what is shared counts as often as it is met; a slice's spare places count too). A statement '..UptoSaid' is the law's where the arguments, and the package variables that the reading takes, are together of bulk at most 1048576: NARROWER than '..Said'. Prove '..Said' where nothing that the law and all that it calls make is longer than what came in: it says more and counts as full. Else prove '..UptoSaid'. A law counts once. -/
mutual
def uptoBulk {H : Type} : DataW H → Nat
  | .lit (.string bytes) => bytes.length + 1
  | .lit _ => 1
  | .nil => 1
  | .ptr d => uptoBulk d + 1
  | .slice elems spare => uptoBulkAll elems + uptoBulkAll spare + 1
  | .agg parts => uptoBulkAll parts + 1
  | .iface _ d => uptoBulk d + 1
  | .map entries => uptoBulkEntries entries + 1
  | .held _ => 1
def uptoBulkAll {H : Type} : List (DataW H) → Nat
  | [] => 0
  | d :: r => uptoBulk d + uptoBulkAll r
def uptoBulkEntries {H : Type} : List (Lit × DataW H) → Nat
  | [] => 0
  | x :: r => uptoBulkEntry x + uptoBulkEntries r
def uptoBulkEntry {H : Type} : Lit × DataW H → Nat
  | (.string bytes, d) => bytes.length + uptoBulk d + 1
  | (_, d) => uptoBulk d + 1
 end
def uptoSmall : (H : Type) → List (DataW H) → Bool := fun _ ds => decide (uptoBulkAll ds ≤ 1048576)
def OpenSpec.upto (s : _root_.Go.ChangeSpec) : _root_.Go.OpenSpec := { _root_.Go.OpenSpec.ofChange s with cond := some uptoSmall }

/-- 'arguslaw03.KindChecks', WHERE WHAT IT READS IS OF BULK AT MOST 1048576: true; the input reads as it did. -/
def kindChecksUptoRow : OpenClaim := { program := "ythcoppfdffhjfaagreatdoor", sum := "42ff3bbd9c59b01f37742800c831bf6becfe452fe15416670b071e9d62120b47", func := "argus/arguslaw03.KindChecks", spec := "kindChecks", inPlace := ["internal/bytealg.IndexByteString", "internal/bytealg.IndexString", "internal/bytealg.CountString", "internal/abi.NoEscape", "internal/bytealg.MakeNoZero", "internal/bytealg.abigen_runtime_cmpstring"], unfollowed := true, recurses := true, named := ["argus/token.allWords", "internal/bytealg.MaxLen", "unicode/utf8.first", "unicode/utf8.acceptRanges"], apart := false, laid := [("unicode/utf8.acceptRanges", laid_unicode_utf8_acceptRanges), ("argus/token.allWords", laid_argus_token_allWords), ("unicode/utf8.first", laid_unicode_utf8_first)], narrowed := true }
def KindChecksUptoSaid : Prop := kindChecksUptoRow.holds Tryz.pinned (OpenSpec.upto kindChecksSpec)

/-- 'arguslaw03.KindParts', WHERE WHAT IT READS IS OF BULK AT MOST 1048576: true; the input reads as it did. -/
def kindPartsUptoRow : OpenClaim := { program := "ythcoppfdffhjfaagreatdoor", sum := "42ff3bbd9c59b01f37742800c831bf6becfe452fe15416670b071e9d62120b47", func := "argus/arguslaw03.KindParts", spec := "kindParts", inPlace := ["internal/bytealg.IndexByteString", "internal/bytealg.IndexString", "internal/bytealg.CountString", "internal/abi.NoEscape", "internal/bytealg.MakeNoZero", "internal/bytealg.abigen_runtime_cmpstring"], unfollowed := true, recurses := true, named := ["argus/token.allWords", "internal/bytealg.MaxLen", "unicode/utf8.first", "unicode/utf8.acceptRanges"], apart := false, laid := [("unicode/utf8.acceptRanges", laid_unicode_utf8_acceptRanges), ("argus/token.allWords", laid_argus_token_allWords), ("unicode/utf8.first", laid_unicode_utf8_first)], narrowed := true }
def KindPartsUptoSaid : Prop := kindPartsUptoRow.holds Tryz.pinned (OpenSpec.upto kindPartsSpec)

/-- 'arguslaw03.KindMakes', WHERE WHAT IT READS IS OF BULK AT MOST 1048576: true; the input reads as it did. -/
def kindMakesUptoRow : OpenClaim := { program := "ythcoppfdffhjfaagreatdoor", sum := "42ff3bbd9c59b01f37742800c831bf6becfe452fe15416670b071e9d62120b47", func := "argus/arguslaw03.KindMakes", spec := "kindMakes", inPlace := ["internal/bytealg.IndexByteString", "internal/bytealg.IndexString", "internal/bytealg.CountString", "internal/abi.NoEscape", "internal/bytealg.MakeNoZero", "internal/bytealg.abigen_runtime_cmpstring"], unfollowed := true, recurses := true, named := ["argus/token.allWords", "internal/bytealg.MaxLen", "unicode/utf8.first", "unicode/utf8.acceptRanges"], apart := false, laid := [("unicode/utf8.acceptRanges", laid_unicode_utf8_acceptRanges), ("argus/token.allWords", laid_argus_token_allWords), ("unicode/utf8.first", laid_unicode_utf8_first)], narrowed := true }
def KindMakesUptoSaid : Prop := kindMakesUptoRow.holds Tryz.pinned (OpenSpec.upto kindMakesSpec)

/-- 'arguslaw03.KindWith', WHERE WHAT IT READS IS OF BULK AT MOST 1048576: true; the input reads as it did. -/
def kindWithUptoRow : OpenClaim := { program := "ythcoppfdffhjfaagreatdoor", sum := "42ff3bbd9c59b01f37742800c831bf6becfe452fe15416670b071e9d62120b47", func := "argus/arguslaw03.KindWith", spec := "kindWith", inPlace := ["internal/bytealg.IndexByteString", "internal/bytealg.IndexString", "internal/bytealg.CountString", "internal/abi.NoEscape", "internal/bytealg.MakeNoZero", "internal/bytealg.abigen_runtime_cmpstring"], unfollowed := true, recurses := true, named := ["argus/token.allWords", "internal/bytealg.MaxLen", "unicode/utf8.first", "unicode/utf8.acceptRanges"], apart := false, laid := [("unicode/utf8.acceptRanges", laid_unicode_utf8_acceptRanges), ("argus/token.allWords", laid_argus_token_allWords), ("unicode/utf8.first", laid_unicode_utf8_first)], narrowed := true }
def KindWithUptoSaid : Prop := kindWithUptoRow.holds Tryz.pinned (OpenSpec.upto kindWithSpec)

/-- 'arguslaw03.KindInside', WHERE WHAT IT READS IS OF BULK AT MOST 1048576: true; the input reads as it did. -/
def kindInsideUptoRow : OpenClaim := { program := "ythcoppfdffhjfaagreatdoor", sum := "42ff3bbd9c59b01f37742800c831bf6becfe452fe15416670b071e9d62120b47", func := "argus/arguslaw03.KindInside", spec := "kindInside", inPlace := ["internal/bytealg.IndexByteString", "internal/bytealg.IndexString", "internal/bytealg.CountString", "internal/abi.NoEscape", "internal/bytealg.MakeNoZero", "internal/bytealg.abigen_runtime_cmpstring"], unfollowed := true, recurses := true, named := ["argus/token.allWords", "internal/bytealg.MaxLen", "unicode/utf8.first", "unicode/utf8.acceptRanges"], apart := false, laid := [("unicode/utf8.acceptRanges", laid_unicode_utf8_acceptRanges), ("argus/token.allWords", laid_argus_token_allWords), ("unicode/utf8.first", laid_unicode_utf8_first)], narrowed := true }
def KindInsideUptoSaid : Prop := kindInsideUptoRow.holds Tryz.pinned (OpenSpec.upto kindInsideSpec)

/-- 'arguslaw03.KindPut', WHERE WHAT IT READS IS OF BULK AT MOST 1048576: true; the input reads as it did. -/
def kindPutUptoRow : OpenClaim := { program := "ythcoppfdffhjfaagreatdoor", sum := "42ff3bbd9c59b01f37742800c831bf6becfe452fe15416670b071e9d62120b47", func := "argus/arguslaw03.KindPut", spec := "kindPut", inPlace := ["internal/bytealg.IndexByteString", "internal/bytealg.IndexString", "internal/bytealg.CountString", "internal/abi.NoEscape", "internal/bytealg.MakeNoZero", "internal/bytealg.abigen_runtime_cmpstring"], unfollowed := true, recurses := true, named := ["argus/token.allWords", "internal/bytealg.MaxLen", "unicode/utf8.first", "unicode/utf8.acceptRanges"], apart := false, laid := [("unicode/utf8.acceptRanges", laid_unicode_utf8_acceptRanges), ("argus/token.allWords", laid_argus_token_allWords), ("unicode/utf8.first", laid_unicode_utf8_first)], narrowed := true }
def KindPutUptoSaid : Prop := kindPutUptoRow.holds Tryz.pinned (OpenSpec.upto kindPutSpec)

/-- 'arguslaw03.KindMatched', WHERE WHAT IT READS IS OF BULK AT MOST 1048576: true; the input reads as it did. -/
def kindMatchedUptoRow : OpenClaim := { program := "ythcoppfdffhjfaagreatdoor", sum := "42ff3bbd9c59b01f37742800c831bf6becfe452fe15416670b071e9d62120b47", func := "argus/arguslaw03.KindMatched", spec := "kindMatched", inPlace := ["internal/bytealg.IndexByteString", "internal/bytealg.IndexString", "internal/bytealg.CountString", "internal/abi.NoEscape", "internal/bytealg.MakeNoZero", "internal/bytealg.abigen_runtime_cmpstring"], unfollowed := true, recurses := true, named := ["argus/token.allWords", "internal/bytealg.MaxLen", "unicode/utf8.first", "unicode/utf8.acceptRanges"], apart := false, laid := [("unicode/utf8.acceptRanges", laid_unicode_utf8_acceptRanges), ("argus/token.allWords", laid_argus_token_allWords), ("unicode/utf8.first", laid_unicode_utf8_first)], narrowed := true }
def KindMatchedUptoSaid : Prop := kindMatchedUptoRow.holds Tryz.pinned (OpenSpec.upto kindMatchedSpec)

/-- 'arguslaw03.KindRebuilt', WHERE WHAT IT READS IS OF BULK AT MOST 1048576: true; the input reads as it did. -/
def kindRebuiltUptoRow : OpenClaim := { program := "ythcoppfdffhjfaagreatdoor", sum := "42ff3bbd9c59b01f37742800c831bf6becfe452fe15416670b071e9d62120b47", func := "argus/arguslaw03.KindRebuilt", spec := "kindRebuilt", inPlace := ["internal/bytealg.IndexByteString", "internal/bytealg.IndexString", "internal/bytealg.CountString", "internal/abi.NoEscape", "internal/bytealg.MakeNoZero", "internal/bytealg.abigen_runtime_cmpstring"], unfollowed := true, recurses := true, named := ["argus/token.allWords", "internal/bytealg.MaxLen", "unicode/utf8.first", "unicode/utf8.acceptRanges"], apart := false, laid := [("unicode/utf8.acceptRanges", laid_unicode_utf8_acceptRanges), ("argus/token.allWords", laid_argus_token_allWords), ("unicode/utf8.first", laid_unicode_utf8_first)], narrowed := true }
def KindRebuiltUptoSaid : Prop := kindRebuiltUptoRow.holds Tryz.pinned (OpenSpec.upto kindRebuiltSpec)

/-- 'arguslaw03.KindLevels', WHERE WHAT IT READS IS OF BULK AT MOST 1048576: true; the input reads as it did. -/
def kindLevelsUptoRow : OpenClaim := { program := "ythcoppfdffhjfaagreatdoor", sum := "42ff3bbd9c59b01f37742800c831bf6becfe452fe15416670b071e9d62120b47", func := "argus/arguslaw03.KindLevels", spec := "kindLevels", inPlace := ["internal/bytealg.IndexByteString", "internal/bytealg.IndexString", "internal/bytealg.CountString", "internal/abi.NoEscape", "internal/bytealg.MakeNoZero", "internal/bytealg.abigen_runtime_cmpstring"], unfollowed := true, recurses := true, named := ["argus/token.allWords", "internal/bytealg.MaxLen", "unicode/utf8.first", "unicode/utf8.acceptRanges"], apart := false, laid := [("unicode/utf8.acceptRanges", laid_unicode_utf8_acceptRanges), ("argus/token.allWords", laid_argus_token_allWords), ("unicode/utf8.first", laid_unicode_utf8_first)], narrowed := true }
def KindLevelsUptoSaid : Prop := kindLevelsUptoRow.holds Tryz.pinned (OpenSpec.upto kindLevelsSpec)

/-- 'arguslaw03.KindNames', WHERE WHAT IT READS IS OF BULK AT MOST 1048576: true; the input reads as it did. -/
def kindNamesUptoRow : OpenClaim := { program := "ythcoppfdffhjfaagreatdoor", sum := "42ff3bbd9c59b01f37742800c831bf6becfe452fe15416670b071e9d62120b47", func := "argus/arguslaw03.KindNames", spec := "kindNames", inPlace := ["internal/bytealg.IndexByteString", "internal/bytealg.IndexString", "internal/bytealg.CountString", "internal/abi.NoEscape", "internal/bytealg.MakeNoZero", "internal/bytealg.abigen_runtime_cmpstring"], unfollowed := true, recurses := true, named := ["argus/token.allWords", "internal/bytealg.MaxLen", "unicode/utf8.first", "unicode/utf8.acceptRanges"], apart := false, laid := [("unicode/utf8.acceptRanges", laid_unicode_utf8_acceptRanges), ("argus/token.allWords", laid_argus_token_allWords), ("unicode/utf8.first", laid_unicode_utf8_first)], narrowed := true }
def KindNamesUptoSaid : Prop := kindNamesUptoRow.holds Tryz.pinned (OpenSpec.upto kindNamesSpec)

end Rows
end Go.Proofs.YthcoppfdffhjfaaGreatDoor
