/- The chapter's examples. -/
import Derived.Test.YtophcjkfhneghaaDoorY
namespace Go.Proofs.YtophcjkfhneghaaDoor
open Go Go.RowKit

def firstT : ByteArray := bs [120, 32, 58, 61, 32, 97, 91, 49, 50, 93, 32, 32, 37, 32, 102, 105, 114, 115, 116, 10, 101, 110, 100]
def firstToks : List Tok := [⟨1, [120], 1⟩, ⟨4, [58, 61], 1⟩, ⟨1, [97], 1⟩, ⟨4, [91], 1⟩, ⟨3, [49, 50], 1⟩, ⟨4, [93], 1⟩, ⟨2, [101, 110, 100], 2⟩]
def firstComs : List (List UInt8) := [[37, 32, 102, 105, 114, 115, 116]]
set_option maxRecDepth 100000 in
theorem ex_scan : scanT firstT = .ok (firstToks, firstComs) := by kernel_rfl
theorem ex_tight : tightR firstT = ([120, 58, 61, 97, 91, 49, 50, 93, 101, 110, 100], (0, 0)) := by kernel_rfl
def printToks : List Tok := [⟨2, [100, 111], 1⟩, ⟨1, [120], 3⟩, ⟨4, [58, 61], 3⟩]
theorem ex_print : printR printToks = ([100, 111, 10, 10, 120, 32, 58, 61, 10], 0) := by kernel_rfl
theorem ex_bad : scanT (bs [120, 10, 48, 48, 55]) = .error (11, 2) := by kernel_rfl
theorem ex_name : isNameB (bs [116, 104, 105, 114, 116, 101, 101, 110]) = true := by kernel_rfl
theorem ex_noname : isNameB (bs [100, 111]) = false := by kernel_rfl
end Go.Proofs.YtophcjkfhneghaaDoor
