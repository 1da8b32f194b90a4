/- The lexicon is made; the scanner's methods that read a token. -/
import Derived.Test.YtophcjkfhneghaaDoorF
namespace Go.Proofs.YtophcjkfhneghaaDoor
open Go Go.RowKit

set_option maxRecDepth 100000 in
set_option maxHeartbeats 1000000 in
theorem newLexicon_any (w : World) (h : Env w) : Calls Tryd.prog 43 #[] w fun e w' => ∃ m, e = .returned (.map (some m)) ∧ Lex w' m ∧ w.heap.size ≤ m ∧ Below w.heap.size w w' := by
  have hmm := fun W => run_makeMap_hint 59 9 4 .i64 46 Tryd.underlying59 W
  have hld := tablewords_load (h.below ((Below.refl _ w).alloc (Nat.le_refl _) (.map #[] 0)))
  have HLD := Lib.hid hld
  clear hld h
  go_enter Tryd.func43, Tryd.ntmps43
  go_wp2_with (refine wpList_load_of rfl 54 _ rfl _ rfl _ HLD.out ?_)
  clear hmm
  go_loopw [6] (fun i wr => ∃ k : Nat, k ≤ 46 ∧ i = .int .i64 k ∧ wr.heap[w.heap.size]? = some (.map (lexArr k) k) ∧ Below w.heap.size w wr) (fun i _ => 46 - (intOf i).toNat)
  case atStart => exact ⟨0, by omega, rfl, heap_alloc_new w _, (Below.refl _ w).alloc (Nat.le_refl _) _⟩
  case round =>
    obtain ⟨k, hk, rfl, hm, hb⟩ := hrel
    have HM := Lib.hid hm
    have HB := Lib.hid hb
    clear hm hb
    by_cases hlt : k < 46
    · have hix := tablewords_index k hlt
      have hst := store_lex HM.out hlt
      go_wp2
      go_roundw
      case rel =>
        exact ⟨k + 1, by omega, by go_num, World.putObj_heap_same (Array.getElem?_eq_some_iff.1 HM.out).1, below_putObj HB.out (Nat.le_refl _) _⟩
      case measure => simp [intOf]; omega
    · have : k = 46 := by omega
      subst this
      go_wp2
      go_ret
      exact ⟨_, rfl, HM.out, Nat.le_refl _, HB.out⟩
end Go.Proofs.YtophcjkfhneghaaDoor
