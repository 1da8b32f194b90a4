/- The lexicon: the map of the reserved words, made once, asked often. -/
import Derived.Test.YtophcjkfhneghaaDoorE
import Derived.RangeFuncRecord
import Derived.Laws.MakeOwn
import Derived.Laws.Entries
namespace Go.Proofs.YtophcjkfhneghaaDoor
open Go Go.RowKit

def lexEntry (k : Nat) : MapEntry := { key := .string (atL wordL k), val := .bool true, born := k }
/-- The map's entries when the first k words have been stored. -/
def lexArr (k : Nat) : Array MapEntry := ((List.range k).map lexEntry).toArray
def Lex (w : World) (m : Nat) : Prop := w.heap[m]? = some (.map (lexArr 46) 46)

theorem Lex.lt {w : World} {m : Nat} (h : Lex w m) : m < w.heap.size := (Array.getElem?_eq_some_iff.1 h).1
theorem Lex.drewN {w : World} {m : Nat} (h : Lex w m) (n : Nat) : Lex (w.drewN n) m := h
theorem Lex.below {w w' : World} {m B : Nat} (h : Lex w m) (hb : Below B w w') (hm : m < B) : Lex w' m := (hb.block m hm).trans h
theorem Lex.grown {w w' : World} {m : Nat} {row : Option Nat} (h : Lex w m) (hb : w.grownBy w' row) (hm : some m ≠ row) : Lex w' m := (hb.block m h.lt hm).trans h

theorem findNow_lex (s : ByteArray) : ∀ (ks : List Nat) (i : Nat), ∃ r, Instr.findNow .string (.string s) (ks.map lexEntry) i = some r ∧
    ((r = none ∧ ∀ k ∈ ks, (s == atL wordL k) = false) ∨ (∃ j, r = some (j, .bool true)) ∧ ∃ k ∈ ks, (s == atL wordL k) = true)
  | [], i => ⟨none, rfl, .inl ⟨rfl, fun k hk => by cases hk⟩⟩
  | k :: ks, i => by
    simp only [List.map_cons, Instr.findNow, lexEntry, Instr.sameNow]
    cases hq : (s == atL wordL k) with
    | true => exact ⟨_, rfl, .inr ⟨⟨i, rfl⟩, k, by simp, hq⟩⟩
    | false =>
      obtain ⟨r, h1, h2⟩ := findNow_lex s ks (i + 1)
      refine ⟨r, h1, ?_⟩
      rcases h2 with ⟨h2, h3⟩ | ⟨h2, k', h3, h4⟩
      · refine .inl ⟨h2, fun x hx => ?_⟩
        rcases List.mem_cons.1 hx with rfl | hx
        · exact hq
        · exact h3 x hx
      · exact .inr ⟨h2, k', List.mem_cons_of_mem _ h3, h4⟩

theorem ba_beq {a b : ByteArray} : (a == b) = true ↔ a = b := by
  rw [beq_toListBytes, beq_iff_eq, ByteArray.toList_eq, ByteArray.toList_eq]
  exact ⟨fun h => by rw [← bs_toList a, ← bs_toList b, h], fun h => by rw [h]⟩
theorem ba_beq_false {a b : ByteArray} : (a == b) = false ↔ a ≠ b := by
  rw [← Bool.not_eq_true, ba_beq]
theorem isWordB_of {s : ByteArray} {k : Nat} (hk : k < 46) (h : (s == atL wordL k) = true) : isWordB s = true :=
  any_getD (l := wordL) (k := k) hk (by rw [ba_beq] at h ⊢; exact h.symm)
theorem isWordB_not {s : ByteArray} (h : ∀ k, k < 46 → (s == atL wordL k) = false) : isWordB s = false :=
  any_none (l := wordL) fun j hj => by
    have := h j hj
    rw [ba_beq_false] at this ⊢
    exact fun e => this e.symm

theorem run_checkKey_string (empty : Bool) (s : ByteArray) (w : World) : (Instr.checkKey empty 10000 9 (.string s)).run Tryd.prog w = .ok () w := by
  have gen : ∀ n : Nat, (Instr.checkKey empty (n + 1) 9 (.string s)).run Tryd.prog w = .ok () w := fun n => by
    simp [Instr.checkKey, Sem.run_bind, run_underlying Tryd.underlying9]
  exact gen 9999

theorem lookup_lex {w : World} {m : Nat} (h : Lex w m) (s : ByteArray) : (Instr.lookup 59 (.map (some m)) (.string s) false).run Tryd.prog w = .ok (.bool (isWordB s)) w := by
  have hg : (getObj m).run Tryd.prog w = .ok (.map (lexArr 46) 46) w := by
    have h' : w.heap[m]? = some (.map (lexArr 46) 46) := h
    simp [getObj, Sem.run, h']
  obtain ⟨r, h1, h2⟩ := findNow_lex s (List.range 46) 0
  have hl : (lexArr 46).toList = (List.range 46).map lexEntry := by simp [lexArr]
  have hf : (Instr.findKey 9 (.string s) (lexArr 46).toList).run Tryd.prog w = .ok r w := by
    simp [Instr.findKey, Sem.run_bind, run_underlying Tryd.underlying9, hl, h1]
  have hz : (zeroValue 4).run Tryd.prog w = .ok (.bool false) w := by kernel_rfl
  rcases h2 with ⟨rfl, h3⟩ | ⟨⟨j, rfl⟩, k, h3, h4⟩
  · rw [isWordB_not (fun k hk => h3 k (List.mem_range.2 hk))]
    simp [Instr.lookup, Sem.run_bind, run_underlying Tryd.underlying59, hg, run_checkKey_string, hf, hz, Result.andThen]
  · rw [isWordB_of (List.mem_range.1 h3) h4]
    simp [Instr.lookup, Sem.run_bind, run_underlying Tryd.underlying59, hg, run_checkKey_string, hf, Result.andThen]

theorem lexArr_succ (k : Nat) : (lexArr k).push (lexEntry k) = lexArr (k + 1) := by
  simp [lexArr, List.range_succ]

theorem words_apart : ∀ k, k < 46 → ∀ j, j < k → (atL wordL k == atL wordL j) = false := by
  have h : ∀ k, k < 46 → ∀ j, j < k → wordL.getD k [] ≠ wordL.getD j [] := by decide +kernel
  intro k hk j hj
  rw [ba_beq_false]
  intro e
  exact h k hk j hj (bs_inj.1 e)

theorem store_lex {w : World} {m k : Nat} (h : w.heap[m]? = some (.map (lexArr k) k)) (hk : k < 46) :
    (Instr.mapUpdate 59 (.map (some m)) (.string (atL wordL k)) (.bool true)).run Tryd.prog w = .ok () (w.putObj m (.map (lexArr (k + 1)) (k + 1))) := by
  have hg : (getObj m).run Tryd.prog w = .ok (.map (lexArr k) k) w := by simp [getObj, Sem.run, h]
  have hs : ∀ o, (setObj m o).run Tryd.prog w = .ok () (w.putObj m o) := fun o => by simp [setObj, Sem.run, h, World.putObj]
  obtain ⟨r, h1, h2⟩ := findNow_lex (atL wordL k) (List.range k) 0
  have hr : r = none := by
    rcases h2 with ⟨h2, _⟩ | ⟨_, j, h3, h4⟩
    · exact h2
    · rw [words_apart k hk j (List.mem_range.1 h3)] at h4; cases h4
  subst hr
  have hl : (lexArr k).toList = (List.range k).map lexEntry := by simp [lexArr]
  have hf : (Instr.findKey 9 (.string (atL wordL k)) (lexArr k).toList).run Tryd.prog w = .ok none w := by
    simp [Instr.findKey, Sem.run_bind, run_underlying Tryd.underlying9, hl, h1]
  have hp : (lexArr k).push { key := .string (atL wordL k), val := .bool true, born := k } = lexArr (k + 1) := lexArr_succ k
  simp [Instr.mapUpdate, Sem.run_bind, run_underlying Tryd.underlying59, hg, run_checkKey_string, hf, hs, Result.andThen, hp]

theorem run_makeMap_hint {P : Program} (t k e : TypeId) (kd : IntKind) (n : Int) (ht : P.underlying t = some (.map k e)) (w : World) :
    (Instr.makeMap t (some (.int kd n))).run P w = .ok (.map (some w.heap.size)) (w.alloc (.map #[] 0)) := by
  simp [Instr.makeMap, run_underlying ht]; rfl

theorem below_putObj {B : Nat} {a w : World} (h : Below B a w) {m : Nat} (hm : B ≤ m) (o : Obj) : Below B a (w.putObj m o) :=
  h.trans ⟨rfl, rfl, rfl, by simp, fun k hk => World.putObj_heap_other (by omega)⟩
end Go.Proofs.YtophcjkfhneghaaDoor
