/- The words for worlds: blocks that are known whole, rows, and what may turn. Nothing here is a contract. -/
import Derived.Test.YthcoppfdffhjfaaGreatDoorProg
import Derived.WalkKit
import Derived.WalkLawsBesides
import Derived.WalkSpells
import Derived.Deep.QuietTactic
import Derived.BigQuiet
import Derived.Lib.Hide
import Derived.Deep.LoopGhost
import Derived.Deep.RegionHeld3
import Derived.Deep.RegionLaw
import Derived.Deep.AppendLies
import Derived.RangeFuncRecord
import Derived.RangeFuncLeaves
import Derived.RecoverIn
import Derived.OwnWalkIn
import Derived.TacticsInMore
import Derived.Outline
import Derived.Test.YthcoppfdffhjfaaGreatDoorT5
namespace Go.Proofs.YthcoppfdffhjfaaGreatDoor
open Go Go.RowKit

/-- A block that is known whole. -/
def Blk (w : World) (g : Nat) (t : TypeId) (cs : Array Value) : Prop := w.heap[g]? = some (.cells cs t (0, 0))

section
variable {w w' : World} {g : Nat} {t : TypeId} {cs : Array Value}
theorem Blk.lt (h : Blk w g t cs) : g < w.heap.size := by
  rcases Nat.lt_or_ge g w.heap.size with hlt | hge
  · exact hlt
  · unfold Blk at h; rw [Array.getElem?_eq_none hge] at h; cases h
theorem Blk.cell (h : Blk w g t cs) (i : Nat) : w.cell? ⟨g, i, none⟩ = cs[i]? := cell_of_row w g i cs t (0, 0) h
theorem Blk.frozen (h : Blk w g t cs) (i : Nat) : w.frozen? ⟨g, i, none⟩ = false := by
  unfold Blk at h
  simp [World.frozen?, h]
theorem Blk.new (w : World) (t : TypeId) (cs : Array Value) : Blk (w.alloc (.cells cs t)) w.heap.size t cs := heap_alloc_new w _
theorem Blk.drewN (h : Blk w g t cs) (n : Nat) : Blk (w.drewN n) g t cs := h
theorem Blk.alloc (h : Blk w g t cs) (o : Obj) : Blk (w.alloc o) g t cs := (Below.heap_alloc w o g h.lt).trans h
theorem Blk.set_ (h : Blk w g t cs) (i : Nat) (u : Value) : Blk (w.setCell ⟨g, i, none⟩ u) g t (cs.setIfInBounds i u) := by
  unfold Blk at h ⊢
  simp [World.setCell, Array.getElem?_modify, h]
theorem Blk.far (h : Blk w g t cs) {p : Addr} (hp : g ≠ p.block) (u : Value) : Blk (w.setCell p u) g t cs := (Below.heap_setCell w p u g hp).trans h
theorem Blk.below {B : Nat} (h : Blk w g t cs) (hb : Below B w w') (hg : g < B) : Blk w' g t cs := (hb.block g hg).trans h
theorem Blk.grown {row : Option Nat} (h : Blk w g t cs) (hb : w.grownBy w' row) (hg : some g ≠ row) : Blk w' g t cs := (hb.block g h.lt hg).trans h
end

theorem grown_drewN {a w : World} {row : Option Nat} (h : a.grownBy w row) (n : Nat) : a.grownBy (w.drewN n) row := ⟨h.os, h.tape, h.output, h.size, h.block⟩
theorem grown_refl (a : World) (row : Option Nat) : a.grownBy a row := ⟨rfl, rfl, rfl, Nat.le_refl _, fun _ _ _ => rfl⟩
theorem grown_alloc {a w : World} {row : Option Nat} (h : a.grownBy w row) (o : Obj) : a.grownBy (w.alloc o) row :=
  ⟨h.os, h.tape, h.output, Nat.le_trans h.size (by simp), fun i hi hne => (Below.heap_alloc w o i (Nat.lt_of_lt_of_le hi h.size)).trans (h.block i hi hne)⟩
theorem grown_setCell {a w : World} {g : Nat} (h : a.grownBy w (some g)) {p : Addr} (hp : p.block = g ∨ a.heap.size ≤ p.block) (u : Value) : a.grownBy (w.setCell p u) (some g) :=
  ⟨h.os, h.tape, h.output, by simpa [World.setCell] using h.size, fun i hi hne => (Below.heap_setCell w p u i (by
    rintro rfl
    rcases hp with hp | hp
    · exact hne (by rw [hp])
    · omega)).trans (h.block i hi hne)⟩
theorem grown_trans {a b c : World} {row : Option Nat} (h : a.grownBy b row) (k : b.grownBy c row) : a.grownBy c row :=
  ⟨k.os.trans h.os, k.tape.trans h.tape, k.output.trans h.output, Nat.le_trans h.size k.size, fun i hi hne => (k.block i (Nat.lt_of_lt_of_le hi h.size) hne).trans (h.block i hi hne)⟩

theorem grown_below {a w w' : World} {row : Option Nat} (h : a.grownBy w row) (hb : Below w.heap.size w w') : a.grownBy w' row :=
  ⟨hb.os.trans h.os, hb.tape.trans h.tape, hb.output.trans h.output, Nat.le_trans h.size hb.size, fun i hi hne => (hb.block i (Nat.lt_of_lt_of_le hi h.size)).trans (h.block i hi hne)⟩
theorem below_grown {w w' : World} {g : Nat} (h : w.grownBy w' (some g)) (hg : w.heap.size ≤ g) : Below w.heap.size w w' :=
  ⟨h.os, h.tape, h.output, h.size, fun i hi => h.block i hi (fun e => by injection e; omega)⟩
theorem grown_of_below {a w : World} (h : Below a.heap.size a w) (row : Option Nat) : a.grownBy w row := ⟨h.os, h.tape, h.output, h.size, fun i hi _ => h.block i hi⟩
theorem grown_set {a w : World} {g o : Nat} (h : a.grownBy w (some g)) (u : Value) : a.grownBy (w.setCell ⟨g, o, none⟩ u) (some g) := grown_setCell h (.inl rfl) u


/-- Of what was there only what T names may have turned. -/
structure Turns (T : Nat → Obj → Prop) (w w' : World) : Prop where
  os : w'.os = w.os
  tape : w'.tape = w.tape
  output : w'.output = w.output
  size : w.heap.size ≤ w'.heap.size
  same : ∀ i o, w.heap[i]? = some o → ¬ T i o → w'.heap[i]? = some o

section
variable {T U : Nat → Obj → Prop} {w w' w'' : World}
theorem Turns.refl (T : Nat → Obj → Prop) (w : World) : Turns T w w := ⟨rfl, rfl, rfl, Nat.le_refl _, fun _ _ h _ => h⟩
theorem Turns.trans (h : Turns T w w') (k : Turns T w' w'') : Turns T w w'' :=
  ⟨k.os.trans h.os, k.tape.trans h.tape, k.output.trans h.output, Nat.le_trans h.size k.size, fun i o ho hn => k.same i o (h.same i o ho hn) hn⟩
theorem Turns.mono (h : Turns T w w') (hTU : ∀ i o, T i o → U i o) : Turns U w w' :=
  ⟨h.os, h.tape, h.output, h.size, fun i o ho hn => h.same i o ho fun ht => hn (hTU i o ht)⟩
theorem Turns.of_below (h : Below w.heap.size w w') : Turns T w w' :=
  ⟨h.os, h.tape, h.output, h.size, fun i _o ho _ => (h.block i (Array.getElem?_eq_some_iff.1 ho).1).trans ho⟩
theorem Turns.of_grown {row : Option Nat} (h : w.grownBy w' row) (hr : ∀ i o, row = some i → w.heap[i]? = some o → T i o) : Turns T w w' :=
  ⟨h.os, h.tape, h.output, h.size, fun i o ho hn => (h.block i (Array.getElem?_eq_some_iff.1 ho).1 (fun e => hn (hr i o e.symm ho))).trans ho⟩
theorem Turns.drewN (h : Turns T w w') (n : Nat) : Turns T w (w'.drewN n) := ⟨h.os, h.tape, h.output, h.size, h.same⟩
theorem Turns.below {B : Nat} (h : Turns T w w') (hB : B ≤ w.heap.size) (hT : ∀ i o, T i o → B ≤ i) : Below B w w' :=
  ⟨h.os, h.tape, h.output, h.size, fun i hi => by
    have ho : w.heap[i]? = some w.heap[i] := Array.getElem?_eq_getElem (by omega)
    rw [ho]
    exact h.same i _ ho fun ht => by have := hT i _ ht; omega⟩
theorem Turns.blk {g : Nat} {t : TypeId} {cs : Array Value} (h : Turns T w w') (hb : Blk w g t cs) (hT : ¬ T g (.cells cs t (0, 0))) : Blk w' g t cs := h.same g _ hb hT
theorem Turns.own {base n size : Nat} {e : TypeId} {v : Value} {xs : List Value} (h : Turns T w w') (ho : w.ownsRow base e size v n xs) (hT : ∀ g cur, base ≤ g → ¬ T g (.cells cur e (0, 0))) : w'.ownsRow base e size v n xs := by
  obtain ⟨h1, h2⟩ := ho
  refine ⟨h1, ?_⟩
  rcases h2 with h2 | ⟨g, cap, cur, hv, hg, hh, r⟩
  · exact .inl h2
  · exact .inr ⟨g, cap, cur, hv, hg, h.same g _ hh (hT g cur hg), r⟩
end

theorem own_slice {w : World} {base n size : Nat} {e : TypeId} {v : Value} {xs : List Value} (h : w.ownsRow base e size v n xs) (hn : 0 < n) : ∃ g cap, v = .slice (some ⟨g, 0, none⟩) n cap ∧ base ≤ g := by
  rcases h.2 with ⟨_, h0⟩ | ⟨g, cap, cur, hv, hg, _⟩
  · omega
  · exact ⟨g, cap, hv, hg⟩

theorem own_turn {w : World} {base n size : Nat} {e : TypeId} {v : Value} {xs : List Value} (h : w.ownsRow base e size v n xs) {i : Nat} {o : Obj} (hi : v.ownBlock = some i) (ho : w.heap[i]? = some o) : base ≤ i ∧ ∃ cs fr, o = .cells cs e fr := by
  refine ⟨(h.lt i hi).1, ?_⟩
  rcases h.2 with ⟨hv, _⟩ | ⟨g, cap', cur, hv, _, hh, _⟩
  · rw [hv] at hi; simp [Value.ownBlock] at hi
  · rw [hv] at hi
    simp only [Value.ownBlock, Option.some.injEq] at hi
    subst hi
    rw [hh] at ho
    exact ⟨cur, _, (Option.some.inj ho).symm⟩

theorem grown_putObj (W : World) (l : Nat) (o : Obj) : W.grownBy (W.putObj l o) (some l) :=
  ⟨rfl, rfl, rfl, by simp, fun k _ hk => World.putObj_heap_other (fun e => hk (by rw [e]))⟩

theorem turns_putObj {T : Nat → Obj → Prop} {W : World} {l : Nat} (h : ∀ o, W.heap[l]? = some o → T l o) (o' : Obj) : Turns T W (W.putObj l o') :=
  ⟨rfl, rfl, rfl, by simp, fun i o ho hn => by
    by_cases e : i = l
    · subst e; exact absurd (h o ho) hn
    · exact (World.putObj_heap_other e).trans ho⟩

theorem turns_set {T : Nat → Obj → Prop} {W : World} {p : Addr} (h : ∀ o, W.heap[p.block]? = some o → T p.block o) (u : Value) : Turns T W (W.setCell p u) :=
  Turns.of_grown (row := some p.block) (grown_setCell (grown_refl _ _) (.inl rfl) _) fun i o hi ho => by injection hi with hi; subst hi; exact h o ho

theorem base_le {w : World} {base base' n size : Nat} {e : TypeId} {v : Value} {xs : List Value} (h : w.ownsRow base e size v n xs) (hb : base' ≤ base) : w.ownsRow base' e size v n xs := by
  rcases h with ⟨h1, h2 | ⟨g, cap, cur, h3, h4, h5⟩⟩
  · exact ⟨h1, .inl h2⟩
  · exact ⟨h1, .inr ⟨g, cap, cur, h3, Nat.le_trans hb h4, h5⟩⟩

theorem own_shape {w : World} {base n size : Nat} {e : TypeId} {v : Value} {xs : List Value} (h : w.ownsRow base e size v n xs) : ∃ ao k cap, v = .slice ao k cap := by
  rcases h with ⟨_, ⟨h2, _⟩ | ⟨g, cap, cur, h3, _⟩⟩
  · exact ⟨_, _, _, h2⟩
  · exact ⟨_, _, _, h3⟩

theorem own_len {w : World} {base n size : Nat} {e : TypeId} {v : Value} {xs : List Value} (h : w.ownsRow base e size v n xs) : ∃ ao cap, v = .slice ao n cap := by
  rcases h with ⟨_, ⟨h2, h3⟩ | ⟨g, cap, cur, h3, _⟩⟩
  · exact ⟨_, _, by rw [h2, h3]⟩
  · exact ⟨_, _, h3⟩

theorem ret_bool {a b : Bool} (h : a = b) : Ending.returned (.bool a) = .returned (.bool b) := by rw [h]
theorem ret_int {k : IntKind} {a b : Int} (h : a = b) : Ending.returned (.int k a) = .returned (.int k b) := by rw [h]
/-- The k-th text of a list. -/
def atL (l : List (List UInt8)) (k : Nat) : ByteArray := bs (l.getD k [])

def strsV (l : List (List UInt8)) : Array Value := (l.map fun x => Value.string (bs x)).toArray
theorem strsV_size (l : List (List UInt8)) : (strsV l).size = l.length := by simp [strsV]
theorem strsV_at (l : List (List UInt8)) (k : Nat) (h : k < l.length) : (strsV l)[k]? = some (.string (bs (l.getD k []))) := by
  simp [strsV, h, List.getD]

/-- Texts lie in a row from a cell on. -/
def StrRow (w : World) (g o : Nat) (l : List (List UInt8)) : Prop := ∀ i x, l[i]? = some x → w.cell? ⟨g, o + i, none⟩ = some (.string (bs x))
theorem StrRow.below {w w' : World} {g o B : Nat} {l : List (List UInt8)} (h : StrRow w g o l) (hb : Below B w w') (hg : g < B) : StrRow w' g o l := fun i x hi =>
  (World.cell?_of_block (a := ⟨g, o + i, none⟩) (hb.block g hg)).trans (h i x hi)
theorem strRow_of_block {w : World} {g t : Nat} {l : List (List UInt8)} (h : w.heap[g]? = some (.cells (strsV l) t (0, 0))) : StrRow w g 0 l := by
  intro i x hi
  rw [cell_of_row w g (0 + i) _ t (0, 0) h]
  simp [strsV, hi]

def strVs (l : List (List UInt8)) : List Value := l.map fun x => .string (bs x)
theorem own_strs {w : World} {base : Nat} {v : Value} {l : List (List UInt8)} (h : w.ownsRow base 9 1 v l.length (strVs l)) (hn : 0 < l.length) : ∃ g cap, v = .slice (some ⟨g, 0, none⟩) l.length cap ∧ base ≤ g ∧ g < w.heap.size ∧ StrRow w g 0 l := by
  rcases h with ⟨h1, ⟨_, h0⟩ | ⟨g, cap, cur, hv, hg, hh, hc, _, hcs, ht⟩⟩
  · omega
  · refine ⟨g, cap, hv, hg, (Array.getElem?_eq_some_iff.1 hh).1, fun i x hi => ?_⟩
    have hil : i < l.length := (List.getElem?_eq_some_iff.1 hi).1
    have e : (strVs l)[i]? = some (.string (bs x)) := by simp [strVs, hi]
    rw [Nat.zero_add, cell_of_row w g i cur 9 (0, 0) hh, ← e, ← ht, List.getElem?_take, if_pos (by omega)]
    simp

end Go.Proofs.YthcoppfdffhjfaaGreatDoor
