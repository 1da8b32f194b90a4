/- One round of the loop in package token's read: a token is put behind those that were read before. -/
import Derived.Test.YtophcjkfhneghaaDoorJ
import Derived.Test.YtophcjkfhneghaaDoorK
import Derived.OwnWalkIn
import Derived.TacticsInMore
import Derived.RangeFuncLeaves
namespace Go.Proofs.YtophcjkfhneghaaDoor
open Go Go.RowKit

attribute [local go_sem] Oper.semAt_some

/-- A token. -/
structure Tok where
  kind : Int
  text : List UInt8
  line : Int
  deriving DecidableEq

def tokCells (t : Tok) : List Value := [.int .u8 t.kind, .string (bs t.text), .int .i64 t.line]
def tokV (t : Tok) : Value := .agg #[.int .u8 t.kind, .string (bs t.text), .int .i64 t.line]
def tokVs (l : List Tok) : List Value := l.flatMap tokCells
theorem tokVs_length (l : List Tok) : (tokVs l).length = l.length * 3 := by
  induction l with
  | nil => rfl
  | cons t l ih =>
    have e : tokVs (t :: l) = tokCells t ++ tokVs l := by simp [tokVs]
    rw [e, List.length_append, ih]; simp [tokCells]; omega
theorem tokVs_snoc (l : List Tok) (t : Tok) : tokVs (l ++ [t]) = tokVs l ++ tokCells t := by simp [tokVs]

theorem info38 : (Tryd.prog.info? 38).map (fun i => (i.zero, i.size, i.bytes)) = some (some (.agg #[.int .u8 0, .string ByteArray.empty, .int .i64 0]), 3, 32) := by kernel_rfl

/-- The loop over a function in a body: what is assigned, and what is done. -/
def loopParts : Code → Option (Code × Code)
  | .seq a b => (loopParts a).or (loopParts b)
  | .block _ c => loopParts c
  | .rangeFunc _ _ a b => some (a, b)
  | _ => none

/-- What a round turns. -/
def RoundT (B0 b l : Nat) (i : Nat) (o : Obj) : Prop := i = B0 ∨ (i = l ∧ ∃ r, o = .loop r) ∨ (b < i ∧ ∃ cs fr, o = .cells cs 38 fr)

/-- The record of read's loop. -/
def readLoop (fn : Nat) (x : Nat → Value) (B0 D : Nat) (A Bd : Code) (st : LoopState) (pe : Option Code) : Loop :=
  { state := st, pending := pe, fn := fn, tmps := #[x 0, x 1, x 2, x 3, .pointer (some ⟨B0, 0, none⟩), x 5, x 6, x 7, x 8, x 9, x 10, x 11, x 12, x 13, x 14, x 15, x 16, x 17, x 18, x 19, x 20, x 21, x 22, x 23, x 24, x 25, x 26, x 27, x 28, x 29, x 30, x 31], params := #[21], assign := A, body := Bd, defers := D }

theorem own_slice {w : World} {base n size : Nat} {e : TypeId} {v : Value} {xs : List Value} (h : w.ownsRow base e size v n xs) (hn : 0 < n) : ∃ g cap, v = .slice (some ⟨g, 0, none⟩) n cap ∧ base ≤ g := by
  rcases h.2 with ⟨_, h0⟩ | ⟨g, cap, cur, hv, hg, _⟩
  · omega
  · exact ⟨g, cap, hv, hg⟩

theorem own_turn {w : World} {base n size : Nat} {e : TypeId} {v : Value} {xs : List Value} (h : w.ownsRow base e size v n xs) {i : Nat} {o : Obj} (hi : v.ownBlock = some i) (ho : w.heap[i]? = some o) : base ≤ i ∧ ∃ cs fr, o = .cells cs e fr := by
  refine ⟨(h.lt i hi).1, ?_⟩
  rcases h.2 with ⟨hv, _⟩ | ⟨g, cap', cur, hv, _, hh, _⟩
  · rw [hv] at hi; simp [Value.ownBlock] at hi
  · rw [hv] at hi
    simp only [Value.ownBlock, Option.some.injEq] at hi
    subst hi
    rw [hh] at ho
    exact ⟨cur, _, (Option.some.inj ho).symm⟩

theorem grown_putObj (W : World) (l : Nat) (o : Obj) : W.grownBy (W.putObj l o) (some l) :=
  ⟨rfl, rfl, rfl, by simp, fun k _ hk => World.putObj_heap_other (fun e => hk (by rw [e]))⟩

theorem turns_putObj {T : Nat → Obj → Prop} {W : World} {l : Nat} (h : ∀ o, W.heap[l]? = some o → T l o) (o' : Obj) : Turns T W (W.putObj l o') :=
  ⟨rfl, rfl, rfl, by simp, fun i o ho hn => by
    by_cases e : i = l
    · subst e; exact absurd (h o ho) hn
    · exact (World.putObj_heap_other e).trans ho⟩

set_option maxRecDepth 100000 in
set_option maxHeartbeats 3200000 in
theorem round_any (B0 b l D n fn : Nat) (x : Nat → Value) (A Bd : Code) (hAB : Tryd.f44.body.bind loopParts = some (A, Bd)) (t : Tok) (vt : Value) (toks : List Tok) (W : World)
    (hbox : Blk W B0 28 #[vt]) (hown : W.ownsRow (b + 1) 38 3 vt toks.length (tokVs toks)) (hl : W.heap[l]? = some (.loop (readLoop fn x B0 D A Bd .ready none))) (hB : B0 < b) (hb : b < W.heap.size) (hbl : b < l) (hn : toks.length ≤ 20000)
    (R : Ending → World → Prop)
    (hR : ∀ W', W'.heap[l]? = some (.loop (readLoop fn x B0 D A Bd .ready none)) → (∃ vt', Blk W' B0 28 #[vt'] ∧ W'.ownsRow (b + 1) 38 3 vt' (toks ++ [t]).length (tokVs (toks ++ [t]))) → Turns (RoundT B0 b l) W W' → R (.returned (.bool true)) W') :
    RoundIn Fence.wide n Tryd.prog l fn ((readLoop fn x B0 D A Bd .ready none).tmps.setIfInBounds 21 (tokV t)) A Bd W R := by
  have HR := Lib.hid hR
  have HL := Lib.hid hl
  have HBOX := Lib.hid hbox
  have HOWN := Lib.hid hown
  clear hR hl hbox hown
  have HAB := Lib.hid hAB
  simp only [Tryd.f44, Option.bind_some, loopParts, Option.or, Option.some.injEq, Prod.mk.injEq] at hAB
  obtain ⟨hA, hBd⟩ := hAB
  refine roundIn_of_wpIn trivial ?_
  have HB := Lib.hid hBd
  have hll : l < W.heap.size := (Array.getElem?_eq_some_iff.1 HL.out).1
  have htm : (readLoop fn x B0 D A Bd .ready none).tmps.setIfInBounds 21 (tokV t) = #[x 0, x 1, x 2, x 3, .pointer (some ⟨B0, 0, none⟩), x 5, x 6, x 7, x 8, x 9, x 10, x 11, x 12, x 13, x 14, x 15, x 16, x 17, x 18, x 19, x 20, .agg #[.int .u8 t.kind, .string (bs t.text), .int .i64 t.line], x 22, x 23, x 24, x 25, x 26, x 27, x 28, x 29, x 30, x 31] := rfl
  rw [htm, ← hA]
  clear hA hBd htm
  gi_wp2
  have hl1 : (W.alloc (Obj.cells #[Value.int IntKind.u8 t.kind, Value.string (bs t.text), Value.int IntKind.i64 t.line] 38)).heap[l]? = some (.loop (readLoop fn x B0 D A Bd .ready none)) := (Below.heap_alloc W _ l hll).trans HL.out
  refine ⟨(W.alloc (Obj.cells #[Value.int IntKind.u8 t.kind, Value.string (bs t.text), Value.int IntKind.i64 t.line] 38)).putObj l (.loop (readLoop fn x B0 D A Bd .busy none)), run_beginRound hl1 rfl, ?_⟩
  have T1 : Hid (Turns (RoundT B0 b l) W ((W.alloc (Obj.cells #[Value.int IntKind.u8 t.kind, Value.string (bs t.text), Value.int IntKind.i64 t.line] 38)).putObj l (.loop (readLoop fn x B0 D A Bd .busy none)))) :=
    (Turns.of_below ((Below.refl _ W).alloc (Nat.le_refl _) _)).trans (turns_putObj (fun o ho => .inr (.inl ⟨rfl, _, (Option.some.inj (hl1.symm.trans ho)).symm⟩)) _)
  have hl2 : Hid (((W.alloc (Obj.cells #[Value.int IntKind.u8 t.kind, Value.string (bs t.text), Value.int IntKind.i64 t.line] 38)).putObj l (.loop (readLoop fn x B0 D A Bd .busy none))).heap[l]? = some (.loop (readLoop fn x B0 D A Bd .busy none))) :=
    World.putObj_heap_same (by simp; omega)
  have hbox2 : Hid (Blk ((W.alloc (Obj.cells #[Value.int IntKind.u8 t.kind, Value.string (bs t.text), Value.int IntKind.i64 t.line] 38)).putObj l (.loop (readLoop fn x B0 D A Bd .busy none))) B0 28 #[vt]) :=
    (World.putObj_heap_other (by omega)).trans ((Below.heap_alloc W _ B0 (by omega)).trans HBOX.out)
  have hnew2 : Hid (Blk ((W.alloc (Obj.cells #[Value.int IntKind.u8 t.kind, Value.string (bs t.text), Value.int IntKind.i64 t.line] 38)).putObj l (.loop (readLoop fn x B0 D A Bd .busy none))) W.heap.size 38 #[.int .u8 t.kind, .string (bs t.text), .int .i64 t.line]) :=
    (World.putObj_heap_other (by omega)).trans (heap_alloc_new W _)
  have hown2 : Hid (((W.alloc (Obj.cells #[Value.int IntKind.u8 t.kind, Value.string (bs t.text), Value.int IntKind.i64 t.line] 38)).putObj l (.loop (readLoop fn x B0 D A Bd .busy none))).ownsRow (b + 1) 38 3 vt toks.length (tokVs toks)) :=
    (HOWN.out.alloc _).kept (grown_putObj _ l _) (by
      cases hv : vt.ownBlock with
      | none => exact .inl rfl
      | some g =>
        refine .inr fun e => ?_
        injection e with e
        subst e
        obtain ⟨_, cs, fr, h⟩ := own_turn HOWN.out hv HL.out
        cases h)
  have hs2 : ((W.alloc (Obj.cells #[Value.int IntKind.u8 t.kind, Value.string (bs t.text), Value.int IntKind.i64 t.line] 38)).putObj l (.loop (readLoop fn x B0 D A Bd .busy none))).heap.size = W.heap.size + 1 := by simp
  generalize (W.alloc (Obj.cells #[Value.int IntKind.u8 t.kind, Value.string (bs t.text), Value.int IntKind.i64 t.line] 38)).putObj l (.loop (readLoop fn x B0 D A Bd .busy none)) = W2 at *
  have HS2 := Lib.hid hs2
  clear hs2
  rw [← HB.out]
  have cbox := hbox2.out.cell 0
  have n0 := hnew2.out.cell 0
  have n1 := hnew2.out.cell 1
  have n2 := hnew2.out.cell 2
  simp only [List.getElem?_toArray, List.getElem?_cons_zero, List.getElem?_cons_succ] at cbox n0 n1 n2
  obtain ⟨i0, hi, hz0, hz1, hz2⟩ := info_parts info38
  have hB2 : B0 < W2.heap.size := hbox2.out.lt
  gi_wp2_with (gi_at_builtin; (refine wpListIn_append_own _ rfl _ _ 28 rfl (b + 1) 38 i0 _ 3 32 Tryd.underlying28 hi hz0 hz1 hz2 rfl (by decide) vt toks.length (tokVs toks) rfl (hown2.out.alloc _) ⟨W2.heap.size, 0, none⟩ 1 1 (tokCells t) rfl rfl ?c1 ?c2 ?c3 ?c4 ?c5 ?_))
  case c1 => exact World.news_of_block (cs := #[.int .u8 t.kind, .string (bs t.text), .int .i64 t.line]) (t := 38) (fr := (0, 0)) (heap_alloc_new W2 _)
  case c2 => simp [tokCells, Value.oneCell']
  case c3 => unfold maxLen; omega
  case c4 => omega
  case c5 => have := HS2.out; simp; omega
  intro v' w1 hown1 hgrow _
  obtain ⟨g, cap, hv', hg⟩ := own_slice hown1 (by omega)
  have HOWN1 := Lib.hid hown1
  have HGROW := Lib.hid hgrow
  clear hown1 hgrow
  have nb : some B0 ≠ vt.ownBlock := fun e => by have := (hown2.out.lt B0 e.symm).1; omega
  have T2 : Hid (Turns (RoundT B0 b l) W2 w1) :=
    (Turns.of_below ((Below.refl _ W2).alloc (Nat.le_refl _) _)).trans (Turns.of_grown HGROW.out fun i o hi ho => .inr (.inr (by
      obtain ⟨h1, h2⟩ := own_turn (hown2.out.alloc _) hi ho
      exact ⟨by omega, h2⟩)))
  have hbox3 : Hid (Blk w1 B0 28 #[vt]) := Blk.grown (Blk.alloc hbox2.out _) HGROW.out nb
  have hl3 : Hid (w1.heap[l]? = some (.loop (readLoop fn x B0 D A Bd .busy none))) :=
    (HGROW.out.block l (by simp; have := HS2.out; omega) (fun e => by
      have ho : (W2.alloc (.cells #[Value.int IntKind.u8 t.kind, Value.string (bs t.text), Value.int IntKind.i64 t.line] 38)).heap[l]? = some (.loop (readLoop fn x B0 D A Bd .busy none)) := (Below.heap_alloc W2 _ l (by have := HS2.out; omega)).trans hl2.out
      obtain ⟨_, cs, fr, h⟩ := own_turn (hown2.out.alloc _) e.symm ho
      cases h)).trans ((Below.heap_alloc W2 _ l (by have := HS2.out; omega)).trans hl2.out)
  have cb := hbox3.out.cell 0
  have fb := hbox3.out.frozen 0
  simp only [List.getElem?_toArray, List.getElem?_cons_zero] at cb
  rw [hv'] at HOWN1 ⊢
  gi_wp2
  have hl4 : (w1.setCell ⟨B0, 0, none⟩ (.slice (some ⟨g, 0, none⟩) (toks.length + 1) cap)).heap[l]? = some (.loop (readLoop fn x B0 D A Bd .busy none)) := (Below.heap_setCell _ _ _ _ (by simp; omega)).trans hl3.out
  have hll4 := (Array.getElem?_eq_some_iff.1 hl4).1
  refine ⟨_, _, run_endRound none hl4, HR.out _ ?_ ⟨.slice (some ⟨g, 0, none⟩) (toks.length + 1) cap, ?_, ?_⟩ ?_⟩
  · exact World.putObj_heap_same hll4
  · exact (World.putObj_heap_other (by omega)).trans (hbox3.out.set_ 0 _)
  · have h := ownsRow_setCell_below HOWN1.out (a := ⟨B0, 0, none⟩) (by simp; omega) (.slice (some ⟨g, 0, none⟩) (toks.length + 1) cap)
    rw [tokVs_snoc, List.length_append, List.length_singleton]
    refine h.kept (grown_putObj _ l _) (.inr fun e => ?_)
    obtain ⟨_, cs, fr, h'⟩ := own_turn h e hl4
    cases h'
  · refine T1.out.trans (T2.out.trans (Turns.trans (w' := w1.setCell ⟨B0, 0, none⟩ (.slice (some ⟨g, 0, none⟩) (toks.length + 1) cap)) (Turns.of_grown (row := some B0) (grown_set (grown_refl _ _) _) fun i o hi _ => .inl (by injection hi with hi; exact hi.symm)) (turns_putObj (fun o ho => .inr (.inl ⟨rfl, _, (Option.some.inj (hl4.symm.trans ho)).symm⟩)) _)))
end Go.Proofs.YtophcjkfhneghaaDoor
