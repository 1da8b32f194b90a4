/- Inside of package kind: one round of its loop. -/
import Derived.Test.YthcoppfdffhjfaaGreatDoorRe
import Derived.RangeFuncCalls
namespace Go.Proofs.YthcoppfdffhjfaaGreatDoor
open Go Go.RowKit
attribute [local go_sem] Oper.semAt_some

/-- The loop over a function in a body: what is assigned, and what is done. -/
def loopParts : Code → Option (Code × Code)
  | .seq a b => (loopParts a).or (loopParts b)
  | .block _ c => loopParts c
  | .rangeFunc _ _ a b => some (a, b)
  | _ => none

/-- What a round turns. -/
def RoundT (B0 l : Nat) (i : Nat) (o : Obj) : Prop := i = B0 ∨ (i = l ∧ ∃ r, o = .loop r) ∨ (B0 < i ∧ ∃ cs fr, o = .cells cs 9 fr)

/-- The record of Inside's loop. -/
def insLoop (fn : Nat) (x : Nat → Value) (B0 D : Nat) (A Bd : Code) (st : LoopState) (pe : Option Code) : Loop :=
  { state := st, pending := pe, fn := fn, tmps := #[x 0, x 1, x 2, x 3, x 4, x 5, .pointer (some ⟨B0, 0, none⟩), x 7, x 8, x 9, x 10, x 11, x 12, x 13, x 14, x 15, x 16, x 17, x 18, x 19, x 20, x 21, x 22, x 23, x 24, x 25, x 26, x 27, x 28, x 29, x 30], params := #[19], assign := A, body := Bd, defers := D }

theorem contains_strs {W : World} {base : Nat} {vt : Value} {xs : List Bys} (hown : W.ownsRow base 9 1 vt xs.length (strVs xs)) (hn : xs.length ≤ 1000) (y : Bys) :
    Calls Tryz.prog 68 #[vt, .string (bs y)] W fun e w' => e = .returned (.bool (decide (y ∈ xs))) ∧ w' = W := by
  by_cases h0 : xs.length = 0
  · obtain ⟨ao, cap, rfl⟩ := own_len hown
    have hx : xs = [] := List.length_eq_zero_iff.1 h0
    rw [h0]
    have := Tryz.slices_Contains_string_empty ao cap (bs y) W
    subst hx
    simpa using this
  · obtain ⟨g, cap, rfl, hg, hgl, hrow⟩ := own_strs hown (by omega)
    have h := Tryz.slices_Contains_string g 0 xs.length cap (xs.map bs) (bs y) W (by simp) (by omega) (fun j hj => by
      have hj' : j < xs.length := by simpa using hj
      rw [hrow j _ (List.getElem?_eq_getElem hj')]
      simp [List.getD, hj'])
    refine h.mono ?_
    rintro e w' ⟨rfl, rfl⟩
    refine ⟨ret_bool ?_, rfl⟩
    rw [List.take_of_length_le (by simp)]
    rw [Bool.eq_iff_iff, decide_eq_true_iff]
    rw [Lib.containsS_iff]
    constructor
    · intro h
      obtain ⟨z, hz, e⟩ := List.mem_map.1 h
      rw [← bs_inj.1 e]
      exact hz
    · exact fun h => List.mem_map.2 ⟨y, h, rfl⟩

set_option maxRecDepth 100000 in
set_option maxHeartbeats 3200000 in
theorem ins_round (B0 l D n fn : Nat) (x : Nat → Value) (A Bd : Code) (hAB : Tryz.f42.body.bind loopParts = some (A, Bd)) (U : Ty) (a1 a2 : Option Addr) (n1 c1 n2 c2 : Nat) (vt : Value) (xs : List Bys) (W : World) (_hU : U.pr.length ≤ 900)
    (hbox : Blk W B0 48 #[vt]) (hown : W.ownsRow (B0 + 1) 9 1 vt xs.length (strVs xs)) (hl : W.heap[l]? = some (.loop (insLoop fn x B0 D A Bd .ready none))) (hB : B0 < l) (hn : xs.length ≤ 1000) (he : Env W)
    (R : Ending → World → Prop)
    (hR : ∀ W', W'.heap[l]? = some (.loop (insLoop fn x B0 D A Bd .ready none)) → (∃ vt', Blk W' B0 48 #[vt'] ∧ W'.ownsRow (B0 + 1) 9 1 vt' (if U.pr ∈ xs then xs else xs ++ [U.pr]).length (strVs (if U.pr ∈ xs then xs else xs ++ [U.pr]))) → Turns (RoundT B0 l) W W' → R (.returned (.bool true)) W') :
    RoundIn Fence.wide n Tryz.prog l fn ((insLoop fn x B0 D A Bd .ready none).tmps.setIfInBounds 19 (.agg #[.string (bs U.pr), .int .u8 U.kind, .slice a1 n1 c1, .slice a2 n2 c2])) A Bd W R := by
  have HR := Lib.hid hR
  have HL := Lib.hid hl
  have HBOX := Lib.hid hbox
  have HOWN := Lib.hid hown
  have HE := Lib.hid he
  clear hR hl hbox hown he
  simp only [Tryz.f42, Option.bind_some, loopParts, Option.or, Option.some.injEq, Prod.mk.injEq] at hAB
  obtain ⟨hA, hBd⟩ := hAB
  refine roundIn_of_wpIn trivial ?_
  have HB := Lib.hid hBd
  have hll : l < W.heap.size := (Array.getElem?_eq_some_iff.1 HL.out).1
  have htm : (insLoop fn x B0 D A Bd .ready none).tmps.setIfInBounds 19 (.agg #[.string (bs U.pr), .int .u8 U.kind, .slice a1 n1 c1, .slice a2 n2 c2]) = #[x 0, x 1, x 2, x 3, x 4, x 5, .pointer (some ⟨B0, 0, none⟩), x 7, x 8, x 9, x 10, x 11, x 12, x 13, x 14, x 15, x 16, x 17, x 18, .agg #[.string (bs U.pr), .int .u8 U.kind, .slice a1 n1 c1, .slice a2 n2 c2], x 20, x 21, x 22, x 23, x 24, x 25, x 26, x 27, x 28, x 29, x 30] := rfl
  rw [htm, ← hA]
  clear hA hBd htm
  gi_wp2
  have hl1 : (W.alloc (.cells #[.string (bs U.pr), .int .u8 U.kind, .slice a1 n1 c1, .slice a2 n2 c2] 58)).heap[l]? = some (.loop (insLoop fn x B0 D A Bd .ready none)) := (Below.heap_alloc W _ l hll).trans HL.out
  refine ⟨(W.alloc (.cells #[.string (bs U.pr), .int .u8 U.kind, .slice a1 n1 c1, .slice a2 n2 c2] 58)).putObj l (.loop (insLoop fn x B0 D A Bd .busy none)), run_beginRound hl1 rfl, ?_⟩
  have T1 : Hid (Turns (RoundT B0 l) W ((W.alloc (.cells #[.string (bs U.pr), .int .u8 U.kind, .slice a1 n1 c1, .slice a2 n2 c2] 58)).putObj l (.loop (insLoop fn x B0 D A Bd .busy none)))) :=
    Lib.hid ((Turns.of_below ((Below.refl _ W).alloc (Nat.le_refl _) _)).trans (turns_putObj (fun o ho => .inr (.inl ⟨rfl, _, (Option.some.inj (hl1.symm.trans ho)).symm⟩)) _))
  have hl2 : Hid (((W.alloc (.cells #[.string (bs U.pr), .int .u8 U.kind, .slice a1 n1 c1, .slice a2 n2 c2] 58)).putObj l (.loop (insLoop fn x B0 D A Bd .busy none))).heap[l]? = some (.loop (insLoop fn x B0 D A Bd .busy none))) :=
    Lib.hid (World.putObj_heap_same (by simp; omega))
  have hbl := HBOX.out.lt
  have hbox2 : Hid (Blk ((W.alloc (.cells #[.string (bs U.pr), .int .u8 U.kind, .slice a1 n1 c1, .slice a2 n2 c2] 58)).putObj l (.loop (insLoop fn x B0 D A Bd .busy none))) B0 48 #[vt]) :=
    Lib.hid ((World.putObj_heap_other (by omega)).trans ((Below.heap_alloc W _ B0 (by omega)).trans HBOX.out))
  have hnew2 : Hid (Blk ((W.alloc (.cells #[.string (bs U.pr), .int .u8 U.kind, .slice a1 n1 c1, .slice a2 n2 c2] 58)).putObj l (.loop (insLoop fn x B0 D A Bd .busy none))) W.heap.size 58 #[.string (bs U.pr), .int .u8 U.kind, .slice a1 n1 c1, .slice a2 n2 c2]) :=
    Lib.hid ((World.putObj_heap_other (by omega)).trans (heap_alloc_new W _))
  have hown2 : Hid (((W.alloc (.cells #[.string (bs U.pr), .int .u8 U.kind, .slice a1 n1 c1, .slice a2 n2 c2] 58)).putObj l (.loop (insLoop fn x B0 D A Bd .busy none))).ownsRow (B0 + 1) 9 1 vt xs.length (strVs xs)) :=
    Lib.hid ((HOWN.out.alloc _).kept (grown_putObj _ l _) (by
      cases hv : vt.ownBlock with
      | none => exact .inl rfl
      | some g =>
        refine .inr fun e => ?_
        injection e with e
        subst e
        obtain ⟨_, cs, fr, h⟩ := own_turn HOWN.out hv HL.out
        cases h))
  have hs2 : ((W.alloc (.cells #[.string (bs U.pr), .int .u8 U.kind, .slice a1 n1 c1, .slice a2 n2 c2] 58)).putObj l (.loop (insLoop fn x B0 D A Bd .busy none))).heap.size = W.heap.size + 1 := by simp
  generalize (W.alloc (.cells #[.string (bs U.pr), .int .u8 U.kind, .slice a1 n1 c1, .slice a2 n2 c2] 58)).putObj l (.loop (insLoop fn x B0 D A Bd .busy none)) = W2 at *
  have HS2 := Lib.hid hs2
  clear hs2
  rw [← HB.out]
  have cbox := hbox2.out.cell 0
  have n0 := hnew2.out.cell 0
  simp only [List.getElem?_toArray, List.getElem?_cons_zero] at cbox n0
  have hB2 : B0 < W2.heap.size := hbox2.out.lt
  have hco := contains_strs hown2.out hn U.pr
  have T3 : ∀ W3, Turns (RoundT B0 l) W2 W3 → W3.heap[l]? = some (.loop (insLoop fn x B0 D A Bd .busy none)) → Turns (RoundT B0 l) W (W3.putObj l (.loop (insLoop fn x B0 D A Bd .ready none))) := fun W3 h1 h2 =>
    T1.out.trans (h1.trans (turns_putObj (fun o ho => .inr (.inl ⟨rfl, _, (Option.some.inj (h2.symm.trans ho)).symm⟩)) _))
  have T3 := Lib.hid T3
  obtain ⟨ao, nv, cv, rfl⟩ := own_shape hown2.out
  by_cases hin : U.pr ∈ xs
  · rw [decide_eq_true hin] at hco
    rw [if_pos hin] at HR
    have HCO := Lib.hid hco
    clear hco hin
    gi_wp2
    refine ⟨trivial, (fun h => by cases h), (CallsIn.inRound l (callsIn_wide.2 HCO.out)).mono ?_⟩
    rintro e w' ⟨rfl, rfl⟩
    gi_wp2
    have hll2 := (Array.getElem?_eq_some_iff.1 hl2.out).1
    refine ⟨_, _, run_endRound none hl2.out, HR.out _ (World.putObj_heap_same hll2) ⟨.slice ao nv cv, (World.putObj_heap_other (by omega)).trans hbox2.out, ?_⟩ (T3.out _ (Turns.refl _ _) hl2.out)⟩
    refine hown2.out.kept (grown_putObj _ l _) (.inr fun e => ?_)
    obtain ⟨_, cs, fr, h'⟩ := own_turn hown2.out e hl2.out
    cases h'
  · rw [decide_eq_false hin] at hco
    rw [if_neg hin] at HR
    have HCO := Lib.hid hco
    clear hco hin
    obtain ⟨i0, hi, hz0, hz1, hz2⟩ := info9'
    gi_wp2
    refine ⟨trivial, (fun h => by cases h), (CallsIn.inRound l (callsIn_wide.2 HCO.out)).mono ?_⟩
    rintro e w' ⟨rfl, rfl⟩
    gi_wp2_with (gi_at_builtin; (refine wpListIn_append_own _ rfl _ _ 48 rfl (B0 + 1) 9 i0 _ 1 16 Tryz.underlying48 hi hz0 hz1 hz2 rfl (by decide) (.slice ao nv cv) xs.length (strVs xs) rfl (hown2.out.alloc _) ⟨w'.heap.size, 0, none⟩ 1 1 [.string (bs U.pr)] rfl rfl ?c1 ?c2 ?c3 ?c4 ?c5 ?_))
    case c1 => exact World.news_of_block (cs := #[.string (bs U.pr)]) (t := 9) (fr := (0, 0)) (heap_alloc_new w' _)
    case c2 => simp [Value.oneCell']
    case c3 => unfold maxLen; omega
    case c4 => omega
    case c5 => simp; omega
    intro v' w1 hown1 hgrow _
    obtain ⟨g, cap, hv', hg⟩ := own_slice hown1 (by omega)
    have HOWN1 := Lib.hid hown1
    have HGROW := Lib.hid hgrow
    clear hown1 hgrow
    have nb : some B0 ≠ (Value.slice ao nv cv).ownBlock := fun e => by have := (hown2.out.lt B0 e.symm).1; omega
    have T2 : Hid (Turns (RoundT B0 l) w' w1) :=
      Lib.hid ((Turns.of_below ((Below.refl _ w').alloc (Nat.le_refl _) _)).trans (Turns.of_grown HGROW.out fun i o hi ho => .inr (.inr (by
        obtain ⟨h1, h2⟩ := own_turn (hown2.out.alloc _) hi ho
        exact ⟨by omega, h2⟩))))
    have hll2 := (Array.getElem?_eq_some_iff.1 hl2.out).1
    have hbox3 : Hid (Blk w1 B0 48 #[.slice ao nv cv]) := Lib.hid (Blk.grown (Blk.alloc hbox2.out _) HGROW.out nb)
    have hl3 : Hid (w1.heap[l]? = some (.loop (insLoop fn x B0 D A Bd .busy none))) :=
      Lib.hid ((HGROW.out.block l (by simp; omega) (fun e => by
        have ho : (w'.alloc (.cells #[.string (bs U.pr)] 9)).heap[l]? = some (.loop (insLoop fn x B0 D A Bd .busy none)) := (Below.heap_alloc w' _ l (by omega)).trans hl2.out
        obtain ⟨_, cs, fr, h⟩ := own_turn (hown2.out.alloc _) e.symm ho
        cases h)).trans ((Below.heap_alloc w' _ l (by omega)).trans hl2.out))
    have cb := hbox3.out.cell 0
    have fb := hbox3.out.frozen 0
    simp only [List.getElem?_toArray, List.getElem?_cons_zero] at cb
    rw [hv'] at HOWN1 ⊢
    gi_wp2
    have hl4 : (w1.setCell ⟨B0, 0, none⟩ (.slice (some ⟨g, 0, none⟩) (xs.length + 1) cap)).heap[l]? = some (.loop (insLoop fn x B0 D A Bd .busy none)) := (Below.heap_setCell _ _ _ _ (by simp; omega)).trans hl3.out
    have hll4 := (Array.getElem?_eq_some_iff.1 hl4).1
    refine ⟨_, _, run_endRound none hl4, HR.out _ ?_ ⟨.slice (some ⟨g, 0, none⟩) (xs.length + 1) cap, ?_, ?_⟩ (T3.out _ ?_ hl4)⟩
    · exact World.putObj_heap_same hll4
    · exact (World.putObj_heap_other (by omega)).trans (hbox3.out.set_ 0 _)
    · have h := ownsRow_setCell_below HOWN1.out (a := ⟨B0, 0, none⟩) (by first | (simp; omega) | simp) (.slice (some ⟨g, 0, none⟩) (xs.length + 1) cap)
      rw [strVs_snoc, List.length_append, List.length_singleton]
      refine h.kept (grown_putObj _ l _) (.inr fun e => ?_)
      obtain ⟨_, cs, fr, h'⟩ := own_turn h e hl4
      cases h'
    · exact T2.out.trans (Turns.of_grown (row := some B0) (grown_set (grown_refl _ _) _) fun i o hi _ => .inl (by injection hi with hi; exact hi.symm))
end Go.Proofs.YthcoppfdffhjfaaGreatDoor
