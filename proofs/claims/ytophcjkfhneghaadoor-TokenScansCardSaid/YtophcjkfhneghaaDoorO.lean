/- The closure that read defers: what a panic of the scanner's leaves. -/
import Derived.Test.YtophcjkfhneghaaDoorN
import Derived.RangeFuncLeaves
import Derived.RecoverIn
namespace Go.Proofs.YtophcjkfhneghaaDoor
open Go Go.RowKit

/-- What the handler turns. -/
def HandT (B0 : Nat) (i : Nat) (_ : Obj) : Prop := i = B0 ∨ i = B0 + 1 ∨ i = B0 + 1 + 1

theorem turns_set {T : Nat → Obj → Prop} {W : World} {p : Addr} (h : ∀ o, W.heap[p.block]? = some o → T p.block o) (u : Value) : Turns T W (W.setCell p u) :=
  Turns.of_grown (row := some p.block) (grown_setCell (grown_refl _ _) (.inl rfl) _) fun i o hi ho => by injection hi with hi; subst hi; exact h o ho

theorem assert_no (w : World) : (Instr.typeAssert .nilIface 20 31 true).run Tryd.prog w = .ok (.tuple #[.agg #[.int .i64 0, .int .i64 0], .bool false]) w := by kernel_rfl
theorem assert_fault (v : Value) (w : World) : (Instr.typeAssert (.iface 31 v) 20 31 true).run Tryd.prog w = .ok (.tuple #[v, .bool true]) w := by kernel_rfl

set_option maxRecDepth 100000 in
set_option maxHeartbeats 1000000 in
theorem handler_idle (B0 : Nat) (w : World) :
    CallsDIn Fence.wide 0 Tryd.prog 51 #[.pointer (some ⟨B0, 0, none⟩), .pointer (some ⟨B0 + 1, 0, none⟩), .pointer (some ⟨B0 + 1 + 1, 0, none⟩)] .returning w fun e u' w' =>
      e = .returned (.tuple #[]) ∧ u' = .returning ∧ Below w.heap.size w w' := by
  refine callsDIn_of_wpSIn Tryd.func51 rfl trivial fun c₀ cs hu => ?_
  apply wpSIn_seq
  apply wpSIn_region
  simp [wpOpsSIn, go_sem, recoverD, hu, Tryd.ntmps51, Exit.thenS, assert_no]
  refine wpSIn_of_wpIn rfl (wpIn_wide.2 ?_)
  have ht : (#[Value.pointer (some { block := B0, off := 0 }), Value.pointer (some { block := B0 + 1, off := 0 }), Value.pointer (some { block := B0 + 1 + 1, off := 0 })] ++ (((((((Array.replicate 9 undef).setIfInBounds 3 Value.nilIface).setIfInBounds 4 (Value.tuple #[Value.agg #[Value.int IntKind.i64 0, Value.int IntKind.i64 0], Value.bool false])).setIfInBounds 2 (Value.tuple #[Value.agg #[Value.int IntKind.i64 0, Value.int IntKind.i64 0], Value.bool false])).setIfInBounds 5 (Value.agg #[Value.int IntKind.i64 0, Value.int IntKind.i64 0])).setIfInBounds 6 (Value.bool false)).setIfInBounds 0 (Value.pointer (some { block := w.heap.size, off := 0 }))).setIfInBounds 1 (Value.bool false)) =
    #[Value.pointer (some { block := B0, off := 0 }), Value.pointer (some { block := B0 + 1, off := 0 }), Value.pointer (some { block := B0 + 1 + 1, off := 0 }), .pointer (some ⟨w.heap.size, 0, none⟩), .bool false, .tuple #[.agg #[.int .i64 0, .int .i64 0], .bool false], .nilIface, .tuple #[.agg #[.int .i64 0, .int .i64 0], .bool false], .agg #[.int .i64 0, .int .i64 0], .bool false, undef, undef] := by
    simp only [Array.replicate_succ, Array.replicate_zero, List.push_toArray, List.append_toArray, List.setIfInBounds_toArray, List.set_cons_succ, List.set_cons_zero, List.nil_append, List.cons_append]
  rw [ht]
  clear ht
  go_wp2
  refine ⟨rfl, .returning, ?_, .tuple #[], ?_, rfl, rfl, (Below.refl _ w).alloc (Nat.le_refl _) _⟩
  · cases c₀; simp_all
  · simp [results, Tryd.results51]
set_option maxRecDepth 100000 in
set_option maxHeartbeats 1000000 in
theorem handler_panic (B0 : Nat) (c ln : Int) (vt v1 x0 x1 : Value) (w : World) (h0 : Blk w B0 28 #[vt]) (h1 : Blk w (B0 + 1) 25 #[v1]) (h2 : Blk w (B0 + 1 + 1) 31 #[x0, x1]) :
    CallsDIn Fence.wide 0 Tryd.prog 51 #[.pointer (some ⟨B0, 0, none⟩), .pointer (some ⟨B0 + 1, 0, none⟩), .pointer (some ⟨B0 + 1 + 1, 0, none⟩)] (.panicking [{ v := .iface 31 (.agg #[.int .i64 c, .int .i64 ln]), recovered := false }]) w fun e u' w' =>
      e = .returned (.tuple #[]) ∧ u' = .panicking [{ v := .iface 31 (.agg #[.int .i64 c, .int .i64 ln]), recovered := true }] ∧ Blk w' B0 28 #[.slice none 0 0] ∧ Blk w' (B0 + 1) 25 #[.slice none 0 0] ∧ Blk w' (B0 + 1 + 1) 31 #[.int .i64 c, .int .i64 ln] ∧ Turns (HandT B0) w w' := by
  refine callsDIn_of_wpSIn Tryd.func51 rfl trivial fun c₀ cs hu => ?_
  apply wpSIn_seq
  apply wpSIn_region
  simp [wpOpsSIn, go_sem, recoverD, hu, Tryd.ntmps51, Exit.thenS, assert_fault]
  refine wpSIn_of_wpIn rfl (wpIn_wide.2 ?_)
  have ht : (#[Value.pointer (some { block := B0, off := 0 }), Value.pointer (some { block := B0 + 1, off := 0 }), Value.pointer (some { block := B0 + 1 + 1, off := 0 })] ++ (((((((Array.replicate 9 undef).setIfInBounds 3 (.iface 31 (.agg #[.int .i64 c, .int .i64 ln]))).setIfInBounds 4 (Value.tuple #[Value.agg #[Value.int IntKind.i64 c, Value.int IntKind.i64 ln], Value.bool true])).setIfInBounds 2 (Value.tuple #[Value.agg #[Value.int IntKind.i64 c, Value.int IntKind.i64 ln], Value.bool true])).setIfInBounds 5 (Value.agg #[Value.int IntKind.i64 c, Value.int IntKind.i64 ln])).setIfInBounds 6 (Value.bool true)).setIfInBounds 0 (Value.pointer (some { block := w.heap.size, off := 0 }))).setIfInBounds 1 (Value.bool true)) =
    #[Value.pointer (some { block := B0, off := 0 }), Value.pointer (some { block := B0 + 1, off := 0 }), Value.pointer (some { block := B0 + 1 + 1, off := 0 }), .pointer (some ⟨w.heap.size, 0, none⟩), .bool true, .tuple #[.agg #[.int .i64 c, .int .i64 ln], .bool true], .iface 31 (.agg #[.int .i64 c, .int .i64 ln]), .tuple #[.agg #[.int .i64 c, .int .i64 ln], .bool true], .agg #[.int .i64 c, .int .i64 ln], .bool true, undef, undef] := by
    simp only [Array.replicate_succ, Array.replicate_zero, List.push_toArray, List.append_toArray, List.setIfInBounds_toArray, List.set_cons_succ, List.set_cons_zero, List.nil_append, List.cons_append]
  rw [ht]
  clear ht
  have H0 := Lib.hid (h0.alloc (.cells #[Value.int IntKind.i64 c, Value.int IntKind.i64 ln] 31))
  have H1 := Lib.hid (h1.alloc (.cells #[Value.int IntKind.i64 c, Value.int IntKind.i64 ln] 31))
  have H2 := Lib.hid (h2.alloc (.cells #[Value.int IntKind.i64 c, Value.int IntKind.i64 ln] 31))
  have H3 := Lib.hid (heap_alloc_new w (.cells #[Value.int IntKind.i64 c, Value.int IntKind.i64 ln] 31))
  have T0 : Hid (Turns (HandT B0) w (w.alloc (.cells #[Value.int IntKind.i64 c, Value.int IntKind.i64 ln] 31))) := Turns.of_below ((Below.refl _ w).alloc (Nat.le_refl _) _)
  have hB : B0 + 1 + 1 < w.heap.size := h2.lt
  clear h0 h1 h2
  have hs : (w.alloc (.cells #[Value.int IntKind.i64 c, Value.int IntKind.i64 ln] 31)).heap.size = w.heap.size + 1 := by simp
  generalize (w.alloc (.cells #[Value.int IntKind.i64 c, Value.int IntKind.i64 ln] 31)) = W at *
  have k0 := H0.out.cell 0
  have k1 := H1.out.cell 0
  have k2 := H2.out.cell 0
  have k2' := H2.out.cell 1
  have k3 := Blk.cell (cs := #[Value.int IntKind.i64 c, Value.int IntKind.i64 ln]) H3.out 0
  have k3' := Blk.cell (cs := #[Value.int IntKind.i64 c, Value.int IntKind.i64 ln]) H3.out 1
  have z0 := H0.out.frozen 0
  have z1 := H1.out.frozen 0
  have z2 := H2.out.frozen 0
  have z2' := H2.out.frozen 1
  simp only [List.getElem?_toArray, List.getElem?_cons_zero, List.getElem?_cons_succ] at k0 k1 k2 k2' k3 k3'
  go_wp2
  go_region
  refine ⟨rfl, _, rfl, .tuple #[], ?_, rfl, rfl, ?_, ?_, ?_, ?_⟩
  · simp [results, Tryd.results51]
  · exact ((((H0.out.set_ 0 _).far (by simp) _).far (by simp; omega) _).far (by simp; omega) _).drewN 1
  · exact ((((H1.out.far (by simp) _).set_ 0 _).far (by simp) _).far (by simp) _).drewN 1
  · exact ((((H2.out.far (by simp; omega) _).far (by simp) _).set_ 0 _).set_ 1 _).drewN 1
  · exact ((((T0.out.trans (turns_set (fun _ _ => .inl rfl) _)).trans (turns_set (fun _ _ => .inr (.inl rfl)) _)).trans (turns_set (fun _ _ => .inr (.inr rfl)) _)).trans (turns_set (fun _ _ => .inr (.inr rfl)) _)).drewN 1
end Go.Proofs.YtophcjkfhneghaaDoor
