/- The contract of package token's read. -/
import Derived.Test.YtophcjkfhneghaaDoorO
namespace Go.Proofs.YtophcjkfhneghaaDoor
open Go Go.RowKit

/-- What read answers: B is where the heap ended at the call. -/
def ReadPost (B : Nat) (s : ByteArray) (w : World) (e : Ending) (w' : World) : Prop :=
  (∃ toks cs vt vc, scanS s = .ok (toks, cs) ∧ e = .returned (.tuple #[vt, vc, .agg #[.int .i64 0, .int .i64 0]]) ∧ w'.ownsRow B 38 3 vt toks.length (tokVs toks) ∧ w'.ownsRow B 9 1 vc cs.length (strVs cs) ∧ Below B w w') ∨
  (∃ c ln, scanS s = .error (c, ln) ∧ e = .returned (.tuple #[.slice none 0 0, .slice none 0 0, .agg #[.int .i64 c, .int .i64 ln]]) ∧ Below B w w')

/-- What read's ending turns. -/
def EndT (B0 D : Nat) (i : Nat) (o : Obj) : Prop := i = B0 ∨ i = B0 + 1 ∨ i = B0 + 1 + 1 ∨ (i = D ∧ ∃ x, o = .deferred x)

def readDefers (B0 D : Nat) : List Deferred :=
  [{ target := .collected D, args := #[] }, { target := .fn (.func 51) #[.pointer (some ⟨B0, 0, none⟩), .pointer (some ⟨B0 + 1, 0, none⟩), .pointer (some ⟨B0 + 1 + 1, 0, none⟩)], args := #[] }]

theorem base_le {w : World} {base base' n size : Nat} {e : TypeId} {v : Value} {xs : List Value} (h : w.ownsRow base e size v n xs) (hb : base' ≤ base) : w.ownsRow base' e size v n xs := by
  rcases h with ⟨h1, h2 | ⟨g, cap, cur, h3, h4, h5⟩⟩
  · exact ⟨h1, .inl h2⟩
  · exact ⟨h1, .inr ⟨g, cap, cur, h3, Nat.le_trans hb h4, h5⟩⟩

theorem own_shape {w : World} {base n size : Nat} {e : TypeId} {v : Value} {xs : List Value} (h : w.ownsRow base e size v n xs) : ∃ ao k cap, v = .slice ao k cap := by
  rcases h with ⟨_, ⟨h2, _⟩ | ⟨g, cap, cur, h3, _⟩⟩
  · exact ⟨_, _, _, h2⟩
  · exact ⟨_, _, _, h3⟩

theorem read_results {B0 : Nat} {x0 x1 x2 x3 : Value} {W : World} {tmps : Array Value} (h4 : tmps.getD 4 undef = .pointer (some ⟨B0, 0, none⟩)) (h5 : tmps.getD 5 undef = .pointer (some ⟨B0 + 1, 0, none⟩)) (h6 : tmps.getD 6 undef = .pointer (some ⟨B0 + 1 + 1, 0, none⟩))
    (b0 : Blk W B0 28 #[x0]) (b1 : Blk W (B0 + 1) 25 #[x1]) (b2 : Blk W (B0 + 1 + 1) 31 #[x2, x3]) : (results Tryd.f44 tmps).run Tryd.prog W = .ok (.tuple #[x0, x1, .agg #[x2, x3]]) W := by
  have c0 := b0.cell 0
  have c1 := b1.cell 0
  have c2 := b2.cell 0
  have c3 := b2.cell 1
  simp only [List.getElem?_toArray, List.getElem?_cons_zero, List.getElem?_cons_succ] at c0 c1 c2 c3
  simp only [Array.getD_eq_getD_getElem?] at h4 h5 h6
  simp [results, Tryd.results44, h4, h5, h6, go_sem, c0, c1, c2, c3]

set_option maxRecDepth 100000 in
theorem leaves_ok {B0 D : Nat} {x0 x1 x2 x3 : Value} {W : World} {tmps : Array Value} {R : Ending → World → Prop} (h4 : tmps.getD 4 undef = .pointer (some ⟨B0, 0, none⟩)) (h5 : tmps.getD 5 undef = .pointer (some ⟨B0 + 1, 0, none⟩)) (h6 : tmps.getD 6 undef = .pointer (some ⟨B0 + 1 + 1, 0, none⟩))
    (b0 : Blk W B0 28 #[x0]) (b1 : Blk W (B0 + 1) 25 #[x1]) (b2 : Blk W (B0 + 1 + 1) 31 #[x2, x3]) (hD : W.heap[D]? = some (.deferred (some []))) (hB : B0 + 1 + 1 < D)
    (hR : ∀ W', Turns (EndT B0 D) W W' → R (.returned (.tuple #[x0, x1, .agg #[x2, x3]])) W') : LeavesInM Fence.wide 0 Tryd.prog Tryd.f44 tmps R (readDefers B0 D) .returning W := by
  have T1 : Turns (EndT B0 D) W (W.putObj D (.deferred none)) := turns_putObj (fun o ho => .inr (.inr (.inr ⟨rfl, _, (Option.some.inj (hD.symm.trans ho)).symm⟩))) _
  have T1' : Turns (fun i _ => i = D) W (W.putObj D (.deferred none)) := turns_putObj (fun _ _ => rfl) _
  refine ⟨by simp, .inl ⟨D, _, rfl, run_takeDeferred hD, by simp, .inr ⟨(fun h => (by cases h)), _, _, 51, _, rfl, rfl, fun _ _ => trivial, ?_⟩⟩⟩
  refine (handler_idle B0 _).mono ?_
  rintro e u' w' ⟨rfl, rfl, hb⟩
  have T2 := T1.trans (Turns.of_below (T := EndT B0 D) hb)
  have T3 := T1'.trans (Turns.of_below (T := fun i _ => i = D) hb)
  exact ⟨_, read_results h4 h5 h6 (T3.blk b0 (by omega)) (T3.blk b1 (by omega)) (T3.blk b2 (by omega)), hR _ T2⟩

set_option maxRecDepth 100000 in
theorem leaves_fault {B0 D : Nat} {x0 x1 x2 x3 : Value} {c ln : Int} {W : World} {tmps : Array Value} {R : Ending → World → Prop} (h4 : tmps.getD 4 undef = .pointer (some ⟨B0, 0, none⟩)) (h5 : tmps.getD 5 undef = .pointer (some ⟨B0 + 1, 0, none⟩)) (h6 : tmps.getD 6 undef = .pointer (some ⟨B0 + 1 + 1, 0, none⟩))
    (b0 : Blk W B0 28 #[x0]) (b1 : Blk W (B0 + 1) 25 #[x1]) (b2 : Blk W (B0 + 1 + 1) 31 #[x2, x3]) (hD : W.heap[D]? = some (.deferred (some []))) (hB : B0 + 1 + 1 < D)
    (hR : ∀ W', Turns (EndT B0 D) W W' → R (.returned (.tuple #[.slice none 0 0, .slice none 0 0, .agg #[.int .i64 c, .int .i64 ln]])) W') :
    LeavesInM Fence.wide 0 Tryd.prog Tryd.f44 tmps R (readDefers B0 D) (.panicking [{ v := .iface 31 (.agg #[.int .i64 c, .int .i64 ln]), recovered := false }]) W := by
  have T1 : Turns (EndT B0 D) W (W.putObj D (.deferred none)) := turns_putObj (fun o ho => .inr (.inr (.inr ⟨rfl, _, (Option.some.inj (hD.symm.trans ho)).symm⟩))) _
  have T1' : Turns (fun i _ => i = D) W (W.putObj D (.deferred none)) := turns_putObj (fun _ _ => rfl) _
  refine ⟨by simp, .inl ⟨D, _, rfl, run_takeDeferred hD, by simp, .inr ⟨(fun h => (by cases h)), _, _, 51, _, rfl, rfl, fun _ _ => trivial, ?_⟩⟩⟩
  refine (handler_panic B0 c ln x0 x1 x2 x3 _ (T1'.blk b0 (by omega)) (T1'.blk b1 (by omega)) (T1'.blk b2 (by omega))).mono ?_
  rintro e u' w' ⟨rfl, rfl, k0, k1, k2, ht⟩
  have T2 := T1.trans (ht.mono (U := EndT B0 D) (by rintro i o (h | h | h) <;> simp [EndT, h]))
  exact ⟨_, read_results h4 h5 h6 k0 k1 k2, hR _ T2⟩

theorem range_resolve (a : Act) (l : Nat) (p : Value) (h : a.eval (.tmp 20) = .func (.func 52) #[p] #[]) (W : World) :
    (resolve a.eval (rangeCall (.tmp 20) l) 0).run Tryd.prog W = .ok ⟨.fn (.func 52) #[], #[p, .func (.yield l) #[] #[]]⟩ W := by
  simp only [Act.eval, Array.getD_eq_getD_getElem?] at h
  simp [resolve, h, Deferred.ofValue, Act.eval]

theorem readLoop_of (fn B0 D : Nat) (A Bd : Code) (T : Array Value) (hs : T.size = 32) (h4 : T.getD 4 undef = .pointer (some ⟨B0, 0, none⟩)) :
    ∃ x, ({ state := .ready, pending := none, fn := fn, tmps := T, params := #[21], assign := A, body := Bd, defers := D } : Loop) = readLoop fn x B0 D A Bd .ready none := by
  refine ⟨fun i => T.getD i undef, ?_⟩
  obtain ⟨l⟩ := T
  have hl : l.length = 32 := hs
  unfold readLoop
  congr 1
  rw [← h4]
  rcases l with _ | ⟨a0, _ | ⟨a1, _ | ⟨a2, _ | ⟨a3, _ | ⟨a4, _ | ⟨a5, _ | ⟨a6, _ | ⟨a7, l⟩⟩⟩⟩⟩⟩⟩⟩ <;> try (simp at hl; done)
  rcases l with _ | ⟨b0, _ | ⟨b1, _ | ⟨b2, _ | ⟨b3, _ | ⟨b4, _ | ⟨b5, _ | ⟨b6, _ | ⟨b7, l⟩⟩⟩⟩⟩⟩⟩⟩ <;> try (simp at hl; done)
  rcases l with _ | ⟨c0, _ | ⟨c1, _ | ⟨c2, _ | ⟨c3, _ | ⟨c4, _ | ⟨c5, _ | ⟨c6, _ | ⟨c7, l⟩⟩⟩⟩⟩⟩⟩⟩ <;> try (simp at hl; done)
  rcases l with _ | ⟨d0, _ | ⟨d1, _ | ⟨d2, _ | ⟨d3, _ | ⟨d4, _ | ⟨d5, _ | ⟨d6, _ | ⟨d7, _ | ⟨e, l⟩⟩⟩⟩⟩⟩⟩⟩⟩ <;> first | rfl | (simp at hl; done)

set_option maxRecDepth 100000 in
set_option maxHeartbeats 1000000 in
theorem read_any (m : Nat) (s : ByteArray) (w : World) (he : Env w) (hx : Lex w m) (hs : s.size ≤ 20000) :
    Calls Tryd.prog 44 #[.map (some m), .string s] w (ReadPost w.heap.size s w) := by
  have HE := Lib.hid he
  have HX := Lib.hid hx
  clear he hx
  refine callsIn_wide.1 (callsIn_of_wp_marks (n := 0) Tryd.func44 rfl trivial ?_)
  refine wpIn_wide.2 ?_
  simp only [Tryd.ntmps44, List.size_toArray, List.length_cons, List.length_nil, Nat.reduceAdd, Nat.reduceSub, Array.replicate_succ,
     Array.replicate_zero, List.push_toArray, List.append_toArray, List.nil_append, List.cons_append]
  have hmf : ∀ (fn : Fn) (first cap : Array Value) (w : World), (Instr.makeFunc fn first cap).run Tryd.prog w = .ok (.func fn first cap) w := fun _ _ _ _ => rfl
  go_wp2
  refine (wpIn_wide (n := 0)).1 (wpIn_rangeFunc fun fn _ => ?_)
  have hmx : m < w.heap.size := HX.out.lt
  have h7 : 7 ≤ w.heap.size := HE.out.size
  have b0 := Blk.new w 28 #[Value.slice none 0 0]
  have be := (Below.refl _ w).alloc (Nat.le_refl _) (.cells #[Value.slice none 0 0] 28)
  have hs0 : (w.alloc (.cells #[Value.slice none 0 0] 28)).heap.size = w.heap.size + 1 := by simp
  generalize (w.alloc (.cells #[Value.slice none 0 0] 28)) = w1 at *
  have b1 : Blk (w1.alloc (.cells #[Value.slice none 0 0] 25)) (w.heap.size + 1) 25 #[Value.slice none 0 0] := hs0 ▸ Blk.new w1 25 #[Value.slice none 0 0]
  replace b0 := b0.alloc (.cells #[Value.slice none 0 0] 25)
  replace be := be.alloc (by omega) (.cells #[Value.slice none 0 0] 25)
  have hs1 : (w1.alloc (.cells #[Value.slice none 0 0] 25)).heap.size = w.heap.size + 1 + 1 := by simp [hs0]
  generalize (w1.alloc (.cells #[Value.slice none 0 0] 25)) = w2 at *
  have b2 : Blk (w2.alloc (.cells #[Value.int .i64 0, Value.int .i64 0] 31)) (w.heap.size + 1 + 1) 31 #[Value.int .i64 0, Value.int .i64 0] := hs1 ▸ Blk.new w2 31 #[Value.int .i64 0, Value.int .i64 0]
  replace b0 := b0.alloc (.cells #[Value.int .i64 0, Value.int .i64 0] 31)
  replace b1 := b1.alloc (.cells #[Value.int .i64 0, Value.int .i64 0] 31)
  replace be := be.alloc (by omega) (.cells #[Value.int .i64 0, Value.int .i64 0] 31)
  have hs2 : (w2.alloc (.cells #[Value.int .i64 0, Value.int .i64 0] 31)).heap.size = w.heap.size + 1 + 1 + 1 := by simp [hs1]
  generalize (w2.alloc (.cells #[Value.int .i64 0, Value.int .i64 0] 31)) = w3 at *
  have b3 : Blk (w3.alloc (.cells #[Value.string s, Value.int .i64 0, Value.int .i64 1, Value.map (some m), Value.slice none 0 0] 70)) (w.heap.size + 1 + 1 + 1) 70 #[Value.string s, Value.int .i64 0, Value.int .i64 1, Value.map (some m), Value.slice none 0 0] :=
    hs2 ▸ Blk.new w3 70 #[Value.string s, Value.int .i64 0, Value.int .i64 1, Value.map (some m), Value.slice none 0 0]
  replace b0 := b0.alloc (.cells #[Value.string s, Value.int .i64 0, Value.int .i64 1, Value.map (some m), Value.slice none 0 0] 70)
  replace b1 := b1.alloc (.cells #[Value.string s, Value.int .i64 0, Value.int .i64 1, Value.map (some m), Value.slice none 0 0] 70)
  replace b2 := b2.alloc (.cells #[Value.string s, Value.int .i64 0, Value.int .i64 1, Value.map (some m), Value.slice none 0 0] 70)
  replace be := be.alloc (by omega) (.cells #[Value.string s, Value.int .i64 0, Value.int .i64 1, Value.map (some m), Value.slice none 0 0] 70)
  have hs3 : (w3.alloc (.cells #[Value.string s, Value.int .i64 0, Value.int .i64 1, Value.map (some m), Value.slice none 0 0] 70)).heap.size = w.heap.size + 1 + 1 + 1 + 1 := by simp [hs2]
  generalize (w3.alloc (.cells #[Value.string s, Value.int .i64 0, Value.int .i64 1, Value.map (some m), Value.slice none 0 0] 70)) = w4 at *
  clear hs0 hs1 hs2 w1 w2 w3
  obtain ⟨A, Bd, hAB⟩ : ∃ A Bd, Tryd.f44.body.bind loopParts = some (A, Bd) := ⟨_, _, rfl⟩
  have hAB' := hAB
  simp only [Tryd.f44, Option.bind_some, loopParts, Option.or, Option.some.injEq, Prod.mk.injEq] at hAB'
  obtain ⟨hA, hBd⟩ := hAB'
  rw [hA, hBd]
  clear hA hBd
  refine ⟨_, _, _, ⟨.fn (.func 52) #[], #[.pointer (some ⟨w.heap.size + 1 + 1 + 1, 0, none⟩), .func (.yield (w4.heap.size + 1)) #[] #[]]⟩, _, 52, #[.pointer (some ⟨w.heap.size + 1 + 1 + 1, 0, none⟩), .func (.yield (w4.heap.size + 1)) #[] #[]], _, run_enterLoop_outer .., range_resolve _ _ _ rfl _, fun _ _ => trivial, rfl, (fun h => (by cases h)), callsIn_wide.2 ?_⟩
  have b0' := (b0.alloc (.deferred (some [])))
  have b1' := (b1.alloc (.deferred (some [])))
  have b2' := (b2.alloc (.deferred (some [])))
  have b3' := (b3.alloc (.deferred (some [])))
  have be' := (be.alloc (by omega) (.deferred (some [])))
  have hD := heap_alloc_new w4 (.deferred (some []))
  have hs4 : (w4.alloc (.deferred (some []))).heap.size = w4.heap.size + 1 := by simp
  generalize (w4.alloc (.deferred (some []))) = w5 at *
  dsimp only
  obtain ⟨x, hx⟩ := readLoop_of fn w.heap.size w4.heap.size A Bd #[.map (some m), .string s, undef, undef, .pointer (some ⟨w.heap.size, 0, none⟩), .pointer (some ⟨w.heap.size + 1, 0, none⟩), .pointer (some ⟨w.heap.size + 1 + 1, 0, none⟩), .pointer (some ⟨w.heap.size + 1 + 1 + 1, 0, none⟩), undef, .string s, .int .i64 s.size, .bool (decide (20000 < (s.size : Int))), undef, .func (.func 51) #[] #[.pointer (some ⟨w.heap.size, 0, none⟩), .pointer (some ⟨w.heap.size + 1, 0, none⟩), .pointer (some ⟨w.heap.size + 1 + 1, 0, none⟩)], .string s, .agg #[.string s, .int .i64 0, .int .i64 1], .map (some m), .agg #[.string s, .int .i64 0, .int .i64 1, .map (some m), .slice none 0 0], .pointer (some ⟨w.heap.size + 1 + 1 + 1, 0, none⟩), .pointer (some ⟨w.heap.size + 1 + 1 + 1, 0, none⟩), .func (.func 52) #[.pointer (some ⟨w.heap.size + 1 + 1 + 1, 0, none⟩)] #[], undef, undef, undef, undef, undef, undef, undef, undef, undef, undef, undef] rfl rfl
  rw [hx]
  clear hx
  have hq : (w5.alloc (.loop (readLoop fn x w.heap.size w4.heap.size A Bd .ready none))).heap[w4.heap.size + 1]? = some (.loop (readLoop fn x w.heap.size w4.heap.size A Bd .ready none)) := by
    have := heap_alloc_new w5 (.loop (readLoop fn x w.heap.size w4.heap.size A Bd .ready none))
    rwa [hs4] at this
  have b0 := b0'.alloc (.loop (readLoop fn x w.heap.size w4.heap.size A Bd .ready none))
  have b1 := b1'.alloc (.loop (readLoop fn x w.heap.size w4.heap.size A Bd .ready none))
  have b2 := b2'.alloc (.loop (readLoop fn x w.heap.size w4.heap.size A Bd .ready none))
  have b3 := b3'.alloc (.loop (readLoop fn x w.heap.size w4.heap.size A Bd .ready none))
  have be := be'.alloc (by omega) (.loop (readLoop fn x w.heap.size w4.heap.size A Bd .ready none))
  replace hD := (Below.heap_alloc w5 (.loop (readLoop fn x w.heap.size w4.heap.size A Bd .ready none)) w4.heap.size (by omega)).trans hD
  have hs5 : (w5.alloc (.loop (readLoop fn x w.heap.size w4.heap.size A Bd .ready none))).heap.size = w4.heap.size + 1 + 1 := by simp [hs4]
  generalize w5.alloc (.loop (readLoop fn x w.heap.size w4.heap.size A Bd .ready none)) = w6 at *
  clear b0' b1' b2' b3' be' hs4 w5
  refine (tokens_any fn x A Bd w.heap.size (w.heap.size + 1 + 1 + 1) (w4.heap.size + 1) w4.heap.size m s w6 hAB h7 (by omega) (by omega) hmx (by omega) hs ?_).mono ?_
  · exact ⟨⟨.slice none 0 0, b0, World.ownsRow_nil _ _ _ _⟩, ⟨.slice none 0 0, b3, World.ownsRow_nil _ _ _ _⟩, hq, HE.out.below be, HX.out.below be hmx⟩
  have nT : ∀ i o, ReadT w.heap.size (w.heap.size + 1 + 1 + 1) (w4.heap.size + 1) i o → w.heap.size ≤ i := by
    rintro i o (h | ⟨h, _⟩ | h | ⟨h, _⟩) <;> omega
  have nE : ∀ i o, EndT w.heap.size w4.heap.size i o → w.heap.size ≤ i := by
    rintro i o (h | h | h | ⟨h, _⟩) <;> omega
  have n1 : ∀ o, ¬ ReadT w.heap.size (w.heap.size + 1 + 1 + 1) (w4.heap.size + 1) (w.heap.size + 1) o := by
    rintro o (h | ⟨h, _⟩ | h | ⟨h, _⟩) <;> omega
  have n2 : ∀ o, ¬ ReadT w.heap.size (w.heap.size + 1 + 1 + 1) (w4.heap.size + 1) (w.heap.size + 1 + 1) o := by
    rintro o (h | ⟨h, _⟩ | h | ⟨h, _⟩) <;> omega
  have nD : ¬ ReadT w.heap.size (w.heap.size + 1 + 1 + 1) (w4.heap.size + 1) w4.heap.size (.deferred (some [])) := by
    rintro (h | ⟨h, _⟩ | h | ⟨_, ⟨cs, fr, h⟩ | ⟨cs, fr, h⟩⟩)
    · omega
    · omega
    · omega
    · cases h
    · cases h
  rintro e W' (⟨toks, cs, line, rfl, hsc, hst, htn⟩ | ⟨c, ln, v, rfl, hsc, hbx, htn⟩)
  · refine ⟨none, _, run_endLoop hst.loop (fun h => (by cases h)), ?_⟩
    obtain ⟨vt, hv, hvo⟩ := hst.box
    obtain ⟨cv, hcs, hco⟩ := hst.scn
    have tot : Turns (fun i _ => w.heap.size ≤ i) w (W'.putObj (w4.heap.size + 1) (.loop { readLoop fn x w.heap.size w4.heap.size A Bd .ready none with state := .exhausted })) :=
      (Turns.of_below be).trans ((htn.mono nT).trans (turns_putObj (fun _ _ => (by omega)) _))
    have k0 : Blk (W'.putObj (w4.heap.size + 1) (.loop { readLoop fn x w.heap.size w4.heap.size A Bd .ready none with state := .exhausted })) w.heap.size 28 #[vt] := (World.putObj_heap_other (by omega)).trans hv
    have k1 : Blk (W'.putObj (w4.heap.size + 1) (.loop { readLoop fn x w.heap.size w4.heap.size A Bd .ready none with state := .exhausted })) (w.heap.size + 1) 25 #[.slice none 0 0] := (World.putObj_heap_other (by omega)).trans (htn.blk b1 (n1 _))
    have k2 : Blk (W'.putObj (w4.heap.size + 1) (.loop { readLoop fn x w.heap.size w4.heap.size A Bd .ready none with state := .exhausted })) (w.heap.size + 1 + 1) 31 #[.int .i64 0, .int .i64 0] := (World.putObj_heap_other (by omega)).trans (htn.blk b2 (n2 _))
    have k3 : Scn (W'.putObj (w4.heap.size + 1) (.loop { readLoop fn x w.heap.size w4.heap.size A Bd .ready none with state := .exhausted })) (w.heap.size + 1 + 1 + 1) s s.size line m cv := (World.putObj_heap_other (by omega)).trans hcs
    have hD7 : (W'.putObj (w4.heap.size + 1) (.loop { readLoop fn x w.heap.size w4.heap.size A Bd .ready none with state := .exhausted })).heap[w4.heap.size]? = some (.deferred (some [])) := (World.putObj_heap_other (by omega)).trans (htn.same _ _ hD nD)
    have ko : (W'.putObj (w4.heap.size + 1) (.loop { readLoop fn x w.heap.size w4.heap.size A Bd .ready none with state := .exhausted })).ownsRow (w.heap.size + 1 + 1 + 1 + 1) 38 3 vt toks.length (tokVs toks) :=
      hvo.kept (grown_putObj _ _ _) (.inr fun e => (by obtain ⟨_, cs, fr, h⟩ := own_turn hvo e hst.loop; cases h))
    have kc : (W'.putObj (w4.heap.size + 1) (.loop { readLoop fn x w.heap.size w4.heap.size A Bd .ready none with state := .exhausted })).ownsRow (w.heap.size + 1 + 1 + 1 + 1) 9 1 cv cs.length (strVs cs) :=
      World.ownsRow.kept hco (grown_putObj _ _ _) (.inr fun e => (by obtain ⟨_, cs, fr, h⟩ := own_turn hco e hst.loop; cases h))
    obtain ⟨ao, n1', cap1, rfl⟩ := own_shape hvo
    obtain ⟨ao2, n2', cap2, rfl⟩ := own_shape hco
    generalize W'.putObj (w4.heap.size + 1) (.loop { readLoop fn x w.heap.size w4.heap.size A Bd .ready none with state := .exhausted }) = w7 at *
    have K0 := Lib.hid k0
    have K1 := Lib.hid k1
    have K2 := Lib.hid k2
    have K3 := Lib.hid k3
    have K4 := Lib.hid hD7
    have KO := Lib.hid ko
    have KC := Lib.hid kc
    have TOT := Lib.hid tot
    have SC := Lib.hid hsc
    clear k0 k1 k2 k3 hD7 ko kc tot hsc hst htn hv hvo hcs hco b0 b1 b2 b3 be hD hq nT n1 n2 nD
    have c0 := K0.out.cell 0
    have c1 := K1.out.cell 0
    have c2 := K2.out.cell 0
    have c2' := K2.out.cell 1
    have c3 := K3.out.c4
    have f0 := K0.out.frozen 0
    have f1 := K1.out.frozen 0
    have f2 := K2.out.frozen 0
    have f2' := K2.out.frozen 1
    simp only [List.getElem?_toArray, List.getElem?_cons_zero, List.getElem?_cons_succ] at c0 c1 c2 c2'
    dsimp only [List.cons_append, List.nil_append]
    go_wp2
    go_region
    go_wp2
    refine leaves_ok (B0 := w.heap.size) (D := w4.heap.size) rfl rfl rfl (((((K0.out.set_ 0 _).far (by simp) _).far (by simp <;> omega) _).far (by simp <;> omega) _).drewN 1) (((((K1.out.far (by simp) _).set_ 0 _).far (by simp) _).far (by simp) _).drewN 1) (((((K2.out.far (by simp <;> omega) _).far (by simp) _).set_ 0 _).set_ 1 _).drewN 1) ?_ (by omega) ?_
    · exact (((Below.heap_setCell _ _ _ _ (by simp <;> omega)).trans (Below.heap_setCell _ _ _ _ (by simp <;> omega))).trans (Below.heap_setCell _ _ _ _ (by simp <;> omega))).trans ((Below.heap_setCell _ _ _ _ (by simp <;> omega)).trans K4.out)
    intro W2 ht
    refine .inl ⟨toks, cs, _, _, SC.out, rfl, base_le (ht.own (base := w.heap.size + 1 + 1 + 1 + 1) (ownsRow_setCell_below (ownsRow_setCell_below (ownsRow_setCell_below (ownsRow_setCell_below KO.out (by simp <;> omega) _) (by simp <;> omega) _) (by simp) _) (by simp) _) ?_) (by omega), base_le (ht.own (base := w.heap.size + 1 + 1 + 1 + 1) (ownsRow_setCell_below (ownsRow_setCell_below (ownsRow_setCell_below (ownsRow_setCell_below KC.out (by simp <;> omega) _) (by simp <;> omega) _) (by simp) _) (by simp) _) ?_) (by omega), ?_⟩
    · rintro g cur hg (h | h | h | ⟨_, _, h⟩)
      · omega
      · omega
      · omega
      · cases h
    · rintro g cur hg (h | h | h | ⟨_, _, h⟩)
      · omega
      · omega
      · omega
      · cases h
    · have L : ∀ k, w.heap.size ≤ w.heap.size + k := fun k => Nat.le_add_right _ k
      exact Turns.below (TOT.out.trans ((((((turns_set (fun _ _ => L 0) _).trans (turns_set (fun _ _ => L 1) _)).trans (turns_set (fun _ _ => L 2) _)).trans (turns_set (fun _ _ => L 2) _)).drewN 1).trans (ht.mono nE))) (Nat.le_refl _) (fun _ _ h => h)
  · refine leaves_fault (B0 := w.heap.size) (D := w4.heap.size) rfl rfl rfl hbx (htn.blk b1 (n1 _)) (htn.blk b2 (n2 _)) (htn.same _ _ hD nD) (by omega) fun W2 ht => .inr ⟨c, ln, hsc, rfl, ?_⟩
    exact Turns.below ((Turns.of_below (T := fun i _ => w.heap.size ≤ i) be).trans ((htn.mono nT).trans (ht.mono nE))) (Nat.le_refl _) (fun _ _ h => h)
end Go.Proofs.YtophcjkfhneghaaDoor
