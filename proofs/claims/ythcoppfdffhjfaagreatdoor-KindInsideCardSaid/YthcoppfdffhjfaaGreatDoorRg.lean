/- Inside of package kind. -/
import Derived.Test.YthcoppfdffhjfaaGreatDoorRf
namespace Go.Proofs.YthcoppfdffhjfaaGreatDoor
open Go Go.RowKit

theorem range_resolve {slot k : Nat} (a : Act) (l : Nat) (v : Value) (h : a.eval (.tmp slot) = .func (.func k) #[v] #[]) (W : World) :
    (resolve a.eval (rangeCall (.tmp slot) l) 0).run Tryz.prog W = .ok ⟨.fn (.func k) #[], #[v, .func (.yield l) #[] #[]]⟩ W := by
  simp only [Act.eval, Array.getD_eq_getD_getElem?] at h
  simp [resolve, h, Deferred.ofValue, Act.eval]

theorem insLoop_of (fn B0 D : Nat) (A Bd : Code) (T : Array Value) (hs : T.size = 31) (h6 : T.getD 6 undef = .pointer (some ⟨B0, 0, none⟩)) :
    ∃ x, ({ state := .ready, pending := none, fn := fn, tmps := T, params := #[19], assign := A, body := Bd, defers := D } : Loop) = insLoop fn x B0 D A Bd .ready none := by
  refine ⟨fun i => T.getD i undef, ?_⟩
  obtain ⟨l⟩ := T
  have hl : l.length = 31 := hs
  unfold insLoop
  congr 1
  rw [← h6]
  rcases l with _ | ⟨a0, _ | ⟨a1, _ | ⟨a2, _ | ⟨a3, _ | ⟨a4, _ | ⟨a5, _ | ⟨a6, _ | ⟨a7, l⟩⟩⟩⟩⟩⟩⟩⟩ <;> try (simp at hl; done)
  rcases l with _ | ⟨b0, _ | ⟨b1, _ | ⟨b2, _ | ⟨b3, _ | ⟨b4, _ | ⟨b5, _ | ⟨b6, _ | ⟨b7, l⟩⟩⟩⟩⟩⟩⟩⟩ <;> try (simp at hl; done)
  rcases l with _ | ⟨c0, _ | ⟨c1, _ | ⟨c2, _ | ⟨c3, _ | ⟨c4, _ | ⟨c5, _ | ⟨c6, _ | ⟨c7, l⟩⟩⟩⟩⟩⟩⟩⟩ <;> try (simp at hl; done)
  rcases l with _ | ⟨d0, _ | ⟨d1, _ | ⟨d2, _ | ⟨d3, _ | ⟨d4, _ | ⟨d5, _ | ⟨d6, _ | ⟨e, l⟩⟩⟩⟩⟩⟩⟩⟩ <;> first | rfl | (simp at hl; done)

theorem dedup_len (l : List Bys) : (dedup l).length ≤ l.length := by
  suffices ∀ n (l : List Bys), l.length = n → (dedup l).length ≤ l.length from this _ l rfl
  intro n
  induction n with
  | zero => intro l h; rw [List.length_eq_zero_iff.1 h]; exact Nat.le_refl _
  | succ n ih =>
    intro l h
    obtain ⟨l', y, rfl⟩ : ∃ l' y, l = l' ++ [y] := ⟨l.dropLast, l.getLast (by rintro rfl; cases h), (List.dropLast_concat_getLast _).symm⟩
    have := ih l' (by simpa using h)
    rw [dedup_snoc]
    split <;> simp <;> omega

/-- What a round turns, but for the rows of types. -/
def RoundT2 (B0 l : Nat) (i : Nat) (o : Obj) : Prop := RoundT B0 l i o ∧ ∀ cs fr, o ≠ .cells cs 58 fr
theorem roundT2 {B0 l : Nat} {W W' : World} {t : TypeId} {cs : Array Value} (ht : t ≠ 58) (hb : Blk W B0 t cs) {r : Loop} (hl : W.heap[l]? = some (.loop r)) (h : Turns (RoundT B0 l) W W') : Turns (RoundT2 B0 l) W W' :=
  ⟨h.os, h.tape, h.output, h.size, fun i o ho hn => by
    by_cases hr : RoundT B0 l i o
    · refine absurd ⟨hr, fun cs' fr e => ?_⟩ hn
      subst e
      rcases hr with rfl | ⟨rfl, r, h⟩ | ⟨_, c, f, h⟩
      · have := hb.symm.trans ho
        injection this with this
        injection this with _ h2 _
        exact ht h2
      · cases h
      · injection h with _ h2 _
        cases h2
    · exact h.same i o ho hr⟩
/-- What holds between two rounds. -/
structure InsJ (fn : Nat) (x : Nat → Value) (A Bd : Code) (B0 l D : Nat) (xs : List Bys) (W : World) : Prop where
  loop : W.heap[l]? = some (.loop (insLoop fn x B0 D A Bd .ready none))
  box : ∃ vt, Blk W B0 48 #[vt] ∧ W.ownsRow (B0 + 1) 9 1 vt xs.length (strVs xs)
  env : Env W
theorem InsJ.below {fn : Nat} {x : Nat → Value} {A Bd : Code} {B0 l D : Nat} {xs : List Bys} {W W' : World} (h : InsJ fn x A Bd B0 l D xs W) (hb : Below W.heap.size W W') : InsJ fn x A Bd B0 l D xs W' := by
  obtain ⟨vt, h1, h2⟩ := h.box
  exact ⟨(hb.block l (Array.getElem?_eq_some_iff.1 h.loop).1).trans h.loop, ⟨vt, Blk.below h1 hb h1.lt, (Turns.of_below (T := fun _ _ => False) hb).own h2 (fun _ _ _ h => h)⟩, h.env.below hb⟩
theorem ins_body (fn : Nat) (x : Nat → Value) (A Bd : Code) (hAB : Tryz.f42.body.bind loopParts = some (A, Bd)) (B B0 l D : Nat) (T : Ty) (hT : T.pr.length ≤ 900) (hBB : B ≤ B0) (hB : B0 < l) (h4 : 4 ≤ B0) : Body l B (RoundT2 B0 l) T (fun pre W => InsJ fn x A Bd B0 l D (dedup (pre.map Ty.pr)) W) where
  own _ _ _ h hb := h.below hb
  data i o h := by rcases h.1 with h | ⟨h, _⟩ | ⟨h, _⟩ <;> omega
  rows i cs fr h := h.2 cs fr rfl
  round pre U us W n hJ hU hpl hty := by
    obtain ⟨a1, n1, c1, a2, n2, c2, rfl⟩ := hty.four
    obtain ⟨vt, hbox, hown⟩ := hJ.box
    have h1 := Ty.all_le T U hU
    have h2 := T.all_len
    have h3 := dedup_len (pre.map Ty.pr)
    rw [List.length_map] at h3
    refine ⟨_, 19, hJ.loop, rfl, ins_round B0 l D n fn x A Bd hAB U a1 a2 n1 c1 n2 c2 vt _ W (by omega) hbox hown hJ.loop hB (by omega) hJ.env _ ?_⟩
    intro W' g1 g2 g3
    refine ⟨rfl, ⟨g1, ?_, ?_⟩, roundT2 (by decide) hbox hJ.loop g3⟩
    · rw [List.map_append, List.map_singleton, dedup_snoc]
      exact g2
    · refine hJ.env.keep (fun k hk => ?_) g3.size
      have hs := hJ.env.size
      have ho : W.heap[k]? = some (W.heap[k]'(by omega)) := Array.getElem?_eq_getElem (by omega)
      rw [ho]
      refine g3.same k _ ho ?_
      rintro (h | ⟨h, _⟩ | ⟨h, _⟩) <;> omega

set_option maxRecDepth 100000 in
set_option maxHeartbeats 6400000 in
theorem Inside_any (s : Bys) (w : World) (he : Env w) : Calls Tryz.prog 42 #[.string (bs s)] w fun e w' => ∃ v, e = .returned (.tuple #[v, .int .i64 (insideT s).2]) ∧ w'.ownsRow w.heap.size 9 1 v (insideT s).1.length (strVs (insideT s).1) ∧ Below w.heap.size w w' := by
  have HE := Lib.hid he
  clear he
  refine callsIn_wide.1 (callsIn_of_wp_marks (n := 0) Tryz.func42 rfl trivial ?_)
  refine wpIn_wide.2 ?_
  simp only [Tryz.ntmps42, List.size_toArray, List.length_cons, List.length_nil, Nat.reduceAdd, Nat.reduceSub, Array.replicate_succ,
     Array.replicate_zero, List.push_toArray, List.append_toArray, List.nil_append, List.cons_append]
  have hmf : ∀ (fn : Fn) (first cap : Array Value) (w : World), (Instr.makeFunc fn first cap).run Tryz.prog w = .ok (.func fn first cap) w := fun _ _ _ _ => rfl
  go_wp2_with fail
  refine (read_any s w HE.out).mono ?_
  rintro e w1 ⟨hb, ⟨T, vs, hG, rfl, rfl, hT⟩ | ⟨hne, rfl⟩⟩
  · obtain ⟨an, nn, cn, ak, nk, ck, rfl⟩ := hT.four
    have HB := Lib.hid hb
    have HG := Lib.hid hG
    have HT := Lib.hid hT
    clear hb hG hT
    go_wp2
    refine (wpIn_wide (n := 0)).1 (wpIn_rangeFunc fun fn _ => ?_)
    have h4 : 4 ≤ w1.heap.size := (HE.out.below HB.out).size
    have be := HB.out.alloc HB.out.size (.cells #[.string (bs T.pr), .int .u8 T.kind, .slice an nn cn, .slice ak nk ck] 58)
    have ht := (HT.out.mono (S' := fun g => g < w1.heap.size) (fun g _ hl => hl)).keep (w' := w1.alloc (.cells #[.string (bs T.pr), .int .u8 T.kind, .slice an nn cn, .slice ak nk ck] 58)) (by simp) fun g _ hl => Below.heap_alloc w1 _ g hl
    have hs0 : (w1.alloc (.cells #[.string (bs T.pr), .int .u8 T.kind, .slice an nn cn, .slice ak nk ck] 58)).heap.size = w1.heap.size + 1 := by simp
    generalize w1.alloc (.cells #[.string (bs T.pr), .int .u8 T.kind, .slice an nn cn, .slice ak nk ck] 58) = w2 at *
    have b0 : Blk (w2.alloc (.cells #[.slice none 0 0] 48)) (w1.heap.size + 1) 48 #[.slice none 0 0] := hs0 ▸ Blk.new w2 48 #[.slice none 0 0]
    have be := be.alloc (by have := HB.out.size; omega) (.cells #[.slice none 0 0] 48)
    have ht := ht.keep (w' := w2.alloc (.cells #[.slice none 0 0] 48)) (by simp) fun g _ hl => Below.heap_alloc w2 _ g hl
    have hs1 : (w2.alloc (.cells #[.slice none 0 0] 48)).heap.size = w1.heap.size + 1 + 1 := by simp [hs0]
    generalize w2.alloc (.cells #[.slice none 0 0] 48) = w3 at *
    clear hs0
    obtain ⟨A, Bd, hAB⟩ : ∃ A Bd, Tryz.f42.body.bind loopParts = some (A, Bd) := ⟨_, _, rfl⟩
    have hAB' := hAB
    simp only [Tryz.f42, Option.bind_some, loopParts, Option.or, Option.some.injEq, Prod.mk.injEq] at hAB'
    obtain ⟨hA, hBd⟩ := hAB'
    rw [hA, hBd]
    clear hA hBd
    refine ⟨_, _, _, ⟨.fn (.func 67) #[], #[.agg #[.string (bs T.pr), .int .u8 T.kind, .slice an nn cn, .slice ak nk ck], .func (.yield (w3.heap.size + 1)) #[] #[]]⟩, _, 67, #[.agg #[.string (bs T.pr), .int .u8 T.kind, .slice an nn cn, .slice ak nk ck], .func (.yield (w3.heap.size + 1)) #[] #[]], _, run_enterLoop_outer .., range_resolve _ _ _ rfl _, fun _ _ => trivial, rfl, (fun h => (by cases h)), callsIn_wide.2 ?_⟩
    have b0' := (b0.alloc (.deferred (some [])))
    have be' := (be.alloc (by have := HB.out.size; omega) (.deferred (some [])))
    have ht' := ht.keep (w' := w3.alloc (.deferred (some []))) (by simp) fun g _ hl => Below.heap_alloc w3 _ g hl
    have hD := heap_alloc_new w3 (.deferred (some []))
    have hs4 : (w3.alloc (.deferred (some []))).heap.size = w3.heap.size + 1 := by simp
    generalize (w3.alloc (.deferred (some []))) = w5 at *
    dsimp only
    obtain ⟨x, hx⟩ := insLoop_of fn (w1.heap.size + 1) w3.heap.size A Bd #[.string (bs T.pr), undef, .slice none 0 0, .int .i64 0, .pointer (some ⟨w1.heap.size, 0, none⟩), .int .i64 0, .pointer (some ⟨w1.heap.size + 1, 0, none⟩), undef, undef, .tuple #[.agg #[.string (bs T.pr), .int .u8 T.kind, .slice an nn cn, .slice ak nk ck], .int .i64 0], .string (bs T.pr), .tuple #[.agg #[.string (bs T.pr), .int .u8 T.kind, .slice an nn cn, .slice ak nk ck], .int .i64 0], .agg #[.string (bs T.pr), .int .u8 T.kind, .slice an nn cn, .slice ak nk ck], .int .i64 0, .int .i64 0, .bool false, undef, .agg #[.string (bs T.pr), .int .u8 T.kind, .slice an nn cn, .slice ak nk ck], .func (.func 67) #[.agg #[.string (bs T.pr), .int .u8 T.kind, .slice an nn cn, .slice ak nk ck]] #[], undef, undef, undef, undef, undef, undef, undef, undef, undef, undef, undef, undef] rfl rfl
    rw [hx]
    clear hx
    have hq : (w5.alloc (.loop (insLoop fn x (w1.heap.size + 1) w3.heap.size A Bd .ready none))).heap[w3.heap.size + 1]? = some (.loop (insLoop fn x (w1.heap.size + 1) w3.heap.size A Bd .ready none)) := by
      have := heap_alloc_new w5 (.loop (insLoop fn x (w1.heap.size + 1) w3.heap.size A Bd .ready none))
      rwa [hs4] at this
    have b0 := b0'.alloc (.loop (insLoop fn x (w1.heap.size + 1) w3.heap.size A Bd .ready none))
    have be := be'.alloc (by have := HB.out.size; omega) (.loop (insLoop fn x (w1.heap.size + 1) w3.heap.size A Bd .ready none))
    have ht := ht'.keep (w' := w5.alloc (.loop (insLoop fn x (w1.heap.size + 1) w3.heap.size A Bd .ready none))) (by simp) fun g _ hl => Below.heap_alloc w5 _ g hl
    replace hD := (Below.heap_alloc w5 (.loop (insLoop fn x (w1.heap.size + 1) w3.heap.size A Bd .ready none)) w3.heap.size (by omega)).trans hD
    have hs5 : (w5.alloc (.loop (insLoop fn x (w1.heap.size + 1) w3.heap.size A Bd .ready none))).heap.size = w3.heap.size + 1 + 1 := by simp [hs4]
    generalize w5.alloc (.loop (insLoop fn x (w1.heap.size + 1) w3.heap.size A Bd .ready none)) = w6 at *
    clear b0' be' ht' hs4 w5
    have hBd := ins_body fn x A Bd hAB w1.heap.size (w1.heap.size + 1) (w3.heap.size + 1) w3.heap.size T (by have := HG.out.len; omega) (by omega) (by omega) (by omega)
    refine (inside_any (w3.heap.size + 1) w1.heap.size _ T _ _ w6 hBd ht (by omega) (by have := HG.out.len; omega) ⟨hq, ⟨.slice none 0 0, b0, World.ownsRow_nil _ _ _ _⟩, HE.out.below be⟩).mono ?_
    rintro e W' ⟨rfl, hJ, htn⟩
    refine ⟨none, _, run_endLoop hJ.loop (fun h => (by cases h)), ?_⟩
    obtain ⟨vt, hv, hvo⟩ := hJ.box
    have hIT : insideT T.pr = (dedup (T.all.map Ty.pr), 0) := insideT_good HG.out
    have k0 : Blk (W'.putObj (w3.heap.size + 1) (.loop { insLoop fn x (w1.heap.size + 1) w3.heap.size A Bd .ready none with state := .exhausted })) (w1.heap.size + 1) 48 #[vt] := (World.putObj_heap_other (by omega)).trans hv
    have ko : (W'.putObj (w3.heap.size + 1) (.loop { insLoop fn x (w1.heap.size + 1) w3.heap.size A Bd .ready none with state := .exhausted })).ownsRow (w1.heap.size + 1 + 1) 9 1 vt (dedup (T.all.map Ty.pr)).length (strVs (dedup (T.all.map Ty.pr))) :=
      hvo.kept (grown_putObj _ _ _) (.inr fun e => (by obtain ⟨_, cs, fr, h⟩ := own_turn hvo e hJ.loop; cases h))
    have nD : ¬ RoundT2 (w1.heap.size + 1) (w3.heap.size + 1) w3.heap.size (.deferred (some [])) := by
      rintro ⟨h | ⟨h, _⟩ | ⟨_, cs, fr, h⟩, _⟩
      · omega
      · omega
      · cases h
    have hD7 : (W'.putObj (w3.heap.size + 1) (.loop { insLoop fn x (w1.heap.size + 1) w3.heap.size A Bd .ready none with state := .exhausted })).heap[w3.heap.size]? = some (.deferred (some [])) := (World.putObj_heap_other (by omega)).trans (htn.same _ _ hD nD)
    have hwz := HB.out.size
    have tot : Turns (fun i _ => w.heap.size ≤ i) w (W'.putObj (w3.heap.size + 1) (.loop { insLoop fn x (w1.heap.size + 1) w3.heap.size A Bd .ready none with state := .exhausted })) :=
      (Turns.of_below be).trans ((htn.mono (by
        rintro i o ⟨h | ⟨h, _⟩ | ⟨h, _⟩, _⟩ <;> omega)).trans (turns_putObj (fun _ _ => (by omega)) _))
    have TOT := Lib.hid tot
    have K0 := Lib.hid k0
    have KO := Lib.hid ko
    have KD := Lib.hid hD7
    have HIT := Lib.hid hIT
    obtain ⟨ao, nv, cv, rfl⟩ := own_shape hvo
    clear tot k0 ko hD7 hIT nD hvo hv hJ htn hBd hq hD ht be b0
    change Exit.inBlock 0 (Exit.then _ _) Exit.normal _ (W'.putObj (w3.heap.size + 1) (.loop { insLoop fn x (w1.heap.size + 1) w3.heap.size A Bd .ready none with state := .exhausted }))
    generalize W'.putObj (w3.heap.size + 1) (.loop { insLoop fn x (w1.heap.size + 1) w3.heap.size A Bd .ready none with state := .exhausted }) = w7 at *
    have c0 := K0.out.cell 0
    simp only [List.getElem?_toArray, List.getElem?_cons_zero] at c0
    dsimp only [List.cons_append, List.nil_append]
    go_wp2
    refine ⟨by simp, .inl ⟨_, _, rfl, run_takeDeferred KD.out, _, results_tmp2 rfl _ _ _, .slice ao nv cv, ?_, ?_, ?_⟩⟩
    · rw [HIT.out]; rfl
    · rw [HIT.out]
      refine base_le ((KO.out.kept (grown_putObj _ _ _) (.inr fun e => (by obtain ⟨_, cs, fr, h⟩ := own_turn KO.out e KD.out; cases h)))) (by omega)
    · exact Turns.below (TOT.out.trans (turns_putObj (fun _ _ => (by omega)) _)) (Nat.le_refl _) (fun _ _ h => h)
  · have HB := Lib.hid hb
    have HN := Lib.hid hne
    have hn2 : (chk s != 0) = true := by simpa using hne
    clear hb hne
    unfold zero4
    go_wp2
    refine ⟨_, results_tmp2 rfl _ _ _, .slice none 0 0, ?_, ?_, HB.out.alloc HB.out.size _⟩
    · rw [insideT_err]; rfl
    · have : (insideT s).1 = [] := by unfold insideT; rw [if_pos HN.out]
      rw [this]
      exact World.ownsRow_nil _ _ _ _
end Go.Proofs.YthcoppfdffhjfaaGreatDoor
