/- Names of package kind. -/
import Derived.Test.YthcoppfdffhjfaaGreatDoorRi
namespace Go.Proofs.YthcoppfdffhjfaaGreatDoor
open Go Go.RowKit

theorem namLoop_of (fn B0 D : Nat) (A Bd : Code) (T : Array Value) (hs : T.size = 31) (h6 : T.getD 6 undef = .pointer (some ⟨B0, 0, none⟩)) :
    ∃ x, ({ state := .ready, pending := none, fn := fn, tmps := T, params := #[18], assign := A, body := Bd, defers := D } : Loop) = namLoop fn x B0 D A Bd .ready none := by
  refine ⟨fun i => T.getD i undef, ?_⟩
  obtain ⟨l⟩ := T
  have hl : l.length = 31 := hs
  unfold namLoop
  congr 1
  rw [← h6]
  rcases l with _ | ⟨a0, _ | ⟨a1, _ | ⟨a2, _ | ⟨a3, _ | ⟨a4, _ | ⟨a5, _ | ⟨a6, _ | ⟨a7, l⟩⟩⟩⟩⟩⟩⟩⟩ <;> try (simp at hl; done)
  rcases l with _ | ⟨b0, _ | ⟨b1, _ | ⟨b2, _ | ⟨b3, _ | ⟨b4, _ | ⟨b5, _ | ⟨b6, _ | ⟨b7, l⟩⟩⟩⟩⟩⟩⟩⟩ <;> try (simp at hl; done)
  rcases l with _ | ⟨c0, _ | ⟨c1, _ | ⟨c2, _ | ⟨c3, _ | ⟨c4, _ | ⟨c5, _ | ⟨c6, _ | ⟨c7, l⟩⟩⟩⟩⟩⟩⟩⟩ <;> try (simp at hl; done)
  rcases l with _ | ⟨d0, _ | ⟨d1, _ | ⟨d2, _ | ⟨d3, _ | ⟨d4, _ | ⟨d5, _ | ⟨d6, _ | ⟨e, l⟩⟩⟩⟩⟩⟩⟩⟩ <;> first | rfl | (simp at hl; done)

/-- What holds between two rounds. -/
structure NamJ (fn : Nat) (x : Nat → Value) (A Bd : Code) (B0 l D : Nat) (xs : List Bys) (W : World) : Prop where
  loop : W.heap[l]? = some (.loop (namLoop fn x B0 D A Bd .ready none))
  box : ∃ vt, Blk W B0 48 #[vt] ∧ W.ownsRow (B0 + 1) 9 1 vt xs.length (strVs xs) ∧ (xs = [] → vt = .slice none 0 0)
  env : Env W
theorem NamJ.below {fn : Nat} {x : Nat → Value} {A Bd : Code} {B0 l D : Nat} {xs : List Bys} {W W' : World} (h : NamJ fn x A Bd B0 l D xs W) (hb : Below W.heap.size W W') : NamJ fn x A Bd B0 l D xs W' := by
  obtain ⟨vt, h1, h2, h3⟩ := h.box
  exact ⟨(hb.block l (Array.getElem?_eq_some_iff.1 h.loop).1).trans h.loop, ⟨vt, Blk.below h1 hb h1.lt, (Turns.of_below (T := fun _ _ => False) hb).own h2 (fun _ _ _ h => h), h3⟩, h.env.below hb⟩
theorem nam_body (fn : Nat) (x : Nat → Value) (A Bd : Code) (hAB : Tryz.f44.body.bind loopParts = some (A, Bd)) (B B0 l D : Nat) (T : Ty) (hT : T.pr.length ≤ 900) (hwf : T.wf) (hBB : B ≤ B0) (hB : B0 < l) (h4 : 4 ≤ B0) : Body l B (RoundT2 B0 l) T (fun pre W => NamJ fn x A Bd B0 l D (nmsL pre) W) where
  own _ _ _ h hb := h.below hb
  data i o h := by rcases h.1 with h | ⟨h, _⟩ | ⟨h, _⟩ <;> omega
  rows i cs fr h := h.2 cs fr rfl
  round pre U us W n hJ hU hpl hty := by
    obtain ⟨a1, n1, c1, a2, n2, c2, rfl⟩ := hty.four
    obtain ⟨vt, hbox, hown, hnil⟩ := hJ.box
    have h1 := Ty.all_le T U hU
    have h2 := T.all_len
    have h3 := nmsL_len pre
    refine ⟨_, 18, hJ.loop, rfl, nam_round B0 l D n fn x A Bd hAB U a1 a2 n1 c1 n2 c2 vt _ W (by omega) (Ty.all_wf T hwf U hU) hbox hown hJ.loop hB (by omega) hJ.env h4 hnil _ ?_⟩
    intro W' g1 g2 g3
    refine ⟨rfl, ⟨g1, ?_, ?_⟩, roundT2 (by decide) hbox hJ.loop g3⟩
    · rw [nmsL_snoc]
      exact g2
    · refine hJ.env.keep (fun k hk => ?_) g3.size
      have hs := hJ.env.size
      have ho : W.heap[k]? = some (W.heap[k]'(by omega)) := Array.getElem?_eq_getElem (by omega)
      rw [ho]
      refine g3.same k _ ho ?_
      rintro (h | ⟨h, _⟩ | ⟨h, _⟩) <;> omega

set_option maxRecDepth 100000 in
set_option maxHeartbeats 6400000 in
theorem Names_any (s : Bys) (w : World) (he : Env w) : Calls Tryz.prog 44 #[.string (bs s)] w fun e w' => ∃ v, e = .returned (.tuple #[v, .int .i64 (namesT s).2]) ∧ StV w' v (namesT s).1 ∧ Below w.heap.size w w' := by
  have HE := Lib.hid he
  clear he
  refine callsIn_wide.1 (callsIn_of_wp_marks (n := 0) Tryz.func44 rfl trivial ?_)
  refine wpIn_wide.2 ?_
  simp only [Tryz.ntmps44, List.size_toArray, List.length_cons, List.length_nil, Nat.reduceAdd, Nat.reduceSub, Array.replicate_succ,
     Array.replicate_zero, List.push_toArray, List.append_toArray, List.nil_append, List.cons_append]
  have hmf : ∀ (fn : Fn) (first cap : Array Value) (w : World), (Instr.makeFunc fn first cap).run Tryz.prog w = .ok (.func fn first cap) w := fun _ _ _ _ => rfl
  go_wp2_with fail
  refine (read_any s w HE.out).mono ?_
  rintro e w1 ⟨hb, ⟨T, vs, hG, rfl, rfl, hT⟩ | ⟨hne, rfl⟩⟩
  · obtain ⟨an, nn, cn, ak, nk, ck, rfl⟩ := hT.four
    have HB := Lib.hid hb
    have HG := Lib.hid hG
    have HT := Lib.hid hT
    clear hb hG hT
    go_wp2
    refine (wpIn_wide (n := 0)).1 (wpIn_rangeFunc fun fn _ => ?_)
    have h4 : 4 ≤ w1.heap.size := (HE.out.below HB.out).size
    have be := HB.out.alloc HB.out.size (.cells #[.string (bs T.pr), .int .u8 T.kind, .slice an nn cn, .slice ak nk ck] 58)
    have ht := (HT.out.mono (S' := fun g => g < w1.heap.size) (fun g _ hl => hl)).keep (w' := w1.alloc (.cells #[.string (bs T.pr), .int .u8 T.kind, .slice an nn cn, .slice ak nk ck] 58)) (by simp) fun g _ hl => Below.heap_alloc w1 _ g hl
    have hs0 : (w1.alloc (.cells #[.string (bs T.pr), .int .u8 T.kind, .slice an nn cn, .slice ak nk ck] 58)).heap.size = w1.heap.size + 1 := by simp
    generalize w1.alloc (.cells #[.string (bs T.pr), .int .u8 T.kind, .slice an nn cn, .slice ak nk ck] 58) = w2 at *
    have b0 : Blk (w2.alloc (.cells #[.slice none 0 0] 48)) (w1.heap.size + 1) 48 #[.slice none 0 0] := hs0 ▸ Blk.new w2 48 #[.slice none 0 0]
    have be := be.alloc (by have := HB.out.size; omega) (.cells #[.slice none 0 0] 48)
    have ht := ht.keep (w' := w2.alloc (.cells #[.slice none 0 0] 48)) (by simp) fun g _ hl => Below.heap_alloc w2 _ g hl
    have hs1 : (w2.alloc (.cells #[.slice none 0 0] 48)).heap.size = w1.heap.size + 1 + 1 := by simp [hs0]
    generalize w2.alloc (.cells #[.slice none 0 0] 48) = w3 at *
    clear hs0
    obtain ⟨A, Bd, hAB⟩ : ∃ A Bd, Tryz.f44.body.bind loopParts = some (A, Bd) := ⟨_, _, rfl⟩
    have hAB' := hAB
    simp only [Tryz.f44, Option.bind_some, loopParts, Option.or, Option.some.injEq, Prod.mk.injEq] at hAB'
    obtain ⟨hA, hBd⟩ := hAB'
    rw [hA, hBd]
    clear hA hBd
    refine ⟨_, _, _, ⟨.fn (.func 67) #[], #[.agg #[.string (bs T.pr), .int .u8 T.kind, .slice an nn cn, .slice ak nk ck], .func (.yield (w3.heap.size + 1)) #[] #[]]⟩, _, 67, #[.agg #[.string (bs T.pr), .int .u8 T.kind, .slice an nn cn, .slice ak nk ck], .func (.yield (w3.heap.size + 1)) #[] #[]], _, run_enterLoop_outer .., range_resolve _ _ _ rfl _, fun _ _ => trivial, rfl, (fun h => (by cases h)), callsIn_wide.2 ?_⟩
    have b0' := (b0.alloc (.deferred (some [])))
    have be' := (be.alloc (by have := HB.out.size; omega) (.deferred (some [])))
    have ht' := ht.keep (w' := w3.alloc (.deferred (some []))) (by simp) fun g _ hl => Below.heap_alloc w3 _ g hl
    have hD := heap_alloc_new w3 (.deferred (some []))
    have hs4 : (w3.alloc (.deferred (some []))).heap.size = w3.heap.size + 1 := by simp
    generalize (w3.alloc (.deferred (some []))) = w5 at *
    dsimp only
    obtain ⟨x, hx⟩ := namLoop_of fn (w1.heap.size + 1) w3.heap.size A Bd #[.string (bs T.pr), undef, .slice none 0 0, .int .i64 0, .pointer (some ⟨w1.heap.size, 0, none⟩), .int .i64 0, .pointer (some ⟨w1.heap.size + 1, 0, none⟩), undef, .tuple #[.agg #[.string (bs T.pr), .int .u8 T.kind, .slice an nn cn, .slice ak nk ck], .int .i64 0], .string (bs T.pr), .tuple #[.agg #[.string (bs T.pr), .int .u8 T.kind, .slice an nn cn, .slice ak nk ck], .int .i64 0], .agg #[.string (bs T.pr), .int .u8 T.kind, .slice an nn cn, .slice ak nk ck], .int .i64 0, .int .i64 0, .bool false, undef, .agg #[.string (bs T.pr), .int .u8 T.kind, .slice an nn cn, .slice ak nk ck], .func (.func 67) #[.agg #[.string (bs T.pr), .int .u8 T.kind, .slice an nn cn, .slice ak nk ck]] #[], undef, undef, undef, undef, undef, undef, undef, undef, undef, undef, undef, undef, undef] rfl rfl
    rw [hx]
    clear hx
    have hq : (w5.alloc (.loop (namLoop fn x (w1.heap.size + 1) w3.heap.size A Bd .ready none))).heap[w3.heap.size + 1]? = some (.loop (namLoop fn x (w1.heap.size + 1) w3.heap.size A Bd .ready none)) := by
      have := heap_alloc_new w5 (.loop (namLoop fn x (w1.heap.size + 1) w3.heap.size A Bd .ready none))
      rwa [hs4] at this
    have b0 := b0'.alloc (.loop (namLoop fn x (w1.heap.size + 1) w3.heap.size A Bd .ready none))
    have be := be'.alloc (by have := HB.out.size; omega) (.loop (namLoop fn x (w1.heap.size + 1) w3.heap.size A Bd .ready none))
    have ht := ht'.keep (w' := w5.alloc (.loop (namLoop fn x (w1.heap.size + 1) w3.heap.size A Bd .ready none))) (by simp) fun g _ hl => Below.heap_alloc w5 _ g hl
    replace hD := (Below.heap_alloc w5 (.loop (namLoop fn x (w1.heap.size + 1) w3.heap.size A Bd .ready none)) w3.heap.size (by omega)).trans hD
    have hs5 : (w5.alloc (.loop (namLoop fn x (w1.heap.size + 1) w3.heap.size A Bd .ready none))).heap.size = w3.heap.size + 1 + 1 := by simp [hs4]
    generalize w5.alloc (.loop (namLoop fn x (w1.heap.size + 1) w3.heap.size A Bd .ready none)) = w6 at *
    clear b0' be' ht' hs4 w5
    have hBd := nam_body fn x A Bd hAB w1.heap.size (w1.heap.size + 1) (w3.heap.size + 1) w3.heap.size T (by have := HG.out.len; omega) HG.out.wf (by omega) (by omega) (by omega)
    refine (inside_any (w3.heap.size + 1) w1.heap.size _ T _ _ w6 hBd ht (by omega) (by have := HG.out.len; omega) ⟨hq, ⟨.slice none 0 0, b0, World.ownsRow_nil _ _ _ _, fun _ => rfl⟩, HE.out.below be⟩).mono ?_
    rintro e W' ⟨rfl, hJ, htn⟩
    refine ⟨none, _, run_endLoop hJ.loop (fun h => (by cases h)), ?_⟩
    obtain ⟨vt, hv, hvo, hnl⟩ := hJ.box
    have hIT : namesT T.pr = (ascOf T.nms, 0) := namesT_good HG.out
    have k0 : Blk (W'.putObj (w3.heap.size + 1) (.loop { namLoop fn x (w1.heap.size + 1) w3.heap.size A Bd .ready none with state := .exhausted })) (w1.heap.size + 1) 48 #[vt] := (World.putObj_heap_other (by omega)).trans hv
    have ko : (W'.putObj (w3.heap.size + 1) (.loop { namLoop fn x (w1.heap.size + 1) w3.heap.size A Bd .ready none with state := .exhausted })).ownsRow (w1.heap.size + 1 + 1) 9 1 vt (nmsL T.all).length (strVs (nmsL T.all)) :=
      hvo.kept (grown_putObj _ _ _) (.inr fun e => (by obtain ⟨_, cs, fr, h⟩ := own_turn hvo e hJ.loop; cases h))
    have nD : ¬ RoundT2 (w1.heap.size + 1) (w3.heap.size + 1) w3.heap.size (.deferred (some [])) := by
      rintro ⟨h | ⟨h, _⟩ | ⟨_, cs, fr, h⟩, _⟩
      · omega
      · omega
      · cases h
    have hD7 : (W'.putObj (w3.heap.size + 1) (.loop { namLoop fn x (w1.heap.size + 1) w3.heap.size A Bd .ready none with state := .exhausted })).heap[w3.heap.size]? = some (.deferred (some [])) := (World.putObj_heap_other (by omega)).trans (htn.same _ _ hD nD)
    have hwz := HB.out.size
    have tot : Turns (fun i _ => w.heap.size ≤ i) w (W'.putObj (w3.heap.size + 1) (.loop { namLoop fn x (w1.heap.size + 1) w3.heap.size A Bd .ready none with state := .exhausted })) :=
      (Turns.of_below be).trans ((htn.mono (by
        rintro i o ⟨h | ⟨h, _⟩ | ⟨h, _⟩, _⟩ <;> omega)).trans (turns_putObj (fun _ _ => (by omega)) _))
    have TOT := Lib.hid tot
    have K0 := Lib.hid k0
    have KO := Lib.hid ko
    have KD := Lib.hid hD7
    have HIT := Lib.hid hIT
    obtain ⟨ao, nv, cv, rfl⟩ := own_shape hvo
    clear tot k0 ko hD7 hIT nD hvo hv hJ htn hBd hq hD ht be b0
    change Exit.inBlock 0 (Exit.then _ _) Exit.normal _ (W'.putObj (w3.heap.size + 1) (.loop { namLoop fn x (w1.heap.size + 1) w3.heap.size A Bd .ready none with state := .exhausted }))
    generalize W'.putObj (w3.heap.size + 1) (.loop { namLoop fn x (w1.heap.size + 1) w3.heap.size A Bd .ready none with state := .exhausted }) = w7 at *
    have hnm : (nmsL T.all).length ≤ 1000 := by have := nmsL_len T.all; have := T.all_len; have := HG.out.len; omega
    have hso := sorted_strs (nmsL T.all) (.slice ao nv cv) _ w7 hnm KO.out hnl
    have HSO := Lib.hid hso
    have HNL := Lib.hid hnl
    have c0 := K0.out.cell 0
    simp only [List.getElem?_toArray, List.getElem?_cons_zero] at c0
    have HZ : Hid (w.heap.size ≤ w7.heap.size) := Lib.hid (Nat.le_trans hwz (by have := K0.out.lt; omega))
    clear hso hnl
    dsimp only [List.cons_append, List.nil_append]
    go_wp2_with fail
    refine HSO.out.mono ?_
    rintro e w8 ⟨m, v8, rfl, hpm, hup, hsv, hb8⟩
    have hcp := compact_strs hb8.size (by rw [hpm.length_eq]; exact hnm) hsv
    have HCP := Lib.hid hcp
    have HB8 := Lib.hid hb8
    have HPM := Lib.hid hpm
    have HUP := Lib.hid hup
    obtain ⟨a8, n8, c8, rfl⟩ : ∃ a8 n8 c8, v8 = .slice a8 n8 c8 := by
      rcases hsv with ⟨_, a, c, h⟩ | ⟨g, cap, h, _⟩
      · exact ⟨_, _, _, h⟩
      · exact ⟨_, _, _, h⟩
    clear hcp hb8 hpm hup hsv
    go_wp2_with fail
    refine HCP.out.mono ?_
    rintro e w9 ⟨v9, rfl, hst, hb9⟩
    have HST := Lib.hid hst
    have HB9 := Lib.hid (HB8.out.trans hb9)
    clear hb9
    obtain ⟨a9, n9, c9, rfl⟩ : ∃ a9 n9 c9, v9 = .slice a9 n9 c9 := by
      rcases hst with ⟨_, a, c, h⟩ | ⟨g, o, cap, h, _⟩
      · exact ⟨_, _, _, h⟩
      · exact ⟨_, _, _, h⟩
    clear hst
    go_wp2
    have KD9 : w9.heap[w3.heap.size]? = some (.deferred (some [])) := (HB9.out.block _ (Array.getElem?_eq_some_iff.1 KD.out).1).trans KD.out
    refine ⟨by simp, .inl ⟨_, _, rfl, run_takeDeferred (hs1 ▸ KD9), _, results_tmp2 rfl _ _ _, .slice a9 n9 c9, ?_, ?_, ?_⟩⟩
    · rw [HIT.out]; rfl
    · rw [HIT.out, T.nms_all, ← compact_ascOf HPM.out HUP.out]
      rcases HST.out with h | ⟨g, o, cap, h1, h2, h3⟩
      · exact .inl h
      · by_cases hl0 : Lib.compact m = []
        · exact .inl ⟨hl0, _, _, by rw [hl0] at h1; exact h1⟩
        · refine .inr ⟨g, o, cap, h1, by simpa using h2, h3.keep (World.putObj_heap_other ?_)⟩
          rintro rfl
          have hpos : 0 < (Lib.compact m).length := List.length_pos_iff.2 hl0
          have := h3 0 _ (List.getElem?_eq_getElem hpos)
          rw [hs1] at KD9
          simp [World.cell?, KD9] at this
    · have := HB9.out.size
      exact (Turns.below TOT.out (Nat.le_refl _) (fun _ _ h => h)).trans (Turns.below ((Turns.of_below HB9.out).trans (turns_putObj (T := fun i _ => w.heap.size ≤ i) (fun _ _ => (by omega)) _)) HZ.out (fun _ _ h => h))
  · have HB := Lib.hid hb
    have HN := Lib.hid hne
    have hn2 : (chk s != 0) = true := by simpa using hne
    clear hb hne
    unfold zero4
    go_wp2
    refine ⟨_, results_tmp2 rfl _ _ _, .slice none 0 0, ?_, ?_, HB.out.alloc HB.out.size _⟩
    · rw [namesT_err]; rfl
    · have : (namesT s).1 = [] := by unfold namesT; rw [if_pos HN.out]
      rw [this]
      exact .inl ⟨rfl, _, _, rfl⟩
end Go.Proofs.YthcoppfdffhjfaaGreatDoor
