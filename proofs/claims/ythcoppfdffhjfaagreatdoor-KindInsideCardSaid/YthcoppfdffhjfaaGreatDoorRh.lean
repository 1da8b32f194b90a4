/- Names of package kind: one round of its loop. -/
import Derived.Test.YthcoppfdffhjfaaGreatDoorRg
namespace Go.Proofs.YthcoppfdffhjfaaGreatDoor
open Go Go.RowKit
attribute [local go_sem] Oper.semAt_some

theorem wpAnyIn_of_seqF {F : Fence} {P : Program} {ops : Array Oper} {md : Region.Mode} {n : Nat} {Q' : Exit → Act → World → Prop} : ∀ (l : List Oper) (k : Nat) (listed : Array Bool) (a : Act) (w : World), (∀ j, l[j]? = ops[k + j]?) →
    Region.seqB md ops l.length k listed = true → wpListIn F n P ops Q' l a w → wpAnyIn F n P md ops Q' l.length listed a w
  | [], _, _, _, _, _, hB, h => ⟨by simpa [Region.seqB] using hB, h⟩
  | o :: l, k, listed, a, w, hl, hB, h => by
    have h0 : ops[k]? = some o := by simpa using (hl 0).symm
    simp only [List.length_cons, Region.seqB, Bool.and_eq_true, decide_eq_true_eq] at hB
    refine ⟨fun h1 => (by rw [hB.1] at h1; cases h1), fun i hi => ?_⟩
    rw [hB.1] at hi
    have hik : i = k := by simpa using hi
    subst hik
    have hw : wpOpIn F n P ops Q' i (wpListIn F n P ops Q' l) a w := by unfold wpOpIn; simp only [h0]; exact h
    exact wpOpIn_mono (fun a' w' h' => wpAnyIn_of_seqF l (i + 1) _ a' w' (fun j => by have := hl (j + 1); simpa [Nat.add_assoc, Nat.add_comm 1 j] using this) hB.2 h') hw
theorem wpAnyIn_tail {F : Fence} {P : Program} {l : List Oper} {md : Region.Mode} {n f : Nat} {Q' : Exit → Act → World → Prop} (k : Nat) {listed : Array Bool} {a : Act} {w : World} (hf : (l.drop k).length = f)
    (hB : Region.seqB md l.toArray f k listed = true) (h : wpListIn F n P l.toArray Q' (l.drop k) a w) : wpAnyIn F n P md l.toArray Q' f listed a w := by
  subst hf
  exact wpAnyIn_of_seqF (l.drop k) k listed a w (fun j => by simp [List.getElem?_drop]) hB h

/-- The record of Names' loop. -/
def namLoop (fn : Nat) (x : Nat → Value) (B0 D : Nat) (A Bd : Code) (st : LoopState) (pe : Option Code) : Loop :=
  { state := st, pending := pe, fn := fn, tmps := #[x 0, x 1, x 2, x 3, x 4, x 5, .pointer (some ⟨B0, 0, none⟩), x 7, x 8, x 9, x 10, x 11, x 12, x 13, x 14, x 15, x 16, x 17, x 18, x 19, x 20, x 21, x 22, x 23, x 24, x 25, x 26, x 27, x 28, x 29, x 30], params := #[18], assign := A, body := Bd, defers := D }

set_option maxRecDepth 100000 in
set_option maxHeartbeats 25600000 in
theorem nam_round (B0 l D n fn : Nat) (x : Nat → Value) (A Bd : Code) (hAB : Tryz.f44.body.bind loopParts = some (A, Bd)) (U : Ty) (a1 a2 : Option Addr) (n1 c1 n2 c2 : Nat) (vt : Value) (xs : List Bys) (W : World) (hU : U.pr.length ≤ 900) (hwf : U.wf)
    (hbox : Blk W B0 48 #[vt]) (hown : W.ownsRow (B0 + 1) 9 1 vt xs.length (strVs xs)) (hl : W.heap[l]? = some (.loop (namLoop fn x B0 D A Bd .ready none))) (hB : B0 < l) (hn : xs.length ≤ 1000) (he : Env W) (h4 : 4 ≤ B0) (hnil : xs = [] → vt = .slice none 0 0)
    (R : Ending → World → Prop)
    (hR : ∀ W', W'.heap[l]? = some (.loop (namLoop fn x B0 D A Bd .ready none)) → (∃ vt', Blk W' B0 48 #[vt'] ∧ W'.ownsRow (B0 + 1) 9 1 vt' (if U.kind = 7 then xs ++ [frontOf U] else xs).length (strVs (if U.kind = 7 then xs ++ [frontOf U] else xs)) ∧ ((if U.kind = 7 then xs ++ [frontOf U] else xs) = [] → vt' = .slice none 0 0)) → Turns (RoundT B0 l) W W' → R (.returned (.bool true)) W') :
    RoundIn Fence.wide n Tryz.prog l fn ((namLoop fn x B0 D A Bd .ready none).tmps.setIfInBounds 18 (.agg #[.string (bs U.pr), .int .u8 U.kind, .slice a1 n1 c1, .slice a2 n2 c2])) A Bd W R := by
  have HR := Lib.hid hR
  have HL := Lib.hid hl
  have HBOX := Lib.hid hbox
  have HOWN := Lib.hid hown
  have HE := Lib.hid he
  clear hR hl hbox hown he
  simp only [Tryz.f44, Option.bind_some, loopParts, Option.or, Option.some.injEq, Prod.mk.injEq] at hAB
  obtain ⟨hA, hBd⟩ := hAB
  refine roundIn_of_wpIn trivial ?_
  have HB := Lib.hid hBd
  have hll : l < W.heap.size := (Array.getElem?_eq_some_iff.1 HL.out).1
  have htm : (namLoop fn x B0 D A Bd .ready none).tmps.setIfInBounds 18 (.agg #[.string (bs U.pr), .int .u8 U.kind, .slice a1 n1 c1, .slice a2 n2 c2]) = #[x 0, x 1, x 2, x 3, x 4, x 5, .pointer (some ⟨B0, 0, none⟩), x 7, x 8, x 9, x 10, x 11, x 12, x 13, x 14, x 15, x 16, x 17, .agg #[.string (bs U.pr), .int .u8 U.kind, .slice a1 n1 c1, .slice a2 n2 c2], x 19, x 20, x 21, x 22, x 23, x 24, x 25, x 26, x 27, x 28, x 29, x 30] := rfl
  rw [htm, ← hA]
  clear hA hBd htm
  gi_wp2
  have hl1 : (W.alloc (.cells #[.string (bs U.pr), .int .u8 U.kind, .slice a1 n1 c1, .slice a2 n2 c2] 58)).heap[l]? = some (.loop (namLoop fn x B0 D A Bd .ready none)) := (Below.heap_alloc W _ l hll).trans HL.out
  refine ⟨(W.alloc (.cells #[.string (bs U.pr), .int .u8 U.kind, .slice a1 n1 c1, .slice a2 n2 c2] 58)).putObj l (.loop (namLoop fn x B0 D A Bd .busy none)), run_beginRound hl1 rfl, ?_⟩
  have T1 : Hid (Turns (RoundT B0 l) W ((W.alloc (.cells #[.string (bs U.pr), .int .u8 U.kind, .slice a1 n1 c1, .slice a2 n2 c2] 58)).putObj l (.loop (namLoop fn x B0 D A Bd .busy none)))) :=
    Lib.hid ((Turns.of_below ((Below.refl _ W).alloc (Nat.le_refl _) _)).trans (turns_putObj (fun o ho => .inr (.inl ⟨rfl, _, (Option.some.inj (hl1.symm.trans ho)).symm⟩)) _))
  have hl2 : Hid (((W.alloc (.cells #[.string (bs U.pr), .int .u8 U.kind, .slice a1 n1 c1, .slice a2 n2 c2] 58)).putObj l (.loop (namLoop fn x B0 D A Bd .busy none))).heap[l]? = some (.loop (namLoop fn x B0 D A Bd .busy none))) :=
    Lib.hid (World.putObj_heap_same (by simp; omega))
  have hbl := HBOX.out.lt
  have hbox2 : Hid (Blk ((W.alloc (.cells #[.string (bs U.pr), .int .u8 U.kind, .slice a1 n1 c1, .slice a2 n2 c2] 58)).putObj l (.loop (namLoop fn x B0 D A Bd .busy none))) B0 48 #[vt]) :=
    Lib.hid ((World.putObj_heap_other (by omega)).trans ((Below.heap_alloc W _ B0 (by omega)).trans HBOX.out))
  have hnew2 : Hid (Blk ((W.alloc (.cells #[.string (bs U.pr), .int .u8 U.kind, .slice a1 n1 c1, .slice a2 n2 c2] 58)).putObj l (.loop (namLoop fn x B0 D A Bd .busy none))) W.heap.size 58 #[.string (bs U.pr), .int .u8 U.kind, .slice a1 n1 c1, .slice a2 n2 c2]) :=
    Lib.hid ((World.putObj_heap_other (by omega)).trans (heap_alloc_new W _))
  have hown2 : Hid (((W.alloc (.cells #[.string (bs U.pr), .int .u8 U.kind, .slice a1 n1 c1, .slice a2 n2 c2] 58)).putObj l (.loop (namLoop fn x B0 D A Bd .busy none))).ownsRow (B0 + 1) 9 1 vt xs.length (strVs xs)) :=
    Lib.hid ((HOWN.out.alloc _).kept (grown_putObj _ l _) (by
      cases hv : vt.ownBlock with
      | none => exact .inl rfl
      | some g =>
        refine .inr fun e => ?_
        injection e with e
        subst e
        obtain ⟨_, cs, fr, h⟩ := own_turn HOWN.out hv HL.out
        cases h))
  have hs2 : ((W.alloc (.cells #[.string (bs U.pr), .int .u8 U.kind, .slice a1 n1 c1, .slice a2 n2 c2] 58)).putObj l (.loop (namLoop fn x B0 D A Bd .busy none))).heap.size = W.heap.size + 1 := by simp
  generalize (W.alloc (.cells #[.string (bs U.pr), .int .u8 U.kind, .slice a1 n1 c1, .slice a2 n2 c2] 58)).putObj l (.loop (namLoop fn x B0 D A Bd .busy none)) = W2 at *
  have HS2 := Lib.hid hs2
  clear hs2
  rw [← HB.out]
  have cbox := hbox2.out.cell 0
  have n0 := hnew2.out.cell 0
  have n1' := hnew2.out.cell 1
  simp only [List.getElem?_toArray, List.getElem?_cons_zero, List.getElem?_cons_succ] at cbox n0 n1'
  have hB2 : B0 < W2.heap.size := hbox2.out.lt
  have T3 : ∀ W3, Turns (RoundT B0 l) W2 W3 → W3.heap[l]? = some (.loop (namLoop fn x B0 D A Bd .busy none)) → Turns (RoundT B0 l) W (W3.putObj l (.loop (namLoop fn x B0 D A Bd .ready none))) := fun W3 h1 h2 =>
    T1.out.trans (h1.trans (turns_putObj (fun o ho => .inr (.inl ⟨rfl, _, (Option.some.inj (h2.symm.trans ho)).symm⟩)) _))
  have T3 := Lib.hid T3
  obtain ⟨ao, nv, cv, rfl⟩ := own_shape hown2.out
  by_cases hin : U.kind = 7
  · rw [if_pos hin] at HR
    obtain ⟨i0, hi, hz0, hz1, hz2⟩ := info9'
    have hk : (U.kind == 7) = true := by simp [hin]
    have mixed : Tryz.prog.follows .mixedOrders = true := by kernel_rfl
    have HE2 : Hid (Env W2) := Lib.hid (HE.out.keep (fun k hk => by
      have hs := HE.out.size
      have ho : W.heap[k]? = some (W.heap[k]'(by omega)) := Array.getElem?_eq_getElem (by omega)
      rw [ho]
      refine T1.out.same k _ ho ?_
      rintro (h | ⟨h, _⟩ | ⟨h, _⟩) <;> omega) T1.out.size)
    have HWF := Lib.hid hwf
    clear hin hwf
    gi_wp2
    have fbox := hbox2.out.frozen 0
    refine wpIn_region_any mixed ?_
    change wpAnyIn _ _ _ _ _ _ _ _ _ (World.drewN W2 1)
    refine wpAnyIn_ready (rs := [0, 1]) (by kernel_rfl) (by simp) (AllReadyIn.cons rfl (fun K hK => ?_) (AllReadyIn.cons rfl (fun K hK => ?_) AllReadyIn.nil))
    · go_simp
      refine hK _ _ ?_; clear hK K
      refine wpAnyIn_ready (rs := [1]) (by kernel_rfl) (by simp) (AllReadyIn.cons rfl (fun K hK => ?_) AllReadyIn.nil)
      go_simp
      refine hK _ _ ?_; clear hK K
      refine wpAnyIn_ready (rs := [2]) (by kernel_rfl) (by simp) (AllReadyIn.cons rfl (fun K hK => ?_) AllReadyIn.nil)
      go_simp
      refine hK _ _ ?_; clear hK K
      refine wpAnyIn_ready (rs := [3]) (by kernel_rfl) (by simp) (AllReadyIn.cons rfl (fun K hK => ?_) AllReadyIn.nil)
      go_simp
      refine ⟨trivial, (fun h => by cases h), (CallsIn.inRound l (callsIn_wide.2 (front_any U HWF.out (by omega) _ (HE2.out.drewN _)))).mono ?_⟩
      rintro e w' ⟨rfl, q, rfl⟩
      refine hK _ _ ?_; clear hK K
      refine wpAnyIn_ready (rs := [4]) (by kernel_rfl) (by simp) (AllReadyIn.cons rfl (fun K hK => ?_) AllReadyIn.nil)
      go_simp
      refine hK _ _ ?_; clear hK K
      refine wpAnyIn_tail 5 rfl (by kernel_rfl) ?_
      simp only [List.drop_succ_cons, List.drop_zero]
      have hlz : W2.heap.size = (W2.drewN (1 + q)).heap.size := rfl
      have hlw : Hid ((W2.drewN (1 + q)).heap[l]? = some (.loop (namLoop fn x B0 D A Bd .busy none))) := Lib.hid hl2.out
      have hownw : Hid ((W2.drewN (1 + q)).ownsRow (B0 + 1) 9 1 (.slice ao nv cv) xs.length (strVs xs)) := Lib.hid hown2.out
      have hboxw : Hid (Blk (W2.drewN (1 + q)) B0 48 #[.slice ao nv cv]) := Lib.hid hbox2.out
      have TW : Hid (Turns (RoundT B0 l) W2 (W2.drewN (1 + q))) := Lib.hid ((Turns.refl _ _).drewN _)
      have hBw : B0 < (W2.drewN (1 + q)).heap.size := hB2
      rw [hlz]
      generalize W2.drewN (1 + q) = w' at *
      gi_wp2_with (gi_at_builtin; (refine wpListIn_append_own _ rfl _ _ 48 rfl (B0 + 1) 9 i0 _ 1 16 Tryz.underlying48 hi hz0 hz1 hz2 rfl (by decide) (.slice ao nv cv) xs.length (strVs xs) rfl (hownw.out.alloc _) ⟨w'.heap.size, 0, none⟩ 1 1 [.string (bs (frontOf U))] rfl rfl (World.news_of_block (cs := #[.string (bs (frontOf U))]) (t := 9) (fr := (0, 0)) (heap_alloc_new w' _)) (by simp [Value.oneCell']) (by unfold maxLen; omega) (by omega) (by simp; omega) ?_))
      intro v' w1 hown1 hgrow _
      obtain ⟨g, cap, hv', hg⟩ := own_slice hown1 (by omega)
      have HOWN1 := Lib.hid hown1
      have HGROW := Lib.hid hgrow
      clear hown1 hgrow
      have nb : some B0 ≠ (Value.slice ao nv cv).ownBlock := fun e => by have := (hownw.out.lt B0 e.symm).1; omega
      have T2 : Hid (Turns (RoundT B0 l) w' w1) :=
        Lib.hid ((Turns.of_below ((Below.refl _ w').alloc (Nat.le_refl _) _)).trans (Turns.of_grown HGROW.out fun i o hi ho => .inr (.inr (by
          obtain ⟨h1, h2⟩ := own_turn (hownw.out.alloc _) hi ho
          exact ⟨by omega, h2⟩))))
      have hll2 := (Array.getElem?_eq_some_iff.1 hlw.out).1
      have hbox3 : Hid (Blk w1 B0 48 #[.slice ao nv cv]) := Lib.hid (Blk.grown (Blk.alloc hboxw.out _) HGROW.out nb)
      have hl3 : Hid (w1.heap[l]? = some (.loop (namLoop fn x B0 D A Bd .busy none))) :=
        Lib.hid ((HGROW.out.block l (by simp; omega) (fun e => by
          have ho : (w'.alloc (.cells #[.string (bs (frontOf U))] 9)).heap[l]? = some (.loop (namLoop fn x B0 D A Bd .busy none)) := (Below.heap_alloc w' _ l (by omega)).trans hlw.out
          obtain ⟨_, cs, fr, h⟩ := own_turn (hownw.out.alloc _) e.symm ho
          cases h)).trans ((Below.heap_alloc w' _ l (by omega)).trans hlw.out))
      have cb := hbox3.out.cell 0
      have fb := hbox3.out.frozen 0
      simp only [List.getElem?_toArray, List.getElem?_cons_zero] at cb
      rw [hv'] at HOWN1 ⊢
      gi_wp2
      have hl4 : (w1.setCell ⟨B0, 0, none⟩ (.slice (some ⟨g, 0, none⟩) (xs.length + 1) cap)).heap[l]? = some (.loop (namLoop fn x B0 D A Bd .busy none)) := (Below.heap_setCell _ _ _ _ (by simp; omega)).trans hl3.out
      have hll4 := (Array.getElem?_eq_some_iff.1 hl4).1
      refine ⟨_, _, run_endRound none hl4, HR.out _ ?_ ⟨.slice (some ⟨g, 0, none⟩) (xs.length + 1) cap, ?_, ?_, (fun h => by simp at h)⟩ (T3.out _ ?_ hl4)⟩
      · exact World.putObj_heap_same hll4
      · exact (World.putObj_heap_other (by omega)).trans (hbox3.out.set_ 0 _)
      · have h := ownsRow_setCell_below HOWN1.out (a := ⟨B0, 0, none⟩) (by first | (simp; omega) | simp) (.slice (some ⟨g, 0, none⟩) (xs.length + 1) cap)
        rw [strVs_snoc, List.length_append, List.length_singleton]
        refine h.kept (grown_putObj _ l _) (.inr fun e => ?_)
        obtain ⟨_, cs, fr, h'⟩ := own_turn h e hl4
        cases h'
      · exact TW.out.trans (T2.out.trans (Turns.of_grown (row := some B0) (grown_set (grown_refl _ _) _) fun i o hi _ => .inl (by injection hi with hi; exact hi.symm)))
    · go_simp
      refine hK _ _ ?_; clear hK K
      refine wpAnyIn_ready (rs := [0, 2]) (by kernel_rfl) (by simp) (AllReadyIn.cons rfl (fun K hK => ?_) (AllReadyIn.cons rfl (fun K hK => ?_) AllReadyIn.nil))
      · go_simp
        refine hK _ _ ?_; clear hK K
        refine wpAnyIn_ready (rs := [2]) (by kernel_rfl) (by simp) (AllReadyIn.cons rfl (fun K hK => ?_) AllReadyIn.nil)
        go_simp
        refine hK _ _ ?_; clear hK K
        refine wpAnyIn_ready (rs := [3]) (by kernel_rfl) (by simp) (AllReadyIn.cons rfl (fun K hK => ?_) AllReadyIn.nil)
        go_simp
        refine ⟨trivial, (fun h => by cases h), (CallsIn.inRound l (callsIn_wide.2 (front_any U HWF.out (by omega) _ (HE2.out.drewN _)))).mono ?_⟩
        rintro e w' ⟨rfl, q, rfl⟩
        refine hK _ _ ?_; clear hK K
        refine wpAnyIn_ready (rs := [4]) (by kernel_rfl) (by simp) (AllReadyIn.cons rfl (fun K hK => ?_) AllReadyIn.nil)
        go_simp
        refine hK _ _ ?_; clear hK K
        refine wpAnyIn_tail 5 rfl (by kernel_rfl) ?_
        simp only [List.drop_succ_cons, List.drop_zero]
        have hlz : W2.heap.size = (W2.drewN (1 + q)).heap.size := rfl
        have hlw : Hid ((W2.drewN (1 + q)).heap[l]? = some (.loop (namLoop fn x B0 D A Bd .busy none))) := Lib.hid hl2.out
        have hownw : Hid ((W2.drewN (1 + q)).ownsRow (B0 + 1) 9 1 (.slice ao nv cv) xs.length (strVs xs)) := Lib.hid hown2.out
        have hboxw : Hid (Blk (W2.drewN (1 + q)) B0 48 #[.slice ao nv cv]) := Lib.hid hbox2.out
        have TW : Hid (Turns (RoundT B0 l) W2 (W2.drewN (1 + q))) := Lib.hid ((Turns.refl _ _).drewN _)
        have hBw : B0 < (W2.drewN (1 + q)).heap.size := hB2
        rw [hlz]
        generalize W2.drewN (1 + q) = w' at *
        gi_wp2_with (gi_at_builtin; (refine wpListIn_append_own _ rfl _ _ 48 rfl (B0 + 1) 9 i0 _ 1 16 Tryz.underlying48 hi hz0 hz1 hz2 rfl (by decide) (.slice ao nv cv) xs.length (strVs xs) rfl (hownw.out.alloc _) ⟨w'.heap.size, 0, none⟩ 1 1 [.string (bs (frontOf U))] rfl rfl (World.news_of_block (cs := #[.string (bs (frontOf U))]) (t := 9) (fr := (0, 0)) (heap_alloc_new w' _)) (by simp [Value.oneCell']) (by unfold maxLen; omega) (by omega) (by simp; omega) ?_))
        intro v' w1 hown1 hgrow _
        obtain ⟨g, cap, hv', hg⟩ := own_slice hown1 (by omega)
        have HOWN1 := Lib.hid hown1
        have HGROW := Lib.hid hgrow
        clear hown1 hgrow
        have nb : some B0 ≠ (Value.slice ao nv cv).ownBlock := fun e => by have := (hownw.out.lt B0 e.symm).1; omega
        have T2 : Hid (Turns (RoundT B0 l) w' w1) :=
          Lib.hid ((Turns.of_below ((Below.refl _ w').alloc (Nat.le_refl _) _)).trans (Turns.of_grown HGROW.out fun i o hi ho => .inr (.inr (by
            obtain ⟨h1, h2⟩ := own_turn (hownw.out.alloc _) hi ho
            exact ⟨by omega, h2⟩))))
        have hll2 := (Array.getElem?_eq_some_iff.1 hlw.out).1
        have hbox3 : Hid (Blk w1 B0 48 #[.slice ao nv cv]) := Lib.hid (Blk.grown (Blk.alloc hboxw.out _) HGROW.out nb)
        have hl3 : Hid (w1.heap[l]? = some (.loop (namLoop fn x B0 D A Bd .busy none))) :=
          Lib.hid ((HGROW.out.block l (by simp; omega) (fun e => by
            have ho : (w'.alloc (.cells #[.string (bs (frontOf U))] 9)).heap[l]? = some (.loop (namLoop fn x B0 D A Bd .busy none)) := (Below.heap_alloc w' _ l (by omega)).trans hlw.out
            obtain ⟨_, cs, fr, h⟩ := own_turn (hownw.out.alloc _) e.symm ho
            cases h)).trans ((Below.heap_alloc w' _ l (by omega)).trans hlw.out))
        have cb := hbox3.out.cell 0
        have fb := hbox3.out.frozen 0
        simp only [List.getElem?_toArray, List.getElem?_cons_zero] at cb
        rw [hv'] at HOWN1 ⊢
        gi_wp2
        have hl4 : (w1.setCell ⟨B0, 0, none⟩ (.slice (some ⟨g, 0, none⟩) (xs.length + 1) cap)).heap[l]? = some (.loop (namLoop fn x B0 D A Bd .busy none)) := (Below.heap_setCell _ _ _ _ (by simp; omega)).trans hl3.out
        have hll4 := (Array.getElem?_eq_some_iff.1 hl4).1
        refine ⟨_, _, run_endRound none hl4, HR.out _ ?_ ⟨.slice (some ⟨g, 0, none⟩) (xs.length + 1) cap, ?_, ?_, (fun h => by simp at h)⟩ (T3.out _ ?_ hl4)⟩
        · exact World.putObj_heap_same hll4
        · exact (World.putObj_heap_other (by omega)).trans (hbox3.out.set_ 0 _)
        · have h := ownsRow_setCell_below HOWN1.out (a := ⟨B0, 0, none⟩) (by first | (simp; omega) | simp) (.slice (some ⟨g, 0, none⟩) (xs.length + 1) cap)
          rw [strVs_snoc, List.length_append, List.length_singleton]
          refine h.kept (grown_putObj _ l _) (.inr fun e => ?_)
          obtain ⟨_, cs, fr, h'⟩ := own_turn h e hl4
          cases h'
        · exact TW.out.trans (T2.out.trans (Turns.of_grown (row := some B0) (grown_set (grown_refl _ _) _) fun i o hi _ => .inl (by injection hi with hi; exact hi.symm)))
      · go_simp
        refine hK _ _ ?_; clear hK K
        refine wpAnyIn_ready (rs := [0, 3]) (by kernel_rfl) (by simp) (AllReadyIn.cons rfl (fun K hK => ?_) (AllReadyIn.cons rfl (fun K hK => ?_) AllReadyIn.nil))
        · go_simp
          refine hK _ _ ?_; clear hK K
          refine wpAnyIn_ready (rs := [3]) (by kernel_rfl) (by simp) (AllReadyIn.cons rfl (fun K hK => ?_) AllReadyIn.nil)
          go_simp
          refine ⟨trivial, (fun h => by cases h), (CallsIn.inRound l (callsIn_wide.2 (front_any U HWF.out (by omega) _ (HE2.out.drewN _)))).mono ?_⟩
          rintro e w' ⟨rfl, q, rfl⟩
          refine hK _ _ ?_; clear hK K
          refine wpAnyIn_ready (rs := [4]) (by kernel_rfl) (by simp) (AllReadyIn.cons rfl (fun K hK => ?_) AllReadyIn.nil)
          go_simp
          refine hK _ _ ?_; clear hK K
          refine wpAnyIn_tail 5 rfl (by kernel_rfl) ?_
          simp only [List.drop_succ_cons, List.drop_zero]
          have hlz : W2.heap.size = (W2.drewN (1 + q)).heap.size := rfl
          have hlw : Hid ((W2.drewN (1 + q)).heap[l]? = some (.loop (namLoop fn x B0 D A Bd .busy none))) := Lib.hid hl2.out
          have hownw : Hid ((W2.drewN (1 + q)).ownsRow (B0 + 1) 9 1 (.slice ao nv cv) xs.length (strVs xs)) := Lib.hid hown2.out
          have hboxw : Hid (Blk (W2.drewN (1 + q)) B0 48 #[.slice ao nv cv]) := Lib.hid hbox2.out
          have TW : Hid (Turns (RoundT B0 l) W2 (W2.drewN (1 + q))) := Lib.hid ((Turns.refl _ _).drewN _)
          have hBw : B0 < (W2.drewN (1 + q)).heap.size := hB2
          rw [hlz]
          generalize W2.drewN (1 + q) = w' at *
          gi_wp2_with (gi_at_builtin; (refine wpListIn_append_own _ rfl _ _ 48 rfl (B0 + 1) 9 i0 _ 1 16 Tryz.underlying48 hi hz0 hz1 hz2 rfl (by decide) (.slice ao nv cv) xs.length (strVs xs) rfl (hownw.out.alloc _) ⟨w'.heap.size, 0, none⟩ 1 1 [.string (bs (frontOf U))] rfl rfl (World.news_of_block (cs := #[.string (bs (frontOf U))]) (t := 9) (fr := (0, 0)) (heap_alloc_new w' _)) (by simp [Value.oneCell']) (by unfold maxLen; omega) (by omega) (by simp; omega) ?_))
          intro v' w1 hown1 hgrow _
          obtain ⟨g, cap, hv', hg⟩ := own_slice hown1 (by omega)
          have HOWN1 := Lib.hid hown1
          have HGROW := Lib.hid hgrow
          clear hown1 hgrow
          have nb : some B0 ≠ (Value.slice ao nv cv).ownBlock := fun e => by have := (hownw.out.lt B0 e.symm).1; omega
          have T2 : Hid (Turns (RoundT B0 l) w' w1) :=
            Lib.hid ((Turns.of_below ((Below.refl _ w').alloc (Nat.le_refl _) _)).trans (Turns.of_grown HGROW.out fun i o hi ho => .inr (.inr (by
              obtain ⟨h1, h2⟩ := own_turn (hownw.out.alloc _) hi ho
              exact ⟨by omega, h2⟩))))
          have hll2 := (Array.getElem?_eq_some_iff.1 hlw.out).1
          have hbox3 : Hid (Blk w1 B0 48 #[.slice ao nv cv]) := Lib.hid (Blk.grown (Blk.alloc hboxw.out _) HGROW.out nb)
          have hl3 : Hid (w1.heap[l]? = some (.loop (namLoop fn x B0 D A Bd .busy none))) :=
            Lib.hid ((HGROW.out.block l (by simp; omega) (fun e => by
              have ho : (w'.alloc (.cells #[.string (bs (frontOf U))] 9)).heap[l]? = some (.loop (namLoop fn x B0 D A Bd .busy none)) := (Below.heap_alloc w' _ l (by omega)).trans hlw.out
              obtain ⟨_, cs, fr, h⟩ := own_turn (hownw.out.alloc _) e.symm ho
              cases h)).trans ((Below.heap_alloc w' _ l (by omega)).trans hlw.out))
          have cb := hbox3.out.cell 0
          have fb := hbox3.out.frozen 0
          simp only [List.getElem?_toArray, List.getElem?_cons_zero] at cb
          rw [hv'] at HOWN1 ⊢
          gi_wp2
          have hl4 : (w1.setCell ⟨B0, 0, none⟩ (.slice (some ⟨g, 0, none⟩) (xs.length + 1) cap)).heap[l]? = some (.loop (namLoop fn x B0 D A Bd .busy none)) := (Below.heap_setCell _ _ _ _ (by simp; omega)).trans hl3.out
          have hll4 := (Array.getElem?_eq_some_iff.1 hl4).1
          refine ⟨_, _, run_endRound none hl4, HR.out _ ?_ ⟨.slice (some ⟨g, 0, none⟩) (xs.length + 1) cap, ?_, ?_, (fun h => by simp at h)⟩ (T3.out _ ?_ hl4)⟩
          · exact World.putObj_heap_same hll4
          · exact (World.putObj_heap_other (by omega)).trans (hbox3.out.set_ 0 _)
          · have h := ownsRow_setCell_below HOWN1.out (a := ⟨B0, 0, none⟩) (by first | (simp; omega) | simp) (.slice (some ⟨g, 0, none⟩) (xs.length + 1) cap)
            rw [strVs_snoc, List.length_append, List.length_singleton]
            refine h.kept (grown_putObj _ l _) (.inr fun e => ?_)
            obtain ⟨_, cs, fr, h'⟩ := own_turn h e hl4
            cases h'
          · exact TW.out.trans (T2.out.trans (Turns.of_grown (row := some B0) (grown_set (grown_refl _ _) _) fun i o hi _ => .inl (by injection hi with hi; exact hi.symm)))
        · go_simp
          refine ⟨trivial, (fun h => by cases h), (CallsIn.inRound l (callsIn_wide.2 (front_any U HWF.out (by omega) _ (HE2.out.drewN _)))).mono ?_⟩
          rintro e w' ⟨rfl, q, rfl⟩
          refine hK _ _ ?_; clear hK K
          refine wpAnyIn_ready (rs := [0, 4]) (by kernel_rfl) (by simp) (AllReadyIn.cons rfl (fun K hK => ?_) (AllReadyIn.cons rfl (fun K hK => ?_) AllReadyIn.nil))
          · go_simp
            refine hK _ _ ?_; clear hK K
            refine wpAnyIn_ready (rs := [4]) (by kernel_rfl) (by simp) (AllReadyIn.cons rfl (fun K hK => ?_) AllReadyIn.nil)
            go_simp
            refine hK _ _ ?_; clear hK K
            refine wpAnyIn_tail 5 rfl (by kernel_rfl) ?_
            simp only [List.drop_succ_cons, List.drop_zero]
            have hlz : W2.heap.size = (W2.drewN (1 + q)).heap.size := rfl
            have hlw : Hid ((W2.drewN (1 + q)).heap[l]? = some (.loop (namLoop fn x B0 D A Bd .busy none))) := Lib.hid hl2.out
            have hownw : Hid ((W2.drewN (1 + q)).ownsRow (B0 + 1) 9 1 (.slice ao nv cv) xs.length (strVs xs)) := Lib.hid hown2.out
            have hboxw : Hid (Blk (W2.drewN (1 + q)) B0 48 #[.slice ao nv cv]) := Lib.hid hbox2.out
            have TW : Hid (Turns (RoundT B0 l) W2 (W2.drewN (1 + q))) := Lib.hid ((Turns.refl _ _).drewN _)
            have hBw : B0 < (W2.drewN (1 + q)).heap.size := hB2
            rw [hlz]
            generalize W2.drewN (1 + q) = w' at *
            gi_wp2_with (gi_at_builtin; (refine wpListIn_append_own _ rfl _ _ 48 rfl (B0 + 1) 9 i0 _ 1 16 Tryz.underlying48 hi hz0 hz1 hz2 rfl (by decide) (.slice ao nv cv) xs.length (strVs xs) rfl (hownw.out.alloc _) ⟨w'.heap.size, 0, none⟩ 1 1 [.string (bs (frontOf U))] rfl rfl (World.news_of_block (cs := #[.string (bs (frontOf U))]) (t := 9) (fr := (0, 0)) (heap_alloc_new w' _)) (by simp [Value.oneCell']) (by unfold maxLen; omega) (by omega) (by simp; omega) ?_))
            intro v' w1 hown1 hgrow _
            obtain ⟨g, cap, hv', hg⟩ := own_slice hown1 (by omega)
            have HOWN1 := Lib.hid hown1
            have HGROW := Lib.hid hgrow
            clear hown1 hgrow
            have nb : some B0 ≠ (Value.slice ao nv cv).ownBlock := fun e => by have := (hownw.out.lt B0 e.symm).1; omega
            have T2 : Hid (Turns (RoundT B0 l) w' w1) :=
              Lib.hid ((Turns.of_below ((Below.refl _ w').alloc (Nat.le_refl _) _)).trans (Turns.of_grown HGROW.out fun i o hi ho => .inr (.inr (by
                obtain ⟨h1, h2⟩ := own_turn (hownw.out.alloc _) hi ho
                exact ⟨by omega, h2⟩))))
            have hll2 := (Array.getElem?_eq_some_iff.1 hlw.out).1
            have hbox3 : Hid (Blk w1 B0 48 #[.slice ao nv cv]) := Lib.hid (Blk.grown (Blk.alloc hboxw.out _) HGROW.out nb)
            have hl3 : Hid (w1.heap[l]? = some (.loop (namLoop fn x B0 D A Bd .busy none))) :=
              Lib.hid ((HGROW.out.block l (by simp; omega) (fun e => by
                have ho : (w'.alloc (.cells #[.string (bs (frontOf U))] 9)).heap[l]? = some (.loop (namLoop fn x B0 D A Bd .busy none)) := (Below.heap_alloc w' _ l (by omega)).trans hlw.out
                obtain ⟨_, cs, fr, h⟩ := own_turn (hownw.out.alloc _) e.symm ho
                cases h)).trans ((Below.heap_alloc w' _ l (by omega)).trans hlw.out))
            have cb := hbox3.out.cell 0
            have fb := hbox3.out.frozen 0
            simp only [List.getElem?_toArray, List.getElem?_cons_zero] at cb
            rw [hv'] at HOWN1 ⊢
            gi_wp2
            have hl4 : (w1.setCell ⟨B0, 0, none⟩ (.slice (some ⟨g, 0, none⟩) (xs.length + 1) cap)).heap[l]? = some (.loop (namLoop fn x B0 D A Bd .busy none)) := (Below.heap_setCell _ _ _ _ (by simp; omega)).trans hl3.out
            have hll4 := (Array.getElem?_eq_some_iff.1 hl4).1
            refine ⟨_, _, run_endRound none hl4, HR.out _ ?_ ⟨.slice (some ⟨g, 0, none⟩) (xs.length + 1) cap, ?_, ?_, (fun h => by simp at h)⟩ (T3.out _ ?_ hl4)⟩
            · exact World.putObj_heap_same hll4
            · exact (World.putObj_heap_other (by omega)).trans (hbox3.out.set_ 0 _)
            · have h := ownsRow_setCell_below HOWN1.out (a := ⟨B0, 0, none⟩) (by first | (simp; omega) | simp) (.slice (some ⟨g, 0, none⟩) (xs.length + 1) cap)
              rw [strVs_snoc, List.length_append, List.length_singleton]
              refine h.kept (grown_putObj _ l _) (.inr fun e => ?_)
              obtain ⟨_, cs, fr, h'⟩ := own_turn h e hl4
              cases h'
            · exact TW.out.trans (T2.out.trans (Turns.of_grown (row := some B0) (grown_set (grown_refl _ _) _) fun i o hi _ => .inl (by injection hi with hi; exact hi.symm)))
          · go_simp
            refine hK _ _ ?_; clear hK K
            have cz : ((W2.drewN (1 + q)).alloc (.cells #[.string (bs (frontOf U))] 9)).cell? ⟨B0, 0, none⟩ = some (.slice ao nv cv) := ((hbox2.out.drewN _).alloc _).cell 0
            refine wpAnyIn_ready (rs := [0]) (by kernel_rfl) (by simp) (AllReadyIn.cons rfl (fun K hK => ?_) AllReadyIn.nil)
            go_simp
            refine hK _ _ ?_; clear hK K
            clear cz
            refine wpAnyIn_tail 5 rfl (by kernel_rfl) ?_
            simp only [List.drop_succ_cons, List.drop_zero]
            have hlz : W2.heap.size = (W2.drewN (1 + q)).heap.size := rfl
            have hlw : Hid ((W2.drewN (1 + q)).heap[l]? = some (.loop (namLoop fn x B0 D A Bd .busy none))) := Lib.hid hl2.out
            have hownw : Hid ((W2.drewN (1 + q)).ownsRow (B0 + 1) 9 1 (.slice ao nv cv) xs.length (strVs xs)) := Lib.hid hown2.out
            have hboxw : Hid (Blk (W2.drewN (1 + q)) B0 48 #[.slice ao nv cv]) := Lib.hid hbox2.out
            have TW : Hid (Turns (RoundT B0 l) W2 (W2.drewN (1 + q))) := Lib.hid ((Turns.refl _ _).drewN _)
            have hBw : B0 < (W2.drewN (1 + q)).heap.size := hB2
            rw [hlz]
            generalize W2.drewN (1 + q) = w' at *
            gi_wp2_with (gi_at_builtin; (refine wpListIn_append_own _ rfl _ _ 48 rfl (B0 + 1) 9 i0 _ 1 16 Tryz.underlying48 hi hz0 hz1 hz2 rfl (by decide) (.slice ao nv cv) xs.length (strVs xs) rfl (hownw.out.alloc _) ⟨w'.heap.size, 0, none⟩ 1 1 [.string (bs (frontOf U))] rfl rfl (World.news_of_block (cs := #[.string (bs (frontOf U))]) (t := 9) (fr := (0, 0)) (heap_alloc_new w' _)) (by simp [Value.oneCell']) (by unfold maxLen; omega) (by omega) (by simp; omega) ?_))
            intro v' w1 hown1 hgrow _
            obtain ⟨g, cap, hv', hg⟩ := own_slice hown1 (by omega)
            have HOWN1 := Lib.hid hown1
            have HGROW := Lib.hid hgrow
            clear hown1 hgrow
            have nb : some B0 ≠ (Value.slice ao nv cv).ownBlock := fun e => by have := (hownw.out.lt B0 e.symm).1; omega
            have T2 : Hid (Turns (RoundT B0 l) w' w1) :=
              Lib.hid ((Turns.of_below ((Below.refl _ w').alloc (Nat.le_refl _) _)).trans (Turns.of_grown HGROW.out fun i o hi ho => .inr (.inr (by
                obtain ⟨h1, h2⟩ := own_turn (hownw.out.alloc _) hi ho
                exact ⟨by omega, h2⟩))))
            have hll2 := (Array.getElem?_eq_some_iff.1 hlw.out).1
            have hbox3 : Hid (Blk w1 B0 48 #[.slice ao nv cv]) := Lib.hid (Blk.grown (Blk.alloc hboxw.out _) HGROW.out nb)
            have hl3 : Hid (w1.heap[l]? = some (.loop (namLoop fn x B0 D A Bd .busy none))) :=
              Lib.hid ((HGROW.out.block l (by simp; omega) (fun e => by
                have ho : (w'.alloc (.cells #[.string (bs (frontOf U))] 9)).heap[l]? = some (.loop (namLoop fn x B0 D A Bd .busy none)) := (Below.heap_alloc w' _ l (by omega)).trans hlw.out
                obtain ⟨_, cs, fr, h⟩ := own_turn (hownw.out.alloc _) e.symm ho
                cases h)).trans ((Below.heap_alloc w' _ l (by omega)).trans hlw.out))
            have cb := hbox3.out.cell 0
            have fb := hbox3.out.frozen 0
            simp only [List.getElem?_toArray, List.getElem?_cons_zero] at cb
            rw [hv'] at HOWN1 ⊢
            gi_wp2
            have hl4 : (w1.setCell ⟨B0, 0, none⟩ (.slice (some ⟨g, 0, none⟩) (xs.length + 1) cap)).heap[l]? = some (.loop (namLoop fn x B0 D A Bd .busy none)) := (Below.heap_setCell _ _ _ _ (by simp; omega)).trans hl3.out
            have hll4 := (Array.getElem?_eq_some_iff.1 hl4).1
            refine ⟨_, _, run_endRound none hl4, HR.out _ ?_ ⟨.slice (some ⟨g, 0, none⟩) (xs.length + 1) cap, ?_, ?_, (fun h => by simp at h)⟩ (T3.out _ ?_ hl4)⟩
            · exact World.putObj_heap_same hll4
            · exact (World.putObj_heap_other (by omega)).trans (hbox3.out.set_ 0 _)
            · have h := ownsRow_setCell_below HOWN1.out (a := ⟨B0, 0, none⟩) (by first | (simp; omega) | simp) (.slice (some ⟨g, 0, none⟩) (xs.length + 1) cap)
              rw [strVs_snoc, List.length_append, List.length_singleton]
              refine h.kept (grown_putObj _ l _) (.inr fun e => ?_)
              obtain ⟨_, cs, fr, h'⟩ := own_turn h e hl4
              cases h'
            · exact TW.out.trans (T2.out.trans (Turns.of_grown (row := some B0) (grown_set (grown_refl _ _) _) fun i o hi _ => .inl (by injection hi with hi; exact hi.symm)))
  · rw [if_neg hin] at HR
    have hk : (U.kind == 7) = false := by simp [hin]
    clear hin
    gi_wp2
    have hll2 := (Array.getElem?_eq_some_iff.1 hl2.out).1
    refine ⟨_, _, run_endRound none hl2.out, HR.out _ (World.putObj_heap_same hll2) ⟨.slice ao nv cv, (World.putObj_heap_other (by omega)).trans hbox2.out, ?_, hnil⟩ (T3.out _ (Turns.refl _ _) hl2.out)⟩
    refine hown2.out.kept (grown_putObj _ l _) (.inr fun e => ?_)
    obtain ⟨_, cs, fr, h'⟩ := own_turn hown2.out e hl2.out
    cases h'
end Go.Proofs.YthcoppfdffhjfaaGreatDoor
