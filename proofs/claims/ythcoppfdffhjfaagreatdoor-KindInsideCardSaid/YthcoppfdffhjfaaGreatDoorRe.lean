/- A region that draws its order, whose last operations may call a loop's body: walked once, in the text's order. -/
import Derived.Test.YthcoppfdffhjfaaGreatDoorRd
import Derived.StillTail
import Derived.OwnWalkIn
import Derived.TacticsInMore
import Derived.RangeFuncLeaves
import Derived.StillTailTactics
import Derived.Laws.EntriesVeiled
import Derived.OrdersIn
import Derived.TacticsIn
import Derived.RangeFuncRecord
namespace Go.Proofs.YthcoppfdffhjfaaGreatDoor
open Go Go.RowKit

section
variable {P : Program} {ops : Array Oper} {md : Region.Mode} {w : World} {n : Nat}

theorem wpInWide_of_still {o : Oper} {a : Act} {K : Act → Prop} {K' : Act → World → Prop} {Q' : Exit → Act → World → Prop} (h : ∀ a, K a → K' a w) (hh : o.still P a w K) : o.wpIn Fence.wide n P a w K' Q' := by
  refine ⟨fun _ _ => trivial, ?_⟩
  show o.uponIn Fence.wide n P a K' Q' ((o.semAt none a.eval).run P w)
  rw [Oper.semAt_none]
  unfold Oper.still at hh
  generalize (execOp a.eval o).run P w = r at *
  cases r with
  | ok x w' =>
    cases x <;> simp only [Oper.stillUpon] at hh <;> simp only [Oper.uponIn]
    case value u => obtain ⟨rfl, hk⟩ := hh; exact h _ hk
    case skip => obtain ⟨rfl, hk⟩ := hh; exact h _ hk
    case enter f args =>
      obtain ⟨rfl, v, hc, hk⟩ := hh
      exact ⟨(fun hd => (by cases hd)), callsIn_wide.2 (hc.mono fun e w'' ⟨he, hw⟩ => by subst he; subst hw; exact h _ hk)⟩
  | halt x w' => simp only [Oper.stillUpon] at hh

theorem wpOpInWide_of_stOp {i : Nat} {a : Act} {K : Act → Prop} {K' : Act → World → Prop} {Q' : Exit → Act → World → Prop} (h : ∀ a, K a → K' a w) (hh : stOp P ops w i K a) : wpOpIn Fence.wide n P ops Q' i K' a w := by
  unfold stOp at hh
  unfold wpOpIn
  split
  · rename_i ho; simp only [ho] at hh; exact h _ hh
  · rename_i o ho
    simp only [ho] at hh
    split
    · rename_i hw; simp only [hw, if_true] at hh; exact wpInWide_of_still h hh
    · rename_i hw; simp only [hw] at hh; exact ⟨fun _ _ => trivial, h _ hh⟩

theorem wpAnyInWide_of_head {m g : Nat} {L : Array Bool → Act → Prop} {Q' : Exit → Act → World → Prop} (hL : ∀ listed a, L listed a → wpAnyIn Fence.wide n P md ops Q' g listed a w) :
    ∀ (f : Nat) (listed : Array Bool) (a : Act), wpAnyL P md ops w m L f listed a → wpAnyIn Fence.wide n P md ops Q' (f + g) listed a w
  | 0, listed, a, h => by rw [Nat.zero_add]; exact hL _ _ h
  | f + 1, listed, a, h => by
    rw [show f + 1 + g = (f + g) + 1 by omega]
    exact ⟨fun h0 => absurd h0 h.1, fun i hi => wpOpInWide_of_stOp (fun a' h' => wpAnyInWide_of_head hL f _ a' h') (h.2 i hi).2⟩

theorem wpAnyInWide_of_seq {Q' : Exit → Act → World → Prop} : ∀ (l : List Oper) (k : Nat) (listed : Array Bool) (a : Act) (w : World), (∀ j, l[j]? = ops[k + j]?) →
    Region.seqB md ops l.length k listed = true → wpListIn Fence.wide n P ops Q' l a w → wpAnyIn Fence.wide n P md ops Q' l.length listed a w
  | [], _, _, _, _, _, hB, h => ⟨by simpa [Region.seqB] using hB, h⟩
  | o :: l, k, listed, a, w, hl, hB, h => by
    have h0 : ops[k]? = some o := by simpa using (hl 0).symm
    simp only [List.length_cons, Region.seqB, Bool.and_eq_true, decide_eq_true_eq] at hB
    refine ⟨fun h1 => (by rw [hB.1] at h1; cases h1), fun i hi => ?_⟩
    rw [hB.1] at hi
    have hik : i = k := by simpa using hi
    subst hik
    have hw : wpOpIn Fence.wide n P ops Q' i (wpListIn Fence.wide n P ops Q' l) a w := by unfold wpOpIn; simp only [h0]; exact h
    exact wpOpIn_mono (fun a' w' h' => wpAnyInWide_of_seq l (i + 1) _ a' w' (fun j => by have := hl (j + 1); simpa [Nat.add_assoc, Nat.add_comm 1 j] using this) hB.2 h') hw

/-- A region that draws, whose first N operations leave the world alone, and whose others follow one after the other. -/
theorem wp_region_tail_wide {id : Nat} {Q : Exit → Act → World → Prop} {a : Act} {w : World} {l : List Oper} (n N : Nat) (hm : P.follows .mixedOrders = true) (hB : Region.lexTailB .any l.toArray N = true)
    (h : wpStill P l.toArray { w with drawn := w.drawn + 1 } (fun a' => wpListIn Fence.wide n P l.toArray Q (l.drop N) a' { w with drawn := w.drawn + 1 }) (l.take N) a) : (Code.region id l.toArray true).wp P Q a w := by
  simp only [Region.lexTailB, Bool.and_eq_true, decide_eq_true_eq] at hB
  obtain ⟨⟨⟨⟨hsel, hn⟩, hs⟩, hc⟩, hlex⟩ := hB
  have htl : (l.take N).length = N := by simp at hn ⊢; omega
  have hdl : (l.drop N).length = l.toArray.size - N := by simp
  have inv0 : HeadInv .any l.toArray N (Array.replicate l.toArray.size false) :=
    ⟨by simp, fun j oj _ hl => (by rw [getD_replicate_false] at hl; cases hl), fun t _ ht => getD_in (by simpa using ht) (getD_replicate_false _ _)⟩
  have H := wpAnyL_lex (md := .any) (g := l.toArray.size - N) hsel hs hc hn (l.take N) 0 _ a (fun j hj => by
    have hj' : j < N := by rw [htl] at hj; exact hj
    simp [hj']) (by simpa using htl) inv0 (by rw [htl]; exact hlex) h
  refine (wpIn_wide (n := n)).1 (wpIn_region_any hm ?_)
  have := wpAnyInWide_of_head (n := n) (Q' := Q) (g := l.toArray.size - N) (fun listed a' hL => by
    have := wpAnyInWide_of_seq (n := n) (md := .any) (Q' := Q) (l.drop N) N listed a' { w with drawn := w.drawn + 1 } (fun j => by simp [List.getElem?_drop]) (by rw [hdl]; exact hL.1) hL.2
    rwa [hdl] at this) _ _ _ H
  rw [htl, show N + (l.toArray.size - N) = l.toArray.size by omega] at this
  exact this
end

/-- A call of a loop's body, out of the loop's record and the round's contract. -/
theorem wpListIn_yield {P : Program} {ops : Array Oper} {rest : List Oper} {o : Oper} {a : Act} {w : World} {Q : Exit → Act → World → Prop} {n : Nat} (hgd : o.guard = none) (f x : Operand) (ty : Array TypeId)
    (ho : o.op = .call { callee := .value f, args := #[x], argTypes := ty }) (l : Nat) (hf : a.eval f = .func (.yield l) #[] #[]) (v : Value) (hx : a.eval x = v) (r : Loop) (hr : w.heap[l]? = some (.loop r)) (p : Tmp) (hp : r.params = #[p])
    (h : RoundIn Fence.wide (n - 1) P l r.fn (r.tmps.setIfInBounds p v) r.assign r.body w fun
      | .returned u, w'' => wpListIn Fence.wide n P ops Q rest (a.put o.dst u) w''
      | .panicked chain, w'' => Q (.panic chain) a w''
      | .outgrown, _ => LetsOut Q) : wpListIn Fence.wide n P ops Q (o :: rest) a w := by
  have hy := run_yield (P := P) (args := #[v]) hr (by simp [hp])
  have hrun : (execOp a.eval o).run P w = .ok (.round l r.fn (r.tmps.setIfInBounds p v) r.assign r.body) w := by
    unfold execOp
    simp [ho, resolve, invoke, hf, hx, Deferred.ofValue, hy, hp]
  refine wpListIn_plain hgd fun K hK => ⟨fun _ _ => trivial, ?_⟩
  show o.uponIn Fence.wide n P a K Q ((o.semAt none a.eval).run P w)
  rw [Oper.semAt_none, hrun, Oper.uponIn_round]
  refine ⟨(fun hd => (by cases hd)), RoundIn.mono h ?_⟩
  intro e w' he
  cases e with
  | returned u => exact hK _ _ he
  | panicked chain => exact he
  | outgrown => exact he

theorem wp_region_list_wide {P : Program} {id n : Nat} {l : List Oper} {Q : Exit → Act → World → Prop} {a : Act} {w : World} (h : wpListIn Fence.wide n P l.toArray Q l a w) : (Code.region id l.toArray false).wp P Q a w :=
  (wpIn_wide (n := n)).1 (wpIn_region_lit h)

/-- The types of a list, and all that is inside them, in the order in which they begin. -/
def allL (L : List Ty) : List Ty := L.flatMap Ty.all
theorem Fs.all_list : ∀ F : Fs, F.all = allL (F.list.map Prod.snd)
  | .one _ t => by simp [Fs.all, Fs.list, allL]
  | .more _ t fs => by simp [Fs.all, Fs.list, allL, Fs.all_list fs]
theorem all_kids (T : Ty) : T.all = T :: allL (kidsOf T) := by
  cases T with
  | rcd o F => simp only [Ty.all, kidsOf]; rw [Fs.all_list]
  | _ => simp [Ty.all, kidsOf, allL]
mutual
theorem Ty.all_len : ∀ T : Ty, T.all.length ≤ T.pr.length + 1
  | .int => by simp [Ty.all]
  | .bool => by simp [Ty.all]
  | .null => by simp [Ty.all]
  | .par => by simp [Ty.all]
  | .nam _ => by simp [Ty.all]
  | .arr t => by have := Ty.all_len t; simp [Ty.all, Ty.pr]; omega
  | .app n t => by have := Ty.all_len t; simp [Ty.all, Ty.pr]; omega
  | .rcd o fs => by have := Fs.all_len fs; simp [Ty.all, Ty.pr]; omega
theorem Fs.all_len : ∀ F : Fs, F.all.length ≤ F.pr.length
  | .one n t => by have := Ty.all_len t; simp [Fs.all, Fs.pr]; omega
  | .more n t fs => by have := Ty.all_len t; have := Fs.all_len fs; simp [Fs.all, Fs.pr]; omega
end
theorem allL_cons (T : Ty) (L : List Ty) : allL (T :: L) = T :: allL (kidsOf T ++ L) := by
  show (T :: L).flatMap Ty.all = _
  rw [List.flatMap_cons, all_kids, allL, allL, List.flatMap_append]
  rfl
theorem allL_len (L : List Ty) : L.length ≤ (allL L).length := by
  induction L with
  | nil => simp [allL]
  | cons T L ih =>
    rw [show allL (T :: L) = T.all ++ allL L by simp [allL], all_kids]
    simp only [List.length_cons, List.length_append]
    omega

/-- What a loop's body keeps and does, as the iterator over a type's insides sees it: T says what a round may turn, J what holds when some types have come. -/
structure Body (l B : Nat) (T : Nat → Obj → Prop) (A : Ty) (J : List Ty → World → Prop) : Prop where
  own : ∀ pre W W', J pre W → Below W.heap.size W W' → J pre W'
  data : ∀ i o, T i o → B ≤ i
  rows : ∀ i cs fr, T i (.cells cs 58 fr) → False
  round : ∀ pre U us W n, J pre W → U ∈ A.all → pre.length < A.all.length → TyV W (fun g => g < B) U us → ∃ r p, W.heap[l]? = some (.loop r) ∧ r.params = #[p] ∧
    RoundIn Fence.wide n Tryz.prog l r.fn (r.tmps.setIfInBounds p (.agg us.toArray)) r.assign r.body W fun e W' => e = .returned (.bool true) ∧ J (pre ++ [U]) W' ∧ Turns T W W'

theorem Turns.tyV {T : Nat → Obj → Prop} {W W' : World} {B : Nat} {U : Ty} {us : List Value} (h : Turns T W W') (hT : ∀ i o, T i o → B ≤ i) (ht : TyV W (fun g => g < B) U us) : TyV W' (fun g => g < B) U us :=
  ht.keep h.size fun g hg hl => by
    rw [Array.getElem?_eq_getElem hl]
    exact h.same g _ (Array.getElem?_eq_getElem hl) fun k => by have := hT _ _ k; omega
theorem own_of_block {W : World} {base g t : Nat} {vs : List Value} (hb : base ≤ g) (h : Blk W g t vs.toArray) : W.ownsRow base t vs.length (.slice (some ⟨g, 0, none⟩) 1 1) 1 vs :=
  ⟨by simp, .inr ⟨g, 1, _, rfl, hb, h, Nat.le_refl _, by decide, by simp, by simp⟩⟩

theorem slice_one (g n cap : Nat) (_h : n + 1 ≤ cap) (w : World) : (Instr.slice 56 (.slice (some ⟨g, 0, none⟩) (n + 1) cap) (some (.int .i64 1)) none none).run Tryz.prog w = .ok (.slice (some ⟨g, if cap = 1 then 0 else 4, none⟩) n (cap - 1)) w := by
  have t56 : Tryz.prog.underlying 56 = some (.slice 58) := by kernel_rfl
  have z58 := Tryz.sizeOf58
  simp [Instr.slice, run_underlying t56, Instr.sliceBounds, Instr.sliceBound, asIntOf, go_sem]
  rw [if_pos (by omega)]
  split <;> rfl
theorem row_tail {w : World} {g cap : Nat} {vs : List Value} {kss : List (List Value)} (h : TyRow w g 0 (vs :: kss)) (hc : kss.length + 1 ≤ cap) : TyRow w g (if cap = 1 then 0 else 4) kss := by
  intro i us j v hi hj
  have hl := (List.getElem?_eq_some_iff.1 hi).1
  rw [if_neg (by omega)]
  have := h (i + 1) us j v (by simpa using hi) hj
  rwa [show 0 + (i + 1) * 4 + j = 4 + i * 4 + j by omega] at this
theorem own_kids2 {w : World} {base g cap : Nat} {n : Nat} {kss : List (List Value)} (h : w.ownsRow base 58 4 (.slice (some ⟨g, 0, none⟩) n cap) kss.length kss.flatten) (h4 : ∀ vs ∈ kss, vs.length = 4) (hn : 0 < kss.length) : base ≤ g ∧ g < w.heap.size ∧ TyRow w g 0 kss ∧ kss.length ≤ cap := by
  obtain ⟨g', cap', e, h1, h2, h3⟩ := own_kids h h4 hn
  rcases h with ⟨_, ⟨h0, _⟩ | ⟨g2, cap2, cur, hv, _, _, hc, _⟩⟩
  · cases h0
  · injection e with e1 e2 e3
    injection hv with f1 f2 f3
    injection e1 with e1
    injection e1 with e1
    subst e1
    exact ⟨h1, h2, h3, by omega⟩

set_option maxRecDepth 100000 in
set_option maxHeartbeats 12800000 in
theorem inside_any (l B : Nat) (T : Nat → Obj → Prop) (A : Ty) (J : List Ty → World → Prop) (vs : List Value) (W0 : World) (hb : Body l B T A J) (hA : TyV W0 (fun g => g < B) A vs) (_hBW : B ≤ W0.heap.size) (hln : A.pr.length ≤ 900) (h0 : J [] W0) :
    Calls Tryz.prog 67 #[.agg vs.toArray, .func (.yield l) #[] #[]] W0 fun e W' => e = .returned (.tuple #[]) ∧ J A.all W' ∧ Turns T W0 W' := by
  obtain ⟨an, nn, cn, ak, nk, ck, rfl⟩ := hA.four
  have HB := Lib.hid hb
  have HA := Lib.hid hA
  have H0 := Lib.hid h0
  clear hb hA h0
  have hal := A.all_len
  go_enter Tryz.func67, Tryz.ntmps67
  go_wp2
  go_loopg [4] (A.all.length) (fun n v4 wr => ∃ (kss : List (List Value)) (L pre : List Ty), wr.ownsRow W0.heap.size 58 4 v4 kss.length kss.flatten ∧ kss.length = L.length ∧ (∀ (i : Nat) (U : Ty) (us : List Value), L[i]? = some U → kss[i]? = some us → TyV wr (fun g => g < B) U us) ∧ pre ++ allL L = A.all ∧ n = (allL L).length ∧ J pre wr ∧ Turns T W0 wr)
  case atStart =>
    generalize hvs : ([.string (bs A.pr), .int .u8 A.kind, .slice an nn cn, .slice ak nk ck] : List Value) = vs at *
    have hbl : Below W0.heap.size W0 ((W0.alloc (.cells vs.toArray 58)).alloc (.cells vs.toArray 58)) := ((Below.refl _ _).alloc (Nat.le_refl _) _).alloc (by simp) _
    refine ⟨[vs], [A], [], ?_, rfl, ?_, by simp [allL], by simp [allL], HB.out.own _ _ _ H0.out (by subst hvs; exact hbl), Turns.of_below (by subst hvs; exact hbl)⟩
    · have hk := Blk.new (W0.alloc (.cells vs.toArray 58)) 58 vs.toArray
      rw [World.size_alloc] at hk
      have := own_of_block (base := W0.heap.size) (by omega) hk
      subst hvs
      exact this
    · intro i U us hU hus
      cases i with
      | zero =>
        simp at hU hus
        subst hU hus
        exact HA.out.keep hbl.size fun g _ hl => (by subst hvs; exact hbl.block g hl)
      | succ i => simp at hU
  case round =>
    obtain ⟨kss, L, pre, hown, hlen, hty, hpre, rfl, hJ, htn⟩ := hrel
    have HJ := Lib.hid hJ
    have HTN := Lib.hid htn
    have HTY := Lib.hid hty
    have HOWN := Lib.hid hown
    have HPRE := Lib.hid hpre
    clear hJ htn hty hown hpre
    match kss, L, hlen with
    | [], [], _ =>
      obtain ⟨ao, cap, rfl⟩ := own_len HOWN.out
      go_wp2
      go_end0
      refine ⟨rfl, ?_, HTN.out⟩
      have := HPRE.out
      simp [allL] at this
      rw [← this]
      exact HJ.out
    | us :: kss, U :: L, hlen =>
      have f4 : ∀ vs ∈ us :: kss, vs.length = 4 := fun vs hvs => by
        obtain ⟨i, hi⟩ := List.mem_iff_getElem?.1 hvs
        have hl : i < (U :: L).length := by rw [← hlen]; exact (List.getElem?_eq_some_iff.1 hi).1
        exact (HTY.out i _ vs (List.getElem?_eq_getElem hl) hi).len
      obtain ⟨g, cap, rfl, hg, hgl, hrow⟩ := own_kids HOWN.out f4 (by simp)
      have hU := HTY.out 0 U us rfl rfl
      obtain ⟨a1, n1, c1, a2, n2, c2, rfl⟩ := hU.four
      obtain ⟨q0, q1, q2, q3⟩ := hrow.four (i := 0) rfl
      rw [Nat.zero_mul] at q0 q1 q2 q3
      have hlc : (([.string (bs U.pr), .int .u8 U.kind, .slice a1 n1 c1, .slice a2 n2 c2] : List Value) :: kss).length = kss.length + 1 := rfl
      rw [hlc]
      clear hlc
      have HROW := Lib.hid hrow
      have HU := Lib.hid hU
      clear f4 hrow hU
      go_upto_region 4 with (fail)
      have hal1 : Below wr.heap.size wr (wr.alloc (.cells #[.string (bs U.pr), .int .u8 U.kind, .slice a1 n1 c1, .slice a2 n2 c2] 58)) := (Below.refl _ _).alloc (Nat.le_refl _) _
      have hk1 := Blk.new wr 58 #[.string (bs U.pr), .int .u8 U.kind, .slice a1 n1 c1, .slice a2 n2 c2]
      have hJ1 := HB.out.own _ _ _ HJ.out hal1
      have hT1 := HTN.out.trans (Turns.of_below hal1)
      have ht1 := hT1.tyV HB.out.data HA.out
      have hu1 := HU.out.keep hal1.size fun g _ hl => hal1.block g hl
      have hty1 : ∀ (i : Nat) (U' : Ty) (us' : List Value), (U :: L)[i]? = some U' → (([.string (bs U.pr), .int .u8 U.kind, .slice a1 n1 c1, .slice a2 n2 c2] : List Value) :: kss)[i]? = some us' → TyV (wr.alloc (.cells #[.string (bs U.pr), .int .u8 U.kind, .slice a1 n1 c1, .slice a2 n2 c2] 58)) (fun g => g < B) U' us' := fun i U' us' h1 h2 => (HTY.out i U' us' h1 h2).keep hal1.size fun g _ hl => hal1.block g hl
      have hown1 := HOWN.out.alloc (.cells #[.string (bs U.pr), .int .u8 U.kind, .slice a1 n1 c1, .slice a2 n2 c2] 58)
      have hg5 : W0.heap.size ≤ wr.heap.size := HTN.out.size
      generalize wr.alloc (.cells #[.string (bs U.pr), .int .u8 U.kind, .slice a1 n1 c1, .slice a2 n2 c2] 58) = w1 at *
      generalize wr.heap.size = g5 at *
      have x0 := hk1.cell 0
      have x1 := hk1.cell 1
      have x2 := hk1.cell 2
      have x3 := hk1.cell 3
      simp only [List.getElem?_toArray, List.getElem?_cons_zero, List.getElem?_cons_succ] at x0 x1 x2 x3
      have HK1 := Lib.hid hk1
      have HJ1 := Lib.hid hJ1
      have HT1 := Lib.hid hT1
      have HU1 := Lib.hid hu1
      have HTY1 := Lib.hid hty1
      have HOWN1 := Lib.hid hown1
      have hmem : U ∈ A.all := by rw [← HPRE.out, allL_cons]; simp
      have hpl : pre.length < A.all.length := by rw [← HPRE.out, allL_cons]; simp
      obtain ⟨r, p, hr1, hr2, hr3⟩ := HB.out.round pre U _ w1 0 hJ1 hmem hpl hu1
      have HR := Lib.hid hr3
      clear hk1 hJ1 hT1 hu1 hty1 hown1 hr3 ht1 HJ HTN HTY HOWN HROW HU q0 q1 q2 q3
      refine wp_region_list_wide (n := 0) ?_
      gi_wp2_with (refine wpListIn_yield rfl _ _ _ rfl l rfl _ rfl r hr1 p hr2 ?_)
      refine RoundIn.mono HR.out ?_
      rintro e W2 ⟨rfl, hJ2, hT2⟩
      have hk2 := hT2.blk HK1.out (HB.out.rows _ _ _)
      have hT3 := HT1.out.trans hT2
      have hown2 := hT2.own HOWN1.out (fun _ _ _ h => HB.out.rows _ _ _ h)
      have hty2 : ∀ (i : Nat) (U' : Ty) (us' : List Value), (U :: L)[i]? = some U' → (([.string (bs U.pr), .int .u8 U.kind, .slice a1 n1 c1, .slice a2 n2 c2] : List Value) :: kss)[i]? = some us' → TyV W2 (fun g => g < B) U' us' := fun i U' us' h1 h2 => hT2.tyV HB.out.data (HTY1.out i U' us' h1 h2)
      have HK2 := Lib.hid hk2
      have HJ2 := Lib.hid hJ2
      have HT3 := Lib.hid hT3
      have HOWN2 := Lib.hid hown2
      have HTY2 := Lib.hid hty2
      clear hk2 hJ2 hT2 hT3 hown2 hty2 HR HJ1 HT1 HU1 HTY1 HOWN1 HK1 hr1 hr2 x0 x1 x2 x3
      gi_wp2
      go_upto_region 5 with (fail)
      have x3 := HK2.out.cell 3
      simp only [List.getElem?_toArray, List.getElem?_cons_zero, List.getElem?_cons_succ] at x3
      have f4 : ∀ vs ∈ ([.string (bs U.pr), .int .u8 U.kind, .slice a1 n1 c1, .slice a2 n2 c2] : List Value) :: kss, Four vs := fun vs hvs => by
        obtain ⟨i, hi⟩ := List.mem_iff_getElem?.1 hvs
        have hl : i < (U :: L).length := by rw [← hlen]; exact (List.getElem?_eq_some_iff.1 hi).1
        exact (HTY2.out i _ vs (List.getElem?_eq_getElem hl) hi).Four
      obtain ⟨hg2, hgl2, hrow2, hcap2⟩ := own_kids2 HOWN2.out (fun vs hvs => (f4 vs hvs).len) (by simp)
      have hcap3 : kss.length + 1 ≤ cap := by simpa using hcap2
      have hsl := slice_one g kss.length cap hcap3
      have htl := row_tail hrow2 hcap3
      generalize (if cap = 1 then 0 else 4) = off at *
      have HTL := Lib.hid htl
      have F4 := Lib.hid fun vs hvs => f4 vs (List.mem_cons_of_mem _ hvs)
      clear hrow2 htl f4 hcap2
      refine wp_region_tail_wide 0 4 (by kernel_rfl) (by kernel_rfl) ?_
      simp only [List.take_succ_cons, List.take_zero, List.drop_succ_cons, List.drop_zero]
      (repeat still_step)
      refine wpStill_nil ?_
      obtain ⟨W3, hW3⟩ : ∃ W3, W3 = W2.drewN 1 := ⟨_, rfl⟩
      change wpListIn Fence.wide 0 Tryz.prog _ _ _ _ (W2.drewN 1)
      rw [← hW3]
      have hb3 : Below W2.heap.size W2 W3 := by subst hW3; exact ⟨rfl, rfl, rfl, Nat.le_refl _, fun _ _ => rfl⟩
      have hs3 : W3.heap.size = W2.heap.size := by subst hW3; rfl
      obtain ⟨vn, vk, ks1, hvv, _, hK, hkl, hkk⟩ := (HTY2.out 0 U _ rfl rfl).inv
      simp only [List.cons.injEq, and_true, true_and] at hvv
      obtain ⟨rfl, rfl⟩ := hvv
      have hb4 : Below W2.heap.size W2 (W3.alloc (.cells #[.slice a2 n2 c2, .slice (some ⟨g, off, none⟩) kss.length (cap - 1)] 56)) := hb3.alloc (by omega) _
      have hk4 := Blk.new W3 56 #[.slice a2 n2 c2, .slice (some ⟨g, off, none⟩) kss.length (cap - 1)]
      have hs4 : SrcV (W3.alloc (.cells #[.slice a2 n2 c2, .slice (some ⟨g, off, none⟩) kss.length (cap - 1)] 56)) (.slice a2 n2 c2) ks1 := by
        rcases hK with h | ⟨gk, ck, h1, h2, h3, h4, h5⟩
        · exact .inl h
        · exact .inr ⟨gk, 0, ck, h1, Nat.lt_of_lt_of_le h3 hb4.size, h4.keep (hb4.block gk h3)⟩
      have hs5 : SrcV (W3.alloc (.cells #[.slice a2 n2 c2, .slice (some ⟨g, off, none⟩) kss.length (cap - 1)] 56)) (.slice (some ⟨g, off, none⟩) kss.length (cap - 1)) kss := .inr ⟨g, off, cap - 1, rfl, Nat.lt_of_lt_of_le hgl2 hb4.size, HTL.out.keep (hb4.block g hgl2)⟩
      have hf1 : ∀ vs ∈ ks1, Four vs := fun vs hvs => by
        obtain ⟨i, hi⟩ := List.mem_iff_getElem?.1 hvs
        have hl : i < (kidsOf U).length := by rw [← hkl]; exact (List.getElem?_eq_some_iff.1 hi).1
        exact (hkk i _ vs (List.getElem?_eq_getElem hl) hi).Four
      have hlen2 : kss.length = L.length := by simpa using hlen
      have htot : (pre ++ allL (U :: L)).length = A.all.length := by rw [HPRE.out]
      rw [allL_cons, List.length_append, List.length_cons] at htot
      have hcnt := allL_len (kidsOf U ++ L)
      rw [List.length_append] at hcnt
      have HCC := Lib.hid (concat_any W3.heap.size _ _ _ ks1 kss hs4 hs5 hf1 F4.out (by omega) (by omega) (hk4.cell 0) (hk4.cell 1) hk4.lt)
      have HB4 := Lib.hid hb4
      have HKK := Lib.hid hkk
      have HL2 := Lib.hid hlen2
      have HTOT := Lib.hid htot
      have HCNT := Lib.hid hcnt
      have HKL := Lib.hid hkl
      have HS3 := Lib.hid hs3
      clear hb3 hW3 hK hkk hs4 hs5 hf1 hk4 hb4 hsl hs3 hlen2 hlen htot hcnt hkl
      gi_wp2
      refine ⟨trivial, rfl, (callsIn_wide.2 HCC.out).mono ?_⟩
      rintro e W4 ⟨v, rfl, hown4, hb5⟩
      obtain ⟨av, nv, cv, rfl⟩ := own_shape hown4
      have HB5 := Lib.hid (HB4.out.trans (hb5.mono HB4.out.size))
      have HOWN4 := Lib.hid hown4
      clear hb5 hown4
      have hsz : W0.heap.size ≤ W3.heap.size := by have := HT3.out.size; have := HS3.out; omega
      gi_wp2
      go_wp2
      go_roundg ((allL (kidsOf U ++ L)).length)
      case measure => rw [allL_cons]; simp
      case rel =>
        refine ⟨ks1 ++ kss, kidsOf U ++ L, pre ++ [U], base_le HOWN4.out ?_, ?_, ?_, ?_, ?_, HB.out.own _ _ _ HJ2.out HB5.out, HT3.out.trans (Turns.of_below HB5.out)⟩
        · simp; omega
        · rw [List.length_append, List.length_append, HKL.out, HL2.out]
        · intro i U' us' h1 h2
          refine TyV.keep (w := W2) ?_ HB5.out.size fun g _ hl => HB5.out.block g hl
          rw [List.getElem?_append] at h1 h2
          have := HKL.out
          rw [this] at h2
          split at h1
          · rename_i hi
            rw [if_pos hi] at h2
            exact HKK.out i U' us' h1 h2
          · rename_i hi
            rw [if_neg hi] at h2
            exact HTY2.out (i - (kidsOf U).length + 1) U' us' (by simpa using h1) (by simpa using h2)
        · rw [← HPRE.out, allL_cons, List.append_assoc]
          rfl
        · rfl
end Go.Proofs.YthcoppfdffhjfaaGreatDoor
