/- The queue of match: pairs of types that lie in it, its append in a region that draws, and what is kept of the argument asked for. -/
import Derived.Test.YthcoppfdffhjfaaGreatDoorRm
import Derived.Deep.AppendLies
namespace Go.Proofs.YthcoppfdffhjfaaGreatDoor
open Go Go.RowKit

/-- The cells of pairs of types, one behind another. -/
inductive Prs (w : World) (S : Nat → Prop) : List (Ty × Ty) → List Value → Prop
  | nil : Prs w S [] []
  | cons (p x : Ty) (ps xs vs : List Value) (q : List (Ty × Ty)) (hp : TyV w S p ps) (hx : TyV w S x xs) (h : Prs w S q vs) : Prs w S ((p, x) :: q) (ps ++ (xs ++ vs))

theorem Prs.keep {w w' : World} {S _S' : Nat → Prop} {q : List (Ty × Ty)} {vs : List Value} (h : Prs w S q vs) (hsz : w.heap.size ≤ w'.heap.size) (hs : ∀ g, S g → g < w.heap.size → w'.heap[g]? = w.heap[g]?) : Prs w' S q vs := by
  induction h with
  | nil => exact .nil
  | cons p x ps xs vs q hp hx _ ih => exact .cons p x ps xs vs q (hp.keep hsz hs) (hx.keep hsz hs) ih
theorem Prs.snoc {w : World} {S : Nat → Prop} {q : List (Ty × Ty)} {vs ps xs : List Value} {p x : Ty} (h : Prs w S q vs) (hp : TyV w S p ps) (hx : TyV w S x xs) : Prs w S (q ++ [(p, x)]) (vs ++ (ps ++ xs)) := by
  induction h with
  | nil =>
    have := Prs.cons p x ps xs [] [] hp hx .nil
    simpa using this
  | cons p' x' ps' xs' vs' q' hp' hx' _ ih =>
    have := Prs.cons p' x' ps' xs' _ _ hp' hx' ih
    simpa [List.append_assoc] using this
theorem Prs.head {w : World} {S : Nat → Prop} {q : List (Ty × Ty)} {l : List Value} {p x : Ty} (h : Prs w S ((p, x) :: q) l) : ∃ ps xs vs, l = ps ++ (xs ++ vs) ∧ TyV w S p ps ∧ TyV w S x xs ∧ Prs w S q vs := by
  cases h with
  | cons _ _ ps xs vs _ hp hx h => exact ⟨ps, xs, vs, rfl, hp, hx, h⟩

/-- AT A STEP OF A REGION THAT DRAWS ITS ORDER: the append to the queue. -/
theorem step_append_q {ops : Array Oper} {o : Oper} {a : Act} {w : World} {K : Act → World → Prop} {Q : Exit → Act → World → Prop} {E : Prop} (hgd : o.guard = none) (s x : Operand)
    (ho : o.op = .call { callee := .builtin .append, args := #[s, x], argTypes := #[97, 97] }) (base n : Nat) (v : Value) (xs : List Value) (hs : a.eval s = v) (hq : QRow w base v n xs) (hn : n ≤ 100000) (hbase : base ≤ w.heap.size)
    (ad : Addr) (c : Nat) (news : List Value) (hx : a.eval x = .slice (some ad) 1 c) (hl : news.length = 8) (hnews : ∀ j u, news[j]? = some u → w.cell? (ad.add j) = some u) (h1 : ∀ u ∈ news, u.oneCell' = true)
    (h : ∀ v' w', QRow w' base v' (n + 1) (xs ++ news) → Turns (QT base) w w' → K (a.put o.dst v') w') :
    if Region.wanted o (yielded ops a.tmps) = true then Oper.wp Tryz.prog o a w K Q else E := by
  have hw : Region.wanted o (yielded ops a.tmps) = true := by simp [Region.wanted, hgd]
  rw [if_pos hw]
  obtain ⟨v', w', hr, h2, h3⟩ := run_append_q o.type base n v xs w hq hn hbase ad c news hl hnews h1
  unfold Oper.wp execOp
  simp only [ho, resolve, invoke, builtin, Sem.run_bind, Sem.run_pure, Result.andThen_ok, List.map_toArray, List.map_cons, List.map_nil, hs, hx, hr]
  exact h v' w' h2 h3

theorem kids_wf {T t : Ty} (h : T.wf) (ht : t ∈ kidsOf T) : t.wf := by
  refine T.all_wf h t ?_
  rw [all_kids]
  refine List.mem_cons_of_mem _ ?_
  unfold allL
  rw [List.mem_flatMap]
  exact ⟨t, ht, by rw [all_kids]; exact List.mem_cons_self ..⟩

/-- What holds while pairs are still to be compared. -/
structure MInv (P X : Ty) (arg : Bys) (q : List (Ty × Ty)) : Prop where
  is : arg = [] ∨ ∃ A : Ty, A.wf ∧ arg = A.pr
  wf : ∀ c ∈ q, c.1.wf ∧ c.2.wf ∧ c.1.pr.length ≤ 900 ∧ c.2.pr.length ≤ 900
  asks : ∀ A : Ty, A.wf → (P.sub A = X ↔ Asks arg q A)

theorem minv_start (P X : Ty) (hP : Good P) (hX : Good X) : MInv P X [] [(P, X)] := by
  refine ⟨.inl rfl, fun c hc => ?_, fun A hA => ?_⟩
  · rw [List.mem_singleton] at hc
    subst hc
    have := hP.len
    have := hX.len
    exact ⟨hP.wf, hX.wf, by simp only; omega, by simp only; omega⟩
  · unfold Asks
    simp
/-- The parameter, and no argument asked for, or this one. -/
theorem MInv.par {P X x : Ty} {arg : Bys} {q : List (Ty × Ty)} (h : MInv P X arg ((.par, x) :: q)) (ha : arg = [] ∨ arg = x.pr) : MInv P X x.pr q := by
  have hx := (h.wf _ (List.mem_cons_self ..)).2.1
  exact ⟨.inr ⟨x, hx, rfl⟩, fun c hc => h.wf c (List.mem_cons_of_mem _ hc), fun A hA => (h.asks A hA).trans (asks_par hx hA ha)⟩
theorem MInv.par_no {P X x : Ty} {arg : Bys} {q : List (Ty × Ty)} (h : MInv P X arg ((.par, x) :: q)) (ha : arg ≠ []) (hb : arg ≠ x.pr) : ∀ A : Ty, A.wf → P.sub A ≠ X := fun A hA e =>
  asks_par_no ha hb ((h.asks A hA).1 e)
theorem MInv.unlike {P X p x : Ty} {arg : Bys} {q : List (Ty × Ty)} (h : MInv P X arg ((p, x) :: q)) (hn : p ≠ .par) (hl : likeB p x = false) : ∀ A : Ty, A.wf → P.sub A ≠ X := fun A hA e =>
  asks_unlike (h.wf _ (List.mem_cons_self ..)).1 (h.wf _ (List.mem_cons_self ..)).2.1 hA hn hl ((h.asks A hA).1 e)
theorem MInv.like {P X p x : Ty} {arg : Bys} {q : List (Ty × Ty)} (h : MInv P X arg ((p, x) :: q)) (hn : p ≠ .par) (hl : likeB p x = true) : MInv P X arg (q ++ kidPairs p x) := by
  have hw := h.wf _ (List.mem_cons_self ..)
  refine ⟨h.is, fun c hc => ?_, fun A hA => (h.asks A hA).trans (asks_like hw.1 hw.2.1 hA hn hl)⟩
  rcases List.mem_append.1 hc with hc | hc
  · exact h.wf c (List.mem_cons_of_mem _ hc)
  · have h1 : c.1 ∈ kidsOf p := (List.of_mem_zip hc).1
    have h2 : c.2 ∈ kidsOf x := (List.of_mem_zip hc).2
    have k1 := kids_len p _ h1
    have k2 := kids_len x _ h2
    exact ⟨kids_wf hw.1 h1, kids_wf hw.2.1 h2, by have : p.pr.length ≤ 900 := hw.2.2.1; omega, by have : x.pr.length ≤ 900 := hw.2.2.2; omega⟩
theorem match_end_some {P X : Ty} {arg : Bys} (hP : Good P) (hX : Good X) (ho : P.pr.contains 63 = true) (h : MInv P X arg []) : matchT P.pr X.pr = (arg, true, 0) := by
  have hop : P.op = true := by rw [← P.op_pr hP.wf] at ho; exact ho
  rcases h.is with rfl | ⟨A, hA, rfl⟩
  · exfalso
    have e1 : P.sub .int = X := (h.asks .int trivial).2 ⟨.inl rfl, fun c hc => (by cases hc)⟩
    have e2 : P.sub .bool = X := (h.asks .bool trivial).2 ⟨.inl rfl, fun c hc => (by cases hc)⟩
    have := Ty.sub_inj .int .bool P hop (e1.trans e2.symm)
    cases this
  · have e : P.sub A = X := (h.asks A hA).2 ⟨.inr rfl, fun c hc => (by cases hc)⟩
    have hg : chk A.pr = 0 := by
      refine (Good.mk hA ?_ ?_).chk
      · have := Ty.len_arg A P hop
        rw [e] at this
        have := hX.len
        omega
      · have := Ty.lev_arg A P hop
        rw [e] at this
        have := hX.lev
        omega
    exact matchT_some hP.chk ho hg (by rw [repl_ty A P hP.wf, e]) hX.chk
theorem match_end_none {P X : Ty} (hP : Good P) (hX : Good X) (ho : P.pr.contains 63 = true) (h : ∀ A : Ty, A.wf → P.sub A ≠ X) : matchT P.pr X.pr = ([], false, 0) := by
  refine matchT_none hP.chk ho hX.chk fun a ha e => ?_
  obtain ⟨A, hA, rfl⟩ := chk_ok ha
  rw [repl_ty A P hP.wf] at e
  exact h A hA.wf (pr_inj (Ty.wf_sub hA.wf P hP.wf) hX.wf e)
end Go.Proofs.YthcoppfdffhjfaaGreatDoor
