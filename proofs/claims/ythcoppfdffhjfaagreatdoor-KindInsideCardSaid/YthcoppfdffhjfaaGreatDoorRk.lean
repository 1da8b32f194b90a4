/- What has to be put in the place of the parameter: the plain half of Match. -/
import Derived.Test.YthcoppfdffhjfaaGreatDoorRj
namespace Go.Proofs.YthcoppfdffhjfaaGreatDoor

theorem Fs.list_inj : ∀ F G : Fs, F.list = G.list → F = G
  | .one n t, .one m u, h => by simp [Fs.list] at h; simp [h]
  | .one n t, .more m u G, h => by
    have := G.count_pos
    have h2 := congrArg List.length h
    simp only [Fs.list, List.length_cons, List.length_nil, G.list_len] at h2
    omega
  | .more n t F, .one m u, h => by
    have := F.count_pos
    have h2 := congrArg List.length h
    simp only [Fs.list, List.length_cons, List.length_nil, F.list_len] at h2
    omega
  | .more n t F, .more m u G, h => by
    simp only [Fs.list, List.cons.injEq, Prod.mk.injEq] at h
    rw [h.1.1, h.1.2, Fs.list_inj F G h.2]
theorem pairs_ext {α β : Type} : ∀ l m : List (α × β), l.map Prod.fst = m.map Prod.fst → l.map Prod.snd = m.map Prod.snd → l = m
  | [], [], _, _ => rfl
  | [], _ :: _, h, _ => by simp at h
  | _ :: _, [], h, _ => by simp at h
  | p :: l, q :: m, h, k => by
    simp only [List.map_cons, List.cons.injEq] at h k
    rw [pairs_ext l m h.2 k.2, Prod.ext h.1 k.1]
theorem name_not {n : Bys} (h : isNameL n = true) : n ≠ kInt ∧ n ≠ kBool ∧ n ≠ kNull ∧ n ≠ kArray ∧ n ≠ kRecord ∧ n ≠ kOneof ∧ n ≠ qt :=
  ⟨name_word h kInt_mem, name_word h kBool_mem, name_word h kNull_mem, name_word h kArray_mem, name_word h kRecord_mem, name_word h kOneof_mem, fun e => by rw [e] at h; revert h; decide⟩
theorem rcdWord_cases (o : Bool) : rcdWord o = kRecord ∨ rcdWord o = kOneof := by cases o <;> simp [rcdWord]
/-- What front a type has: its own. -/
theorem front_int (x : Ty) (hx : x.wf) (h : frontOf x = kInt) : x = .int := by
  cases x with
  | int => rfl
  | rcd o F => cases o <;> exact absurd h (by simp only [frontOf, rcdWord, cond_true, cond_false]; decide)
  | nam n => exact absurd h (name_not hx).1
  | app n t => exact absurd h (name_not hx.1).1
  | _ => exact absurd h (by simp only [frontOf]; decide)
theorem front_bool (x : Ty) (hx : x.wf) (h : frontOf x = kBool) : x = .bool := by
  cases x with
  | bool => rfl
  | rcd o F => cases o <;> exact absurd h (by simp only [frontOf, rcdWord, cond_true, cond_false]; decide)
  | nam n => exact absurd h (name_not hx).2.1
  | app n t => exact absurd h (name_not hx.1).2.1
  | _ => exact absurd h (by simp only [frontOf]; decide)
theorem front_null (x : Ty) (hx : x.wf) (h : frontOf x = kNull) : x = .null := by
  cases x with
  | null => rfl
  | rcd o F => cases o <;> exact absurd h (by simp only [frontOf, rcdWord, cond_true, cond_false]; decide)
  | nam n => exact absurd h (name_not hx).2.2.1
  | app n t => exact absurd h (name_not hx.1).2.2.1
  | _ => exact absurd h (by simp only [frontOf]; decide)
theorem front_par (x : Ty) (hx : x.wf) (h : frontOf x = qt) : x = .par := by
  cases x with
  | par => rfl
  | rcd o F => cases o <;> exact absurd h (by simp only [frontOf, rcdWord, cond_true, cond_false]; decide)
  | nam n => exact absurd h (name_not hx).2.2.2.2.2.2
  | app n t => exact absurd h (name_not hx.1).2.2.2.2.2.2
  | _ => exact absurd h (by simp only [frontOf]; decide)
theorem front_arr (x : Ty) (hx : x.wf) (h : frontOf x = kArray) : ∃ t, x = .arr t := by
  cases x with
  | arr t => exact ⟨t, rfl⟩
  | rcd o F => cases o <;> exact absurd h (by simp only [frontOf, rcdWord, cond_true, cond_false]; decide)
  | nam n => exact absurd h (name_not hx).2.2.2.1
  | app n t => exact absurd h (name_not hx.1).2.2.2.1
  | _ => exact absurd h (by simp only [frontOf]; decide)
theorem front_rcd (x : Ty) (hx : x.wf) (o : Bool) (h : frontOf x = rcdWord o) : ∃ F, x = .rcd o F := by
  cases x with
  | rcd o' F =>
    refine ⟨F, ?_⟩
    cases o <;> cases o' <;> first | rfl | exact absurd h (by simp only [frontOf, rcdWord, cond_true, cond_false]; decide)
  | nam n =>
    have q := name_not hx
    rcases rcdWord_cases o with e | e
    · exact absurd (h.trans e) q.2.2.2.2.1
    · exact absurd (h.trans e) q.2.2.2.2.2.1
  | app n t =>
    have q := name_not hx.1
    rcases rcdWord_cases o with e | e
    · exact absurd (h.trans e) q.2.2.2.2.1
    · exact absurd (h.trans e) q.2.2.2.2.2.1
  | _ => cases o <;> exact absurd h (by simp only [frontOf, rcdWord, cond_true, cond_false]; decide)
theorem front_name (x : Ty) (n : Bys) (hn : isNameL n = true) (h : frontOf x = n) : x = .nam n ∨ ∃ t, x = .app n t := by
  have q := name_not hn
  cases x with
  | nam m => exact .inl (by rw [show m = n from h])
  | app m t => exact .inr ⟨t, by rw [show m = n from h]⟩
  | int => exact absurd h.symm q.1
  | bool => exact absurd h.symm q.2.1
  | null => exact absurd h.symm q.2.2.1
  | arr t => exact absurd h.symm q.2.2.2.1
  | par => exact absurd h.symm q.2.2.2.2.2.2
  | rcd o F =>
    rcases rcdWord_cases o with e | e
    · exact absurd (h.symm.trans e) q.2.2.2.2.1
    · exact absurd (h.symm.trans e) q.2.2.2.2.2.1
theorem like_inj (x y : Ty) (hx : x.wf) (hy : y.wf) (h1 : frontOf x = frontOf y) (h2 : namesOf x = namesOf y) (h3 : kidsOf x = kidsOf y) : x = y := by
  cases y with
  | int => exact front_int x hx h1
  | bool => exact front_bool x hx h1
  | null => exact front_null x hx h1
  | par => exact front_par x hx h1
  | arr t =>
    obtain ⟨u, rfl⟩ := front_arr x hx h1
    simp only [kidsOf, List.cons.injEq, and_true] at h3
    rw [h3]
  | rcd o F =>
    obtain ⟨G, rfl⟩ := front_rcd x hx o h1
    simp only [kidsOf, namesOf] at h2 h3
    rw [Fs.list_inj G F (pairs_ext _ _ h2 h3)]
  | nam n =>
    rcases front_name x n hy h1 with rfl | ⟨t, rfl⟩
    · rfl
    · simp [kidsOf] at h3
  | app n t =>
    rcases front_name x n hy.1 h1 with rfl | ⟨u, rfl⟩
    · simp [kidsOf] at h3
    · simp only [kidsOf, List.cons.injEq, and_true] at h3
      rw [h3]
theorem Fs.list_sub (A : Ty) : ∀ F : Fs, (F.sub A).list = F.list.map fun p => (p.1, p.2.sub A)
  | .one _ _ => rfl
  | .more _ _ F => by simp only [Fs.sub, Fs.list, List.map_cons]; rw [Fs.list_sub A F]
theorem sub_kids (A p : Ty) (h : p ≠ .par) : frontOf (p.sub A) = frontOf p ∧ namesOf (p.sub A) = namesOf p ∧ kidsOf (p.sub A) = (kidsOf p).map fun t => t.sub A := by
  cases p with
  | par => exact absurd rfl h
  | rcd o F =>
    refine ⟨rfl, ?_, ?_⟩
    · simp only [Ty.sub, namesOf]
      rw [Fs.list_sub, List.map_map]
      rfl
    · simp only [Ty.sub, kidsOf]
      rw [Fs.list_sub, List.map_map, List.map_map]
      rfl
  | _ => exact ⟨rfl, rfl, rfl⟩
/-- Whether two types are the same but for their kids. -/
def likeB (p x : Ty) : Bool := decide (frontOf p = frontOf x) && (decide ((kidsOf p).length = (kidsOf x).length) && decide (namesOf p = namesOf x))
theorem like_sub {p x A : Ty} (hp : p.wf) (hx : x.wf) (hA : A.wf) (hn : p ≠ .par) : p.sub A = x ↔ likeB p x = true ∧ ∀ (i : Nat) (t u : Ty), (kidsOf p)[i]? = some t → (kidsOf x)[i]? = some u → t.sub A = u := by
  obtain ⟨e1, e2, e3⟩ := sub_kids A p hn
  constructor
  · rintro rfl
    refine ⟨?_, fun i t u h1 h2 => ?_⟩
    · unfold likeB
      rw [e1, e2, e3]
      simp
    · rw [e3, List.getElem?_map, h1] at h2
      exact Option.some.inj h2
  · rintro ⟨h, hk⟩
    unfold likeB at h
    simp only [Bool.and_eq_true, decide_eq_true_eq] at h
    refine like_inj _ _ (Ty.wf_sub hA p hp) hx (e1.trans h.1) (e2.trans h.2.2) ?_
    rw [e3]
    refine List.ext_getElem? fun i => ?_
    rw [List.getElem?_map]
    by_cases hi : i < (kidsOf p).length
    · have hi2 : i < (kidsOf x).length := by rw [← h.2.1]; exact hi
      rw [List.getElem?_eq_getElem hi, List.getElem?_eq_getElem hi2]
      exact congrArg some (hk i _ _ (List.getElem?_eq_getElem hi) (List.getElem?_eq_getElem hi2))
    · have hi2 : ¬ i < (kidsOf x).length := by rw [← h.2.1]; exact hi
      rw [List.getElem?_eq_none (by omega), List.getElem?_eq_none (by omega)]
      rfl

/-- What is asked of the argument, when some pairs are still to be compared. -/
def Asks (arg : Bys) (q : List (Ty × Ty)) (A : Ty) : Prop := (arg = [] ∨ arg = A.pr) ∧ ∀ c ∈ q, c.1.sub A = c.2
/-- The pairs of the kids. -/
def kidPairs (p x : Ty) : List (Ty × Ty) := (kidsOf p).zip (kidsOf x)
theorem pr_ne (A : Ty) : A.wf → A.pr ≠ [] := fun h e => by
  have h1 := A.lev_len h
  have h2 := A.lev_pos
  rw [e] at h1
  simp at h1
  omega
theorem asks_par {arg : Bys} {q : List (Ty × Ty)} {x A : Ty} (hx : x.wf) (hA : A.wf) (ha : arg = [] ∨ arg = x.pr) : Asks arg ((.par, x) :: q) A ↔ Asks x.pr q A := by
  unfold Asks
  simp only [List.forall_mem_cons]
  constructor
  · rintro ⟨h1, h2, h3⟩
    have h2 : A = x := h2
    subst h2
    exact ⟨.inr rfl, h3⟩
  · rintro ⟨h1, h3⟩
    have e : x = A := by
      rcases h1 with h | h
      · exact absurd h (pr_ne x hx)
      · exact pr_inj hx hA h
    subst e
    exact ⟨ha, rfl, h3⟩
theorem asks_par_no {arg : Bys} {q : List (Ty × Ty)} {x A : Ty} (ha : arg ≠ []) (hb : arg ≠ x.pr) : ¬ Asks arg ((.par, x) :: q) A := by
  rintro ⟨h1, h2⟩
  have h3 : A = x := h2 _ (List.mem_cons_self ..)
  subst h3
  rcases h1 with h | h
  · exact ha h
  · exact hb h
theorem asks_unlike {arg : Bys} {q : List (Ty × Ty)} {p x A : Ty} (hp : p.wf) (hx : x.wf) (hA : A.wf) (hn : p ≠ .par) (hl : likeB p x = false) : ¬ Asks arg ((p, x) :: q) A := by
  rintro ⟨_, h2⟩
  have h3 : p.sub A = x := h2 _ (List.mem_cons_self ..)
  have := ((like_sub hp hx hA hn).1 h3).1
  rw [hl] at this
  cases this
theorem asks_like {arg : Bys} {q : List (Ty × Ty)} {p x A : Ty} (hp : p.wf) (hx : x.wf) (hA : A.wf) (hn : p ≠ .par) (hl : likeB p x = true) : Asks arg ((p, x) :: q) A ↔ Asks arg (q ++ kidPairs p x) A := by
  unfold Asks
  refine and_congr Iff.rfl ?_
  simp only [List.forall_mem_cons, List.forall_mem_append]
  rw [and_comm]
  refine and_congr Iff.rfl ?_
  rw [like_sub hp hx hA hn]
  constructor
  · rintro ⟨_, h⟩ c hc
    obtain ⟨i, hi⟩ := List.mem_iff_getElem?.1 hc
    unfold kidPairs at hi
    rw [List.getElem?_zip_eq_some] at hi
    exact h i _ _ hi.1 hi.2
  · intro h
    refine ⟨hl, fun i t u h1 h2 => h (t, u) ?_⟩
    exact List.mem_of_getElem? (List.getElem?_zip_eq_some.2 ⟨h1, h2⟩)
end Go.Proofs.YthcoppfdffhjfaaGreatDoor
