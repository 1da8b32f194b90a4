/- The plain words of types, further: what the calls of the layer answer, as functions of texts, and the layer's properties of them. -/
import Derived.Test.YthcoppfdffhjfaaGreatDoorT2
namespace Go.Proofs.YthcoppfdffhjfaaGreatDoor

/-- The parameter. -/
def qt : List UInt8 := [63, 116]
theorem good_par : Good .par := ⟨trivial, by decide, by decide⟩
theorem chk_qt : chk qt = 0 := good_par.chk

def withT (t a : List UInt8) : List UInt8 × Int :=
  if chk t ≠ 0 then ([], chk t) else if chk a ≠ 0 then ([], chk a) else if chk (repl a t) ≠ 0 then ([], 2) else (repl a t, 0)
theorem withT_ok {t a x : List UInt8} (h : withT t a = (x, 0)) : chk t = 0 ∧ chk a = 0 ∧ x = repl a t ∧ chk x = 0 := by
  unfold withT at h
  split at h
  · rename_i q; injection h with _ h; exact absurd h q
  split at h
  · rename_i q; injection h with _ h; exact absurd h q
  split at h
  · injection h with _ h; cases h
  · rename_i h1 h2 h3
    injection h with h _
    subst h
    exact ⟨by omega, by omega, rfl, by omega⟩
theorem withT_eq {t a : List UInt8} (ht : chk t = 0) (ha : chk a = 0) : withT t a = if chk (repl a t) ≠ 0 then ([], 2) else (repl a t, 0) := by
  unfold withT
  rw [if_neg (by omega), if_neg (by omega)]
theorem repl_good {t a : List UInt8} (ht : chk t = 0) (ha : chk a = 0) : ∃ T A : Ty, Good T ∧ Good A ∧ t = T.pr ∧ a = A.pr ∧ repl a t = (T.sub A).pr ∧ (T.sub A).wf := by
  obtain ⟨T, hT, rfl⟩ := chk_ok ht
  obtain ⟨A, hA, rfl⟩ := chk_ok ha
  exact ⟨T, A, hT, hA, rfl, rfl, repl_ty A T hT.wf, Ty.wf_sub hA.wf T hT.wf⟩
theorem with_par {t : List UInt8} (ht : chk t = 0) : withT t qt = (t, 0) ∧ withT qt t = (t, 0) := by
  obtain ⟨T, hT, rfl⟩ := chk_ok ht
  have e1 : repl qt T.pr = T.pr := by rw [show qt = Ty.par.pr from rfl, repl_ty .par T hT.wf, T.sub_par]
  have e2 : repl T.pr qt = T.pr := by rw [show qt = Ty.par.pr from rfl, repl_ty T .par trivial]; rfl
  exact ⟨by rw [withT_eq ht chk_qt, e1, if_neg (by omega)], by rw [withT_eq chk_qt ht, e2, if_neg (by omega)]⟩
theorem repl_closed {a t : List UInt8} (h : t.contains 63 = false) : repl a t = t := by
  induction t with
  | nil => rfl
  | cons c t ih =>
    simp only [List.contains_cons, Bool.or_eq_false_iff, beq_eq_false_iff_ne] at h
    rw [repl_cons _ _ (Ne.symm h.1), ih h.2]
theorem with_closed {t a : List UInt8} (h : t.contains 63 = false) (hw : (withT t a).2 = 0) : (withT t a).1 = t := by
  have e : withT t a = ((withT t a).1, 0) := by rw [← hw]
  obtain ⟨_, _, h3, _⟩ := withT_ok e
  rw [h3, repl_closed h]
theorem with_with {t a b : List UInt8} (h : (withT t a).2 = 0) (i : (withT a b).2 = 0) : withT (withT t a).1 b = withT t (withT a b).1 := by
  have e : withT t a = ((withT t a).1, 0) := by rw [← h]
  have e' : withT a b = ((withT a b).1, 0) := by rw [← i]
  obtain ⟨h1, h2, h3, h4⟩ := withT_ok e
  obtain ⟨_, k2, k3, k4⟩ := withT_ok e'
  rw [withT_eq h4 k2, withT_eq h1 k4, h3, k3]
  obtain ⟨T, A, hT, hA, rfl, rfl, e1, w1⟩ := repl_good h1 h2
  obtain ⟨B, hB, rfl⟩ := chk_ok k2
  rw [e1, repl_ty B _ w1, repl_ty B A hA.wf, repl_ty _ T hT.wf, Ty.sub_sub]

def openT (t : List UInt8) : Bool × Int := (chk t == 0 && t.contains 63, chk t)
open Classical in
noncomputable def matchT (p t : List UInt8) : List UInt8 × Bool × Int :=
  if chk p ≠ 0 then ([], false, chk p) else if chk t ≠ 0 then ([], false, chk t)
  else if p.contains 63 = false then ([], p == t, 0)
  else if h : ∃ a, chk a = 0 ∧ repl a p = t then (choose h, true, 0) else ([], false, 0)
theorem repl_one {p a b : List UInt8} (hp : chk p = 0) (ho : p.contains 63 = true) (ha : chk a = 0) (hb : chk b = 0) (h : repl a p = repl b p) : a = b := by
  obtain ⟨P, A, hP, hA, rfl, rfl, e1, w1⟩ := repl_good hp ha
  obtain ⟨B, hB, rfl⟩ := chk_ok hb
  rw [e1, repl_ty B P hP.wf] at h
  rw [Ty.sub_inj A B P (by rw [P.op_pr hP.wf]; exact ho) (pr_inj w1 (Ty.wf_sub hB.wf P hP.wf) h)]
theorem matchT_some {p t a : List UInt8} (hp : chk p = 0) (ho : p.contains 63 = true) (ha : chk a = 0) (h : repl a p = t) (ht : chk t = 0) : matchT p t = (a, true, 0) := by
  have hx : ∃ a, chk a = 0 ∧ repl a p = t := ⟨a, ha, h⟩
  unfold matchT
  rw [if_neg (by omega), if_neg (by omega), if_neg (by rw [ho]; decide), dif_pos hx]
  have := Classical.choose_spec hx
  rw [repl_one hp ho this.1 ha (this.2.trans h.symm)]
theorem matchT_none {p t : List UInt8} (hp : chk p = 0) (ho : p.contains 63 = true) (ht : chk t = 0) (h : ∀ a, chk a = 0 → repl a p ≠ t) : matchT p t = ([], false, 0) := by
  unfold matchT
  rw [if_neg (by omega), if_neg (by omega), if_neg (by rw [ho]; decide), dif_neg (fun ⟨a, ha, e⟩ => h a ha e)]
theorem matchT_closed {p t : List UInt8} (hp : chk p = 0) (ho : p.contains 63 = false) (ht : chk t = 0) : matchT p t = ([], p == t, 0) := by
  unfold matchT
  rw [if_neg (by omega), if_neg (by omega), if_pos ho]
theorem matchT_zero {p t : List UInt8} (h : (matchT p t).2.2 = 0) : chk p = 0 ∧ chk t = 0 := by
  unfold matchT at h
  split at h
  · rename_i q; exact absurd h q
  split at h
  · rename_i q; exact absurd h q
  · exact ⟨by omega, by omega⟩
theorem matchT_cases {p t : List UInt8} (hp : chk p = 0) (ho : p.contains 63 = true) (ht : chk t = 0) :
    (∃ a, chk a = 0 ∧ repl a p = t ∧ matchT p t = (a, true, 0)) ∨ ((∀ a, chk a = 0 → repl a p ≠ t) ∧ matchT p t = ([], false, 0)) := by
  by_cases hx : ∃ a, chk a = 0 ∧ repl a p = t
  · obtain ⟨a, ha, e⟩ := hx
    exact .inl ⟨a, ha, e, matchT_some hp ho ha e ht⟩
  · have hn : ∀ a, chk a = 0 → repl a p ≠ t := fun a ha e => hx ⟨a, ha, e⟩
    exact .inr ⟨hn, matchT_none hp ho ht hn⟩
/-- What is put in is found, if the pattern is open. -/
theorem match_with {p t : List UInt8} {a : List UInt8} (ho : p.contains 63 = true) (h : matchT p t = (a, true, 0)) : withT p a = (t, 0) := by
  obtain ⟨hp, ht⟩ := matchT_zero (by rw [h])
  rcases matchT_cases hp ho ht with ⟨a', ha', e, q⟩ | ⟨_, q⟩
  · rw [h] at q
    injection q with q
    subst q
    rw [withT_eq hp ha', e, if_neg (by omega)]
  · rw [h] at q
    injection q with _ q
    injection q with q _
    cases q
theorem match_only {p t o : List UInt8} (ho : p.contains 63 = true) (h0 : (matchT p t).2.2 = 0) (h : withT p o = (t, 0)) : (matchT p t) = (o, true, 0) := by
  obtain ⟨hp, ht⟩ := matchT_zero h0
  obtain ⟨_, h2, h3, _⟩ := withT_ok h
  exact matchT_some hp ho h2 h3.symm ht
theorem match_no {p t : List UInt8} (h : (matchT p t).2.1 = false) : (matchT p t).1 = [] := by
  unfold matchT at h ⊢
  split
  · rfl
  split
  · rfl
  split
  · rfl
  split
  · rename_i h1 h2 h3 h4
    rw [if_neg h1, if_neg h2, if_neg h3, dif_pos h4] at h
    cases h
  · rfl

/-- The levels of a text, and its error. -/
def levT (t : List UInt8) : Int × Int :=
  if chk t ≠ 0 then (0, chk t)
  else match tyOf t with
    | none => (0, 0)
    | some T => ((T.lev : Int), 0)
theorem levT_good {T : Ty} (h : Good T) : levT T.pr = ((T.lev : Int), 0) := by
  unfold levT
  rw [if_neg (by rw [h.chk]; omega), h.tyOf]
theorem levT_err (t : List UInt8) : (levT t).2 = chk t := by
  unfold levT
  split
  · rfl
  · split <;> (simp only; omega)

mutual
/-- The types inside a type, in the order in which they begin. -/
def Ty.all : Ty → List Ty
  | .arr t => .arr t :: t.all
  | .rcd o fs => .rcd o fs :: fs.all
  | .app n t => .app n t :: t.all
  | .int => [.int]
  | .bool => [.bool]
  | .null => [.null]
  | .nam n => [.nam n]
  | .par => [.par]
def Fs.all : Fs → List Ty
  | .one _ t => t.all
  | .more _ t fs => t.all ++ fs.all
end
mutual
theorem Ty.all_wf : ∀ T : Ty, T.wf → ∀ U ∈ T.all, U.wf
  | .int, _, U, h => by simp [Ty.all] at h; subst h; trivial
  | .bool, _, U, h => by simp [Ty.all] at h; subst h; trivial
  | .null, _, U, h => by simp [Ty.all] at h; subst h; trivial
  | .par, _, U, h => by simp [Ty.all] at h; subst h; trivial
  | .nam _, w, U, h => by simp [Ty.all] at h; subst h; exact w
  | .arr t, w, U, h => by
    rcases List.mem_cons.1 h with rfl | h
    · exact w
    · exact t.all_wf w U h
  | .app _ t, w, U, h => by
    rcases List.mem_cons.1 h with rfl | h
    · exact w
    · exact t.all_wf w.2 U h
  | .rcd _ fs, w, U, h => by
    rcases List.mem_cons.1 h with rfl | h
    · exact w
    · exact fs.all_wf _ w.1 U h
theorem Fs.all_wf : ∀ (F : Fs) (b : List UInt8), F.wf b → ∀ U ∈ F.all, U.wf
  | .one _ t, _, w, U, h => t.all_wf w.2.2 U h
  | .more _ t fs, _, w, U, h => by
    rcases List.mem_append.1 h with h | h
    · exact t.all_wf w.2.2.1 U h
    · exact fs.all_wf _ w.2.2.2 U h
end
mutual
theorem Ty.all_le : ∀ T : Ty, ∀ U ∈ T.all, U.lev ≤ T.lev ∧ U.pr.length ≤ T.pr.length
  | .int, U, h => by simp [Ty.all] at h; subst h; simp
  | .bool, U, h => by simp [Ty.all] at h; subst h; simp
  | .null, U, h => by simp [Ty.all] at h; subst h; simp
  | .par, U, h => by simp [Ty.all] at h; subst h; simp
  | .nam _, U, h => by simp [Ty.all] at h; subst h; simp
  | .arr t, U, h => by
    rcases List.mem_cons.1 h with rfl | h
    · simp
    · have := t.all_le U h
      simp only [Ty.lev, Ty.pr, List.length_append, List.length_cons]; omega
  | .app _ t, U, h => by
    rcases List.mem_cons.1 h with rfl | h
    · simp
    · have := t.all_le U h
      simp only [Ty.lev, Ty.pr, List.length_append, List.length_cons]; omega
  | .rcd _ fs, U, h => by
    rcases List.mem_cons.1 h with rfl | h
    · simp
    · have := fs.all_le U h
      simp only [Ty.lev, Ty.pr, List.length_append, List.length_cons]; omega
theorem Fs.all_le : ∀ F : Fs, ∀ U ∈ F.all, U.lev ≤ F.lev ∧ U.pr.length ≤ F.pr.length
  | .one _ t, U, h => by
    have := t.all_le U h
    simp only [Fs.lev, Fs.pr, List.length_append, List.length_cons]; omega
  | .more _ t fs, U, h => by
    rcases List.mem_append.1 h with h | h
    · have := t.all_le U h
      simp only [Fs.lev, Fs.pr, List.length_append, List.length_cons]; omega
    · have := fs.all_le U h
      simp only [Fs.lev, Fs.pr, List.length_append, List.length_cons]; omega
end
theorem Ty.all_head (T : Ty) : ∃ l, T.all = T :: l ∧ ∀ U ∈ l, U.lev < T.lev := by
  cases T with
  | arr t => exact ⟨_, rfl, fun U h => by have := t.all_le U h; simp only [Ty.lev]; omega⟩
  | app n t => exact ⟨_, rfl, fun U h => by have := t.all_le U h; simp only [Ty.lev]; omega⟩
  | rcd o fs => exact ⟨_, rfl, fun U h => by have := fs.all_le U h; simp only [Ty.lev]; omega⟩
  | _ => exact ⟨[], rfl, fun U h => by cases h⟩
theorem Good.inside {T U : Ty} (h : Good T) (hU : U ∈ T.all) : Good U := by
  have := T.all_le U hU
  have := h.len
  have := h.lev
  exact ⟨T.all_wf h.wf U hU, by omega, by omega⟩

/-- Each element once, where it stands first. -/
def dedup (l : List (List UInt8)) : List (List UInt8) := l.foldl (fun acc x => if x ∈ acc then acc else acc ++ [x]) []
theorem dedup_snoc (l : List (List UInt8)) (x : List UInt8) : dedup (l ++ [x]) = if x ∈ dedup l then dedup l else dedup l ++ [x] := by
  unfold dedup; rw [List.foldl_append]; rfl
theorem dedup_mem (l : List (List UInt8)) (x : List UInt8) : x ∈ dedup l ↔ x ∈ l := by
  suffices ∀ n (l : List (List UInt8)), l.length = n → (x ∈ dedup l ↔ x ∈ l) from this _ l rfl
  intro n
  induction n with
  | zero => intro l h; rw [List.length_eq_zero_iff.1 h]; simp [dedup]
  | succ n ih =>
    intro l h
    obtain ⟨l', y, rfl⟩ : ∃ l' y, l = l' ++ [y] := ⟨l.dropLast, l.getLast (by rintro rfl; cases h), (List.dropLast_concat_getLast _).symm⟩
    have hl : l'.length = n := by simpa using h
    have := ih l' hl
    rw [dedup_snoc]
    split
    · rename_i hy
      have hy' : y ∈ dedup l' := hy
      simp only [List.mem_append, List.mem_singleton, this]
      constructor
      · exact .inl
      · rintro (h | rfl)
        · exact h
        · -- y is there already
          exact this.1 hy'
    · simp [this]
theorem dedup_cons (x : List UInt8) : ∀ l : List (List UInt8), ∃ m, dedup (x :: l) = x :: m ∧ x ∉ m := by
  suffices ∀ n (l : List (List UInt8)), l.length = n → ∃ m, dedup (x :: l) = x :: m ∧ x ∉ m from fun l => this _ l rfl
  intro n
  induction n with
  | zero => intro l h; rw [List.length_eq_zero_iff.1 h]; exact ⟨[], by simp [dedup], by simp⟩
  | succ n ih =>
    intro l h
    obtain ⟨l', y, rfl⟩ : ∃ l' y, l = l' ++ [y] := ⟨l.dropLast, l.getLast (by rintro rfl; cases h), (List.dropLast_concat_getLast _).symm⟩
    obtain ⟨m, hm, hx⟩ := ih l' (by simpa using h)
    rw [show x :: (l' ++ [y]) = (x :: l') ++ [y] from rfl, dedup_snoc, hm]
    split
    · exact ⟨m, rfl, hx⟩
    · rename_i hy
      refine ⟨m ++ [y], rfl, ?_⟩
      simp only [List.mem_append, List.mem_singleton, not_or]
      exact ⟨hx, fun e => hy (by simp [e])⟩

def insideT (t : List UInt8) : List (List UInt8) × Int :=
  if chk t ≠ 0 then ([], chk t)
  else match tyOf t with
    | none => ([], 0)
    | some T => (dedup (T.all.map Ty.pr), 0)
theorem insideT_good {T : Ty} (h : Good T) : insideT T.pr = (dedup (T.all.map Ty.pr), 0) := by
  unfold insideT
  rw [if_neg (by rw [h.chk]; omega), h.tyOf]
theorem insideT_err (t : List UInt8) : (insideT t).2 = chk t := by
  unfold insideT
  split
  · rfl
  · split <;> (simp only; omega)
/-- What is inside a type is a type, with fewer levels if it is another one. -/
theorem inside_lev {T : Ty} (h : Good T) {i : Nat} {x : List UInt8} (hx : (insideT T.pr).1[i]? = some x) :
    ∃ U : Ty, Good U ∧ x = U.pr ∧ (i = 0 ↔ x = T.pr) ∧ (0 < i → U.lev < T.lev) := by
  rw [insideT_good h] at hx
  obtain ⟨l, hl, hlt⟩ := T.all_head
  obtain ⟨m, hm, hn⟩ := dedup_cons T.pr (l.map Ty.pr)
  rw [hl, List.map_cons, hm] at hx
  have mem : x ∈ dedup (T.all.map Ty.pr) := by rw [hl, List.map_cons, hm]; exact List.mem_of_getElem? hx
  rw [dedup_mem] at mem
  obtain ⟨U, hU, rfl⟩ := List.mem_map.1 mem
  refine ⟨U, h.inside hU, rfl, ?_, ?_⟩
  · cases i with
    | zero => simp at hx; simp [hx]
    | succ i =>
      simp at hx
      exact ⟨fun e => by omega, fun e => absurd (e ▸ List.mem_of_getElem? hx) hn⟩
  · intro hi
    rw [hl] at hU
    rcases List.mem_cons.1 hU with rfl | hU
    · cases i with
      | zero => omega
      | succ i =>
        simp at hx
        exact absurd (List.mem_of_getElem? hx) hn
    · exact hlt U hU
theorem inside_ne {T : Ty} (h : Good T) : 0 < (insideT T.pr).1.length := by
  rw [insideT_good h]
  obtain ⟨l, hl, _⟩ := T.all_head
  obtain ⟨m, hm, _⟩ := dedup_cons T.pr (l.map Ty.pr)
  rw [hl, List.map_cons, hm]
  simp
theorem lev_with {T A : Ty} (hT : Good T) (hA : Good A) {x : List UInt8} (h : withT T.pr A.pr = (x, 0)) : ∃ X : Ty, Good X ∧ x = X.pr ∧ X.lev + 1 ≤ T.lev + A.lev := by
  obtain ⟨_, _, h3, h4⟩ := withT_ok h
  rw [repl_ty A T hT.wf] at h3
  subst h3
  exact ⟨_, chk_wf (Ty.wf_sub hA.wf T hT.wf) h4, rfl, Ty.lev_sub A T⟩
end Go.Proofs.YthcoppfdffhjfaaGreatDoor
