/- The plain words of types, last: names in order, parts in order, and what the layer's remaining calls answer. -/
import Derived.Test.YthcoppfdffhjfaaGreatDoorT3
namespace Go.Proofs.YthcoppfdffhjfaaGreatDoor

abbrev Bys := List UInt8
theorem bys_lt {a b c : Bys} (h : a < b) (k : b < c) : a < c := List.lt_trans h k
theorem bys_irr (a : Bys) : ¬ a < a := List.lt_irrefl a
theorem bys_tri {a b : Bys} (h : ¬ a < b) (k : ¬ b < a) : a = b := List.le_antisymm (List.not_lt.1 k) (List.not_lt.1 h)
theorem bys_asym {a b : Bys} (h : a < b) : ¬ b < a := fun k => bys_irr a (bys_lt h k)

section
variable {α : Type} (key : α → Bys)
/-- Ascending by a key, each one greater than the one before. -/
def Asc (l : List α) : Prop := l.Pairwise fun p q => key p < key q
variable {key}
theorem Asc.unique : ∀ {l m : List α}, Asc key l → Asc key m → (∀ x, x ∈ l ↔ x ∈ m) → l = m
  | [], m, _, _, h => by
    cases m with
    | nil => rfl
    | cons y m => exact absurd ((h y).2 (by simp)) (by simp)
  | x :: l, m, hl, hm, h => by
    cases m with
    | nil => exact absurd ((h x).1 (by simp)) (by simp)
    | cons y m =>
      have hl' := List.pairwise_cons.1 hl
      have hm' := List.pairwise_cons.1 hm
      have exy : x = y := by
        rcases List.mem_cons.1 ((h x).1 (by simp)) with e | hx
        · exact e
        rcases List.mem_cons.1 ((h y).2 (by simp)) with e | hy
        · exact e.symm
        exact absurd (bys_lt (hl'.1 y hy) (hm'.1 x hx)) (bys_irr _)
      subst exy
      congr 1
      refine Asc.unique hl'.2 hm'.2 fun z => ?_
      constructor
      · intro hz
        rcases List.mem_cons.1 ((h z).1 (by simp [hz])) with rfl | q
        · exact absurd (hl'.1 _ hz) (bys_irr _)
        · exact q
      · intro hz
        rcases List.mem_cons.1 ((h z).2 (by simp [hz])) with rfl | q
        · exact absurd (hm'.1 _ hz) (bys_irr _)
        · exact q
/-- One more, in its place. -/
def insK (key : α → Bys) (x : α) (l : List α) : List α := (l.filter fun y => decide (key y < key x)) ++ x :: l.filter fun y => decide (key x < key y)
theorem insK_asc {x : α} {l : List α} (h : Asc key l) : Asc key (insK key x l) := by
  unfold Asc insK
  rw [List.pairwise_append]
  refine ⟨h.filter _, List.pairwise_cons.2 ⟨fun y hy => by simpa using (List.mem_filter.1 hy).2, h.filter _⟩, fun y hy z hz => ?_⟩
  have h1 : key y < key x := by simpa using (List.mem_filter.1 hy).2
  rcases List.mem_cons.1 hz with rfl | hz
  · exact h1
  · exact bys_lt h1 (by simpa using (List.mem_filter.1 hz).2)
theorem insK_mem {x : α} {l : List α} (h : ∀ y ∈ l, key y ≠ key x) (z : α) : z ∈ insK key x l ↔ z = x ∨ z ∈ l := by
  simp only [insK, List.mem_append, List.mem_cons, List.mem_filter, decide_eq_true_eq]
  constructor
  · rintro (h | h | h)
    · exact .inr h.1
    · exact .inl h
    · exact .inr h.1
  · rintro (h' | h')
    · exact .inr (.inl h')
    · by_cases h1 : key z < key x
      · exact .inl ⟨h', h1⟩
      · by_cases h2 : key x < key z
        · exact .inr (.inr ⟨h', h2⟩)
        · exact absurd (bys_tri h1 h2) (h z h')
/-- All, in order; of different keys. -/
def sortK (key : α → Bys) (l : List α) : List α := l.foldl (fun acc x => insK key x acc) []
theorem sortK_snoc (l : List α) (x : α) : sortK key (l ++ [x]) = insK key x (sortK key l) := by
  unfold sortK; rw [List.foldl_append]; rfl
theorem sortK_asc_mem : ∀ n (l : List α), l.length = n → (l.map key).Nodup → Asc key (sortK key l) ∧ ∀ z, z ∈ sortK key l ↔ z ∈ l := by
  intro n
  induction n with
  | zero => intro l h _; rw [List.length_eq_zero_iff.1 h]; exact ⟨List.Pairwise.nil, fun z => Iff.rfl⟩
  | succ n ih =>
    intro l h hd
    obtain ⟨l', y, rfl⟩ : ∃ l' y, l = l' ++ [y] := ⟨l.dropLast, l.getLast (by rintro rfl; cases h), (List.dropLast_concat_getLast _).symm⟩
    rw [List.map_append, List.nodup_append] at hd
    obtain ⟨h1, h2⟩ := ih l' (by simpa using h) hd.1
    rw [sortK_snoc]
    refine ⟨insK_asc h1, fun z => ?_⟩
    rw [insK_mem (fun u hu e => ?_), h2]
    · simp only [List.mem_append, List.mem_singleton]
      exact or_comm
    · exact hd.2.2 (key u) (List.mem_map.2 ⟨u, (h2 u).1 hu, rfl⟩) (key y) (by simp) e
theorem sortK_asc {l : List α} (h : (l.map key).Nodup) : Asc key (sortK key l) := (sortK_asc_mem _ l rfl h).1
theorem sortK_mem {l : List α} (h : (l.map key).Nodup) (z : α) : z ∈ sortK key l ↔ z ∈ l := (sortK_asc_mem _ l rfl h).2 z
theorem Asc.nodup {l : List α} (h : Asc key l) : (l.map key).Nodup := by
  unfold List.Nodup
  rw [List.pairwise_map]
  exact h.imp fun {a b} (hab : key a < key b) (e : key a = key b) => bys_irr (key b) (by rw [e] at hab; exact hab)
theorem sortK_unique {l m : List α} (hl : (l.map key).Nodup) (hm : Asc key m) (h : ∀ z, z ∈ l ↔ z ∈ m) : sortK key l = m :=
  Asc.unique (sortK_asc hl) hm fun z => (sortK_mem hl z).trans (h z)
end


mutual
def Ty.nms : Ty → List Bys
  | .arr t => t.nms
  | .rcd _ fs => fs.nms
  | .app n t => n :: t.nms
  | .nam n => [n]
  | .int => []
  | .bool => []
  | .null => []
  | .par => []
def Fs.nms : Fs → List Bys
  | .one _ t => t.nms
  | .more _ t fs => t.nms ++ fs.nms
end
mutual
theorem Ty.nms_sub (x : Bys) : ∀ T A : Ty, x ∈ (T.sub A).nms ↔ x ∈ T.nms ∨ (T.op = true ∧ x ∈ A.nms)
  | .int, _ => by simp [Ty.sub, Ty.nms, Ty.op]
  | .bool, _ => by simp [Ty.sub, Ty.nms, Ty.op]
  | .null, _ => by simp [Ty.sub, Ty.nms, Ty.op]
  | .par, _ => by simp [Ty.sub, Ty.nms, Ty.op]
  | .nam _, _ => by simp [Ty.sub, Ty.nms, Ty.op]
  | .arr t, A => by simp only [Ty.sub, Ty.nms, Ty.op]; exact Ty.nms_sub x t A
  | .app n t, A => by
    have := Ty.nms_sub x t A
    simp only [Ty.sub, Ty.nms, Ty.op, List.mem_cons, this, or_assoc]
  | .rcd _ fs, A => by simp only [Ty.sub, Ty.nms, Ty.op]; exact Fs.nms_sub x fs A
theorem Fs.nms_sub (x : Bys) : ∀ (F : Fs) (A : Ty), x ∈ (F.sub A).nms ↔ x ∈ F.nms ∨ (F.op = true ∧ x ∈ A.nms)
  | .one _ t, A => by simp only [Fs.sub, Fs.nms, Fs.op]; exact Ty.nms_sub x t A
  | .more _ t fs, A => by
    have h1 := Ty.nms_sub x t A
    have h2 := Fs.nms_sub x fs A
    simp only [Fs.sub, Fs.nms, Fs.op, List.mem_append, Bool.or_eq_true, h1, h2]
    constructor
    · rintro ((h | h) | h | h)
      · exact .inl (.inl h)
      · exact .inr ⟨.inl h.1, h.2⟩
      · exact .inl (.inr h)
      · exact .inr ⟨.inr h.1, h.2⟩
    · rintro ((h | h) | ⟨h | h, k⟩)
      · exact .inl (.inl h)
      · exact .inr (.inl h)
      · exact .inl (.inr ⟨h, k⟩)
      · exact .inr (.inr ⟨h, k⟩)
end
/-- Each text once, ascending. -/
def ascOf (l : List Bys) : List Bys := sortK id (dedup l)
theorem dedup_nodup (l : List Bys) : (dedup l).Nodup := by
  suffices ∀ n (l : List Bys), l.length = n → (dedup l).Nodup from this _ l rfl
  intro n
  induction n with
  | zero => intro l h; rw [List.length_eq_zero_iff.1 h]; exact List.Pairwise.nil
  | succ n ih =>
    intro l h
    obtain ⟨l', y, rfl⟩ : ∃ l' y, l = l' ++ [y] := ⟨l.dropLast, l.getLast (by rintro rfl; cases h), (List.dropLast_concat_getLast _).symm⟩
    have := ih l' (by simpa using h)
    rw [dedup_snoc]
    split
    · exact this
    · rename_i hy
      rw [List.nodup_append]
      refine ⟨this, by simp, fun a ha b hb e => ?_⟩
      simp at hb
      subst hb e
      exact hy ha
theorem ascOf_asc (l : List Bys) : Asc id (ascOf l) := sortK_asc (by simpa using dedup_nodup l)
theorem ascOf_mem (l : List Bys) (x : Bys) : x ∈ ascOf l ↔ x ∈ l := by
  unfold ascOf
  rw [sortK_mem (by simpa using dedup_nodup l), dedup_mem]
theorem ascOf_unique {l m : List Bys} (hm : Asc id m) (h : ∀ x, x ∈ l ↔ x ∈ m) : ascOf l = m :=
  Asc.unique (ascOf_asc l) hm fun z => (ascOf_mem l z).trans (h z)

def namesT (t : Bys) : List Bys × Int :=
  if chk t ≠ 0 then ([], chk t)
  else match tyOf t with
    | none => ([], 0)
    | some T => (ascOf T.nms, 0)
theorem namesT_good {T : Ty} (h : Good T) : namesT T.pr = (ascOf T.nms, 0) := by
  unfold namesT
  rw [if_neg (by rw [h.chk]; omega), h.tyOf]
theorem namesT_err (t : Bys) : (namesT t).2 = chk t := by
  unfold namesT
  split
  · rfl
  · split <;> (simp only; omega)
/-- The names of what is put together are those of the type, and those of the argument if the type is open. -/
theorem names_with {t a x : Bys} (h : withT t a = (x, 0)) (y : Bys) : y ∈ (namesT x).1 ↔ y ∈ (namesT t).1 ∨ (t.contains 63 = true ∧ y ∈ (namesT a).1) := by
  obtain ⟨h1, h2, h3, h4⟩ := withT_ok h
  obtain ⟨T, A, hT, hA, rfl, rfl, e1, w1⟩ := repl_good h1 h2
  rw [e1] at h3
  subst h3
  rw [namesT_good (chk_wf w1 h4), namesT_good hT, namesT_good hA, ← Ty.op_pr T hT.wf]
  simp only [ascOf_mem]
  exact Ty.nms_sub y T A
theorem names_asc (t : Bys) : Asc id (namesT t).1 := by
  unfold namesT
  split
  · exact List.Pairwise.nil
  · split
    · exact List.Pairwise.nil
    · exact ascOf_asc _

/-- The kind of a type, as its number. -/
def Ty.kind : Ty → Int
  | .int => 1
  | .bool => 2
  | .null => 3
  | .arr _ => 4
  | .rcd o _ => cond o 6 5
  | .nam _ => 7
  | .app _ _ => 7
  | .par => 8
def ofT {α : Type} (zero : α) (f : Ty → α × Int) (t : Bys) : α × Int :=
  if chk t ≠ 0 then (zero, chk t)
  else match tyOf t with
    | none => (zero, 0)
    | some T => f T
theorem ofT_good {α : Type} {zero : α} {f : Ty → α × Int} {T : Ty} (h : Good T) : ofT zero f T.pr = f T := by
  unfold ofT
  rw [if_neg (by rw [h.chk]; omega), h.tyOf]
theorem ofT_err {α : Type} {zero : α} {f : Ty → α × Int} {t : Bys} (h : chk t ≠ 0) : ofT zero f t = (zero, chk t) := by
  unfold ofT; rw [if_pos h]
def Fs.list : Fs → List (Bys × Ty)
  | .one n t => [(n, t)]
  | .more n t fs => (n, t) :: fs.list
def kindT : Bys → Int × Int := ofT 0 fun T => (T.kind, 0)
def argF : Ty → (Bys × Bool) × Int
  | .arr t => ((t.pr, true), 0)
  | .app _ t => ((t.pr, true), 0)
  | .nam _ => (([], false), 0)
  | _ => (([], false), 30)
def argT : Bys → (Bys × Bool) × Int := ofT ([], false) argF
def baseF : Ty → Bys × Int
  | .nam n => (n, 0)
  | .app n _ => (n, 0)
  | _ => ([], 30)
def baseT : Bys → Bys × Int := ofT [] baseF
def partsF : Ty → List (Bys × Bys) × Int
  | .rcd _ fs => (fs.list.map fun p => (p.1, p.2.pr), 0)
  | _ => ([], 30)
def partsT : Bys → List (Bys × Bys) × Int := ofT [] partsF
/-- A text of the form of a type, if it is not too long and has not too many levels. -/
def limT (x : Bys) : Bys × Int := if chk x ≠ 0 then ([], 2) else (x, 0)
def arrayT (t : Bys) : Bys × Int := if chk t ≠ 0 then ([], chk t) else limT (kArray ++ 91 :: (t ++ [93]))
def namedT (n a : Bys) : Bys × Int :=
  if isNameL n = false then ([], 1) else if a = [] then (n, 0) else if chk a ≠ 0 then ([], chk a) else limT (n ++ 91 :: (a ++ [93]))
def partsTxt : List (Bys × Bys) → Bys
  | [] => [93]
  | [p] => p.1 ++ 58 :: (p.2 ++ [93])
  | p :: q :: l => p.1 ++ 58 :: (p.2 ++ 44 :: partsTxt (q :: l))
def madeT (o : Bool) (l : List (Bys × Bys)) : Bys × Int :=
  if l.length < 1 ∨ 6 < l.length then ([], 1)
  else if (l.all fun p => isNameL p.1) = false then ([], 1)
  else match l.find? fun p => chk p.2 != 0 with
    | some p => ([], chk p.2)
    | none => if ¬ (l.map Prod.fst).Nodup then ([], 6) else limT (rcdWord o ++ 91 :: partsTxt (sortK Prod.fst l))

theorem partsTxt_list : ∀ F : Fs, partsTxt (F.list.map fun p => (p.1, p.2.pr)) = F.pr
  | .one n t => rfl
  | .more n t fs => by
    have ih := partsTxt_list fs
    cases fs with
    | one m u => simp [Fs.list, partsTxt, Fs.pr]
    | more m u gs =>
      simp only [Fs.list, List.map_cons, partsTxt, Fs.pr] at ih ⊢
      rw [ih]
theorem Fs.list_wf : ∀ (F : Fs) (b : Bys), F.wf b → (∀ p ∈ F.list, isNameL p.1 = true ∧ b < p.1 ∧ p.2.wf ∧ p.2.lev ≤ F.lev ∧ p.2.pr.length ≤ F.pr.length) ∧ Asc Prod.fst F.list
  | .one n t, b, h => by
    refine ⟨fun p hp => ?_, List.pairwise_singleton _ _⟩
    simp [Fs.list] at hp
    subst hp
    exact ⟨h.1, h.2.1, h.2.2, Nat.le_refl _, by simp only [Fs.pr, List.length_append, List.length_cons]; omega⟩
  | .more n t fs, b, h => by
    obtain ⟨k1, k2⟩ := Fs.list_wf fs n h.2.2.2
    refine ⟨fun p hp => ?_, List.pairwise_cons.2 ⟨fun p hp => (k1 p hp).2.1, k2⟩⟩
    rcases List.mem_cons.1 hp with rfl | hp
    · exact ⟨h.1, h.2.1, h.2.2.1, by simp only [Fs.lev]; omega, by simp only [Fs.pr, List.length_append, List.length_cons]; omega⟩
    · obtain ⟨a, b', c, d, e⟩ := k1 p hp
      exact ⟨a, bys_lt h.2.1 b', c, by simp only [Fs.lev]; omega, by simp only [Fs.pr, List.length_append, List.length_cons]; omega⟩
theorem Fs.list_len : ∀ F : Fs, F.list.length = F.count
  | .one _ _ => rfl
  | .more _ _ fs => by simp [Fs.list, Fs.count, Fs.list_len fs]
theorem Fs.count_pos : ∀ F : Fs, 1 ≤ F.count
  | .one _ _ => Nat.le_refl _
  | .more _ _ fs => by simp [Fs.count]

/-- A record of its parts, in whatever order they are given, is the record. -/
theorem made_back {o : Bool} {F : Fs} (h : Good (.rcd o F)) {m : List (Bys × Bys)} (hlen : m.length = F.count) (hm : ∀ z, z ∈ m ↔ z ∈ (partsT (Ty.rcd o F).pr).1) (hd : (m.map Prod.fst).Nodup) :
    madeT o m = ((Ty.rcd o F).pr, 0) := by
  have hp : (partsT (Ty.rcd o F).pr).1 = F.list.map fun p => (p.1, p.2.pr) := by
    unfold partsT; rw [ofT_good h]; rfl
  rw [hp] at hm
  obtain ⟨hw, hc⟩ := h.wf
  obtain ⟨k1, k2⟩ := Fs.list_wf F [] hw
  have hpos := F.count_pos
  have hname : ∀ p ∈ m, isNameL p.1 = true ∧ chk p.2 = 0 := fun p hpm => by
    obtain ⟨q, hq, rfl⟩ := List.mem_map.1 ((hm p).1 hpm)
    obtain ⟨a, _, c, d, e⟩ := k1 q hq
    have hl := h.len
    have hv := h.lev
    simp only [Ty.pr, List.length_append, List.length_cons, Ty.lev] at hl hv
    exact ⟨a, Good.chk ⟨c, by omega, by omega⟩⟩
  have hs : sortK Prod.fst m = F.list.map fun p => (p.1, p.2.pr) := by
    refine sortK_unique hd ?_ hm
    unfold Asc
    rw [List.pairwise_map]
    exact k2
  unfold madeT
  rw [if_neg (by omega), if_neg (by rw [List.all_eq_true.2 fun p hp => (hname p hp).1]; decide)]
  rw [List.find?_eq_none.2 fun p hp => by simp [(hname p hp).2]]
  simp only
  rw [if_neg (fun h => h hd), hs, partsTxt_list]
  show limT (Ty.rcd o F).pr = _
  unfold limT
  rw [if_neg (by rw [h.chk]; omega)]
end Go.Proofs.YthcoppfdffhjfaaGreatDoor
