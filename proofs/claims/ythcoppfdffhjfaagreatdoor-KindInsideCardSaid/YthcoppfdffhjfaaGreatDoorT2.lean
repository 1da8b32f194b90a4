/- The plain words of types, on: checking, putting a type in the parameter's place, and what is inside. -/
import Derived.Test.YthcoppfdffhjfaaGreatDoorT1
namespace Go.Proofs.YthcoppfdffhjfaaGreatDoor

theorem rd_two {f g : Nat} {T U : Ty} {r r' : List UInt8} (hT : T.wf) (hU : U.wf) (hf : T.lev ≤ f) (hg : U.lev ≤ g) (hr : Stop r) (hr' : Stop r') (h : T.pr ++ r = U.pr ++ r') : T = U ∧ r = r' := by
  have a := rdT_back (max f g) T hT (by omega) r hr
  have b := rdT_back (max f g) U hU (by omega) r' hr'
  rw [h, b] at a
  injection a with a
  injection a with a1 a2
  exact ⟨a1.symm, a2.symm⟩
theorem pr_two {T U : Ty} {r r' : List UInt8} (hT : T.wf) (hU : U.wf) (hr : Stop r) (hr' : Stop r') (h : T.pr ++ r = U.pr ++ r') : T = U ∧ r = r' :=
  rd_two hT hU (Nat.le_refl _) (Nat.le_refl _) hr hr' h
theorem pr_inj {T U : Ty} (hT : T.wf) (hU : U.wf) (h : T.pr = U.pr) : T = U :=
  (pr_two hT hU stop_nil stop_nil (by simpa using h)).1

theorem rcdWord_len (o : Bool) : 0 < (rcdWord o).length := by cases o <;> decide
mutual
theorem Ty.lev_len : ∀ T : Ty, T.wf → T.lev ≤ T.pr.length
  | .int, _ => by decide
  | .bool, _ => by decide
  | .null, _ => by decide
  | .par, _ => by decide
  | .nam n, h => by
    have := List.length_pos_iff.2 (name_ne h)
    simp only [Ty.lev, Ty.pr]; omega
  | .arr t, h => by
    have := t.lev_len h
    simp only [Ty.lev, Ty.pr, List.length_append, List.length_cons]; omega
  | .app n t, h => by
    have := t.lev_len h.2
    simp only [Ty.lev, Ty.pr, List.length_append, List.length_cons]; omega
  | .rcd o fs, h => by
    have := fs.lev_len _ h.1
    have := rcdWord_len o
    simp only [Ty.lev, Ty.pr, List.length_append, List.length_cons]; omega
theorem Fs.lev_len : ∀ (F : Fs) (b : List UInt8), F.wf b → F.lev ≤ F.pr.length
  | .one n t, _, h => by
    have := t.lev_len h.2.2
    simp only [Fs.lev, Fs.pr, List.length_append, List.length_cons]; omega
  | .more n t fs, _, h => by
    have := t.lev_len h.2.2.1
    have := fs.lev_len _ h.2.2.2
    simp only [Fs.lev, Fs.pr, List.length_append, List.length_cons]; omega
end
mutual
theorem Ty.lev_pos : ∀ T : Ty, 1 ≤ T.lev
  | .int => by decide
  | .bool => by decide
  | .null => by decide
  | .par => by decide
  | .nam _ => Nat.le_refl _
  | .arr t => by simp only [Ty.lev]; omega
  | .app _ t => by simp only [Ty.lev]; omega
  | .rcd _ fs => by simp only [Ty.lev]; omega
theorem Fs.lev_pos : ∀ F : Fs, 1 ≤ F.lev
  | .one _ t => t.lev_pos
  | .more _ t _ => by have := t.lev_pos; simp only [Fs.lev]; omega
end

/-- The type that a text is, if it is one. -/
def tyOf (t : List UInt8) : Option Ty :=
  match rdT 101 t with
  | some (T, []) => some T
  | _ => none
theorem tyOf_pr {T : Ty} (h : T.wf) (hl : T.lev ≤ 101) : tyOf T.pr = some T := by
  have := rdT_back 101 T h hl [] stop_nil
  rw [List.append_nil] at this
  simp [tyOf, this]
theorem tyOf_some {t : List UInt8} {T : Ty} (h : tyOf t = some T) : t = T.pr ∧ T.wf := by
  unfold tyOf at h
  split at h
  · rename_i U q
    injection h with h
    subst h
    obtain ⟨a, b⟩ := rdT_sound _ _ _ _ q
    exact ⟨by simpa using a, b⟩
  · cases h

/-- The error of a text: 0, 2 or 4. -/
def chk (t : List UInt8) : Int :=
  if 100 < t.length then 2
  else match tyOf t with
    | none => 4
    | some T => if 6 < T.lev then 2 else 0
structure Good (T : Ty) : Prop where
  wf : T.wf
  len : T.pr.length ≤ 100
  lev : T.lev ≤ 6
theorem chk_pr {T : Ty} (h : T.wf) : chk T.pr = if 100 < T.pr.length ∨ 6 < T.lev then 2 else 0 := by
  unfold chk
  by_cases hl : 100 < T.pr.length
  · rw [if_pos hl, if_pos (.inl hl)]
  · have := T.lev_len h
    rw [if_neg hl, tyOf_pr h (by omega)]
    simp only
    by_cases h6 : 6 < T.lev
    · rw [if_pos h6, if_pos (.inr h6)]
    · rw [if_neg h6, if_neg (by omega)]
theorem Good.chk {T : Ty} (h : Good T) : chk T.pr = 0 := by
  have := h.len
  have := h.lev
  rw [chk_pr h.wf, if_neg (by omega)]
theorem Good.tyOf {T : Ty} (h : Good T) : tyOf T.pr = some T := tyOf_pr h.wf (by have := h.lev; omega)
theorem chk_ok {t : List UInt8} (h : chk t = 0) : ∃ T, Good T ∧ t = T.pr := by
  unfold chk at h
  split at h
  · cases h
  · split at h
    · cases h
    · rename_i hl T hT
      obtain ⟨rfl, hw⟩ := tyOf_some hT
      split at h
      · cases h
      · exact ⟨T, ⟨hw, by omega, by omega⟩, rfl⟩
theorem chk_wf {T : Ty} (h : T.wf) (h0 : chk T.pr = 0) : Good T := by
  rw [chk_pr h] at h0
  split at h0
  · cases h0
  · exact ⟨h, by omega, by omega⟩
theorem chk_wf_ne {T : Ty} (h : T.wf) (h0 : chk T.pr ≠ 0) : chk T.pr = 2 := by
  rw [chk_pr h] at h0 ⊢
  split
  · rfl
  · rename_i q; rw [if_neg q] at h0; exact absurd rfl h0

mutual
/-- A type with another one in the place of the parameter. -/
def Ty.sub : Ty → Ty → Ty
  | .arr t, A => .arr (t.sub A)
  | .rcd o fs, A => .rcd o (fs.sub A)
  | .app n t, A => .app n (t.sub A)
  | .par, A => A
  | .int, _ => .int
  | .bool, _ => .bool
  | .null, _ => .null
  | .nam n, _ => .nam n
def Fs.sub : Fs → Ty → Fs
  | .one n t, A => .one n (t.sub A)
  | .more n t fs, A => .more n (t.sub A) (fs.sub A)
end
mutual
/-- Whether the parameter is inside. -/
def Ty.op : Ty → Bool
  | .arr t => t.op
  | .rcd _ fs => fs.op
  | .app _ t => t.op
  | .par => true
  | .int => false
  | .bool => false
  | .null => false
  | .nam _ => false
def Fs.op : Fs → Bool
  | .one _ t => t.op
  | .more _ t fs => t.op || fs.op
end
theorem Fs.count_sub (A : Ty) : ∀ F : Fs, (F.sub A).count = F.count
  | .one _ _ => rfl
  | .more _ _ fs => by simp only [Fs.sub, Fs.count, Fs.count_sub A fs]
mutual
theorem Ty.wf_sub {A : Ty} (hA : A.wf) : ∀ T : Ty, T.wf → (T.sub A).wf
  | .int, _ => trivial
  | .bool, _ => trivial
  | .null, _ => trivial
  | .par, _ => hA
  | .nam _, h => h
  | .arr t, h => Ty.wf_sub hA t h
  | .app _ t, h => ⟨h.1, Ty.wf_sub hA t h.2⟩
  | .rcd _ fs, h => ⟨Fs.wf_sub hA fs _ h.1, by rw [Fs.count_sub]; exact h.2⟩
theorem Fs.wf_sub {A : Ty} (hA : A.wf) : ∀ (F : Fs) (b : List UInt8), F.wf b → (F.sub A).wf b
  | .one _ t, _, h => ⟨h.1, h.2.1, Ty.wf_sub hA t h.2.2⟩
  | .more _ t fs, _, h => ⟨h.1, h.2.1, Ty.wf_sub hA t h.2.2.1, Fs.wf_sub hA fs _ h.2.2.2⟩
end
mutual
theorem Ty.lev_sub (A : Ty) : ∀ T : Ty, (T.sub A).lev + 1 ≤ T.lev + A.lev
  | .int => by have := A.lev_pos; simp only [Ty.sub, Ty.lev]; omega
  | .bool => by have := A.lev_pos; simp only [Ty.sub, Ty.lev]; omega
  | .null => by have := A.lev_pos; simp only [Ty.sub, Ty.lev]; omega
  | .par => by simp only [Ty.sub, Ty.lev]; omega
  | .nam _ => by have := A.lev_pos; simp only [Ty.sub, Ty.lev]; omega
  | .arr t => by have := Ty.lev_sub A t; simp only [Ty.sub, Ty.lev]; omega
  | .app _ t => by have := Ty.lev_sub A t; simp only [Ty.sub, Ty.lev]; omega
  | .rcd _ fs => by have := Fs.lev_sub A fs; simp only [Ty.sub, Ty.lev]; omega
theorem Fs.lev_sub (A : Ty) : ∀ F : Fs, (F.sub A).lev + 1 ≤ F.lev + A.lev
  | .one _ t => Ty.lev_sub A t
  | .more _ t fs => by have := Ty.lev_sub A t; have := Fs.lev_sub A fs; simp only [Fs.sub, Fs.lev]; omega
end
mutual
theorem Ty.sub_sub (A B : Ty) : ∀ T : Ty, (T.sub A).sub B = T.sub (A.sub B)
  | .int => rfl
  | .bool => rfl
  | .null => rfl
  | .par => rfl
  | .nam _ => rfl
  | .arr t => by simp only [Ty.sub, Ty.sub_sub A B t]
  | .app _ t => by simp only [Ty.sub, Ty.sub_sub A B t]
  | .rcd _ fs => by simp only [Ty.sub, Fs.sub_sub A B fs]
theorem Fs.sub_sub (A B : Ty) : ∀ F : Fs, (F.sub A).sub B = F.sub (A.sub B)
  | .one _ t => by simp only [Fs.sub, Ty.sub_sub A B t]
  | .more _ t fs => by simp only [Fs.sub, Ty.sub_sub A B t, Fs.sub_sub A B fs]
end
mutual
theorem Ty.sub_par : ∀ T : Ty, T.sub .par = T
  | .int => rfl
  | .bool => rfl
  | .null => rfl
  | .par => rfl
  | .nam _ => rfl
  | .arr t => by simp only [Ty.sub, t.sub_par]
  | .app _ t => by simp only [Ty.sub, t.sub_par]
  | .rcd _ fs => by simp only [Ty.sub, fs.sub_par]
theorem Fs.sub_par : ∀ F : Fs, F.sub .par = F
  | .one _ t => by simp only [Fs.sub, t.sub_par]
  | .more _ t fs => by simp only [Fs.sub, t.sub_par, fs.sub_par]
end
mutual
theorem Ty.sub_closed (A : Ty) : ∀ T : Ty, T.op = false → T.sub A = T
  | .int, _ => rfl
  | .bool, _ => rfl
  | .null, _ => rfl
  | .par, h => by cases h
  | .nam _, _ => rfl
  | .arr t, h => by simp only [Ty.sub, Ty.sub_closed A t h]
  | .app _ t, h => by simp only [Ty.sub, Ty.sub_closed A t h]
  | .rcd _ fs, h => by simp only [Ty.sub, Fs.sub_closed A fs h]
theorem Fs.sub_closed (A : Ty) : ∀ F : Fs, F.op = false → F.sub A = F
  | .one _ t, h => by simp only [Fs.sub, Ty.sub_closed A t h]
  | .more _ t fs, h => by
    simp only [Fs.op, Bool.or_eq_false_iff] at h
    simp only [Fs.sub, Ty.sub_closed A t h.1, Fs.sub_closed A fs h.2]
end
mutual
theorem Ty.sub_inj (A B : Ty) : ∀ T : Ty, T.op = true → T.sub A = T.sub B → A = B
  | .int, h, _ => by cases h
  | .bool, h, _ => by cases h
  | .null, h, _ => by cases h
  | .par, _, h => h
  | .nam _, h, _ => by cases h
  | .arr t, h, e => by simp only [Ty.sub, Ty.arr.injEq] at e; exact Ty.sub_inj A B t h e
  | .app _ t, h, e => by simp only [Ty.sub, Ty.app.injEq] at e; exact Ty.sub_inj A B t h e.2
  | .rcd _ fs, h, e => by simp only [Ty.sub, Ty.rcd.injEq] at e; exact Fs.sub_inj A B fs h e.2
theorem Fs.sub_inj (A B : Ty) : ∀ F : Fs, F.op = true → F.sub A = F.sub B → A = B
  | .one _ t, h, e => by simp only [Fs.sub, Fs.one.injEq] at e; exact Ty.sub_inj A B t h e.2
  | .more _ t fs, h, e => by
    simp only [Fs.op, Bool.or_eq_true] at h
    simp only [Fs.sub, Fs.more.injEq] at e
    rcases h with h | h
    · exact Ty.sub_inj A B t h e.2.1
    · exact Fs.sub_inj A B fs h e.2.2
end
mutual
theorem Ty.lev_arg (A : Ty) : ∀ T : Ty, T.op = true → A.lev ≤ (T.sub A).lev
  | .int, h => by cases h
  | .bool, h => by cases h
  | .null, h => by cases h
  | .par, _ => Nat.le_refl _
  | .nam _, h => by cases h
  | .arr t, h => by have := Ty.lev_arg A t h; simp only [Ty.sub, Ty.lev]; omega
  | .app _ t, h => by have := Ty.lev_arg A t h; simp only [Ty.sub, Ty.lev]; omega
  | .rcd _ fs, h => by have := Fs.lev_arg A fs h; simp only [Ty.sub, Ty.lev]; omega
theorem Fs.lev_arg (A : Ty) : ∀ F : Fs, F.op = true → A.lev ≤ (F.sub A).lev
  | .one _ t, h => Ty.lev_arg A t h
  | .more _ t fs, h => by
    simp only [Fs.op, Bool.or_eq_true] at h
    rcases h with h | h
    · have := Ty.lev_arg A t h; simp only [Fs.sub, Fs.lev]; omega
    · have := Fs.lev_arg A fs h; simp only [Fs.sub, Fs.lev]; omega
end
mutual
theorem Ty.len_arg (A : Ty) : ∀ T : Ty, T.op = true → A.pr.length ≤ (T.sub A).pr.length
  | .int, h => by cases h
  | .bool, h => by cases h
  | .null, h => by cases h
  | .par, _ => Nat.le_refl _
  | .nam _, h => by cases h
  | .arr t, h => by have := Ty.len_arg A t h; simp only [Ty.sub, Ty.pr, List.length_append, List.length_cons]; omega
  | .app _ t, h => by have := Ty.len_arg A t h; simp only [Ty.sub, Ty.pr, List.length_append, List.length_cons]; omega
  | .rcd _ fs, h => by have := Fs.len_arg A fs h; simp only [Ty.sub, Ty.pr, List.length_append, List.length_cons]; omega
theorem Fs.len_arg (A : Ty) : ∀ F : Fs, F.op = true → A.pr.length ≤ (F.sub A).pr.length
  | .one _ t, h => by have := Ty.len_arg A t h; simp only [Fs.sub, Fs.pr, List.length_append, List.length_cons]; omega
  | .more _ t fs, h => by
    simp only [Fs.op, Bool.or_eq_true] at h
    rcases h with h | h
    · have := Ty.len_arg A t h; simp only [Fs.sub, Fs.pr, List.length_append, List.length_cons]; omega
    · have := Fs.len_arg A fs h; simp only [Fs.sub, Fs.pr, List.length_append, List.length_cons]; omega
end
mutual
theorem Ty.wf_arg (A : Ty) : ∀ T : Ty, T.op = true → (T.sub A).wf → A.wf
  | .int, h, _ => by cases h
  | .bool, h, _ => by cases h
  | .null, h, _ => by cases h
  | .par, _, w => w
  | .nam _, h, _ => by cases h
  | .arr t, h, w => Ty.wf_arg A t h w
  | .app _ t, h, w => Ty.wf_arg A t h w.2
  | .rcd _ fs, h, w => Fs.wf_arg A fs _ h w.1
theorem Fs.wf_arg (A : Ty) : ∀ (F : Fs) (b : List UInt8), F.op = true → (F.sub A).wf b → A.wf
  | .one _ t, _, h, w => Ty.wf_arg A t h w.2.2
  | .more _ t fs, _, h, w => by
    simp only [Fs.op, Bool.or_eq_true] at h
    rcases h with h | h
    · exact Ty.wf_arg A t h w.2.2.1
    · exact Fs.wf_arg A fs _ h w.2.2.2
end

theorem no63_ld {n : List UInt8} (h : ∀ c ∈ n, ld c = true) : ∀ c ∈ n, c ≠ 63 := fun c hc e => by
  have := h c hc
  subst e
  revert this; decide
theorem no63_rcd (o : Bool) : ∀ c ∈ rcdWord o, c ≠ 63 := no63_ld (rcdWord_ld o)

/-- A text in which another one stands in the place of each question mark and what is behind it. -/
def repl (a : List UInt8) : List UInt8 → List UInt8
  | [] => []
  | [c] => if c = 63 then a else [c]
  | c :: d :: r => if c = 63 then a ++ repl a r else c :: repl a (d :: r)
theorem repl_cons {c : UInt8} (a r : List UInt8) (h : c ≠ 63) : repl a (c :: r) = c :: repl a r := by
  cases r with
  | nil => simp [repl, h]
  | cons d r => simp [repl, h]
theorem repl_app {n : List UInt8} (a r : List UInt8) (h : ∀ c ∈ n, c ≠ 63) : repl a (n ++ r) = n ++ repl a r := by
  induction n with
  | nil => rfl
  | cons c n ih =>
    rw [List.cons_append, repl_cons _ _ (h c (by simp)), ih (fun d hd => h d (by simp [hd]))]
    rfl
mutual
theorem Ty.repl_pr (A : Ty) : ∀ (T : Ty) (r : List UInt8), T.wf → repl A.pr (T.pr ++ r) = (T.sub A).pr ++ repl A.pr r
  | .int, r, _ => repl_app (n := kInt) _ _ (by decide)
  | .bool, r, _ => repl_app (n := kBool) _ _ (by decide)
  | .null, r, _ => repl_app (n := kNull) _ _ (by decide)
  | .par, r, _ => by simp [Ty.pr, Ty.sub, repl]
  | .nam n, r, h => repl_app (n := n) _ _ (no63_ld (name_ld h))
  | .arr t, r, h => by
    have e : (Ty.arr t).pr ++ r = kArray ++ 91 :: (t.pr ++ 93 :: r) := by simp [Ty.pr]
    rw [e, repl_app _ _ (by decide), repl_cons _ _ (by decide), Ty.repl_pr A t _ h, repl_cons _ _ (by decide)]
    simp [Ty.pr, Ty.sub]
  | .app n t, r, h => by
    have e : (Ty.app n t).pr ++ r = n ++ 91 :: (t.pr ++ 93 :: r) := by simp [Ty.pr]
    rw [e, repl_app _ _ (no63_ld (name_ld h.1)), repl_cons _ _ (by decide), Ty.repl_pr A t _ h.2, repl_cons _ _ (by decide)]
    simp [Ty.pr, Ty.sub]
  | .rcd o fs, r, h => by
    have e : (Ty.rcd o fs).pr ++ r = rcdWord o ++ 91 :: (fs.pr ++ r) := by simp [Ty.pr]
    rw [e, repl_app _ _ (no63_rcd o), repl_cons _ _ (by decide), Fs.repl_pr A fs _ _ h.1]
    simp [Ty.pr, Ty.sub]
theorem Fs.repl_pr (A : Ty) : ∀ (F : Fs) (b r : List UInt8), F.wf b → repl A.pr (F.pr ++ r) = (F.sub A).pr ++ repl A.pr r
  | .one n t, _, r, h => by
    have e : (Fs.one n t).pr ++ r = n ++ 58 :: (t.pr ++ 93 :: r) := by simp [Fs.pr]
    rw [e, repl_app _ _ (no63_ld (name_ld h.1)), repl_cons _ _ (by decide), Ty.repl_pr A t _ h.2.2, repl_cons _ _ (by decide)]
    simp [Fs.pr, Fs.sub]
  | .more n t fs, _, r, h => by
    have e : (Fs.more n t fs).pr ++ r = n ++ 58 :: (t.pr ++ 44 :: (fs.pr ++ r)) := by simp [Fs.pr]
    rw [e, repl_app _ _ (no63_ld (name_ld h.1)), repl_cons _ _ (by decide), Ty.repl_pr A t _ h.2.2.1, repl_cons _ _ (by decide), Fs.repl_pr A fs _ _ h.2.2.2]
    simp [Fs.pr, Fs.sub]
end
theorem repl_ty (A T : Ty) (h : T.wf) : repl A.pr T.pr = (T.sub A).pr := by
  have := Ty.repl_pr A T [] h
  simpa [repl] using this

mutual
theorem Ty.op_pr : ∀ T : Ty, T.wf → T.op = T.pr.contains 63
  | .int, _ => by decide
  | .bool, _ => by decide
  | .null, _ => by decide
  | .par, _ => by decide
  | .nam n, h => by
    have : (63 : UInt8) ∉ n := fun hc => no63_ld (name_ld h) _ hc rfl
    simp [Ty.op, Ty.pr, this]
  | .arr t, h => by
    have : (63 : UInt8) ∉ kArray := by decide
    simp [Ty.op, Ty.pr, t.op_pr h, this]
  | .app n t, h => by
    have : (63 : UInt8) ∉ n := fun hc => no63_ld (name_ld h.1) _ hc rfl
    simp [Ty.op, Ty.pr, t.op_pr h.2, this]
  | .rcd o fs, h => by
    have : (63 : UInt8) ∉ rcdWord o := fun hc => no63_rcd o _ hc rfl
    simp [Ty.op, Ty.pr, fs.op_pr _ h.1, this]
theorem Fs.op_pr : ∀ (F : Fs) (b : List UInt8), F.wf b → F.op = F.pr.contains 63
  | .one n t, _, h => by
    have : (63 : UInt8) ∉ n := fun hc => no63_ld (name_ld h.1) _ hc rfl
    simp [Fs.op, Fs.pr, t.op_pr h.2.2, this]
  | .more n t fs, _, h => by
    have : (63 : UInt8) ∉ n := fun hc => no63_ld (name_ld h.1) _ hc rfl
    simp [Fs.op, Fs.pr, t.op_pr h.2.2.1, fs.op_pr _ h.2.2.2, this]
end
end Go.Proofs.YthcoppfdffhjfaaGreatDoor
