/- The plain words of types against the library's: where the parameter stands, what is put in its place, what stands ahead of a bracket. -/
import Derived.Test.YthcoppfdffhjfaaGreatDoorT5
import Derived.Lib.Replace
import Derived.Lib.IndexMore
namespace Go.Proofs.YthcoppfdffhjfaaGreatDoor
open Go

/-- Behind each question mark stands a t. -/
def qOK : Bys → Bool
  | [] => true
  | [c] => c != 63
  | c :: d :: r => if c = 63 then d == 116 && qOK r else qOK (d :: r)
theorem qOK_cons {c : UInt8} (r : Bys) (h : c ≠ 63) : qOK (c :: r) = qOK r := by
  cases r with
  | nil => simp [qOK, h]
  | cons d r => simp [qOK, h]
theorem qOK_app {n : Bys} (r : Bys) (h : ∀ c ∈ n, c ≠ 63) : qOK (n ++ r) = qOK r := by
  induction n with
  | nil => rfl
  | cons c n ih => rw [List.cons_append, qOK_cons _ (h c (by simp)), ih fun d hd => h d (by simp [hd])]
mutual
theorem Ty.qOK_pr : ∀ (T : Ty) (r : Bys), T.wf → qOK (T.pr ++ r) = qOK r
  | .int, r, _ => qOK_app (n := kInt) _ (by decide)
  | .bool, r, _ => qOK_app (n := kBool) _ (by decide)
  | .null, r, _ => qOK_app (n := kNull) _ (by decide)
  | .par, r, _ => by show qOK (63 :: 116 :: r) = _; simp [qOK]
  | .nam n, r, h => qOK_app _ (no63_ld (name_ld h))
  | .arr t, r, h => by
    have e : (Ty.arr t).pr ++ r = kArray ++ 91 :: (t.pr ++ 93 :: r) := by simp [Ty.pr]
    rw [e, qOK_app _ (by decide), qOK_cons _ (by decide), Ty.qOK_pr t _ h, qOK_cons _ (by decide)]
  | .app n t, r, h => by
    have e : (Ty.app n t).pr ++ r = n ++ 91 :: (t.pr ++ 93 :: r) := by simp [Ty.pr]
    rw [e, qOK_app _ (no63_ld (name_ld h.1)), qOK_cons _ (by decide), Ty.qOK_pr t _ h.2, qOK_cons _ (by decide)]
  | .rcd o fs, r, h => by
    have e : (Ty.rcd o fs).pr ++ r = rcdWord o ++ 91 :: (fs.pr ++ r) := by simp [Ty.pr]
    rw [e, qOK_app _ (no63_rcd o), qOK_cons _ (by decide), Fs.qOK_pr fs [] r h.1]
theorem Fs.qOK_pr : ∀ (F : Fs) (b r : Bys), F.wf b → qOK (F.pr ++ r) = qOK r
  | .one n t, b, r, h => by
    have e : (Fs.one n t).pr ++ r = n ++ 58 :: (t.pr ++ 93 :: r) := by simp [Fs.pr]
    rw [e, qOK_app _ (no63_ld (name_ld h.1)), qOK_cons _ (by decide), Ty.qOK_pr t _ h.2.2, qOK_cons _ (by decide)]
  | .more n t fs, b, r, h => by
    have e : (Fs.more n t fs).pr ++ r = n ++ 58 :: (t.pr ++ 44 :: (fs.pr ++ r)) := by simp [Fs.pr]
    rw [e, qOK_app _ (no63_ld (name_ld h.1)), qOK_cons _ (by decide), Ty.qOK_pr t _ h.2.2.1, qOK_cons _ (by decide), Fs.qOK_pr fs n r h.2.2.2]
end
theorem qOK_ty {T : Ty} (h : T.wf) : qOK T.pr = true := by
  have := T.qOK_pr [] h
  rwa [List.append_nil] at this

/-- Where the parameter first stands. -/
theorem index_qt : ∀ (l : Bys), qOK l = true → (Lib.index l qt = -1 ∧ (63 : UInt8) ∉ l) ∨ ∃ n r : Bys, l = n ++ 63 :: 116 :: r ∧ (∀ c ∈ n, c ≠ 63) ∧ Lib.index l qt = (n.length : Nat) ∧ qOK r = true
  | [], _ => .inl ⟨rfl, by simp⟩
  | [c], h => by
    have hc : c ≠ 63 := by simpa [qOK] using h
    refine .inl ⟨?_, by simpa using fun e => hc e.symm⟩
    unfold Lib.index
    have : qt.isPrefixOf [c] = false := by simp [qt, List.isPrefixOf]
    rw [this]; rfl
  | c :: d :: r, h => by
    by_cases hc : c = 63
    · subst hc
      simp only [qOK, if_true, Bool.and_eq_true, beq_iff_eq] at h
      obtain ⟨rfl, h⟩ := h
      exact .inr ⟨[], r, rfl, by simp, by unfold Lib.index; simp [qt, List.isPrefixOf], h⟩
    · have h2 : qOK (d :: r) = true := by rw [← qOK_cons (d :: r) hc]; exact h
      have hp : qt.isPrefixOf (c :: d :: r) = false := by
        simp only [qt, List.isPrefixOf, Bool.and_eq_false_iff]
        exact .inl (by simpa using fun e => hc e.symm)
      rcases index_qt (d :: r) h2 with ⟨h3, h4⟩ | ⟨n, r', e, h4, h5, h6⟩
      · refine .inl ⟨?_, fun hm => ?_⟩
        · unfold Lib.index; rw [hp, h3]; rfl
        · rcases List.mem_cons.1 hm with e | hm
          · exact hc e.symm
          · exact h4 hm
      · refine .inr ⟨c :: n, r', by rw [e]; rfl, fun x hx => ?_, ?_, h6⟩
        · rcases List.mem_cons.1 hx with rfl | hx
          · exact hc
          · exact h4 x hx
        · unfold Lib.index
          rw [hp, h5]
          have : (((n.length : Nat) : Int) == -1) = false := by simp
          rw [this]
          simp
theorem contains_qt {l : Bys} (h : qOK l = true) : Lib.contains l qt = l.contains 63 := by
  unfold Lib.contains
  rcases index_qt l h with ⟨h1, h2⟩ | ⟨n, r, e, _, h2, _⟩
  · rw [h1]
    have : l.contains 63 = false := by rw [← Bool.not_eq_true, List.contains_iff_mem]; exact h2
    rw [this]; rfl
  · rw [h2]
    have : l.contains 63 = true := by rw [List.contains_iff_mem, e]; simp
    rw [this]
    simp
theorem repl_none {a : Bys} : ∀ {l : Bys}, (63 : UInt8) ∉ l → repl a l = l
  | [], _ => rfl
  | c :: l, h => by
    rw [repl_cons _ _ (fun e => h (by simp [e])), repl_none fun hm => h (by simp [hm])]
theorem replaceK_qt (a : Bys) : ∀ (f : Nat) (l : Bys), qOK l = true → l.length ≤ f → Lib.replaceK qt a (Lib.countFrom qt (f + 1) l) l = repl a l := by
  intro f
  induction f with
  | zero =>
    intro l h hf
    have : l = [] := List.length_eq_zero_iff.1 (by omega)
    subst this
    rfl
  | succ f ih =>
    intro l h hf
    rcases index_qt l h with ⟨h1, h2⟩ | ⟨n, r, e, h3, h2, h4⟩
    · unfold Lib.countFrom
      rw [h1]
      simp only [BEq.rfl, if_true, Lib.replaceK]
      exact (repl_none h2).symm
    · have hne : (Lib.index l qt == -1) = false := by rw [h2]; simp
      have hto : (Lib.index l qt).toNat = n.length := by rw [h2]; simp
      have hd : l.drop (n.length + qt.length) = r := by rw [e]; simp [qt, List.drop_append]
      have ht : l.take n.length = n := by rw [e]; simp
      conv => lhs; unfold Lib.countFrom
      rw [hne]
      simp only [Bool.false_eq_true, if_false]
      rw [Nat.add_comm 1, Lib.replaceK, hne]
      simp only [Bool.false_eq_true, if_false]
      rw [hto, hd, ht]
      have hl : l.length = n.length + (r.length + 1 + 1) := by rw [e]; simp
      rw [ih r h4 (by omega)]
      conv => rhs; rw [e, repl_app _ _ h3]
      have : repl a (63 :: 116 :: r) = a ++ repl a r := by simp [repl]
      rw [this, List.append_assoc]
theorem replaceAll_qt {T A : Ty} (h : T.wf) : Lib.replaceAll T.pr qt A.pr = repl A.pr T.pr := by
  unfold Lib.replaceAll Lib.replace
  by_cases e : qt = A.pr
  · rw [if_pos (by simpa using e), ← e, show qt = (Ty.par).pr from rfl, repl_ty .par T h, Ty.sub_par]
  · rw [if_neg (by simpa using e)]
    unfold Lib.replaceNum
    rw [if_pos (.inl (by decide))]
    exact replaceK_qt A.pr T.pr.length T.pr (qOK_ty h) (Nat.le_refl _)

/-- What stands ahead of the first bracket. -/
def frontOf : Ty → Bys
  | .int => kInt
  | .bool => kBool
  | .null => kNull
  | .par => qt
  | .arr _ => kArray
  | .rcd o _ => rcdWord o
  | .nam n => n
  | .app n _ => n
theorem index_91 : ∀ (n r : Bys), (∀ c ∈ n, c ≠ 91) → Lib.index (n ++ 91 :: r) [91] = (n.length : Nat)
  | [], r, _ => by unfold Lib.index; simp [List.isPrefixOf]
  | c :: n, r, h => by
    have hc : c ≠ 91 := h c (by simp)
    have ih := index_91 n r fun d hd => h d (by simp [hd])
    rw [List.cons_append]
    unfold Lib.index
    have hp : ([91] : Bys).isPrefixOf (c :: (n ++ 91 :: r)) = false := by simp [List.isPrefixOf]; exact fun e => hc e.symm
    rw [hp, ih]
    have : (((n.length : Nat) : Int) == -1) = false := by simp
    rw [this]
    simp
theorem index_no91 : ∀ (n : Bys), (∀ c ∈ n, c ≠ 91) → Lib.index n [91] = -1
  | [], _ => rfl
  | c :: n, h => by
    have hc : c ≠ 91 := h c (by simp)
    have ih := index_no91 n fun d hd => h d (by simp [hd])
    unfold Lib.index
    have hp : ([91] : Bys).isPrefixOf (c :: n) = false := by simp [List.isPrefixOf]; exact fun e => hc e.symm
    rw [hp, ih]
    rfl
theorem no91_ld {n : Bys} (h : ∀ c ∈ n, ld c = true) : ∀ c ∈ n, c ≠ 91 := fun c hc e => by
  have := h c hc
  subst e
  revert this; decide
theorem cut_some {n r : Bys} (h : ∀ c ∈ n, c ≠ 91) : (Lib.cut (n ++ 91 :: r) [91]).1 = n := by
  unfold Lib.cut
  rw [index_91 n r h, if_pos (by omega)]
  simp
theorem cut_none {n : Bys} (h : ∀ c ∈ n, c ≠ 91) : (Lib.cut n [91]).1 = n := by
  unfold Lib.cut
  rw [index_no91 n h, if_neg (by omega)]
theorem cut_front {T : Ty} (h : T.wf) : (Lib.cut T.pr [91]).1 = frontOf T := by
  cases T with
  | int => exact cut_none (n := kInt) (by decide)
  | bool => exact cut_none (n := kBool) (by decide)
  | null => exact cut_none (n := kNull) (by decide)
  | par => exact cut_none (n := qt) (by decide)
  | arr t => exact cut_some (n := kArray) (by decide)
  | rcd o fs => exact cut_some (no91_ld (rcdWord_ld o))
  | nam n => exact cut_none (no91_ld (name_ld h))
  | app n t => exact cut_some (no91_ld (name_ld h.1))
end Go.Proofs.YthcoppfdffhjfaaGreatDoor
