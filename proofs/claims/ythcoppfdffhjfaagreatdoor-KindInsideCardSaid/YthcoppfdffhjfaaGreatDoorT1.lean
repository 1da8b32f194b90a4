/- The plain words of types as texts: what a text is read as, and that reading inverts writing. Nothing here speaks of a program. -/
import Derived.Test.YthcoppfdffhjfaaGreatDoorS
namespace Go.Proofs.YthcoppfdffhjfaaGreatDoor

def ld (c : UInt8) : Bool := isLD (c.toNat : Int)
def hd (s : List UInt8) : List UInt8 := s.takeWhile ld
def tl (s : List UInt8) : List UInt8 := s.dropWhile ld
def isNameL (l : List UInt8) : Bool := !l.isEmpty && decide (l.length ≤ 12) && l.all ld && isLet ((l.headD 0).toNat : Int) && !(wordL.contains l)

theorem hd_tl (s : List UInt8) : hd s ++ tl s = s := List.takeWhile_append_dropWhile
theorem hd_ld (s : List UInt8) : ∀ c ∈ hd s, ld c = true := fun _ hc => (List.all_eq_true.1 (List.all_takeWhile (p := ld) (l := s))) _ hc
theorem tl_no {s r : List UInt8} {c : UInt8} (h : tl s = c :: r) : ld c = false := by
  have := List.head?_dropWhile_not ld s
  unfold tl at h
  rw [h] at this
  simpa using this

/-- Behind a name no further byte of one stands. -/
def NoLd (r : List UInt8) : Prop := ∀ c r', r = c :: r' → ld c = false
theorem hd_app {n r : List UInt8} (hn : ∀ c ∈ n, ld c = true) (hr : NoLd r) : hd (n ++ r) = n := by
  unfold hd
  rw [List.takeWhile_append_of_pos hn]
  cases r with
  | nil => simp
  | cons c r => simp [hr c r rfl]
theorem tl_app {n r : List UInt8} (hn : ∀ c ∈ n, ld c = true) (hr : NoLd r) : tl (n ++ r) = r := by
  unfold tl
  rw [List.dropWhile_append_of_pos hn]
  cases r with
  | nil => simp
  | cons c r => simp [hr c r rfl]

theorem name_ld {n : List UInt8} (h : isNameL n = true) : ∀ c ∈ n, ld c = true := by
  simp only [isNameL, Bool.and_eq_true] at h
  exact fun c hc => List.all_eq_true.1 h.1.1.2 c hc
theorem name_ne {n : List UInt8} (h : isNameL n = true) : n ≠ [] := by
  rintro rfl
  simp [isNameL] at h
theorem name_word {n : List UInt8} (h : isNameL n = true) {k : List UInt8} (hk : k ∈ wordL) : n ≠ k := by
  rintro rfl
  simp [isNameL] at h
  exact h.2 hk
theorem name_len {n : List UInt8} (h : isNameL n = true) : n.length ≤ 12 := by
  simp only [isNameL, Bool.and_eq_true, decide_eq_true_eq] at h
  exact h.1.1.1.2

def kInt : List UInt8 := [105, 110, 116]
def kBool : List UInt8 := [98, 111, 111, 108]
def kNull : List UInt8 := [110, 117, 108, 108]
def kArray : List UInt8 := [97, 114, 114, 97, 121]
def kRecord : List UInt8 := [114, 101, 99, 111, 114, 100]
def kOneof : List UInt8 := [111, 110, 101, 111, 102]
theorem kInt_mem : kInt ∈ wordL := by decide
theorem kBool_mem : kBool ∈ wordL := by decide
theorem kNull_mem : kNull ∈ wordL := by decide
theorem kArray_mem : kArray ∈ wordL := by decide
theorem kRecord_mem : kRecord ∈ wordL := by decide
theorem kOneof_mem : kOneof ∈ wordL := by decide
theorem words_ld : ∀ k ∈ wordL, ∀ c ∈ k, ld c = true := by decide +kernel

mutual
/-- A type. -/
inductive Ty
  | int
  | bool
  | null
  | arr (t : Ty)
  | rcd (o : Bool) (fs : Fs)
  | nam (n : List UInt8)
  | app (n : List UInt8) (t : Ty)
  | par
/-- The parts of a record or a oneof. -/
inductive Fs
  | one (n : List UInt8) (t : Ty)
  | more (n : List UInt8) (t : Ty) (fs : Fs)
end

def rcdWord (o : Bool) : List UInt8 := cond o kOneof kRecord
mutual
def Ty.pr : Ty → List UInt8
  | .int => kInt
  | .bool => kBool
  | .null => kNull
  | .arr t => kArray ++ 91 :: (t.pr ++ [93])
  | .rcd o fs => rcdWord o ++ 91 :: fs.pr
  | .nam n => n
  | .app n t => n ++ 91 :: (t.pr ++ [93])
  | .par => [63, 116]
def Fs.pr : Fs → List UInt8
  | .one n t => n ++ 58 :: (t.pr ++ [93])
  | .more n t fs => n ++ 58 :: (t.pr ++ 44 :: fs.pr)
end
mutual
def Ty.lev : Ty → Nat
  | .arr t => t.lev + 1
  | .rcd _ fs => fs.lev + 1
  | .app _ t => t.lev + 1
  | .int => 1
  | .bool => 1
  | .null => 1
  | .nam _ => 1
  | .par => 1
def Fs.lev : Fs → Nat
  | .one _ t => t.lev
  | .more _ t fs => max t.lev fs.lev
end
def Fs.count : Fs → Nat
  | .one _ _ => 1
  | .more _ _ fs => fs.count + 1
mutual
def Ty.wf : Ty → Prop
  | .arr t => t.wf
  | .rcd _ fs => fs.wf [] ∧ fs.count ≤ 6
  | .nam n => isNameL n = true
  | .app n t => isNameL n = true ∧ t.wf
  | .int => True
  | .bool => True
  | .null => True
  | .par => True
def Fs.wf : Fs → List UInt8 → Prop
  | .one n t, b => isNameL n = true ∧ b < n ∧ t.wf
  | .more n t fs, b => isNameL n = true ∧ b < n ∧ t.wf ∧ fs.wf n
end

/-- The parts that a text begins with, up to the bracket; each type is read by a given function; at most m parts. -/
def rdF (one : List UInt8 → Option (Ty × List UInt8)) : Nat → List UInt8 → List UInt8 → Option (Fs × List UInt8)
  | 0, _, _ => none
  | m + 1, b, s =>
    if isNameL (hd s) = true ∧ b < hd s then
      match tl s with
      | 58 :: r =>
        match one r with
        | some (t, 93 :: r') => some (.one (hd s) t, r')
        | some (t, 44 :: r') => (rdF one m (hd s) r').map fun p => (.more (hd s) t p.1, p.2)
        | _ => none
      | _ => none
    else none
/-- What stands in brackets, and what is behind them. -/
def rdB (one : List UInt8 → Option (Ty × List UInt8)) : List UInt8 → Option (Ty × List UInt8)
  | 91 :: r =>
    match one r with
    | some (t, 93 :: r') => some (t, r')
    | _ => none
  | _ => none
/-- The type that a text begins with, and what is behind it; at most f levels. -/
def rdT : Nat → List UInt8 → Option (Ty × List UInt8)
  | 0, _ => none
  | f + 1, s =>
    if s.take 2 = [63, 116] then some (.par, s.drop 2)
    else if hd s = kInt then some (.int, tl s)
    else if hd s = kBool then some (.bool, tl s)
    else if hd s = kNull then some (.null, tl s)
    else if hd s = kRecord ∨ hd s = kOneof then
      match tl s with
      | 91 :: r => (rdF (rdT f) 6 [] r).map fun p => (.rcd (decide (hd s = kOneof)) p.1, p.2)
      | _ => none
    else if hd s = kArray then (rdB (rdT f) (tl s)).map fun p => (.arr p.1, p.2)
    else if isNameL (hd s) = true then
      match tl s with
      | 91 :: r => (rdB (rdT f) (91 :: r)).map fun p => (.app (hd s) p.1, p.2)
      | r => some (.nam (hd s), r)
    else none

theorem rdB_sound {one : List UInt8 → Option (Ty × List UInt8)} {s r : List UInt8} {T : Ty} (h : rdB one s = some (T, r)) : ∃ s', s = 91 :: s' ∧ one s' = some (T, 93 :: r) := by
  unfold rdB at h
  split at h
  · split at h
    · rename_i q
      injection h with h
      injection h with h1 h2
      subst h1 h2
      exact ⟨_, rfl, q⟩
    · cases h
  · cases h

theorem rdF_sound {one : List UInt8 → Option (Ty × List UInt8)} (ho : ∀ s T r, one s = some (T, r) → s = T.pr ++ r ∧ T.wf) :
    ∀ (m : Nat) (b s : List UInt8) (F : Fs) (r : List UInt8), rdF one m b s = some (F, r) → s = F.pr ++ r ∧ F.wf b ∧ F.count ≤ m := by
  intro m
  induction m with
  | zero => intro b s F r h; cases h
  | succ m ih =>
    intro b s F r h
    unfold rdF at h
    split at h
    · rename_i hn
      split at h
      · rename_i r1 ht
        have hs : s = hd s ++ 58 :: r1 := by rw [← ht, hd_tl]
        split at h
        · rename_i t r' h1
          injection h with h
          injection h with e1 e2
          subst e1 e2
          obtain ⟨e3, w3⟩ := ho _ _ _ h1
          refine ⟨?_, ⟨hn.1, hn.2, w3⟩, by simp [Fs.count]⟩
          conv => lhs; rw [hs, e3]
          simp [Fs.pr]
        · rename_i t r' h1
          obtain ⟨e3, w3⟩ := ho _ _ _ h1
          cases h2 : rdF one m (hd s) r' with
          | none => rw [h2] at h; cases h
          | some p =>
            rw [h2] at h
            obtain ⟨F', r''⟩ := p
            injection h with h
            injection h with e1 e2
            subst e1 e2
            obtain ⟨e4, w4, c4⟩ := ih _ _ _ _ h2
            refine ⟨?_, ⟨hn.1, hn.2, w3, w4⟩, by simp [Fs.count]; omega⟩
            conv => lhs; rw [hs, e3, e4]
            simp [Fs.pr]
        · cases h
      · cases h
    · cases h

theorem rdT_sound : ∀ (f : Nat) (s : List UInt8) (T : Ty) (r : List UInt8), rdT f s = some (T, r) → s = T.pr ++ r ∧ T.wf := by
  intro f
  induction f with
  | zero => intro s T r h; cases h
  | succ f ih =>
    intro s T r h
    unfold rdT at h
    split at h
    · rename_i hp
      injection h with h
      injection h with e1 e2
      subst e1 e2
      exact ⟨by conv => lhs; rw [← List.take_append_drop 2 s, hp]
                rfl, trivial⟩
    split at h
    · rename_i _ hp
      injection h with h
      injection h with e1 e2
      subst e1 e2
      exact ⟨by conv => lhs; rw [← hd_tl s, hp]
                rfl, trivial⟩
    split at h
    · rename_i _ hp
      injection h with h
      injection h with e1 e2
      subst e1 e2
      exact ⟨by conv => lhs; rw [← hd_tl s, hp]
                rfl, trivial⟩
    split at h
    · rename_i _ hp
      injection h with h
      injection h with e1 e2
      subst e1 e2
      exact ⟨by conv => lhs; rw [← hd_tl s, hp]
                rfl, trivial⟩
    split at h
    · rename_i hp
      split at h
      · rename_i r1 ht
        cases h2 : rdF (rdT f) 6 [] r1 with
        | none => rw [h2] at h; cases h
        | some p =>
          rw [h2] at h
          obtain ⟨F, r'⟩ := p
          injection h with h
          injection h with e1 e2
          subst e1 e2
          obtain ⟨e3, w3, c3⟩ := rdF_sound ih _ _ _ _ _ h2
          refine ⟨?_, w3, c3⟩
          have hw : rcdWord (decide (hd s = kOneof)) = hd s := by
            by_cases ho : hd s = kOneof
            · rw [ho]; rfl
            · rw [decide_eq_false ho]; exact (hp.resolve_right ho).symm
          show s = (rcdWord (decide (hd s = kOneof)) ++ 91 :: F.pr) ++ _
          rw [hw]
          conv => lhs; rw [← hd_tl s, ht, e3]
          simp
      · cases h
    split at h
    · rename_i hp
      cases h2 : rdB (rdT f) (tl s) with
      | none => rw [h2] at h; cases h
      | some p =>
        rw [h2] at h
        obtain ⟨F, r'⟩ := p
        injection h with h
        injection h with e1 e2
        subst e1 e2
        obtain ⟨s', e3, h3⟩ := rdB_sound h2
        obtain ⟨e4, w4⟩ := ih _ _ _ h3
        refine ⟨?_, w4⟩
        conv => lhs; rw [← hd_tl s, hp, e3, e4]
        simp [Ty.pr]
    split at h
    · rename_i hp
      split at h
      · rename_i r1 ht
        cases h2 : rdB (rdT f) (91 :: r1) with
        | none => rw [h2] at h; cases h
        | some p =>
          rw [h2] at h
          obtain ⟨F, r'⟩ := p
          injection h with h
          injection h with e1 e2
          subst e1 e2
          obtain ⟨s', e3, h3⟩ := rdB_sound h2
          injection e3 with _ e3
          obtain ⟨e4, w4⟩ := ih _ _ _ h3
          refine ⟨?_, hp, w4⟩
          conv => lhs; rw [← hd_tl s, ht, e3, e4]
          simp [Ty.pr]
      · injection h with h
        injection h with e1 e2
        subst e1 e2
        exact ⟨by conv => lhs; rw [← hd_tl s]
                  rfl, hp⟩
    · cases h

/-- What may stand behind a type. -/
def Stop (r : List UInt8) : Prop := ∀ c r', r = c :: r' → c = 93 ∨ c = 44
theorem stop_nil : Stop [] := fun _ _ h => by cases h
theorem stop_93 (r : List UInt8) : Stop (93 :: r) := fun c r' h => by injection h with h _; exact .inl h.symm
theorem stop_44 (r : List UInt8) : Stop (44 :: r) := fun c r' h => by injection h with h _; exact .inr h.symm
theorem stop_noLd {r : List UInt8} (h : Stop r) : NoLd r := fun c r' e => by
  rcases h c r' e with rfl | rfl <;> decide
theorem noLd_91 (r : List UInt8) : NoLd (91 :: r) := fun c r' h => by injection h with h _; subst h; decide
theorem noLd_58 (r : List UInt8) : NoLd (58 :: r) := fun c r' h => by injection h with h _; subst h; decide

theorem take2_ld {n r : List UInt8} (hn : ∀ c ∈ n, ld c = true) (hne : n ≠ []) : (n ++ r).take 2 ≠ [63, 116] := by
  cases n with
  | nil => exact absurd rfl hne
  | cons c n =>
    intro h
    have : c = 63 := by simp at h; exact h.1
    have h2 := hn c (by simp)
    subst this
    revert h2; decide

theorem rdB_app {one : List UInt8 → Option (Ty × List UInt8)} {s r : List UInt8} {T : Ty} (h : one (s ++ 93 :: r) = some (T, 93 :: r)) : rdB one (91 :: (s ++ 93 :: r)) = some (T, r) := by
  simp only [rdB, h]

theorem rdF_back {f : Nat} (ih : ∀ T : Ty, T.wf → T.lev ≤ f → ∀ r, Stop r → rdT f (T.pr ++ r) = some (T, r)) :
    ∀ (m : Nat) (F : Fs) (b r : List UInt8), F.wf b → F.count ≤ m → F.lev ≤ f → rdF (rdT f) m b (F.pr ++ r) = some (F, r) := by
  intro m
  induction m with
  | zero => intro F b r _ h _; cases F <;> simp [Fs.count] at h
  | succ m ihm =>
    intro F b r hw hc hl
    cases F with
    | one n t =>
      obtain ⟨h1, h2, h3⟩ := hw
      have e : (Fs.one n t).pr ++ r = n ++ 58 :: (t.pr ++ 93 :: r) := by simp [Fs.pr]
      rw [e]
      unfold rdF
      rw [hd_app (name_ld h1) (noLd_58 _), tl_app (name_ld h1) (noLd_58 _), if_pos ⟨h1, h2⟩]
      simp only
      rw [ih t h3 (by simpa [Fs.lev] using hl) _ (stop_93 r)]
      rfl
    | more n t fs =>
      obtain ⟨h1, h2, h3, h4⟩ := hw
      have e : (Fs.more n t fs).pr ++ r = n ++ 58 :: (t.pr ++ 44 :: (fs.pr ++ r)) := by simp [Fs.pr]
      rw [e]
      simp [Fs.lev, Nat.max_le] at hl
      unfold rdF
      rw [hd_app (name_ld h1) (noLd_58 _), tl_app (name_ld h1) (noLd_58 _), if_pos ⟨h1, h2⟩]
      simp only
      rw [ih t h3 hl.1 _ (stop_44 _)]
      simp only
      rw [ihm fs n r h4 (by simp [Fs.count] at hc; omega) hl.2]
      rfl

theorem rcdWord_ld (o : Bool) : ∀ c ∈ rcdWord o, ld c = true := by
  cases o
  · exact words_ld _ kRecord_mem
  · exact words_ld _ kOneof_mem
theorem rcdWord_ne (o : Bool) : rcdWord o ≠ [] := by cases o <;> decide

theorem rdT_back : ∀ (f : Nat) (T : Ty), T.wf → T.lev ≤ f → ∀ r, Stop r → rdT f (T.pr ++ r) = some (T, r) := by
  intro f
  induction f with
  | zero => intro T _ h; cases T <;> simp [Ty.lev] at h
  | succ f ih =>
    intro T hw hl r hr
    have prim : ∀ k : List UInt8, k ∈ wordL → k ≠ [] → hd (k ++ r) = k ∧ tl (k ++ r) = r ∧ (k ++ r).take 2 ≠ [63, 116] := fun k hk hne =>
      ⟨hd_app (words_ld k hk) (stop_noLd hr), tl_app (words_ld k hk) (stop_noLd hr), take2_ld (words_ld k hk) hne⟩
    cases T with
    | int =>
      obtain ⟨h1, h2, h3⟩ := prim kInt kInt_mem (by decide)
      show rdT (f + 1) (kInt ++ r) = _
      unfold rdT
      rw [if_neg h3, h1, h2, if_pos rfl]
    | bool =>
      obtain ⟨h1, h2, h3⟩ := prim kBool kBool_mem (by decide)
      show rdT (f + 1) (kBool ++ r) = _
      unfold rdT
      rw [if_neg h3, h1, h2, if_neg (by decide), if_pos rfl]
    | null =>
      obtain ⟨h1, h2, h3⟩ := prim kNull kNull_mem (by decide)
      show rdT (f + 1) (kNull ++ r) = _
      unfold rdT
      rw [if_neg h3, h1, h2, if_neg (by decide), if_neg (by decide), if_pos rfl]
    | par =>
      show rdT (f + 1) (63 :: 116 :: r) = _
      unfold rdT
      rw [if_pos (by simp)]
      rfl
    | arr t =>
      have e : (Ty.arr t).pr ++ r = kArray ++ 91 :: (t.pr ++ 93 :: r) := by simp [Ty.pr]
      rw [e]
      unfold rdT
      rw [if_neg (take2_ld (words_ld _ kArray_mem) (by decide)), hd_app (words_ld _ kArray_mem) (noLd_91 _), tl_app (words_ld _ kArray_mem) (noLd_91 _),
        if_neg (by decide), if_neg (by decide), if_neg (by decide), if_neg (by decide), if_pos rfl,
        rdB_app (ih t hw (by simpa [Ty.lev] using hl) _ (stop_93 r))]
      rfl
    | rcd o fs =>
      have e : (Ty.rcd o fs).pr ++ r = rcdWord o ++ 91 :: (fs.pr ++ r) := by simp [Ty.pr]
      rw [e]
      unfold rdT
      rw [if_neg (take2_ld (rcdWord_ld o) (rcdWord_ne o)), hd_app (rcdWord_ld o) (noLd_91 _), tl_app (rcdWord_ld o) (noLd_91 _),
        if_neg (by cases o <;> decide), if_neg (by cases o <;> decide), if_neg (by cases o <;> decide), if_pos (by cases o <;> decide)]
      simp only
      rw [rdF_back ih 6 fs [] r hw.1 hw.2 (by simpa [Ty.lev] using hl)]
      cases o <;> rfl
    | nam n =>
      have h1 : isNameL n = true := hw
      show rdT (f + 1) (n ++ r) = _
      unfold rdT
      rw [if_neg (take2_ld (name_ld h1) (name_ne h1)), hd_app (name_ld h1) (stop_noLd hr), tl_app (name_ld h1) (stop_noLd hr),
        if_neg (name_word h1 kInt_mem), if_neg (name_word h1 kBool_mem), if_neg (name_word h1 kNull_mem),
        if_neg (fun h => h.elim (name_word h1 kRecord_mem) (name_word h1 kOneof_mem)), if_neg (name_word h1 kArray_mem), if_pos h1]
      split
      · rename_i r1
        rcases hr _ _ rfl with h | h <;> cases h
      · rfl
    | app n t =>
      obtain ⟨h1, h2⟩ := hw
      have e : (Ty.app n t).pr ++ r = n ++ 91 :: (t.pr ++ 93 :: r) := by simp [Ty.pr]
      rw [e]
      unfold rdT
      rw [if_neg (take2_ld (name_ld h1) (name_ne h1)), hd_app (name_ld h1) (noLd_91 _), tl_app (name_ld h1) (noLd_91 _),
        if_neg (name_word h1 kInt_mem), if_neg (name_word h1 kBool_mem), if_neg (name_word h1 kNull_mem),
        if_neg (fun h => h.elim (name_word h1 kRecord_mem) (name_word h1 kOneof_mem)), if_neg (name_word h1 kArray_mem), if_pos h1]
      simp only
      rw [rdB_app (ih t h2 (by simpa [Ty.lev] using hl) _ (stop_93 r))]
      rfl
end Go.Proofs.YthcoppfdffhjfaaGreatDoor
