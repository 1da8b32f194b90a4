/- The plain words of types, read from the front as the program reads them. -/
import Derived.Test.YthcoppfdffhjfaaGreatDoorT4
namespace Go.Proofs.YthcoppfdffhjfaaGreatDoor

/-- The signs of a type. -/
def sg (c : UInt8) : Bool := c == 91 || c == 93 || c == 44 || c == 58
def wd (s : Bys) : Bys := s.takeWhile fun c => !sg c
def wr (s : Bys) : Bys := s.dropWhile fun c => !sg c
theorem wd_wr (s : Bys) : wd s ++ wr s = s := List.takeWhile_append_dropWhile
theorem wr_cons {s r : Bys} {c : UInt8} (h : wr s = c :: r) : sg c = true := by
  have := List.head?_dropWhile_not (fun c => !sg c) s
  unfold wr at h
  rw [h] at this
  simpa using this
theorem ld_sg {c : UInt8} (h : ld c = true) : sg c = false := by
  unfold sg
  by_cases h1 : c = 91
  · subst h1; exact absurd h (by decide)
  by_cases h2 : c = 93
  · subst h2; exact absurd h (by decide)
  by_cases h3 : c = 44
  · subst h3; exact absurd h (by decide)
  by_cases h4 : c = 58
  · subst h4; exact absurd h (by decide)
  simp [h1, h2, h3, h4]
/-- What stands behind a word. -/
def Sgs (r : Bys) : Prop := ∀ c r', r = c :: r' → sg c = true
theorem wd_app {n r : Bys} (hn : ∀ c ∈ n, sg c = false) (hr : Sgs r) : wd (n ++ r) = n ∧ wr (n ++ r) = r := by
  have h1 : ∀ c ∈ n, (fun c => !sg c) c = true := fun c hc => by simp [hn c hc]
  unfold wd wr
  rw [List.takeWhile_append_of_pos h1, List.dropWhile_append_of_pos h1]
  cases r with
  | nil => simp
  | cons c r => simp [hr c r rfl]
theorem sgs_stop {r : Bys} (h : Stop r) : Sgs r := fun c r' e => by rcases h c r' e with rfl | rfl <;> rfl
theorem sgs_91 (r : Bys) : Sgs (91 :: r) := fun c r' h => by injection h with h _; subst h; rfl
theorem sgs_58 (r : Bys) : Sgs (58 :: r) := fun c r' h => by injection h with h _; subst h; rfl

/-- The parts that a text begins with, up to the bracket, whatever their names are. -/
def nxP (one : Bys → Option (Ty × Bys)) : Nat → Bys → Option (List (Bys × Ty) × Bys)
  | 0, _ => none
  | m + 1, s =>
    match wr s with
    | 58 :: r =>
      match one r with
      | some (t, 93 :: r') => some ([(wd s, t)], r')
      | some (t, 44 :: r') => (nxP one m r').map fun p => ((wd s, t) :: p.1, p.2)
      | _ => none
    | _ => none
/-- Whether parts may have these names. -/
def mayL : List Bys → Bool
  | [] => true
  | n :: l => isNameL n && (match l with | [] => true | m :: _ => decide (n < m)) && mayL l
def fsOf : List (Bys × Ty) → Fs
  | [] => .one [] .int
  | [p] => .one p.1 p.2
  | p :: q :: l => .more p.1 p.2 (fsOf (q :: l))
theorem fsOf_list : ∀ l : List (Bys × Ty), l ≠ [] → (fsOf l).list = l
  | [], h => absurd rfl h
  | [p], _ => rfl
  | p :: q :: l, _ => by simp only [fsOf, Fs.list]; rw [fsOf_list (q :: l) (by simp)]
theorem list_fsOf : ∀ F : Fs, fsOf F.list = F
  | .one n t => rfl
  | .more n t fs => by
    have := list_fsOf fs
    cases fs with
    | one m u => rfl
    | more m u gs => simp only [Fs.list, fsOf] at this ⊢; rw [this]
theorem Fs.list_ne : ∀ F : Fs, F.list ≠ []
  | .one _ _ => by simp [Fs.list]
  | .more _ _ _ => by simp [Fs.list]
/-- The type that a text begins with, as the program reads it. -/
def nx : Nat → Bys → Option (Ty × Bys)
  | 0, _ => none
  | f + 1, s =>
    if wd s = kInt then some (.int, wr s)
    else if wd s = kBool then some (.bool, wr s)
    else if wd s = kNull then some (.null, wr s)
    else if wd s = qt then some (.par, wr s)
    else if wd s = kArray then (rdB (nx f) (wr s)).map fun p => (.arr p.1, p.2)
    else if wd s = kRecord ∨ wd s = kOneof then
      match wr s with
      | 91 :: r =>
        match nxP (nx f) f r with
        | some (l, r') => if mayL (l.map Prod.fst) = true ∧ l.length ≤ 6 then some (.rcd (decide (wd s = kOneof)) (fsOf l), r') else none
        | none => none
      | _ => none
    else if isNameL (wd s) = true then
      match wr s with
      | 91 :: r => (rdB (nx f) (91 :: r)).map fun p => (.app (wd s) p.1, p.2)
      | r => some (.nam (wd s), r)
    else none

def partsPr : List (Bys × Ty) → Bys
  | [] => []
  | [p] => p.1 ++ 58 :: (p.2.pr ++ [93])
  | p :: q :: l => p.1 ++ 58 :: (p.2.pr ++ 44 :: partsPr (q :: l))
theorem fsOf_pr : ∀ l : List (Bys × Ty), l ≠ [] → (fsOf l).pr = partsPr l
  | [], h => absurd rfl h
  | [p], _ => rfl
  | p :: q :: l, _ => by simp only [fsOf, Fs.pr, partsPr]; rw [fsOf_pr (q :: l) (by simp)]
theorem nxP_sound {one : Bys → Option (Ty × Bys)} (ho : ∀ s T r, one s = some (T, r) → s = T.pr ++ r ∧ T.wf) :
    ∀ (m : Nat) (s : Bys) (l : List (Bys × Ty)) (r : Bys), nxP one m s = some (l, r) → l ≠ [] ∧ s = partsPr l ++ r ∧ ∀ p ∈ l, p.2.wf := by
  intro m
  induction m with
  | zero => intro s l r h; cases h
  | succ m ih =>
    intro s l r h
    unfold nxP at h
    split at h
    · rename_i r1 ht
      have hs : s = wd s ++ 58 :: r1 := by rw [← ht, wd_wr]
      split at h
      · rename_i t r' h1
        injection h with h
        injection h with e1 e2
        subst e1 e2
        obtain ⟨e3, w3⟩ := ho _ _ _ h1
        refine ⟨by simp, ?_, by simpa using w3⟩
        conv => lhs; rw [hs, e3]
        simp [partsPr]
      · rename_i t r' h1
        obtain ⟨e3, w3⟩ := ho _ _ _ h1
        cases h2 : nxP one m r' with
        | none => rw [h2] at h; cases h
        | some p =>
          rw [h2] at h
          obtain ⟨l', r''⟩ := p
          injection h with h
          injection h with e1 e2
          subst e1 e2
          obtain ⟨n4, e4, w4⟩ := ih _ _ _ h2
          refine ⟨by simp, ?_, ?_⟩
          · conv => lhs; rw [hs, e3, e4]
            cases l' with
            | nil => exact absurd rfl n4
            | cons q l' => simp [partsPr]
          · intro p hp
            rcases List.mem_cons.1 hp with rfl | hp
            · exact w3
            · exact w4 p hp
      · cases h
    · cases h
theorem mayL_wf : ∀ (l : List (Bys × Ty)) (b : Bys), l ≠ [] → mayL (l.map Prod.fst) = true → (∀ p ∈ l, p.2.wf) → (∀ p, l.head? = some p → b < p.1) → (fsOf l).wf b ∧ (fsOf l).count = l.length
  | [], _, h, _, _, _ => absurd rfl h
  | [p], b, _, h, w, hb => by
    simp [mayL] at h
    exact ⟨⟨h, hb p rfl, w p (by simp)⟩, rfl⟩
  | p :: q :: l, b, _, h, w, hb => by
    simp only [List.map_cons, mayL, Bool.and_eq_true, decide_eq_true_eq] at h
    obtain ⟨i1, i2⟩ := mayL_wf (q :: l) p.1 (by simp) (by simpa [mayL] using h.2) (fun x hx => w x (List.mem_cons_of_mem _ hx)) (fun x hx => by simp at hx; subst hx; exact h.1.2)
    exact ⟨⟨h.1.1, hb p rfl, w p (by simp), i1⟩, by simp only [fsOf, Fs.count, i2, List.length_cons]⟩
theorem wf_mayL : ∀ (F : Fs) (b : Bys), F.wf b → mayL (F.list.map Prod.fst) = true
  | .one n t, b, h => by simp [Fs.list, mayL, h.1]
  | .more n t fs, b, h => by
    have ih := wf_mayL fs n h.2.2.2
    cases fs with
    | one m u =>
      have := h.2.2.2.2.1
      simp only [Fs.list, List.map_cons, List.map_nil, mayL] at ih ⊢
      simp [h.1, this] at ih ⊢
      exact ih
    | more m u gs =>
      have := h.2.2.2.2.1
      simp only [Fs.list, List.map_cons, mayL] at ih ⊢
      rw [ih]
      simp [h.1, this]
theorem bys_nil_lt {n : Bys} (h : n ≠ []) : ([] : Bys) < n := by
  cases n with
  | nil => exact absurd rfl h
  | cons c n => exact List.nil_lt_cons c n

theorem nx_sound : ∀ (f : Nat) (s : Bys) (T : Ty) (r : Bys), nx f s = some (T, r) → s = T.pr ++ r ∧ T.wf := by
  intro f
  induction f with
  | zero => intro s T r h; cases h
  | succ f ih =>
    intro s T r h
    unfold nx at h
    have base : ∀ (k : Bys) (U : Ty), U.pr = k → U.wf → wd s = k → some (U, wr s) = some (T, r) → s = T.pr ++ r ∧ T.wf := fun k U h1 h2 h3 h4 => by
      injection h4 with h4
      injection h4 with e1 e2
      subst e1 e2
      exact ⟨by rw [h1, ← h3, wd_wr], h2⟩
    split at h
    · rename_i hp; exact base kInt .int rfl trivial hp h
    split at h
    · rename_i hp; exact base kBool .bool rfl trivial hp h
    split at h
    · rename_i hp; exact base kNull .null rfl trivial hp h
    split at h
    · rename_i hp; exact base qt .par rfl trivial hp h
    split at h
    · rename_i hp
      cases h2 : rdB (nx f) (wr s) with
      | none => rw [h2] at h; cases h
      | some p =>
        rw [h2] at h
        obtain ⟨F, r'⟩ := p
        injection h with h
        injection h with e1 e2
        subst e1 e2
        obtain ⟨s', e3, h3⟩ := rdB_sound h2
        obtain ⟨e4, w4⟩ := ih _ _ _ h3
        refine ⟨?_, w4⟩
        conv => lhs; rw [← wd_wr s, hp, e3, e4]
        simp [Ty.pr]
    split at h
    · rename_i hp
      split at h
      · rename_i r1 ht
        split at h
        · rename_i l r' h2
          split at h
          · rename_i hm
            injection h with h
            injection h with e1 e2
            subst e1 e2
            obtain ⟨n3, e3, w3⟩ := nxP_sound ih _ _ _ _ h2
            have hn : ∀ p, l.head? = some p → ([] : Bys) < p.1 := fun p hp => by
              cases l with
              | nil => cases hp
              | cons q l =>
                simp at hp
                subst hp
                have := hm.1
                simp only [List.map_cons, mayL, Bool.and_eq_true] at this
                exact bys_nil_lt (name_ne this.1.1)
            obtain ⟨w4, c4⟩ := mayL_wf l [] n3 hm.1 w3 hn
            refine ⟨?_, w4, by rw [c4]; exact hm.2⟩
            have hw : rcdWord (decide (wd s = kOneof)) = wd s := by
              by_cases ho : wd s = kOneof
              · rw [ho]; rfl
              · rw [decide_eq_false ho]; exact (hp.resolve_right ho).symm
            show s = (rcdWord (decide (wd s = kOneof)) ++ 91 :: (fsOf l).pr) ++ _
            rw [hw, fsOf_pr l n3]
            conv => lhs; rw [← wd_wr s, ht, e3]
            simp
          · cases h
        · cases h
      · cases h
    split at h
    · rename_i hp
      split at h
      · rename_i r1 ht
        cases h2 : rdB (nx f) (91 :: r1) with
        | none => rw [h2] at h; cases h
        | some p =>
          rw [h2] at h
          obtain ⟨F, r'⟩ := p
          injection h with h
          injection h with e1 e2
          subst e1 e2
          obtain ⟨s', e3, h3⟩ := rdB_sound h2
          injection e3 with _ e3
          obtain ⟨e4, w4⟩ := ih _ _ _ h3
          refine ⟨?_, hp, w4⟩
          conv => lhs; rw [← wd_wr s, ht, e3, e4]
          simp [Ty.pr]
      · injection h with h
        injection h with e1 e2
        subst e1 e2
        exact ⟨by conv => lhs; rw [← wd_wr s]
                  rfl, hp⟩
    · cases h

theorem word_sg {k : Bys} (h : k ∈ wordL) : ∀ c ∈ k, sg c = false := fun c hc => ld_sg (words_ld k h c hc)
theorem rcdWord_mem (o : Bool) : rcdWord o ∈ wordL := by cases o <;> decide
theorem nxP_back {f : Nat} (ih : ∀ T : Ty, T.wf → T.pr.length ≤ f → ∀ r, Stop r → nx f (T.pr ++ r) = some (T, r)) :
    ∀ (m : Nat) (F : Fs) (b r : Bys), F.wf b → F.count ≤ m → F.pr.length ≤ f → nxP (nx f) m (F.pr ++ r) = some (F.list, r) := by
  intro m
  induction m with
  | zero => intro F b r _ h _; cases F <;> simp [Fs.count] at h
  | succ m ihm =>
    intro F b r hw hc hl
    cases F with
    | one n t =>
      obtain ⟨h1, h2, h3⟩ := hw
      have e : (Fs.one n t).pr ++ r = n ++ 58 :: (t.pr ++ 93 :: r) := by simp [Fs.pr]
      obtain ⟨k1, k2⟩ := wd_app (fun c hc => ld_sg (name_ld h1 c hc)) (sgs_58 (t.pr ++ 93 :: r))
      rw [e]
      unfold nxP
      rw [k1, k2]
      simp only
      rw [ih t h3 (by simp only [Fs.pr, List.length_append, List.length_cons] at hl; omega) _ (stop_93 r)]
      rfl
    | more n t fs =>
      obtain ⟨h1, h2, h3, h4⟩ := hw
      have e : (Fs.more n t fs).pr ++ r = n ++ 58 :: (t.pr ++ 44 :: (fs.pr ++ r)) := by simp [Fs.pr]
      obtain ⟨k1, k2⟩ := wd_app (fun c hc => ld_sg (name_ld h1 c hc)) (sgs_58 (t.pr ++ 44 :: (fs.pr ++ r)))
      rw [e]
      unfold nxP
      rw [k1, k2]
      simp only [Fs.pr, List.length_append, List.length_cons] at hl
      simp only
      rw [ih t h3 (by omega) _ (stop_44 _)]
      simp only
      rw [ihm fs n r h4 (by simp [Fs.count] at hc; omega) (by omega)]
      rfl
theorem Fs.count_len : ∀ (F : Fs), F.count ≤ F.pr.length
  | .one _ _ => by simp [Fs.count, Fs.pr]; omega
  | .more _ _ fs => by have := Fs.count_len fs; simp [Fs.count, Fs.pr]; omega
theorem nx_back : ∀ (f : Nat) (T : Ty), T.wf → T.pr.length ≤ f → ∀ r, Stop r → nx f (T.pr ++ r) = some (T, r) := by
  intro f
  induction f with
  | zero =>
    intro T hw h
    have := Ty.lev_len T hw
    have := T.lev_pos
    omega
  | succ f ih =>
    intro T hw hl r hr
    have prim : ∀ k : Bys, k ∈ wordL → wd (k ++ r) = k ∧ wr (k ++ r) = r := fun k hk => wd_app (word_sg hk) (sgs_stop hr)
    cases T with
    | int =>
      obtain ⟨h1, h2⟩ := prim kInt kInt_mem
      show nx (f + 1) (kInt ++ r) = _
      unfold nx
      rw [h1, h2, if_pos rfl]
    | bool =>
      obtain ⟨h1, h2⟩ := prim kBool kBool_mem
      show nx (f + 1) (kBool ++ r) = _
      unfold nx
      rw [h1, h2, if_neg (by decide), if_pos rfl]
    | null =>
      obtain ⟨h1, h2⟩ := prim kNull kNull_mem
      show nx (f + 1) (kNull ++ r) = _
      unfold nx
      rw [h1, h2, if_neg (by decide), if_neg (by decide), if_pos rfl]
    | par =>
      obtain ⟨h1, h2⟩ := wd_app (n := qt) (r := r) (by decide) (sgs_stop hr)
      show nx (f + 1) (qt ++ r) = _
      unfold nx
      rw [h1, h2, if_neg (by decide), if_neg (by decide), if_neg (by decide), if_pos rfl]
    | arr t =>
      have e : (Ty.arr t).pr ++ r = kArray ++ 91 :: (t.pr ++ 93 :: r) := by simp [Ty.pr]
      obtain ⟨h1, h2⟩ := wd_app (word_sg kArray_mem) (sgs_91 (t.pr ++ 93 :: r))
      simp only [Ty.pr, List.length_append, List.length_cons] at hl
      rw [e]
      unfold nx
      rw [h1, h2, if_neg (by decide), if_neg (by decide), if_neg (by decide), if_neg (by decide), if_pos rfl,
        rdB_app (ih t hw (by omega) _ (stop_93 r))]
      rfl
    | rcd o fs =>
      have e : (Ty.rcd o fs).pr ++ r = rcdWord o ++ 91 :: (fs.pr ++ r) := by simp [Ty.pr]
      obtain ⟨h1, h2⟩ := wd_app (word_sg (rcdWord_mem o)) (sgs_91 (fs.pr ++ r))
      have hc := fs.count_len
      simp only [Ty.pr, List.length_append, List.length_cons] at hl
      rw [e]
      unfold nx
      rw [h1, h2, if_neg (by cases o <;> decide), if_neg (by cases o <;> decide), if_neg (by cases o <;> decide), if_neg (by cases o <;> decide), if_neg (by cases o <;> decide), if_pos (by cases o <;> decide)]
      simp only
      rw [nxP_back ih f fs [] r hw.1 (by omega) (by omega)]
      simp only
      rw [if_pos ⟨wf_mayL fs [] hw.1, by rw [Fs.list_len]; exact hw.2⟩, list_fsOf]
      cases o <;> rfl
    | nam n =>
      have h1 : isNameL n = true := hw
      obtain ⟨k1, k2⟩ := wd_app (fun c hc => ld_sg (name_ld h1 c hc)) (sgs_stop hr)
      have hk : ∀ k ∈ wordL, n ≠ k := fun k hk => name_word h1 hk
      have hq : n ≠ qt := by rintro rfl; exact absurd h1 (by decide)
      show nx (f + 1) (n ++ r) = _
      unfold nx
      rw [k1, k2, if_neg (hk _ kInt_mem), if_neg (hk _ kBool_mem), if_neg (hk _ kNull_mem), if_neg hq, if_neg (hk _ kArray_mem), if_neg (not_or.2 ⟨hk _ kRecord_mem, hk _ kOneof_mem⟩), if_pos h1]
      cases r with
      | nil => rfl
      | cons c r =>
        have : c ≠ 91 := by rcases hr c r rfl with rfl | rfl <;> decide
        split
        · rename_i q; injection q with q _; exact absurd q this
        · rfl
    | app n t =>
      have h1 : isNameL n = true := hw.1
      have e : (Ty.app n t).pr ++ r = n ++ 91 :: (t.pr ++ 93 :: r) := by simp [Ty.pr]
      obtain ⟨k1, k2⟩ := wd_app (fun c hc => ld_sg (name_ld h1 c hc)) (sgs_91 (t.pr ++ 93 :: r))
      have hk : ∀ k ∈ wordL, n ≠ k := fun k hk => name_word h1 hk
      have hq : n ≠ qt := by rintro rfl; exact absurd h1 (by decide)
      simp only [Ty.pr, List.length_append, List.length_cons] at hl
      rw [e]
      unfold nx
      rw [k1, k2, if_neg (hk _ kInt_mem), if_neg (hk _ kBool_mem), if_neg (hk _ kNull_mem), if_neg hq, if_neg (hk _ kArray_mem), if_neg (not_or.2 ⟨hk _ kRecord_mem, hk _ kOneof_mem⟩), if_pos h1]
      simp only
      rw [rdB_app (ih t hw.2 (by omega) _ (stop_93 r))]
      rfl

theorem nx_top {s : Bys} (h : s.length ≤ 100) : tyOf s = match nx 101 s with | some (T, []) => some T | _ => none := by
  cases hq : tyOf s with
  | some T =>
    obtain ⟨rfl, hw⟩ := tyOf_some hq
    have := nx_back 101 T hw (by omega) [] stop_nil
    rw [List.append_nil] at this
    rw [this]
  | none =>
    split
    · rename_i T e
      obtain ⟨h1, h2⟩ := nx_sound _ _ _ _ e
      rw [List.append_nil] at h1
      subst h1
      have := Ty.lev_len T h2
      rw [tyOf_pr h2 (by omega)] at hq
      cases hq
    · rfl
end Go.Proofs.YthcoppfdffhjfaaGreatDoor
