/- The reader's parts in brackets: their names and their types. -/
import Derived.Test.YthcoppfdffhjfaaGreatDoorI
namespace Go.Proofs.YthcoppfdffhjfaaGreatDoor
open Go Go.RowKit

theorem wr_drop (l : Bys) : wr l = l.drop (wd l).length := by
  have := congrArg (List.drop (wd l).length) (wd_wr l)
  rw [List.drop_left] at this
  exact this
theorem wr_at (s : Bys) (a : Nat) : wr (s.drop a) = s.drop (a + (wd (s.drop a)).length) := by rw [wr_drop, List.drop_drop]
theorem wd_len (s : Bys) (a : Nat) : (wd (s.drop a)).length ≤ s.length - a := by
  have : (wd (s.drop a)).length ≤ (s.drop a).length := (List.takeWhile_prefix (l := s.drop a) _).length_le
  rwa [List.length_drop] at this
theorem nxP_none {one : Bys → Option (Ty × Bys)} {n : Nat} {s : Bys} (h : ∀ l, wr s ≠ 58 :: l) : nxP one (n + 1) s = none := by
  unfold nxP
  split
  · rename_i q; exact absurd q (h _)
  · rfl
theorem nxP_fail {one : Bys → Option (Ty × Bys)} {n : Nat} {s r : Bys} (h : wr s = 58 :: r) (h1 : one r = none) : nxP one (n + 1) s = none := by
  unfold nxP
  rw [h]
  simp only [h1]
theorem nxP_more {one : Bys → Option (Ty × Bys)} {n : Nat} {s r r' : Bys} {T : Ty} (h : wr s = 58 :: r) (h1 : one r = some (T, 44 :: r')) : nxP one (n + 1) s = (nxP one n r').map fun p => ((wd s, T) :: p.1, p.2) := by
  conv => lhs; unfold nxP
  rw [h]
  simp only [h1]
theorem nxP_last {one : Bys → Option (Ty × Bys)} {n : Nat} {s r r' : Bys} {T : Ty} (h : wr s = 58 :: r) (h1 : one r = some (T, 93 :: r')) : nxP one (n + 1) s = some ([(wd s, T)], r') := by
  unfold nxP
  rw [h]
  simp only [h1]
theorem nxP_stop {one : Bys → Option (Ty × Bys)} {n : Nat} {s r r' : Bys} {T : Ty} (h : wr s = 58 :: r) (h1 : one r = some (T, r')) (h2 : ∀ l, r' ≠ 44 :: l) (h3 : ∀ l, r' ≠ 93 :: l) : nxP one (n + 1) s = none := by
  unfold nxP
  rw [h]
  simp only [h1]
  split
  · rename_i q; injection q with q; injection q with _ q; exact absurd q (h3 _)
  · rename_i q; injection q with q; injection q with _ q; exact absurd q (h2 _)
  · rfl

/-- The parts that a text begins with, with their brackets, if they may stand. -/
def nxB (f : Nat) (s : Bys) : Option (List (Bys × Ty) × Bys) :=
  match s with
  | 91 :: r =>
    match nxP (nx f) f r with
    | some (l, r') => if mayL (l.map Prod.fst) = true ∧ l.length ≤ 6 then some (l, r') else none
    | none => none
  | _ => none
theorem nxB_none {f : Nat} {s : Bys} (h : ∀ l, s ≠ 91 :: l) : nxB f s = none := by
  unfold nxB
  split
  · exact absurd rfl (h _)
  · rfl

def PartsPost (f cb : Nat) (s : Bys) (a : Nat) (w : World) (e : Ending) (w' : World) : Prop :=
  (∃ l r v4 v5 kss, nxB f (s.drop a) = some (l, r) ∧ e = .returned (.tuple #[v4, v5]) ∧ NmV w' (fun g => w.heap.size ≤ g) v4 (l.map Prod.fst) ∧ KdV w' (fun g => w.heap.size ≤ g) v5 kss ∧ kss.length = l.length ∧ l ≠ [] ∧
    (∀ (i : Nat) T vs, (l.map Prod.snd)[i]? = some T → kss[i]? = some vs → TyV w' (fun g => w.heap.size ≤ g) T vs) ∧ Cur w' cb s (s.length - r.length) ∧ w.grownBy w' (some cb)) ∨
  (nxB f (s.drop a) = none ∧ e = gaveUp ∧ w.grownBy w' (some cb))

/-- The types of parts that have been read, in a row that grows. -/
structure Rows2 (w : World) (B : Nat) (v4 v5 : Value) (l : List (Bys × Ty)) (kss : List (List Value)) : Prop where
  o4 : w.ownsRow B 9 1 v4 l.length (strVs (l.map Prod.fst))
  o5 : w.ownsRow B 58 4 v5 l.length kss.flatten
  len : kss.length = l.length
  four : ∀ vs ∈ kss, vs.length = 4
  tys : ∀ (i : Nat) T vs, (l.map Prod.snd)[i]? = some T → kss[i]? = some vs → TyV w (fun g => B ≤ g ∧ some g ≠ v4.ownBlock ∧ some g ≠ v5.ownBlock) T vs
theorem Rows2.keep {w w' : World} {B : Nat} {v4 v5 : Value} {l : List (Bys × Ty)} {kss : List (List Value)} (h : Rows2 w B v4 v5 l kss) {c : Nat} (hg : w.grownBy w' (some c)) (hc : c < B) : Rows2 w' B v4 v5 l kss := by
  have n4 : v4.ownBlock = none ∨ v4.ownBlock ≠ some c := by
    cases hv : v4.ownBlock with
    | none => exact .inl rfl
    | some g => exact .inr (by have := (h.o4.lt g hv).1; simp; omega)
  have n5 : v5.ownBlock = none ∨ v5.ownBlock ≠ some c := by
    cases hv : v5.ownBlock with
    | none => exact .inl rfl
    | some g => exact .inr (by have := (h.o5.lt g hv).1; simp; omega)
  exact ⟨h.o4.kept hg n4, h.o5.kept hg n5, h.len, h.four, fun i T vs hT hvs => (h.tys i T vs hT hvs).keep hg.size fun g hgS hlt => hg.block g hlt (by simp; omega)⟩

theorem own_apart {w : World} {base n size n' size' : Nat} {e e' : TypeId} {v v' : Value} {xs xs' : List Value} (h : w.ownsRow base e size v n xs) (h' : w.ownsRow base e' size' v' n' xs') (hne : e ≠ e') : v.ownBlock = none ∨ v.ownBlock ≠ v'.ownBlock := by
  cases hv : v.ownBlock with
  | none => exact .inl rfl
  | some g =>
    refine .inr fun e1 => ?_
    rcases h with ⟨_, ⟨h3, _⟩ | ⟨g0, cap, cur, h3, _, h4, _⟩⟩
    · subst h3; cases hv
    · subst h3
      injection hv with hv
      subst hv
      obtain ⟨_, cs, fr, h5⟩ := own_turn h' e1.symm h4
      injection h5 with _ h5
      exact hne h5
theorem grown_none {w w' : World} (h : Below w.heap.size w w') : w.grownBy w' none := grown_of_below h none
theorem strVs_snoc (l : List Bys) (x : Bys) : strVs (l ++ [x]) = strVs l ++ [.string (bs x)] := by simp [strVs]

/-- One name and one type more. -/
theorem Rows2.more {w W1 W2 W3 W4 : World} {B : Nat} {v4 v5 v4' v5' : Value} {l : List (Bys × Ty)} {kss : List (List Value)} {x : Bys} {T : Ty} {vs : List Value} (h : Rows2 w B v4 v5 l kss)
    (_hB : B ≤ w.heap.size) (hT : TyV w (fun g => B ≤ g ∧ some g ≠ v4.ownBlock ∧ some g ≠ v5.ownBlock) T vs)
    (b1 : Below w.heap.size w W1) (g2 : W1.grownBy W2 v4.ownBlock) (o4 : W2.ownsRow B 9 1 v4' (l.length + 1) (strVs (l.map Prod.fst) ++ [.string (bs x)]))
    (hn : ∀ k, v4'.ownBlock = some k → v4.ownBlock = some k ∨ W1.heap.size ≤ k)
    (b3 : Below W2.heap.size W2 W3) (g4 : W3.grownBy W4 v5.ownBlock) (o5 : W4.ownsRow B 58 4 v5' (l.length + 1) (kss.flatten ++ vs))
    (hm : ∀ k, v5'.ownBlock = some k → v5.ownBlock = some k ∨ W3.heap.size ≤ k) :
    Rows2 W4 B v4' v5' (l ++ [(x, T)]) (kss ++ [vs]) := by
  have s1 := b1.size
  have s2 := g2.size
  have s3 := b3.size
  have s4 := g4.size
  have k4 := fun k (hk : v4.ownBlock = some k) => h.o4.lt k hk
  have k5 := fun k (hk : v5.ownBlock = some k) => h.o5.lt k hk
  have stay : ∀ g, g < w.heap.size → some g ≠ v4.ownBlock → some g ≠ v5.ownBlock → W4.heap[g]? = w.heap[g]? := fun g hg h4 h5 =>
    (g4.block g (by omega) h5).trans ((b3.block g (by omega)).trans ((g2.block g (by omega) h4).trans (b1.block g hg)))
  have keep : ∀ {T : Ty} {vs : List Value}, TyV w (fun g => B ≤ g ∧ some g ≠ v4.ownBlock ∧ some g ≠ v5.ownBlock) T vs → TyV W4 (fun g => B ≤ g ∧ some g ≠ v4'.ownBlock ∧ some g ≠ v5'.ownBlock) T vs := fun hT => by
    refine (hT.mono (S' := fun g => (B ≤ g ∧ some g ≠ v4.ownBlock ∧ some g ≠ v5.ownBlock) ∧ g < w.heap.size) (fun g h1 h2 => ⟨h1, h2⟩)).keep (by omega) (fun g h1 _ => stay g h1.2 h1.1.2.1 h1.1.2.2) |>.mono fun g h1 _ => ⟨h1.1.1, fun e => ?_, fun e => ?_⟩
    · rcases hn g e.symm with q | q
      · exact h1.1.2.1 q.symm
      · have := h1.2; omega
    · rcases hm g e.symm with q | q
      · exact h1.1.2.2 q.symm
      · have := h1.2; omega
  refine ⟨?_, ?_, by simp [h.len], fun x hx => ?_, fun i U us hU hus => ?_⟩
  · have e1 : (l ++ [(x, T)]).length = l.length + 1 := by simp
    have e2 : (l ++ [(x, T)]).map Prod.fst = l.map Prod.fst ++ [x] := by simp
    rw [e1, e2, strVs_snoc]
    refine ((o4.kept (grown_none b3) (by cases v4'.ownBlock <;> simp)).kept g4 ?_)
    cases hv : v4'.ownBlock with
    | none => exact .inl rfl
    | some k =>
      refine .inr fun e => ?_
      rcases hn k hv with q | q
      · rcases own_apart h.o4 h.o5 (by decide) with q2 | q2
        · rw [q2] at q; cases q
        · exact q2 (q.trans e)
      · have := (k5 k e.symm).2; omega
  · have e1 : (l ++ [(x, T)]).length = l.length + 1 := by simp
    rw [e1, List.flatten_append]
    simpa using o5
  · rcases List.mem_append.1 hx with hx | hx
    · exact h.four x hx
    · simp at hx; subst hx; exact hT.len
  · rw [List.map_append] at hU
    by_cases hi : i < l.length
    · rw [List.getElem?_append_left (by simpa using hi)] at hU
      rw [List.getElem?_append_left (by rw [h.len]; exact hi)] at hus
      exact keep (h.tys i U us hU hus)
    · rw [List.getElem?_append_right (by simp; omega)] at hU
      rw [List.getElem?_append_right (by rw [h.len]; omega)] at hus
      rw [h.len] at hus
      simp only [List.length_map] at hU
      cases hq : i - l.length with
      | zero =>
        rw [hq] at hU hus
        simp at hU hus
        subst hU hus
        exact keep hT
      | succ q => rw [hq] at hU; simp at hU
end Go.Proofs.YthcoppfdffhjfaaGreatDoor
