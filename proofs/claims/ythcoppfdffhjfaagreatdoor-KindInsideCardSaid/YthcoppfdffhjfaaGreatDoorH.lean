/- How a type lies in memory when it has been read. -/
import Derived.Test.YthcoppfdffhjfaaGreatDoorG
namespace Go.Proofs.YthcoppfdffhjfaaGreatDoor
open Go Go.RowKit

def kidsOf : Ty → List Ty
  | .arr t => [t]
  | .app _ t => [t]
  | .rcd _ fs => fs.list.map Prod.snd
  | _ => []
def namesOf : Ty → List Bys
  | .rcd _ fs => fs.list.map Prod.fst
  | _ => []

/-- Rows of four cells each. -/
def TyRow (w : World) (g o : Nat) (kss : List (List Value)) : Prop := ∀ i vs j v, kss[i]? = some vs → vs[j]? = some v → w.cell? ⟨g, o + i * 4 + j, none⟩ = some v
/-- A slice of names, its block among S. -/
def NmV (w : World) (S : Nat → Prop) (v : Value) (l : List Bys) : Prop :=
  (l = [] ∧ v = .slice none 0 0) ∨ ∃ g cap, v = .slice (some ⟨g, 0, none⟩) l.length cap ∧ S g ∧ g < w.heap.size ∧ StrRow w g 0 l ∧ l ≠ []
/-- A slice of types, its block among S. -/
def KdV (w : World) (S : Nat → Prop) (v : Value) (kss : List (List Value)) : Prop :=
  (kss = [] ∧ v = .slice none 0 0) ∨ ∃ g cap, v = .slice (some ⟨g, 0, none⟩) kss.length cap ∧ S g ∧ g < w.heap.size ∧ TyRow w g 0 kss ∧ kss ≠ []
/-- The cells of a type that has been read; what they refer to lies in blocks of S. -/
inductive TyV (w : World) (S : Nat → Prop) : Ty → List Value → Prop
  | mk (T : Ty) (vn vk : Value) (kss : List (List Value)) (hn : NmV w S vn (namesOf T)) (hk : KdV w S vk kss) (hl : kss.length = (kidsOf T).length)
      (h : ∀ (i : Nat) T' vs, (kidsOf T)[i]? = some T' → kss[i]? = some vs → TyV w S T' vs) : TyV w S T [.string (bs T.pr), .int .u8 T.kind, vn, vk]

section
variable {w w' : World} {S S' : Nat → Prop}
theorem StrRow.keep {g o : Nat} {l : List Bys} (h : StrRow w g o l) (hs : w'.heap[g]? = w.heap[g]?) : StrRow w' g o l := fun i x hi => (World.cell?_of_block (a := ⟨g, o + i, none⟩) hs).trans (h i x hi)
theorem TyRow.keep {g o : Nat} {kss : List (List Value)} (h : TyRow w g o kss) (hs : w'.heap[g]? = w.heap[g]?) : TyRow w' g o kss := fun i vs j v hi hj => (World.cell?_of_block (a := ⟨g, o + i * 4 + j, none⟩) hs).trans (h i vs j v hi hj)
theorem NmV.keep {v : Value} {l : List Bys} (h : NmV w S v l) (hsz : w.heap.size ≤ w'.heap.size) (hs : ∀ g, S g → g < w.heap.size → w'.heap[g]? = w.heap[g]?) : NmV w' S v l := by
  rcases h with h | ⟨g, cap, h1, h2, h3, h4, h5⟩
  · exact .inl h
  · exact .inr ⟨g, cap, h1, h2, by omega, h4.keep (hs g h2 h3), h5⟩
theorem KdV.keep {v : Value} {kss : List (List Value)} (h : KdV w S v kss) (hsz : w.heap.size ≤ w'.heap.size) (hs : ∀ g, S g → g < w.heap.size → w'.heap[g]? = w.heap[g]?) : KdV w' S v kss := by
  rcases h with h | ⟨g, cap, h1, h2, h3, h4, h5⟩
  · exact .inl h
  · exact .inr ⟨g, cap, h1, h2, by omega, h4.keep (hs g h2 h3), h5⟩
theorem NmV.mono {v : Value} {l : List Bys} (h : NmV w S v l) (hs : ∀ g, S g → g < w.heap.size → S' g) : NmV w S' v l := by
  rcases h with h | ⟨g, cap, h1, h2, h3, h4⟩
  · exact .inl h
  · exact .inr ⟨g, cap, h1, hs g h2 h3, h3, h4⟩
theorem KdV.mono {v : Value} {kss : List (List Value)} (h : KdV w S v kss) (hs : ∀ g, S g → g < w.heap.size → S' g) : KdV w S' v kss := by
  rcases h with h | ⟨g, cap, h1, h2, h3, h4⟩
  · exact .inl h
  · exact .inr ⟨g, cap, h1, hs g h2 h3, h3, h4⟩
theorem TyV.keep {T : Ty} {vs : List Value} (h : TyV w S T vs) (hsz : w.heap.size ≤ w'.heap.size) (hs : ∀ g, S g → g < w.heap.size → w'.heap[g]? = w.heap[g]?) : TyV w' S T vs := by
  induction h with
  | mk T vn vk kss hn hk hl _ ih => exact .mk T vn vk kss (hn.keep hsz hs) (hk.keep hsz hs) hl ih
theorem TyV.mono {T : Ty} {vs : List Value} (h : TyV w S T vs) (hs : ∀ g, S g → g < w.heap.size → S' g) : TyV w S' T vs := by
  induction h with
  | mk T vn vk kss hn hk hl _ ih => exact .mk T vn vk kss (hn.mono hs) (hk.mono hs) hl ih
theorem TyV.inv {T : Ty} {vs : List Value} (h : TyV w S T vs) : ∃ vn vk kss, vs = [.string (bs T.pr), .int .u8 T.kind, vn, vk] ∧ NmV w S vn (namesOf T) ∧ KdV w S vk kss ∧ kss.length = (kidsOf T).length ∧
    ∀ (i : Nat) T' vs, (kidsOf T)[i]? = some T' → kss[i]? = some vs → TyV w S T' vs := by
  cases h with
  | mk _ vn vk kss hn hk hl h => exact ⟨vn, vk, kss, rfl, hn, hk, hl, h⟩
theorem NmV.shape {v : Value} {l : List Bys} (h : NmV w S v l) : ∃ ao n c, v = .slice ao n c := by
  rcases h with ⟨_, h⟩ | ⟨g, cap, h, _⟩
  · exact ⟨_, _, _, h⟩
  · exact ⟨_, _, _, h⟩
theorem KdV.shape {v : Value} {l : List (List Value)} (h : KdV w S v l) : ∃ ao n c, v = .slice ao n c := by
  rcases h with ⟨_, h⟩ | ⟨g, cap, h, _⟩
  · exact ⟨_, _, _, h⟩
  · exact ⟨_, _, _, h⟩
/-- The four cells of a type. -/
theorem TyV.four {T : Ty} {vs : List Value} (h : TyV w S T vs) : ∃ an nn cn ak nk ck, vs = [.string (bs T.pr), .int .u8 T.kind, .slice an nn cn, .slice ak nk ck] := by
  obtain ⟨vn, vk, kss, rfl, hn, hk, _⟩ := h.inv
  obtain ⟨an, nn, cn, rfl⟩ := hn.shape
  obtain ⟨ak, nk, ck, rfl⟩ := hk.shape
  exact ⟨_, _, _, _, _, _, rfl⟩
theorem TyV.len {T : Ty} {vs : List Value} (h : TyV w S T vs) : vs.length = 4 := by
  obtain ⟨vn, vk, kss, rfl, _⟩ := h.inv
  rfl
end

theorem flatten_at : ∀ (kss : List (List Value)), (∀ vs ∈ kss, vs.length = 4) → ∀ i vs j v, kss[i]? = some vs → vs[j]? = some v → kss.flatten[i * 4 + j]? = some v
  | [], _, i, vs, j, v, h, _ => by simp at h
  | x :: kss, h4, i, vs, j, v, h, hj => by
    have hx := h4 x (by simp)
    rw [List.flatten_cons]
    cases i with
    | zero =>
      simp at h
      subst h
      have := (List.getElem?_eq_some_iff.1 hj).1
      rw [Nat.zero_mul, Nat.zero_add, List.getElem?_append_left (by omega)]
      exact hj
    | succ i =>
      simp at h
      rw [List.getElem?_append_right (by omega), hx, show (i + 1) * 4 + j - 4 = i * 4 + j by omega]
      exact flatten_at kss (fun y hy => h4 y (by simp [hy])) i vs j v h hj

theorem own_kids {w : World} {base : Nat} {v : Value} {kss : List (List Value)} (h : w.ownsRow base 58 4 v kss.length kss.flatten) (h4 : ∀ vs ∈ kss, vs.length = 4) (hn : 0 < kss.length) : ∃ g cap, v = .slice (some ⟨g, 0, none⟩) kss.length cap ∧ base ≤ g ∧ g < w.heap.size ∧ TyRow w g 0 kss := by
  rcases h with ⟨h1, ⟨_, h0⟩ | ⟨g, cap, cur, hv, hg, hh, hc, _, hcs, ht⟩⟩
  · omega
  · refine ⟨g, cap, hv, hg, (Array.getElem?_eq_some_iff.1 hh).1, fun i vs j v hi hj => ?_⟩
    have e := flatten_at kss h4 i vs j v hi hj
    have hlt : i * 4 + j < kss.flatten.length := (List.getElem?_eq_some_iff.1 e).1
    have hil : i < kss.length := (List.getElem?_eq_some_iff.1 hi).1
    have hj4 : j < 4 := by have := h4 vs (List.mem_of_getElem? hi); have := (List.getElem?_eq_some_iff.1 hj).1; omega
    rw [Nat.zero_add, cell_of_row w g (i * 4 + j) cur 58 (0, 0) hh, ← e, ← ht, List.getElem?_take, if_pos (by omega)]
    simp

theorem kids_one (w : World) (vs : List Value) (t : TypeId) : TyRow (w.alloc (.cells vs.toArray t)) w.heap.size 0 [vs] := by
  intro i vs' j v hi hj
  cases i with
  | zero =>
    simp at hi
    subst hi
    rw [cell_of_row _ _ _ vs.toArray t (0, 0) (heap_alloc_new w _)]
    simpa using hj
  | succ i => simp at hi

theorem info9 : (Tryz.prog.info? 9).map (fun i => (i.zero, i.size, i.bytes)) = some (some (.string ByteArray.empty), 1, 16) := by kernel_rfl
theorem info58 : (Tryz.prog.info? 58).map (fun i => (i.zero, i.size, i.bytes)) = some (some (.agg #[.string ByteArray.empty, .int .u8 0, .slice none 0 0, .slice none 0 0]), 4, 72) := by kernel_rfl

end Go.Proofs.YthcoppfdffhjfaaGreatDoor
