/- The law KindRebuilt: its plain half. -/
import Derived.Test.YthcoppfdffhjfaaGreatDoorWd
namespace Go.Proofs.YthcoppfdffhjfaaGreatDoor
open Go Go.RowKit

/-- The first k of the parts, turned round by d places. -/
def rotL (l : List (Bys × Bys)) (d k : Nat) : List (Bys × Bys) := (List.range k).map fun i => l.getD ((i + d) % l.length) ([], [])
theorem rotL_len (l : List (Bys × Bys)) (d k : Nat) : (rotL l d k).length = k := by simp [rotL]
theorem rotL_snoc (l : List (Bys × Bys)) (d k : Nat) : rotL l d (k + 1) = rotL l d k ++ [l.getD ((k + d) % l.length) ([], [])] := by
  simp [rotL, List.range_succ]
theorem getD_lt {l : List (Bys × Bys)} {i : Nat} (h : i < l.length) : l.getD i ([], []) = l[i] := by simp [List.getD, h]
theorem rotL_mem {l : List (Bys × Bys)} (d : Nat) (h : 0 < l.length) (z : Bys × Bys) : z ∈ rotL l d l.length ↔ z ∈ l := by
  unfold rotL
  rw [List.mem_map]
  constructor
  · rintro ⟨i, _, rfl⟩
    rw [getD_lt (Nat.mod_lt _ h)]
    exact List.getElem_mem _
  · intro hz
    obtain ⟨j, hj, rfl⟩ := List.mem_iff_getElem.1 hz
    have hm := Nat.mod_lt d h
    refine ⟨(j + (l.length - d % l.length)) % l.length, List.mem_range.2 (Nat.mod_lt _ h), ?_⟩
    have e : ((j + (l.length - d % l.length)) % l.length + d) % l.length = j := by
      rw [Nat.add_mod, Nat.mod_mod, ← Nat.add_mod]
      have : j + (l.length - d % l.length) + d = j + l.length + (d - d % l.length) := by have := Nat.mod_le d l.length; omega
      rw [this]
      have h2 : d - d % l.length = l.length * (d / l.length) := by have := Nat.div_add_mod d l.length; omega
      rw [h2, Nat.add_assoc, show l.length + l.length * (d / l.length) = l.length * (d / l.length + 1) by rw [Nat.mul_add]; omega, Nat.add_mul_mod_self_left, Nat.mod_eq_of_lt hj]
    rw [e, getD_lt hj]
theorem mod_inj {n i j d : Nat} (hi : i < n) (hj : j < n) (h : (i + d) % n = (j + d) % n) : i = j := by
  have h1 := Nat.div_add_mod (i + d) n
  have h2 := Nat.div_add_mod (j + d) n
  rw [h] at h1
  generalize (j + d) % n = r at *
  generalize (i + d) / n = a at *
  generalize (j + d) / n = b at *
  rcases Nat.lt_trichotomy a b with hab | hab | hab
  · have : n * a + n ≤ n * b := by
      have := Nat.mul_le_mul_left n (show a + 1 ≤ b from hab)
      rw [Nat.mul_add] at this
      omega
    omega
  · subst hab; omega
  · have : n * b + n ≤ n * a := by
      have := Nat.mul_le_mul_left n (show b + 1 ≤ a from hab)
      rw [Nat.mul_add] at this
      omega
    omega
theorem rotL_nodup {l : List (Bys × Bys)} (d : Nat) (h : (l.map Prod.fst).Nodup) : ((rotL l d l.length).map Prod.fst).Nodup := by
  rw [List.Nodup, List.pairwise_iff_getElem] at h ⊢
  intro i j hi hj hij
  simp only [List.length_map, rotL_len] at hi hj
  have hpos : 0 < l.length := by omega
  simp only [rotL, List.getElem_map, List.getElem_range]
  rw [getD_lt (Nat.mod_lt _ hpos), getD_lt (Nat.mod_lt _ hpos)]
  have hne : (i + d) % l.length ≠ (j + d) % l.length := fun e => by have := mod_inj hi hj e; omega
  have a1 := Nat.mod_lt (i + d) hpos
  have a2 := Nat.mod_lt (j + d) hpos
  rcases Nat.lt_or_gt_of_ne hne with q | q
  · have := h _ _ (by simpa using a1) (by simpa using a2) q
    simpa using this
  · have := h _ _ (by simpa using a2) (by simpa using a1) q
    simp only [List.getElem_map] at this
    exact fun e => this e.symm

theorem kind_good {T : Ty} (h : Good T) : kindT T.pr = (T.kind, 0) := ofT_good h
theorem arg_good {T : Ty} (h : Good T) : argT T.pr = argF T := ofT_good h
theorem base_good {T : Ty} (h : Good T) : baseT T.pr = baseF T := ofT_good h
theorem parts_good {T : Ty} (h : Good T) : partsT T.pr = partsF T := ofT_good h
theorem limT_good {T : Ty} (h : Good T) : limT T.pr = (T.pr, 0) := by
  unfold limT
  rw [if_neg (by rw [h.chk]; omega)]
/-- What Kind, Arg, Base and Parts say of a type, and what is made of that. -/
theorem rebuilt_cases {t : Bys} (h : chk t = 0) :
    (∃ c, kindT t = (c, 0) ∧ (c ≠ 4 ∧ c ≠ 5 ∧ c ≠ 6 ∧ c ≠ 7) ∧ argT t = (([], false), 30) ∧ baseT t = ([], 30) ∧ partsT t = ([], 30)) ∨
    (∃ u, kindT t = (4, 0) ∧ argT t = ((u, true), 0) ∧ baseT t = ([], 30) ∧ partsT t = ([], 30) ∧ arrayT u = (t, 0) ∧ u.length ≤ 1000) ∨
    (∃ n u b, kindT t = (7, 0) ∧ argT t = ((u, b), 0) ∧ baseT t = (n, 0) ∧ partsT t = ([], 30) ∧ namedT n u = (t, 0) ∧ n.length ≤ 1000 ∧ u.length ≤ 1000) ∨
    (∃ o l, kindT t = (cond o 6 5, 0) ∧ argT t = (([], false), 30) ∧ baseT t = ([], 30) ∧ partsT t = (l, 0) ∧ 0 < l.length ∧ l.length ≤ 6 ∧ (∀ p ∈ l, p.1.length ≤ 1000) ∧ ∀ d, madeT o (rotL l d l.length) = (t, 0)) := by
  obtain ⟨T, hT, rfl⟩ := chk_ok h
  rw [kind_good hT, arg_good hT, base_good hT, parts_good hT]
  have hlen := hT.len
  cases T with
  | arr u =>
    refine .inr (.inl ⟨u.pr, rfl, rfl, rfl, rfl, ?_, ?_⟩)
    · have hu : Good u := hT.inside (by rw [all_kids]; refine List.mem_cons_of_mem _ ?_; simp [kidsOf, allL, all_kids u])
      unfold arrayT
      rw [if_neg (by rw [hu.chk]; omega)]
      exact limT_good hT
    · simp [Ty.pr] at hlen; omega
  | nam n =>
    refine .inr (.inr (.inl ⟨n, [], false, rfl, rfl, rfl, rfl, ?_, ?_, by simp⟩))
    · have hn : isNameL n = true := hT.wf
      unfold namedT
      rw [if_neg (by rw [hn]; decide), if_pos rfl]
      rfl
    · have : n.length ≤ 100 := hlen
      omega
  | app n u =>
    refine .inr (.inr (.inl ⟨n, u.pr, true, rfl, rfl, rfl, rfl, ?_, ?_, ?_⟩))
    · have hn : isNameL n = true := hT.wf.1
      have hu : Good u := hT.inside (by rw [all_kids]; refine List.mem_cons_of_mem _ ?_; simp [kidsOf, allL, all_kids u])
      unfold namedT
      rw [if_neg (by rw [hn]; decide), if_neg (pr_ne u hu.wf), if_neg (by rw [hu.chk]; omega)]
      exact limT_good hT
    · simp [Ty.pr] at hlen; omega
    · simp [Ty.pr] at hlen; omega
  | rcd o F =>
    obtain ⟨hw, hc⟩ := hT.wf
    obtain ⟨k1, k2⟩ := Fs.list_wf F [] hw
    have hpos := F.count_pos
    have hll : (F.list.map fun p => (p.1, p.2.pr)).length = F.count := by rw [List.length_map, Fs.list_len]
    refine .inr (.inr (.inr ⟨o, F.list.map fun p => (p.1, p.2.pr), rfl, rfl, rfl, rfl, by omega, by omega, ?_, fun d => ?_⟩))
    · intro p hp
      obtain ⟨q, hq, rfl⟩ := List.mem_map.1 hp
      have h1 : isNameL q.1 = true := (k1 q hq).1
      unfold isNameL at h1
      simp only [Bool.and_eq_true, decide_eq_true_eq] at h1
      have := h1.1.1.1.2
      simp only
      omega
    · refine made_back hT ?_ ?_ ?_
      · rw [rotL_len, hll]
      · intro z
        rw [rotL_mem d (by omega), parts_good hT]
        rfl
      · refine rotL_nodup d ?_
        rw [List.map_map]
        exact k2.nodup
  | int => exact .inl ⟨_, rfl, by decide, rfl, rfl, rfl⟩
  | bool => exact .inl ⟨_, rfl, by decide, rfl, rfl, rfl⟩
  | null => exact .inl ⟨_, rfl, by decide, rfl, rfl, rfl⟩
  | par => exact .inl ⟨_, rfl, by decide, rfl, rfl, rfl⟩
end Go.Proofs.YthcoppfdffhjfaaGreatDoor
