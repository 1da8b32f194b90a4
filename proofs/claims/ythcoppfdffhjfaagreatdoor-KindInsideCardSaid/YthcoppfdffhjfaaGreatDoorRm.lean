/- A queue of pairs: a row that is cut off at its head and appended to. -/
import Derived.Test.YthcoppfdffhjfaaGreatDoorRl
namespace Go.Proofs.YthcoppfdffhjfaaGreatDoor
open Go Go.RowKit

/-- n pairs of eight cells each, from wherever in a block of the queue's own. -/
def QRow (w : World) (base : Nat) (v : Value) (n : Nat) (xs : List Value) : Prop :=
  xs.length = n * 8 ∧ ∃ g o cap cur, v = .slice (some ⟨g, o, none⟩) n cap ∧ base ≤ g ∧ w.heap[g]? = some (.cells cur 96 (0, 0)) ∧ n ≤ cap ∧ o + cap * 8 ≤ cur.size ∧ (cur.toList.drop o).take (n * 8) = xs
/-- What the queue's append may turn. -/
def QT (base : Nat) (i : Nat) (o : Obj) : Prop := base ≤ i ∧ ∃ cs fr, o = .cells cs 96 fr

theorem QRow.turns {T : Nat → Obj → Prop} {w w' : World} {base n : Nat} {v : Value} {xs : List Value} (h : QRow w base v n xs) (ht : Turns T w w') (hT : ∀ g cur, base ≤ g → ¬ T g (.cells cur 96 (0, 0))) : QRow w' base v n xs := by
  obtain ⟨h1, g, o, cap, cur, h2, h3, h4, h5⟩ := h
  exact ⟨h1, g, o, cap, cur, h2, h3, ht.same g _ h4 (hT g cur h3), h5⟩
theorem QRow.below {w w' : World} {base n : Nat} {v : Value} {xs : List Value} (h : QRow w base v n xs) (hb : Below w.heap.size w w') : QRow w' base v n xs :=
  h.turns (T := fun _ _ => False) (Turns.of_below hb) (fun _ _ _ h => h)
theorem QRow.shape {w : World} {base n : Nat} {v : Value} {xs : List Value} (h : QRow w base v n xs) : ∃ g o cap, v = .slice (some ⟨g, o, none⟩) n cap := by
  obtain ⟨_, g, o, cap, _, h, _⟩ := h
  exact ⟨g, o, cap, h⟩
/-- The first pair's cells, and the queue behind it. -/
theorem QRow.head {w : World} {base n : Nat} {v : Value} {x0 x1 x2 x3 x4 x5 x6 x7 : Value} {xs : List Value} (h : QRow w base v (n + 1) (x0 :: x1 :: x2 :: x3 :: x4 :: x5 :: x6 :: x7 :: xs)) :
    ∃ g o cap, v = .slice (some ⟨g, o, none⟩) (n + 1) cap ∧ g < w.heap.size ∧ n + 1 ≤ cap ∧ w.cell? ⟨g, o, none⟩ = some x0 ∧ w.cell? ⟨g, o + 1, none⟩ = some x1 ∧ w.cell? ⟨g, o + 2, none⟩ = some x2 ∧ w.cell? ⟨g, o + 3, none⟩ = some x3 ∧
      w.cell? ⟨g, o + 4, none⟩ = some x4 ∧ w.cell? ⟨g, o + 5, none⟩ = some x5 ∧ w.cell? ⟨g, o + 6, none⟩ = some x6 ∧ w.cell? ⟨g, o + 7, none⟩ = some x7 ∧
      QRow w base (.slice (some ⟨g, if cap = 1 then o else o + 8, none⟩) n (cap - 1)) n xs := by
  obtain ⟨h1, g, o, cap, cur, rfl, h3, h4, h5, h6, h7⟩ := h
  have hc : ∀ j u, (x0 :: x1 :: x2 :: x3 :: x4 :: x5 :: x6 :: x7 :: xs)[j]? = some u → w.cell? ⟨g, o + j, none⟩ = some u := fun j u hj => by
    rw [← h7, List.getElem?_take] at hj
    split at hj
    · rw [List.getElem?_drop] at hj
      rw [cell_of_row w g (o + j) cur 96 (0, 0) h4]
      simpa using hj
    · cases hj
  refine ⟨g, o, cap, rfl, (Array.getElem?_eq_some_iff.1 h4).1, h5, hc 0 _ rfl, hc 1 _ rfl, hc 2 _ rfl, hc 3 _ rfl, hc 4 _ rfl, hc 5 _ rfl, hc 6 _ rfl, hc 7 _ rfl, ?_⟩
  have hxl : xs.length = n * 8 := by simp at h1; omega
  refine ⟨hxl, g, _, cap - 1, cur, rfl, h3, h4, by omega, ?_, ?_⟩
  · split <;> omega
  · have e : (cur.toList.drop (o + 8)).take (n * 8) = xs := by
      have := congrArg (List.drop 8) h7
      rw [List.drop_take, List.drop_drop] at this
      rw [show (n + 1) * 8 - 8 = n * 8 by omega] at this
      exact this
    split
    · have hn : n = 0 := by omega
      subst hn
      have : xs = [] := List.length_eq_zero_iff.1 (by simpa using hxl)
      subst this
      simp
    · exact e
theorem slice_q (g o n cap : Nat) (_h : n + 1 ≤ cap) (w : World) : (Instr.slice 97 (.slice (some ⟨g, o, none⟩) (n + 1) cap) (some (.int .i64 1)) none none).run Tryz.prog w = .ok (.slice (some ⟨g, if cap = 1 then o else o + 8, none⟩) n (cap - 1)) w := by
  have t97 : Tryz.prog.underlying 97 = some (.slice 96) := by kernel_rfl
  have z96 := Tryz.sizeOf96
  simp [Instr.slice, run_underlying t97, Instr.sliceBounds, Instr.sliceBound, asIntOf, go_sem]
  rw [if_pos (by omega)]
  split <;> rfl
theorem info96 : (Tryz.prog.info? 96).map (fun i => (i.zero.map fun z => z.cells.size, i.size, i.bytes)) = some (some 8, 8, 144) := by kernel_rfl
theorem info96' : ∃ i z, Tryz.prog.info? 96 = some i ∧ i.zero = some z ∧ z.cells.size = 8 ∧ i.size = 8 ∧ i.bytes = 144 := by
  have := info96
  cases h : Tryz.prog.info? 96 with
  | none => rw [h] at this; cases this
  | some i =>
    rw [h] at this
    simp only [Option.map_some, Option.some.injEq, Prod.mk.injEq] at this
    cases hz : i.zero with
    | none => rw [hz] at this; simp at this
    | some z =>
      rw [hz] at this
      exact ⟨i, z, rfl, hz, by simpa using this.1, this.2.1, this.2.2⟩

/-- One more pair. -/
theorem run_append_q (ty : TypeId) (base n : Nat) (v : Value) (xs : List Value) (w : World) (hq : QRow w base v n xs) (hn : n ≤ 100000) (hbase : base ≤ w.heap.size) (ad : Addr) (c : Nat) (news : List Value) (hl : news.length = 8)
    (hnews : ∀ j u, news[j]? = some u → w.cell? (ad.add j) = some u) (h1 : ∀ u ∈ news, u.oneCell' = true) :
    ∃ v' w', (Builtin.append_ #[97, 97] ty #[v, .slice (some ad) 1 c]).run Tryz.prog w = .ok v' w' ∧ QRow w' base v' (n + 1) (xs ++ news) ∧ Turns (QT base) w w' := by
  obtain ⟨i, z, hi, hz, hzs, hsz, hby⟩ := info96'
  have t97 : Tryz.prog.underlying 97 = some (.slice 96) := by kernel_rfl
  obtain ⟨hx, g, o, cap, cur, rfl, hg, hh, hnc, hfit, htk⟩ := hq
  have hlen : (xs ++ news).length = (n + 1) * 8 := by rw [List.length_append, hx, hl]; omega
  have hcs : cur.toList.length = cur.size := by simp
  by_cases hroom : n + 1 ≤ cap
  · have hfc := run_firstCells_some (P := Tryz.prog) w i.size 1 ad 1 c news (by rw [hl, hsz]) hnews
    have hst := run_storeCells_at Tryz.prog g (o + n * 8) 96 news 0 cur w hh (by rw [hl]; omega) h1
    simp only [Nat.add_zero] at hst
    have hr : (Builtin.append_ #[97, 97] ty #[.slice (some ⟨g, o, none⟩) n cap, .slice (some ad) 1 c]).run Tryz.prog w =
        .ok (.slice (some ⟨g, o, none⟩) (n + 1) cap) (w.setRow g (cur.toList.take (o + n * 8) ++ news ++ cur.toList.drop (o + n * 8 + news.length)).toArray) := by
      rw [← hsz] at hst ⊢
      simp [Builtin.append_, run_underlying t97, sizeOf, typeInfo, hi, Builtin.lenOf, hroom, hfc, Addr.add_lit, hst]
    refine ⟨_, _, hr, ⟨hlen, g, o, cap, _, rfl, hg, setRow_heap w g cur _ 96 _ hh, hroom, ?_, ?_⟩, ?_⟩
    · simp only [List.size_toArray, List.length_append, List.length_take, List.length_drop, hcs]
      omega
    · have e1 : (cur.toList.take (o + n * 8)).drop o = xs := by rw [List.drop_take, show o + n * 8 - o = n * 8 by omega]; exact htk
      have e2 : o ≤ (cur.toList.take (o + n * 8)).length := by rw [List.length_take, hcs]; omega
      simp only
      rw [List.append_assoc, List.drop_append_of_le_length e2, e1, ← List.append_assoc, ← hlen]
      exact List.take_left
    · refine ⟨rfl, rfl, rfl, by simp, fun k ob hk hnk => ?_⟩
      rw [setRow_other w g k _ ?_]
      · exact hk
      · rintro rfl
        rw [hh] at hk
        injection hk with hk
        subst hk
        exact hnk ⟨hg, _, _, rfl⟩
  · have holds : ∀ j u, xs[j]? = some u → w.cell? ((⟨g, o, none⟩ : Addr).add j) = some u := fun j u hj => by
      rw [Addr.add_lit, cell_of_row w g (o + j) cur 96 (0, 0) hh]
      rw [← htk, List.getElem?_take] at hj
      split at hj
      · rw [List.getElem?_drop] at hj
        simpa using hj
      · cases hj
    have hr := run_append_grow (P := Tryz.prog) w 97 ty 96 i z t97 hi hz ⟨g, o, none⟩ n cap xs (by rw [hx, hsz]) holds ad 1 c news (by rw [hl, hsz]) hnews (by omega) (by omega) (growslice_fits (by omega) (by rw [hby]; omega))
    have hge := grownCap_ge w (n + 1) cap 96
    refine ⟨_, _, hr, ⟨hlen, w.heap.size, 0, _, _, rfl, hbase, heap_alloc_new w.drew _, hge, ?_, ?_⟩, ⟨rfl, rfl, rfl, by simp, fun k ob hk _ => ?_⟩⟩
    · simp only [Array.size_append, List.size_toArray, size_zeroCells, hzs, hx, hl]
      omega
    · simp only [Array.toList_append, List.append_assoc, List.drop_zero]
      rw [← List.append_assoc, ← hlen]
      exact List.take_left
    · exact (Below.heap_alloc w.drew _ k (Array.getElem?_eq_some_iff.1 hk).1).trans hk
end Go.Proofs.YthcoppfdffhjfaaGreatDoor
