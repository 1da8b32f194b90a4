/- The map of the fronts of types; whether parts may stand. -/
import Derived.Test.YthcoppfdffhjfaaGreatDoorE
import Derived.Laws.MakeOwn
import Derived.Laws.Entries
import Derived.Laws.EntriesVeiled
namespace Go.Proofs.YthcoppfdffhjfaaGreatDoor
open Go Go.RowKit

def frontL : List (Bys × Int) := [(kInt, 1), (kBool, 2), (kNull, 3), (kArray, 4), (kRecord, 5), (kOneof, 6), (qt, 8)]
def frontAt (k : Nat) : Bys := (frontL.getD k ([], 0)).1
def frontN (k : Nat) : Int := (frontL.getD k ([], 0)).2
/-- The kind of a front: 0: it has none. -/
def frontK (s : Bys) : Int := ((frontL.find? fun p => p.1 == s).map Prod.snd).getD 0
def kindEntry (k : Nat) : MapEntry := { key := .string (bs (frontAt k)), val := .int .u8 (frontN k), born := k }
/-- The map's entries when the first k fronts have been stored. -/
def kindArr (k : Nat) : Array MapEntry := ((List.range k).map kindEntry).toArray
def Kinds (w : World) (m : Nat) : Prop := w.heap[m]? = some (.map (kindArr 7) 7)
theorem Kinds.lt {w : World} {m : Nat} (h : Kinds w m) : m < w.heap.size := (Array.getElem?_eq_some_iff.1 h).1
theorem Kinds.below {w w' : World} {m B : Nat} (h : Kinds w m) (hb : Below B w w') (hm : m < B) : Kinds w' m := (hb.block m hm).trans h
theorem Kinds.grown {w w' : World} {m : Nat} {row : Option Nat} (h : Kinds w m) (hb : w.grownBy w' row) (hm : some m ≠ row) : Kinds w' m := (hb.block m h.lt hm).trans h

theorem ba_beq {a b : ByteArray} : (a == b) = true ↔ a = b := by
  rw [beq_toListBytes, beq_iff_eq, ByteArray.toList_eq, ByteArray.toList_eq]
  exact ⟨fun h => by rw [← bs_toList a, ← bs_toList b, h], fun h => by rw [h]⟩
theorem ba_beq_false {a b : ByteArray} : (a == b) = false ↔ a ≠ b := by
  rw [← Bool.not_eq_true, ba_beq]

theorem findNow_kind (s : Bys) : ∀ (ks : List Nat) (i : Nat), ∃ r, Instr.findNow .string (.string (bs s)) (ks.map kindEntry) i = some r ∧
    ((r = none ∧ ∀ k ∈ ks, frontAt k ≠ s) ∨ (∃ j, ∃ k ∈ ks, r = some (j, .int .u8 (frontN k)) ∧ frontAt k = s))
  | [], i => ⟨none, rfl, .inl ⟨rfl, fun k hk => by cases hk⟩⟩
  | k :: ks, i => by
    simp only [List.map_cons, Instr.findNow, kindEntry, Instr.sameNow]
    cases hq : (bs s == bs (frontAt k)) with
    | true =>
      rw [ba_beq, bs_inj] at hq
      exact ⟨_, rfl, .inr ⟨i, k, by simp, rfl, hq.symm⟩⟩
    | false =>
      rw [ba_beq_false, Ne, bs_inj] at hq
      obtain ⟨r, h1, h2⟩ := findNow_kind s ks (i + 1)
      refine ⟨r, h1, ?_⟩
      rcases h2 with ⟨h2, h3⟩ | ⟨j, k', h3, h4, h5⟩
      · refine .inl ⟨h2, fun x hx => ?_⟩
        rcases List.mem_cons.1 hx with rfl | hx
        · exact fun e => hq e.symm
        · exact h3 x hx
      · exact .inr ⟨j, k', List.mem_cons_of_mem _ h3, h4, h5⟩

theorem frontK_at : ∀ k, k < 7 → frontK (frontAt k) = frontN k := by decide +kernel
theorem frontK_none {s : Bys} (h : ∀ k, k < 7 → frontAt k ≠ s) : frontK s = 0 := by
  unfold frontK
  rw [List.find?_eq_none.2]
  · rfl
  intro p hp
  obtain ⟨k, hk, rfl⟩ := List.getElem_of_mem hp
  have := h k hk
  simp only [frontAt, List.getD, List.getElem?_eq_getElem hk, Option.getD_some] at this
  simpa using this

theorem run_checkKey_string (empty : Bool) (s : ByteArray) (w : World) : (Instr.checkKey empty 10000 9 (.string s)).run Tryz.prog w = .ok () w := by
  have gen : ∀ n : Nat, (Instr.checkKey empty (n + 1) 9 (.string s)).run Tryz.prog w = .ok () w := fun n => by
    simp [Instr.checkKey, Sem.run_bind, run_underlying Tryz.underlying9]
  exact gen 9999

theorem lookup_kind {w : World} {m : Nat} (h : Kinds w m) (s : Bys) : (Instr.lookup 78 (.map (some m)) (.string (bs s)) false).run Tryz.prog w = .ok (.int .u8 (frontK s)) w := by
  have hg : (getObj m).run Tryz.prog w = .ok (.map (kindArr 7) 7) w := by
    have h' : w.heap[m]? = some (.map (kindArr 7) 7) := h
    simp [getObj, Sem.run, h']
  obtain ⟨r, h1, h2⟩ := findNow_kind s (List.range 7) 0
  have hl : (kindArr 7).toList = (List.range 7).map kindEntry := by simp [kindArr]
  have hf : (Instr.findKey 9 (.string (bs s)) (kindArr 7).toList).run Tryz.prog w = .ok r w := by
    simp [Instr.findKey, Sem.run_bind, run_underlying Tryz.underlying9, hl, h1]
  have hz : (zeroValue 5).run Tryz.prog w = .ok (.int .u8 0) w := by kernel_rfl
  rcases h2 with ⟨rfl, h3⟩ | ⟨j, k, h3, rfl, rfl⟩
  · rw [frontK_none (fun k hk => h3 k (List.mem_range.2 hk))]
    simp [Instr.lookup, Sem.run_bind, run_underlying Tryz.underlying78, hg, run_checkKey_string, hf, hz, Result.andThen]
  · rw [frontK_at k (List.mem_range.1 h3)]
    simp [Instr.lookup, Sem.run_bind, run_underlying Tryz.underlying78, hg, run_checkKey_string, hf, Result.andThen]

theorem kindArr_succ (k : Nat) : (kindArr k).push (kindEntry k) = kindArr (k + 1) := by
  simp [kindArr, List.range_succ]
theorem fronts_apart : ∀ k, k < 7 → ∀ j, j < k → frontAt j ≠ frontAt k := by decide +kernel

theorem store_kind {w : World} {m k : Nat} (h : w.heap[m]? = some (.map (kindArr k) k)) (hk : k < 7) :
    (Instr.mapUpdate 78 (.map (some m)) (.string (bs (frontAt k))) (.int .u8 (frontN k))).run Tryz.prog w = .ok () (w.putObj m (.map (kindArr (k + 1)) (k + 1))) := by
  have hg : (getObj m).run Tryz.prog w = .ok (.map (kindArr k) k) w := by simp [getObj, Sem.run, h]
  have hs : ∀ o, (setObj m o).run Tryz.prog w = .ok () (w.putObj m o) := fun o => by simp [setObj, Sem.run, h, World.putObj]
  obtain ⟨r, h1, h2⟩ := findNow_kind (frontAt k) (List.range k) 0
  have hr : r = none := by
    rcases h2 with ⟨h2, _⟩ | ⟨_, j, h3, _, h4⟩
    · exact h2
    · exact absurd h4 (fronts_apart k hk j (List.mem_range.1 h3))
  subst hr
  have hl : (kindArr k).toList = (List.range k).map kindEntry := by simp [kindArr]
  have hf : (Instr.findKey 9 (.string (bs (frontAt k))) (kindArr k).toList).run Tryz.prog w = .ok none w := by
    simp [Instr.findKey, Sem.run_bind, run_underlying Tryz.underlying9, hl, h1]
  have hp : (kindArr k).push { key := .string (bs (frontAt k)), val := .int .u8 (frontN k), born := k } = kindArr (k + 1) := kindArr_succ k
  simp [Instr.mapUpdate, Sem.run_bind, run_underlying Tryz.underlying78, hg, run_checkKey_string, hf, hs, Result.andThen, hp]

/-- A store into a map whose run is known. -/
theorem wpList_insert_of {P : Program} {ops : Array Oper} {rest : List Oper} {o : Oper} {a : Act} {w w1 : World} {Q : Exit → Act → World → Prop} (hgd : o.guard = none) (hd : o.dst = none) (ty : TypeId) (m k x : Operand) (ho : o.op = .insert ty m k x)
    (hr : (Instr.mapUpdate ty (a.eval m) (a.eval k) (a.eval x)).run P w = .ok () w1) (h : wpList P ops Q rest a w1) : wpList P ops Q (o :: rest) a w :=
  wpList_plain hgd fun _ hK => by
    unfold Oper.wp execOp
    simp only [ho, Sem.run_bind, hr, Result.andThen_ok, Sem.run_pure]
    exact hK _ _ (by simpa [hd, Act.put] using h)
theorem putObj_at {w : World} {m : Nat} (h : m < w.heap.size) (o : Obj) : (w.putObj m o).heap[m]? = some o := by
  simp [World.putObj, h]
theorem below_putObj {B : Nat} {a w : World} (h : Below B a w) {m : Nat} (hm : B ≤ m) (o : Obj) : Below B a (w.putObj m o) :=
  h.trans ⟨rfl, rfl, rfl, by simp, fun k hk => World.putObj_heap_other (by omega)⟩

theorem putObj_twice (w : World) (m : Nat) (o o' : Obj) : (w.putObj m o).putObj m o' = w.putObj m o' := by
  simp [World.putObj]
theorem store_next {w : World} {m k : Nat} (h : m < w.heap.size) (hk : k + 1 < 7) :
    (Instr.mapUpdate 78 (.map (some m)) (.string (bs (frontAt (k + 1)))) (.int .u8 (frontN (k + 1)))).run Tryz.prog (w.putObj m (.map (kindArr (k + 1)) (k + 1))) = .ok () (w.putObj m (.map (kindArr (k + 2)) (k + 2))) := by
  have := store_kind (w := w.putObj m (.map (kindArr (k + 1)) (k + 1))) (putObj_at h _) hk
  rwa [putObj_twice] at this

set_option maxRecDepth 100000 in
set_option maxHeartbeats 3200000 in
theorem kinds_any (w : World) : Calls Tryz.prog 74 #[] w fun e w' => e = .returned (.map (some w.heap.size)) ∧ Kinds w' w.heap.size ∧ Below w.heap.size w w' := by
  have hmm := @run_makeMap Tryz.prog
  have K0 : (w.alloc (.map #[] 0)).heap[w.heap.size]? = some (.map (kindArr 0) 0) := heap_alloc_new w _
  have S0 : w.heap.size < (w.alloc (.map #[] 0)).heap.size := by simp
  have B0 : Below w.heap.size w (w.alloc (.map #[] 0)) := (Below.refl _ _).alloc (Nat.le_refl _) _
  have H0 := Lib.hid K0
  have HB0 := Lib.hid B0
  clear K0 B0
  go_enter Tryz.func74, Tryz.ntmps74
  go_wp2_with (first | (refine wpList_insert_of rfl rfl 78 (.tmp 1) (.const (.string (bs (frontAt 0)))) (.const (.int .u8 (frontN 0))) rfl (store_kind (k := 0) H0.out (by omega)) ?_) | (refine wpList_insert_of rfl rfl 78 (.tmp 1) (.const (.string (bs (frontAt 1)))) (.const (.int .u8 (frontN 1))) rfl (store_next (k := 0) S0 (by omega)) ?_) | (refine wpList_insert_of rfl rfl 78 (.tmp 1) (.const (.string (bs (frontAt 2)))) (.const (.int .u8 (frontN 2))) rfl (store_next (k := 1) S0 (by omega)) ?_) | (refine wpList_insert_of rfl rfl 78 (.tmp 1) (.const (.string (bs (frontAt 3)))) (.const (.int .u8 (frontN 3))) rfl (store_next (k := 2) S0 (by omega)) ?_) | (refine wpList_insert_of rfl rfl 78 (.tmp 1) (.const (.string (bs (frontAt 4)))) (.const (.int .u8 (frontN 4))) rfl (store_next (k := 3) S0 (by omega)) ?_) | (refine wpList_insert_of rfl rfl 78 (.tmp 1) (.const (.string (bs (frontAt 5)))) (.const (.int .u8 (frontN 5))) rfl (store_next (k := 4) S0 (by omega)) ?_) | (refine wpList_insert_of rfl rfl 78 (.tmp 1) (.const (.string (bs (frontAt 6)))) (.const (.int .u8 (frontN 6))) rfl (store_next (k := 5) S0 (by omega)) ?_))
  go_ret
  exact ⟨rfl, putObj_at S0 _, below_putObj HB0.out (Nat.le_refl _) _⟩
end Go.Proofs.YthcoppfdffhjfaaGreatDoor
