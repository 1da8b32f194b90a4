/- The contracts of package token's tables: what the two package-level arrays hold, and the look-ups in them. -/
import Derived.Test.YtophcjkfhneghaaDoorA
import Derived.Deep.LoopGhost
import Derived.Outline
import Derived.Lib.LaidTab
import Derived.Lib.AtoiAll
import Derived.Test.YtophcjkfhneghaaDoorShelf
namespace Go.Proofs.YtophcjkfhneghaaDoor
open Go Go.RowKit

theorem ret_bool {a b : Bool} (h : a = b) : Ending.returned (.bool a) = .returned (.bool b) := by rw [h]
theorem ret_int {k : IntKind} {a b : Int} (h : a = b) : Ending.returned (.int k a) = .returned (.int k b) := by rw [h]
/-- The k-th text of a list. -/
def atL (l : List (List UInt8)) (k : Nat) : ByteArray := bs (l.getD k [])

def strsV (l : List (List UInt8)) : Array Value := (l.map fun x => Value.string (bs x)).toArray
theorem strsV_size (l : List (List UInt8)) : (strsV l).size = l.length := by simp [strsV]
theorem strsV_at (l : List (List UInt8)) (k : Nat) (h : k < l.length) : (strsV l)[k]? = some (.string (bs (l.getD k []))) := by
  simp [strsV, h, List.getD]

/-- What the listed package-level variables hold. -/
structure Env (w : World) : Prop where
  words : ∀ k, k < 46 → w.cell? ⟨0, k, none⟩ = some (.string (bs (wordL.getD k [])))
  signs : ∀ k, k < 21 → w.cell? ⟨1, k, none⟩ = some (.string (bs (signL.getD k [])))
  syn : ∃ tp p, w.cell? ⟨2, 0, none⟩ = some (.iface tp p)
  rng : ∃ tp p, w.cell? ⟨3, 0, none⟩ = some (.iface tp p)
  pow : Lib.TabIs Tryd.prog w "internal/strconv.uint64pow10" .u64 Lib.pow10Tab
  size : 7 ≤ w.heap.size

theorem pow_named : Tryd.prog.globalNamed "internal/strconv.uint64pow10" = some 4 := by kernel_rfl
theorem Env.drewN {w : World} (h : Env w) (n : Nat) : Env (w.drewN n) := ⟨h.words, h.signs, h.syn, h.rng, h.pow, h.size⟩
theorem Env.keep {w w' : World} (h : Env w) (hb : ∀ k, k < 7 → w'.heap[k]? = w.heap[k]?) (hs : w.heap.size ≤ w'.heap.size) : Env w' :=
  ⟨fun k hk => (World.cell?_of_block (hb 0 (by omega))).trans (h.words k hk), fun k hk => (World.cell?_of_block (hb 1 (by omega))).trans (h.signs k hk),
    by obtain ⟨tp, p, e⟩ := h.syn; exact ⟨tp, p, (World.cell?_of_block (hb 2 (by omega))).trans e⟩,
    by obtain ⟨tp, p, e⟩ := h.rng; exact ⟨tp, p, (World.cell?_of_block (hb 3 (by omega))).trans e⟩,
    by
      have hp := h.pow
      unfold Lib.TabIs World.var? at hp ⊢
      rw [pow_named] at hp ⊢
      simp only [Option.bind_some] at hp ⊢
      rw [hb 4 (by omega)]
      exact hp,
    Nat.le_trans h.size hs⟩
theorem Env.below {w w' : World} (h : Env w) (hb : Below w.heap.size w w') : Env w' :=
  h.keep (fun k hk => hb.block k (by have := h.size; omega)) hb.size
theorem Env.grown {w w' : World} {b : Nat} (h : Env w) (hb : w.grownBy w' (some b)) (h7 : 7 ≤ b) : Env w' :=
  h.keep (fun k hk => hb.block k (by have := h.size; omega) (fun e => by injection e; omega)) hb.size

theorem run_load_table {P : Program} {w : World} {ty e : TypeId} {g n : Nat} {l : List (List UInt8)} (hu : P.underlying ty = some (.array n e)) (hi : (P.info? ty).map (·.size) = some n) (hn : l.length = n)
    (hc : ∀ k, k < n → w.cell? ⟨g, k, none⟩ = some (.string (bs (l.getD k [])))) : (loadVar ty ⟨g, 0, none⟩).run P w = .ok (.agg (strsV l)) w := by
  have hl : (loadCells ⟨g, 0, none⟩ (strsV l).toList.length).run P w = .ok (strsV l).toList.toArray w :=
    run_loadCells_list (P := P) w ⟨g, 0, none⟩ (strsV l).toList (fun j v hv => by
      have hadd : (⟨g, 0, none⟩ : Addr).add j = ⟨g, j, none⟩ := by unfold Addr.add; split <;> simp_all
      rw [hadd]
      have hj : j < l.length := by have := (List.getElem?_eq_some_iff.1 hv).1; simpa [strsV_size] using this
      rw [hc j (by omega)]
      rw [Array.getElem?_toList, strsV_at l j hj] at hv
      exact hv)
  cases hq : P.info? ty with
  | none => simp [hq] at hi
  | some i =>
    have hs : i.size = n := by simpa [hq] using hi
    have hagg : (isAgg ty).run P w = .ok true w := by
      unfold isAgg
      rw [Sem.run_bind, run_underlying hu w]
      simp
    simp only [Array.length_toList, Array.toArray_toList] at hl
    have hz : (strsV l).size = i.size := by rw [strsV_size, hn, hs]
    rw [hz] at hl
    simp [loadVar, Sem.run_bind, hagg, sizeOf, typeInfo, hq, hl]

/-- A load whose run is known. -/
theorem wpList_load_of {P : Program} {ops : Array Oper} {rest : List Oper} {o : Oper} {a : Act} {w : World} {Q : Exit → Act → World → Prop} (hgd : o.guard = none) (ty : TypeId) (x : Operand) (ho : o.op = .load ty x)
    (ad : Addr) (hx : a.eval x = .pointer (some ad)) (v : Value) (hr : (loadVar ty ad).run P w = .ok v w) (h : wpList P ops Q rest (a.put o.dst v) w) : wpList P ops Q (o :: rest) a w :=
  wpList_plain hgd fun _ hK => by
    unfold Oper.wp execOp
    simp only [ho, hx, Instr.loadAt, Instr.sureAddr, Sem.run_bind, Sem.run_pure, Result.andThen_ok, hr]
    exact hK _ _ h

theorem run_index_table {P : Program} {ty e : TypeId} {n : Nat} {l : List (List UInt8)} (hu : P.underlying ty = some (.array n e)) (hi : (P.info? e).map (·.size) = some 1) (hue : P.underlying e = some .string) (hn : l.length = n)
    (k : Nat) (hk : k < n) (w : World) : (Instr.index ty (.agg (strsV l)) (.int .i64 (k : Int))).run P w = .ok (.string (bs (l.getD k []))) w := by
  have hat := strsV_at l k (by omega)
  cases hq : P.info? e with
  | none => simp [hq] at hi
  | some i =>
    have hs : i.size = 1 := by simpa [hq] using hi
    simp [Instr.index, Sem.run_bind, run_underlying hu, run_underlying hue, hk, sizeOf, typeInfo, hq, hs, part, isAgg, hat, asIntOf]

theorem tablewords_load {w : World} (h : Env w) : (loadVar 54 ⟨0, 0, none⟩).run Tryd.prog w = .ok (.agg (strsV wordL)) w :=
  run_load_table (n := 46) (e := 9) Tryd.underlying54 (by kernel_rfl) rfl h.words

theorem tablewords_index (k : Nat) (hk : k < 46) (w : World) : (Instr.index 54 (.agg (strsV wordL)) (.int .i64 (k : Int))).run Tryd.prog w = .ok (.string (atL wordL k)) w :=
  run_index_table Tryd.underlying54 (by kernel_rfl) Tryd.underlying9 rfl k hk w

set_option maxRecDepth 100000 in
set_option maxHeartbeats 400000 in
theorem IsWord_any (s : ByteArray) (w : World) (h : Env w) : Calls Tryd.prog 15 #[.string s] w fun e w' => e = .returned (.bool (isWordB s)) ∧ w = w' := by
  have hld := tablewords_load h
  have HLD := Lib.hid hld
  clear hld h
  go_enter Tryd.func15, Tryd.ntmps15
  go_wp2_with (refine wpList_load_of rfl 54 _ rfl _ rfl _ HLD.out ?_)
  go_loop [6] (fun i => ∃ k : Nat, k ≤ 46 ∧ i = .int .i64 k ∧ ∀ j, j < k → (atL wordL j == s) = false) (fun i => 46 - (intOf i).toNat)
  case atStart => exact ⟨0, by omega, rfl, fun j hj => by omega⟩
  case round =>
    obtain ⟨k, hk, rfl, hno⟩ := hrel
    have HNO := Lib.hid hno
    clear hno
    by_cases hlt : k < 46
    · have hix := tablewords_index k hlt
      cases hq : (atL wordL k == s)
      · have hq2 : ((atL wordL k).toList == s.toList) = false := by rw [← beq_toListBytes]; exact hq
        have HQ := Lib.hid hq
        clear hq
        go_wp2
        go_round
        case rel =>
          refine ⟨k + 1, by omega, by go_num, fun j hj => ?_⟩
          by_cases hjk : j = k
          · subst hjk; exact HQ.out
          · exact HNO.out j (by omega)
        case measure => simp [intOf]; omega
      · have hq2 : ((atL wordL k).toList == s.toList) = true := by rw [← beq_toListBytes]; exact hq
        have HQ := Lib.hid hq
        clear hq
        go_wp2
        go_ret
        exact ⟨ret_bool (any_getD (l := wordL) (k := k) hlt HQ.out).symm, rfl⟩
    · have : k = 46 := by omega
      subst this
      go_wp2
      go_ret
      exact ⟨ret_bool (any_none (l := wordL) HNO.out).symm, rfl⟩

theorem tablesigns_load {w : World} (h : Env w) : (loadVar 56 ⟨1, 0, none⟩).run Tryd.prog w = .ok (.agg (strsV signL)) w :=
  run_load_table (n := 21) (e := 9) Tryd.underlying56 (by kernel_rfl) rfl h.signs

theorem tablesigns_index (k : Nat) (hk : k < 21) (w : World) : (Instr.index 56 (.agg (strsV signL)) (.int .i64 (k : Int))).run Tryd.prog w = .ok (.string (atL signL k)) w :=
  run_index_table Tryd.underlying56 (by kernel_rfl) Tryd.underlying9 rfl k hk w

set_option maxRecDepth 100000 in
set_option maxHeartbeats 400000 in
theorem isSign_any (s : ByteArray) (w : World) (h : Env w) : Calls Tryd.prog 71 #[.string s] w fun e w' => e = .returned (.bool (isSignB s)) ∧ w = w' := by
  have hld := tablesigns_load h
  have HLD := Lib.hid hld
  clear hld h
  go_enter Tryd.func71, Tryd.ntmps71
  go_wp2_with (refine wpList_load_of rfl 56 _ rfl _ rfl _ HLD.out ?_)
  go_loop [6] (fun i => ∃ k : Nat, k ≤ 21 ∧ i = .int .i64 k ∧ ∀ j, j < k → (atL signL j == s) = false) (fun i => 21 - (intOf i).toNat)
  case atStart => exact ⟨0, by omega, rfl, fun j hj => by omega⟩
  case round =>
    obtain ⟨k, hk, rfl, hno⟩ := hrel
    have HNO := Lib.hid hno
    clear hno
    by_cases hlt : k < 21
    · have hix := tablesigns_index k hlt
      cases hq : (atL signL k == s)
      · have hq2 : ((atL signL k).toList == s.toList) = false := by rw [← beq_toListBytes]; exact hq
        have HQ := Lib.hid hq
        clear hq
        go_wp2
        go_round
        case rel =>
          refine ⟨k + 1, by omega, by go_num, fun j hj => ?_⟩
          by_cases hjk : j = k
          · subst hjk; exact HQ.out
          · exact HNO.out j (by omega)
        case measure => simp [intOf]; omega
      · have hq2 : ((atL signL k).toList == s.toList) = true := by rw [← beq_toListBytes]; exact hq
        have HQ := Lib.hid hq
        clear hq
        go_wp2
        go_ret
        exact ⟨ret_bool (any_getD (l := signL) (k := k) hlt HQ.out).symm, rfl⟩
    · have : k = 21 := by omega
      subst this
      go_wp2
      go_ret
      exact ⟨ret_bool (any_none (l := signL) HNO.out).symm, rfl⟩
end Go.Proofs.YtophcjkfhneghaaDoor
