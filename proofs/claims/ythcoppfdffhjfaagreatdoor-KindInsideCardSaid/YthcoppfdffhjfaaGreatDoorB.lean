/- What the listed package-level variables hold; the contracts of package token's words and names. -/
import Derived.Test.YthcoppfdffhjfaaGreatDoorA
import Derived.Lib.LaidTab
namespace Go.Proofs.YthcoppfdffhjfaaGreatDoor
open Go Go.RowKit

/-- What the listed package-level variables hold. -/
structure Env (w : World) : Prop where
  words : ∀ k, k < 46 → w.cell? ⟨0, k, none⟩ = some (.string (bs (wordL.getD k [])))
  mx : ∃ m, w.cell? ⟨1, 0, none⟩ = some (.int .i64 m)
  size : 4 ≤ w.heap.size
theorem Env.drewN {w : World} (h : Env w) (n : Nat) : Env (w.drewN n) := ⟨h.words, h.mx, h.size⟩
theorem Env.keep {w w' : World} (h : Env w) (hb : ∀ k, k < 4 → w'.heap[k]? = w.heap[k]?) (hs : w.heap.size ≤ w'.heap.size) : Env w' :=
  ⟨fun k hk => (World.cell?_of_block (hb 0 (by omega))).trans (h.words k hk),
    by obtain ⟨m, e⟩ := h.mx; exact ⟨m, (World.cell?_of_block (hb 1 (by omega))).trans e⟩,
    Nat.le_trans h.size hs⟩
theorem Env.below {w w' : World} (h : Env w) (hb : Below w.heap.size w w') : Env w' :=
  h.keep (fun k hk => hb.block k (by have := h.size; omega)) hb.size
theorem Env.grown {w w' : World} {b : Nat} (h : Env w) (hb : w.grownBy w' (some b)) (h4 : 4 ≤ b) : Env w' :=
  h.keep (fun k hk => hb.block k (by have := h.size; omega) (fun e => by injection e; omega)) hb.size
theorem Turns.env {T : Nat → Obj → Prop} {w w' : World} (h : Turns T w w') (he : Env w) (hT : ∀ i o, T i o → 4 ≤ i) : Env w' := by
  have hb := h.below (B := 4) he.size hT
  exact he.keep (fun k hk => hb.block k hk) h.size

theorem isLetter_any (b : Int) (w : World) : Calls Tryz.prog 83 #[.int .u8 b] w fun e w' => e = .returned (.bool (isLet b)) ∧ w = w' := by
  by_cases h1 : 97 ≤ b
  · go_enter Tryz.func83, Tryz.ntmps83
    go_wp2
    go_ret
    exact ⟨by simp [isLet, h1], rfl⟩
  · go_enter Tryz.func83, Tryz.ntmps83
    go_wp2
    go_ret
    exact ⟨by simp [isLet]; omega, rfl⟩

theorem isDigit_any (b : Int) (w : World) : Calls Tryz.prog 107 #[.int .u8 b] w fun e w' => e = .returned (.bool (isDig b)) ∧ w = w' := by
  by_cases h1 : 48 ≤ b
  · go_enter Tryz.func107, Tryz.ntmps107
    go_wp2
    go_ret
    exact ⟨by simp [isDig, h1], rfl⟩
  · go_enter Tryz.func107, Tryz.ntmps107
    go_wp2
    go_ret
    exact ⟨by simp [isDig]; omega, rfl⟩

theorem isLD_any (b : Int) (w : World) : Calls Tryz.prog 85 #[.int .u8 b] w fun e w' => e = .returned (.bool (isLD b)) ∧ w = w' := by
  cases h1 : isLet b
  all_goals
    go_enter Tryz.func85, Tryz.ntmps85
    go_wp2_with (first | (go_at_call 83; refine (isLetter_any _ _).mono ?_; rintro e w' ⟨rfl, rfl⟩) | (go_at_call 107; refine (isDigit_any _ _).mono ?_; rintro e w' ⟨rfl, rfl⟩))
    go_ret
    exact ⟨by simp [isLD, h1], rfl⟩

theorem run_load_table {P : Program} {w : World} {ty e : TypeId} {g n : Nat} {l : List (List UInt8)} (hu : P.underlying ty = some (.array n e)) (hi : (P.info? ty).map (·.size) = some n) (hn : l.length = n)
    (hc : ∀ k, k < n → w.cell? ⟨g, k, none⟩ = some (.string (bs (l.getD k [])))) : (loadVar ty ⟨g, 0, none⟩).run P w = .ok (.agg (strsV l)) w := by
  have hl : (loadCells ⟨g, 0, none⟩ (strsV l).toList.length).run P w = .ok (strsV l).toList.toArray w :=
    run_loadCells_list (P := P) w ⟨g, 0, none⟩ (strsV l).toList (fun j v hv => by
      have hadd : (⟨g, 0, none⟩ : Addr).add j = ⟨g, j, none⟩ := by unfold Addr.add; split <;> simp_all
      rw [hadd]
      have hj : j < l.length := by have := (List.getElem?_eq_some_iff.1 hv).1; simpa [strsV_size] using this
      rw [hc j (by omega)]
      rw [Array.getElem?_toList, strsV_at l j hj] at hv
      exact hv)
  cases hq : P.info? ty with
  | none => simp [hq] at hi
  | some i =>
    have hs : i.size = n := by simpa [hq] using hi
    have hagg : (isAgg ty).run P w = .ok true w := by
      unfold isAgg
      rw [Sem.run_bind, run_underlying hu w]
      simp
    simp only [Array.length_toList, Array.toArray_toList] at hl
    have hz : (strsV l).size = i.size := by rw [strsV_size, hn, hs]
    rw [hz] at hl
    simp [loadVar, Sem.run_bind, hagg, sizeOf, typeInfo, hq, hl]

/-- A load whose run is known. -/
theorem wpList_load_of {P : Program} {ops : Array Oper} {rest : List Oper} {o : Oper} {a : Act} {w : World} {Q : Exit → Act → World → Prop} (hgd : o.guard = none) (ty : TypeId) (x : Operand) (ho : o.op = .load ty x)
    (ad : Addr) (hx : a.eval x = .pointer (some ad)) (v : Value) (hr : (loadVar ty ad).run P w = .ok v w) (h : wpList P ops Q rest (a.put o.dst v) w) : wpList P ops Q (o :: rest) a w :=
  wpList_plain hgd fun _ hK => by
    unfold Oper.wp execOp
    simp only [ho, hx, Instr.loadAt, Instr.sureAddr, Sem.run_bind, Sem.run_pure, Result.andThen_ok, hr]
    exact hK _ _ h

theorem run_index_table {P : Program} {ty e : TypeId} {n : Nat} {l : List (List UInt8)} (hu : P.underlying ty = some (.array n e)) (hi : (P.info? e).map (·.size) = some 1) (hue : P.underlying e = some .string) (hn : l.length = n)
    (k : Nat) (hk : k < n) (w : World) : (Instr.index ty (.agg (strsV l)) (.int .i64 (k : Int))).run P w = .ok (.string (bs (l.getD k []))) w := by
  have hat := strsV_at l k (by omega)
  cases hq : P.info? e with
  | none => simp [hq] at hi
  | some i =>
    have hs : i.size = 1 := by simpa [hq] using hi
    simp [Instr.index, Sem.run_bind, run_underlying hu, run_underlying hue, hk, sizeOf, typeInfo, hq, hs, part, isAgg, hat, asIntOf]

theorem tablewords_load {w : World} (h : Env w) : (loadVar 104 ⟨0, 0, none⟩).run Tryz.prog w = .ok (.agg (strsV wordL)) w :=
  run_load_table (n := 46) (e := 9) Tryz.underlying104 (by kernel_rfl) rfl h.words

theorem tablewords_index (k : Nat) (hk : k < 46) (w : World) : (Instr.index 104 (.agg (strsV wordL)) (.int .i64 (k : Int))).run Tryz.prog w = .ok (.string (atL wordL k)) w :=
  run_index_table Tryz.underlying104 (by kernel_rfl) Tryz.underlying9 rfl k hk w

set_option maxRecDepth 100000 in
set_option maxHeartbeats 400000 in
theorem IsWord_any (s : ByteArray) (w : World) (h : Env w) : Calls Tryz.prog 84 #[.string s] w fun e w' => e = .returned (.bool (isWordB s)) ∧ w = w' := by
  have hld := tablewords_load h
  have HLD := Lib.hid hld
  clear hld h
  go_enter Tryz.func84, Tryz.ntmps84
  go_wp2_with (refine wpList_load_of rfl 104 _ rfl _ rfl _ HLD.out ?_)
  go_loop [6] (fun i => ∃ k : Nat, k ≤ 46 ∧ i = .int .i64 k ∧ ∀ j, j < k → (atL wordL j == s) = false) (fun i => 46 - (intOf i).toNat)
  case atStart => exact ⟨0, by omega, rfl, fun j hj => by omega⟩
  case round =>
    obtain ⟨k, hk, rfl, hno⟩ := hrel
    have HNO := Lib.hid hno
    clear hno
    by_cases hlt : k < 46
    · have hix := tablewords_index k hlt
      cases hq : (atL wordL k == s)
      · have hq2 : ((atL wordL k).toList == s.toList) = false := by rw [← beq_toListBytes]; exact hq
        have HQ := Lib.hid hq
        clear hq
        go_wp2
        go_round
        case rel =>
          refine ⟨k + 1, by omega, by go_num, fun j hj => ?_⟩
          by_cases hjk : j = k
          · subst hjk; exact HQ.out
          · exact HNO.out j (by omega)
        case measure => simp [intOf]; omega
      · have hq2 : ((atL wordL k).toList == s.toList) = true := by rw [← beq_toListBytes]; exact hq
        have HQ := Lib.hid hq
        clear hq
        go_wp2
        go_ret
        exact ⟨ret_bool (any_getD (l := wordL) (k := k) hlt HQ.out).symm, rfl⟩
    · have : k = 46 := by omega
      subst this
      go_wp2
      go_ret
      exact ⟨ret_bool (any_none (l := wordL) HNO.out).symm, rfl⟩

theorem size_zero {s : ByteArray} (h : s.size = 0) : s = ByteArray.empty := by
  cases s with | mk d => cases d with | mk l => cases l with
    | nil => rfl
    | cons x l => simp [ByteArray.size] at h

/-- A name. -/
def isNameB (s : ByteArray) : Bool := (decide (0 < s.size) && decide (s.size ≤ 12)) && (isLet (byteAt s 0) && !isWordB s) && decide (lead isLD s 0 = s.size)

set_option maxRecDepth 100000 in
set_option maxHeartbeats 1000000 in
theorem IsName_any (s : ByteArray) (w : World) (he : Env w) : Calls Tryz.prog 60 #[.string s] w fun e w' => e = .returned (.bool (isNameB s)) ∧ w = w' := by
  have HE := Lib.hid he
  clear he
  by_cases h0 : s.size = 0
  · have hl : s.toList = [] := (toList_nil_iff_emptyBytes s).2 (size_zero h0)
    go_enter Tryz.func60, Tryz.ntmps60
    go_wp2
    go_ret
    exact ⟨ret_bool (by simp [isNameB, h0]), rfl⟩
  · have hl : ¬ s.toList = [] := fun h => h0 (by rw [(toList_nil_iff_emptyBytes s).1 h]; rfl)
    by_cases h12 : s.size ≤ 12
    · have h12' : (s.size : Int) ≤ 12 := by omega
      have hp : 0 < s.size := by omega
      have hi : s.toList.isEmpty = false := by simpa using hl
      have hb : (s[0].toNat : Int) = byteAt s 0 := by simp [byteAt, hp]; rfl
      have HL := Lib.hid hl
      go_enter Tryz.func60, Tryz.ntmps60
      cases hq : isLet (byteAt s 0)
      · go_wp2_with fail
        refine (isLetter_any _ _).mono ?_
        rintro e w' ⟨rfl, rfl⟩
        rw [hq]
        go_wp2
        go_ret
        exact ⟨ret_bool (by simp [isNameB, hq]), rfl⟩
      · have HQ := Lib.hid hq
        clear hq
        cases hw : isWordB s
        · have HW := Lib.hid hw
          clear hw
          go_wp2_with fail
          refine (isLetter_any _ _).mono ?_
          rintro e w' ⟨rfl, rfl⟩
          rw [HQ.out]
          go_wp2_with fail
          refine (IsWord_any s _ HE.out).mono ?_
          rintro e w' ⟨rfl, rfl⟩
          rw [HW.out]
          go_wp2
          go_loop [23] (fun i => ∃ k : Nat, k ≤ s.size ∧ i = .int .i64 k ∧ k ≤ lead isLD s 0) (fun i => s.size - (intOf i).toNat)
          case atStart => exact ⟨0, by omega, rfl, by omega⟩
          case round =>
            obtain ⟨k, hk, rfl, hno⟩ := hrel
            have HNO := Lib.hid hno
            clear hno
            by_cases hlt : k < s.size
            · have hbk : (s[k].toNat : Int) = byteAt s k := by simp [byteAt, hlt]; rfl
              cases hr : isLD (byteAt s k)
              · have hk2 : lead isLD s 0 = k := by
                  rcases Nat.lt_or_ge k (lead isLD s 0) with h | h
                  · have := (lead_in h).2
                    rw [Nat.zero_add, hr] at this
                    cases this
                  · have := HNO.out; omega
                go_wp2_with fail
                refine (isLD_any _ _).mono ?_
                rintro e w' ⟨rfl, rfl⟩
                rw [hr]
                go_wp2
                go_ret
                exact ⟨ret_bool (by simp [isNameB, hk2]; omega), rfl⟩
              · have hk2 : Hid (k + 1 ≤ lead isLD s 0) := by
                  rcases Nat.lt_or_ge k (lead isLD s 0) with h | h
                  · exact h
                  · have h2 := HNO.out
                    have h3 : lead isLD s 0 = k := by omega
                    have := lead_stop (p := isLD) (s := s) (i := 0) (by omega)
                    rw [h3, Nat.zero_add, hr] at this
                    cases this
                go_wp2_with fail
                refine (isLD_any _ _).mono ?_
                rintro e w' ⟨rfl, rfl⟩
                rw [hr]
                go_wp2
                go_round
                case rel => exact ⟨k + 1, by omega, by go_num, hk2.out⟩
                case measure => simp [intOf]; omega
            · have hks : k = s.size := by omega
              have hks2 := Lib.hid hks
              clear hks
              go_wp2
              go_ret
              refine ⟨ret_bool ?_, rfl⟩
              have h1 := lead_le (p := isLD) (s := s) (i := 0) (by omega)
              have h2 : lead isLD s 0 = s.size := by have := HNO.out; have := hks2.out; omega
              simp [isNameB, h2, HQ.out, HW.out, h12, hp]
        · have HW := Lib.hid hw
          clear hw
          go_wp2_with fail
          refine (isLetter_any _ _).mono ?_
          rintro e w' ⟨rfl, rfl⟩
          rw [HQ.out]
          go_wp2_with fail
          refine (IsWord_any s _ HE.out).mono ?_
          rintro e w' ⟨rfl, rfl⟩
          rw [HW.out]
          go_wp2
          go_ret
          exact ⟨ret_bool (by simp [isNameB, HW.out]), rfl⟩
    · have h12' : ¬ (s.size : Int) ≤ 12 := by omega
      go_enter Tryz.func60, Tryz.ntmps60
      go_wp2
      go_ret
      exact ⟨ret_bool (by simp [isNameB, h12]), rfl⟩
end Go.Proofs.YthcoppfdffhjfaaGreatDoor
