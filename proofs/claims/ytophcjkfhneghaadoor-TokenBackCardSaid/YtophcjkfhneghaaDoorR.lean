/- The contracts of package token's Words, Signs and IsName. -/
import Derived.Test.YtophcjkfhneghaaDoorQ
import Derived.Laws.Tables
import Derived.Laws.Closers25b
namespace Go.Proofs.YtophcjkfhneghaaDoor
open Go Go.RowKit

set_option maxRecDepth 100000 in
set_option maxHeartbeats 1000000 in
theorem Words_any (w : World) (he : Env w) : Calls Tryd.prog 18 #[] w fun e w' => e = .returned (.slice (some ⟨w.heap.size, 0, none⟩) 46 46) ∧ Blk w' w.heap.size 54 (strsV wordL) ∧ Below w.heap.size w w' := by
  have HLD := Lib.hid (tablewords_load he)
  clear he
  go_enter Tryd.func18, Tryd.ntmps18
  go_wp2_with first | (refine wpList_load_of rfl 54 _ rfl _ rfl _ HLD.out ?_) | (refine wpList_store_row rfl 54 _ _ rfl w.heap.size (strsV wordL) rfl rfl 54 _ (heap_alloc_new w _) (by kernel_rfl) (by kernel_rfl) (by kernel_rfl) ?_)
  go_ret
  exact ⟨rfl, setRow_heap _ _ _ _ _ _ (heap_alloc_new w _), ((Below.refl _ w).alloc (Nat.le_refl _) _).trans ⟨rfl, rfl, rfl, by simp [World.setRow], fun k hk => by
    simp only [World.setRow, Array.getElem?_modify]
    rw [if_neg (by omega)]⟩⟩

set_option maxRecDepth 100000 in
set_option maxHeartbeats 1000000 in
theorem Signs_any (w : World) (he : Env w) : Calls Tryd.prog 20 #[] w fun e w' => e = .returned (.slice (some ⟨w.heap.size, 0, none⟩) 21 21) ∧ Blk w' w.heap.size 56 (strsV signL) ∧ Below w.heap.size w w' := by
  have HLD := Lib.hid (tablesigns_load he)
  clear he
  go_enter Tryd.func20, Tryd.ntmps20
  go_wp2_with first | (refine wpList_load_of rfl 56 _ rfl _ rfl _ HLD.out ?_) | (refine wpList_store_row rfl 56 _ _ rfl w.heap.size (strsV signL) rfl rfl 56 _ (heap_alloc_new w _) (by kernel_rfl) (by kernel_rfl) (by kernel_rfl) ?_)
  go_ret
  exact ⟨rfl, setRow_heap _ _ _ _ _ _ (heap_alloc_new w _), ((Below.refl _ w).alloc (Nat.le_refl _) _).trans ⟨rfl, rfl, rfl, by simp [World.setRow], fun k hk => by
    simp only [World.setRow, Array.getElem?_modify]
    rw [if_neg (by omega)]⟩⟩

theorem size_zero {s : ByteArray} (h : s.size = 0) : s = ByteArray.empty := by
  cases s with | mk d => cases d with | mk l => cases l with
    | nil => rfl
    | cons x l => simp [ByteArray.size] at h

/-- A name. -/
def isNameB (s : ByteArray) : Bool := (decide (0 < s.size) && decide (s.size ≤ 12)) && (isLet (byteAt s 0) && !isWordB s) && decide (lead isLD s 0 = s.size)

set_option maxRecDepth 100000 in
set_option maxHeartbeats 1000000 in
theorem IsName_any (s : ByteArray) (w : World) (he : Env w) : Calls Tryd.prog 13 #[.string s] w fun e w' => e = .returned (.bool (isNameB s)) ∧ w = w' := by
  have HE := Lib.hid he
  clear he
  by_cases h0 : s.size = 0
  · have hl : s.toList = [] := (toList_nil_iff_emptyBytes s).2 (size_zero h0)
    go_enter Tryd.func13, Tryd.ntmps13
    go_wp2
    go_ret
    exact ⟨ret_bool (by simp [isNameB, h0]), rfl⟩
  · have hl : ¬ s.toList = [] := fun h => h0 (by rw [(toList_nil_iff_emptyBytes s).1 h]; rfl)
    by_cases h12 : s.size ≤ 12
    · have h12' : (s.size : Int) ≤ 12 := by omega
      have hp : 0 < s.size := by omega
      have hi : s.toList.isEmpty = false := by simpa using hl
      have hb : (s[0].toNat : Int) = byteAt s 0 := by simp [byteAt, hp]; rfl
      have HL := Lib.hid hl
      go_enter Tryd.func13, Tryd.ntmps13
      cases hq : isLet (byteAt s 0)
      · go_wp2_with fail
        refine (isLetter_any _ _).mono ?_
        rintro e w' ⟨rfl, rfl⟩
        rw [hq]
        go_wp2
        go_ret
        exact ⟨ret_bool (by simp [isNameB, hq]), rfl⟩
      · have HQ := Lib.hid hq
        clear hq
        cases hw : isWordB s
        · have HW := Lib.hid hw
          clear hw
          go_wp2_with fail
          refine (isLetter_any _ _).mono ?_
          rintro e w' ⟨rfl, rfl⟩
          rw [HQ.out]
          go_wp2_with fail
          refine (IsWord_any s _ HE.out).mono ?_
          rintro e w' ⟨rfl, rfl⟩
          rw [HW.out]
          go_wp2
          go_loop [23] (fun i => ∃ k : Nat, k ≤ s.size ∧ i = .int .i64 k ∧ k ≤ lead isLD s 0) (fun i => s.size - (intOf i).toNat)
          case atStart => exact ⟨0, by omega, rfl, by omega⟩
          case round =>
            obtain ⟨k, hk, rfl, hno⟩ := hrel
            have HNO := Lib.hid hno
            clear hno
            by_cases hlt : k < s.size
            · have hbk : (s[k].toNat : Int) = byteAt s k := by simp [byteAt, hlt]; rfl
              cases hr : isLD (byteAt s k)
              · have hk2 : lead isLD s 0 = k := by
                  rcases Nat.lt_or_ge k (lead isLD s 0) with h | h
                  · have := (lead_in h).2
                    rw [Nat.zero_add, hr] at this
                    cases this
                  · have := HNO.out; omega
                go_wp2_with fail
                refine (isLD_any _ _).mono ?_
                rintro e w' ⟨rfl, rfl⟩
                rw [hr]
                go_wp2
                go_ret
                exact ⟨ret_bool (by simp [isNameB, hk2]; omega), rfl⟩
              · have hk2 : Hid (k + 1 ≤ lead isLD s 0) := by
                  rcases Nat.lt_or_ge k (lead isLD s 0) with h | h
                  · exact h
                  · have h2 := HNO.out
                    have h3 : lead isLD s 0 = k := by omega
                    have := lead_stop (p := isLD) (s := s) (i := 0) (by omega)
                    rw [h3, Nat.zero_add, hr] at this
                    cases this
                go_wp2_with fail
                refine (isLD_any _ _).mono ?_
                rintro e w' ⟨rfl, rfl⟩
                rw [hr]
                go_wp2
                go_round
                case rel => exact ⟨k + 1, by omega, by go_num, hk2.out⟩
                case measure => simp [intOf]; omega
            · have hks : k = s.size := by omega
              have hks2 := Lib.hid hks
              clear hks
              go_wp2
              go_ret
              refine ⟨ret_bool ?_, rfl⟩
              have h1 := lead_le (p := isLD) (s := s) (i := 0) (by omega)
              have h2 : lead isLD s 0 = s.size := by have := HNO.out; have := hks2.out; omega
              simp [isNameB, h2, HQ.out, HW.out, h12, hp]
        · have HW := Lib.hid hw
          clear hw
          go_wp2_with fail
          refine (isLetter_any _ _).mono ?_
          rintro e w' ⟨rfl, rfl⟩
          rw [HQ.out]
          go_wp2_with fail
          refine (IsWord_any s _ HE.out).mono ?_
          rintro e w' ⟨rfl, rfl⟩
          rw [HW.out]
          go_wp2
          go_ret
          exact ⟨ret_bool (by simp [isNameB, HW.out]), rfl⟩
    · have h12' : ¬ (s.size : Int) ≤ 12 := by omega
      go_enter Tryd.func13, Tryd.ntmps13
      go_wp2
      go_ret
      exact ⟨ret_bool (by simp [isNameB, h12]), rfl⟩
end Go.Proofs.YtophcjkfhneghaaDoor
