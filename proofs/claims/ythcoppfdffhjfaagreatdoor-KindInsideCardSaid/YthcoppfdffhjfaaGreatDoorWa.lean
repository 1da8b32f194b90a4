/- Small functions of the laws: Same, short, has. -/
import Derived.Test.YthcoppfdffhjfaaGreatDoorRj
namespace Go.Proofs.YthcoppfdffhjfaaGreatDoor
open Go Go.RowKit

theorem same_lens (ao bo : Option Addr) (n m c1 c2 : Nat) (h : n ≠ m) (w : World) : Calls Tryz.prog 46 #[.slice ao n c1, .slice bo m c2] w fun e w' => e = .returned (.bool false) ∧ w = w' := by
  have h1 : ((n : Int) != (m : Int)) = true := by simp; omega
  clear h
  go_enter Tryz.func46, Tryz.ntmps46
  go_wp2
  go_ret
  exact ⟨rfl, rfl⟩
theorem same_nil (ao bo : Option Addr) (c1 c2 : Nat) (w : World) : Calls Tryz.prog 46 #[.slice ao 0 c1, .slice bo 0 c2] w fun e w' => e = .returned (.bool true) ∧ w = w' := by
  go_enter Tryz.func46, Tryz.ntmps46
  go_wp2
  refine wp_loop_rounds 1 ?_
  rw [rounds_succ]
  go_wp2
  go_ret
  exact ⟨rfl, rfl⟩
theorem StV.slice {w : World} {v : Value} {l : List Bys} (h : StV w v l) : ∃ ao c, v = .slice ao l.length c := by
  rcases h with ⟨rfl, a, c, rfl⟩ | ⟨g, o, cap, rfl, _⟩
  · exact ⟨_, _, rfl⟩
  · exact ⟨_, _, rfl⟩
/-- Same of the reference. -/
theorem same_any (a b : List Bys) (va vb : Value) (w : World) (h1 : StV w va a) (h2 : StV w vb b) (hn : a.length ≤ 1000) (hm : b.length ≤ 1000) :
    Calls Tryz.prog 46 #[va, vb] w fun e w' => e = .returned (.bool (decide (a = b))) ∧ ∃ n, w' = w.drewN n := by
  by_cases hl : a.length = b.length
  · rcases h1 with ⟨rfl, a1, c1, rfl⟩ | ⟨g1, o1, c1, rfl, _, r1⟩
    · have hb0 : b = [] := List.length_eq_zero_iff.1 hl.symm
      subst hb0
      obtain ⟨b1, c2, rfl⟩ := h2.slice
      refine (same_nil a1 b1 c1 c2 w).mono ?_
      rintro e w' ⟨rfl, rfl⟩
      exact ⟨by simp, 0, rfl⟩
    · rcases h2 with ⟨rfl, b1, c2, rfl⟩ | ⟨g2, o2, c2, rfl, _, r2⟩
      · have ha0 : a = [] := List.length_eq_zero_iff.1 hl
        subst ha0
        refine (same_nil _ b1 c1 c2 w).mono ?_
        rintro e w' ⟨rfl, rfl⟩
        exact ⟨by simp, 0, rfl⟩
      · exact sameStrings_any a b g1 o1 c1 g2 o2 c2 w r1 r2 hn hm
  · obtain ⟨a1, c1, rfl⟩ := h1.slice
    obtain ⟨b1, c2, rfl⟩ := h2.slice
    refine (same_lens a1 b1 _ _ c1 c2 hl w).mono ?_
    rintro e w' ⟨rfl, rfl⟩
    refine ⟨ret_bool ?_, 0, rfl⟩
    symm
    rw [decide_eq_false_iff_not]
    rintro rfl
    exact hl rfl

/-- Whether a text is short enough. -/
def shortB (s : Bys) : Bool := decide (s.length ≤ 400)
set_option maxRecDepth 100000 in
set_option maxHeartbeats 3200000 in
/-- short of the laws. -/
theorem short_any (l : List Bys) (g cap : Nat) (w : World) (hr : StrRow w g 0 l) (hl : l.length ≤ 12) :
    Calls Tryz.prog 13 #[.slice (some ⟨g, 0, none⟩) l.length cap] w fun e w' => e = .returned (.bool (l.all shortB)) ∧ w = w' := by
  have HR := Lib.hid hr
  clear hr
  go_enter Tryz.func13, Tryz.ntmps13
  go_wp2
  go_loop [3] (fun i => ∃ k : Nat, k ≤ l.length ∧ i = .int .i64 k ∧ ∀ j x, j < k → l[j]? = some x → shortB x = true) (fun i => l.length - (intOf i).toNat)
  case atStart => exact ⟨0, by omega, rfl, fun j x hj => by omega⟩
  case round =>
    obtain ⟨k, hk, rfl, hno⟩ := hrel
    have HNO := Lib.hid hno
    clear hno
    by_cases hlt : k < l.length
    · have a0 := HR.out k l[k] (List.getElem?_eq_getElem hlt)
      simp only [Nat.zero_add] at a0
      have hz := bs_size l[k]
      by_cases h1 : 400 < l[k].length
      · have i1 : (400 : Int) < ((bs l[k]).size : Int) := by omega
        have HF : Hid (l.all shortB = false) := by
          refine Lib.hid ?_
          rw [List.all_eq_false]
          exact ⟨l[k], List.getElem_mem hlt, by simp [shortB]; omega⟩
        clear h1 hz
        go_wp2
        go_ret
        exact ⟨ret_bool HF.out.symm, rfl⟩
      · have i1 : ¬ (400 : Int) < ((bs l[k]).size : Int) := by omega
        have HS : Hid (∀ j x, j < k + 1 → l[j]? = some x → shortB x = true) := by
          refine Lib.hid fun j x hj hx => ?_
          by_cases hjk : j = k
          · subst hjk
            rw [List.getElem?_eq_getElem hlt] at hx
            injection hx with hx
            rw [← hx]
            simp [shortB]
            omega
          · exact HNO.out j x (by omega) hx
        clear h1 hz
        go_wp2
        go_round
        case rel => exact ⟨k + 1, by omega, by go_num, HS.out⟩
        case measure => simp [intOf]; omega
    · have hk2 : k = l.length := by omega
      subst hk2
      have hl2 : (l.length : Int) ≤ 12 := by omega
      go_wp2
      go_ret
      refine ⟨ret_bool ?_, rfl⟩
      symm
      rw [List.all_eq_true]
      intro x hx
      obtain ⟨j, hj⟩ := List.mem_iff_getElem?.1 hx
      exact HNO.out j x (List.getElem?_eq_some_iff.1 hj).1 hj

set_option maxRecDepth 100000 in
set_option maxHeartbeats 3200000 in
/-- has of the laws. -/
theorem lawHas_any (l : List Bys) (s : Bys) (v : Value) (w : World) (hv : StV w v l) (hl : l.length ≤ 1000) :
    Calls Tryz.prog 47 #[v, .string (bs s)] w fun e w' => e = .returned (.bool (decide (s ∈ l))) ∧ w = w' := by
  rcases hv with ⟨rfl, a, c, rfl⟩ | ⟨g, o, cap, rfl, _, hr⟩
  · go_enter Tryz.func47, Tryz.ntmps47
    go_wp2
    refine wp_loop_rounds 1 ?_
    rw [rounds_succ]
    go_wp2
    go_ret
    exact ⟨rfl, rfl⟩
  · have HR := Lib.hid hr
    clear hr
    go_enter Tryz.func47, Tryz.ntmps47
    go_wp2
    go_loop [5] (fun i => ∃ k : Nat, k ≤ l.length ∧ i = .int .i64 k ∧ ∀ j x, j < k → l[j]? = some x → x ≠ s) (fun i => l.length - (intOf i).toNat)
    case atStart => exact ⟨0, by omega, rfl, fun j x hj => by omega⟩
    case round =>
      obtain ⟨k, hk, rfl, hno⟩ := hrel
      have HNO := Lib.hid hno
      clear hno
      by_cases hlt : k < l.length
      · have a0 := HR.out k l[k] (List.getElem?_eq_getElem hlt)
        by_cases h1 : l[k] = s
        · have i1 : ((bs l[k]).toList == (bs s).toList) = true := by rw [h1]; simp
          have HF : Hid (decide (s ∈ l) = true) := by
            refine Lib.hid ?_
            rw [decide_eq_true_iff, ← h1]
            exact List.getElem_mem hlt
          clear h1
          go_wp2
          go_ret
          exact ⟨ret_bool HF.out.symm, rfl⟩
        · have i1 : ((bs l[k]).toList == (bs s).toList) = false := by
            rw [beq_eq_false_iff_ne, ByteArray.toList_eq, ByteArray.toList_eq, bs_data, bs_data]; exact h1
          have HS : Hid (∀ j x, j < k + 1 → l[j]? = some x → x ≠ s) := by
            refine Lib.hid fun j x hj hx => ?_
            by_cases hjk : j = k
            · subst hjk
              rw [List.getElem?_eq_getElem hlt] at hx
              injection hx with hx
              rw [← hx]
              exact h1
            · exact HNO.out j x (by omega) hx
          clear h1
          go_wp2
          go_round
          case rel => exact ⟨k + 1, by omega, by go_num, HS.out⟩
          case measure => simp [intOf]; omega
      · have hk2 : k = l.length := by omega
        subst hk2
        go_wp2
        go_ret
        refine ⟨ret_bool ?_, rfl⟩
        symm
        rw [decide_eq_false_iff_not]
        intro hx
        obtain ⟨j, hj⟩ := List.mem_iff_getElem?.1 hx
        exact HNO.out j s (List.getElem?_eq_some_iff.1 hj).1 hj rfl
end Go.Proofs.YthcoppfdffhjfaaGreatDoor
