/- The law TokenScans answers true. -/
import Derived.Test.YtophcjkfhneghaaDoorYg
import Derived.Test.YtophcjkfhneghaaDoorZb
namespace Go.Proofs.YtophcjkfhneghaaDoor
open Go Go.RowKit

set_option maxRecDepth 100000 in
set_option maxHeartbeats 3200000 in
theorem sameStrs_nil (ao1 ao2 : Option Addr) (c1 c2 : Nat) (w : World) :
    Calls Tryd.prog 17 #[.slice ao1 0 c1, .slice ao2 0 c2] w fun e w' => e = .returned (.bool true) ∧ ∃ n, w' = w.drewN n := by
  go_enter Tryd.func17, Tryd.ntmps17
  go_wp2
  go_loopw [5] (fun i wr => i = .int .i64 0 ∧ wr = w) (fun _ _ => 0)
  case atStart => exact ⟨rfl, rfl⟩
  case round =>
    obtain ⟨rfl, rfl⟩ := hrel
    go_wp2
    go_ret
    exact ⟨rfl, 0, rfl⟩

set_option maxRecDepth 100000 in
set_option maxHeartbeats 3200000 in
theorem sameStrs_any (a b : List (List UInt8)) (v1 v2 : Value) (w : World) (h1 : StrSl w v1 a) (h2 : StrSl w v2 b) (hn : a.length ≤ 100000) (hm : b.length ≤ 100000) :
    Calls Tryd.prog 17 #[v1, v2] w fun e w' => e = .returned (.bool (decide (a = b))) ∧ ∃ n, w' = w.drewN n := by
  obtain ⟨a1, c1, rfl, h1⟩ := h1
  obtain ⟨a2, c2, rfl, h2⟩ := h2
  by_cases hl : a.length = b.length
  · rcases h1 with rfl | ⟨g1, o1, rfl, _, r1⟩
    · obtain rfl : b = [] := List.eq_nil_of_length_eq_zero hl.symm
      simpa using sameStrs_nil a1 a2 c1 c2 w
    · rcases h2 with rfl | ⟨g2, o2, rfl, _, r2⟩
      · obtain rfl : a = [] := List.eq_nil_of_length_eq_zero hl
        simpa using sameStrs_nil (some ⟨g1, o1, none⟩) a2 c1 c2 w
      · exact sameStrs_rows a b g1 o1 c1 g2 o2 c2 w r1 r2 hn hm
  · have hl' : ((a.length : Int) != (b.length : Int)) = true := by simp; omega
    have HL := Lib.hid hl
    clear h1 h2
    go_enter Tryd.func17, Tryd.ntmps17
    go_wp2
    go_ret
    exact ⟨ret_bool (by symm; rw [decide_eq_false_iff_not]; intro e; exact HL.out (by rw [e])), 0, rfl⟩

/-- Short texts, or longer than they may be. -/
def shortL (x : List UInt8) : Bool := !(decide (1500 < x.length) && decide (x.length ≤ 20000) || decide (20100 < x.length))

set_option maxRecDepth 100000 in
set_option maxHeartbeats 3200000 in
theorem short_any (l : List (List UInt8)) (g cap : Nat) (w : World) (hr : StrRow w g 0 l) (hl : l.length ≤ 10) :
    Calls Tryd.prog 22 #[.slice (some ⟨g, 0, none⟩) l.length cap] w fun e w' => e = .returned (.bool (l.all shortL)) ∧ w = w' := by
  have HR := Lib.hid hr
  clear hr
  go_enter Tryd.func22, Tryd.ntmps22
  go_wp2
  go_loop [3] (fun i => ∃ k : Nat, k ≤ l.length ∧ i = .int .i64 k ∧ ∀ j x, j < k → l[j]? = some x → shortL x = true) (fun i => l.length - (intOf i).toNat)
  case atStart => exact ⟨0, by omega, rfl, fun j x hj => by omega⟩
  case round =>
    obtain ⟨k, hk, rfl, hno⟩ := hrel
    have HNO := Lib.hid hno
    clear hno
    by_cases hlt : k < l.length
    · have a0 := HR.out k l[k] (List.getElem?_eq_getElem hlt)
      simp only [Nat.zero_add] at a0
      have hz := bs_size l[k]
      have hsh : ∀ b, shortL l[k] = b → Hid (shortL l[k] = b) := fun b h => Lib.hid h
      have fail_ : ∀ (x : List UInt8), l[k] = x → shortL x = false → Hid (l.all shortL = false) := by
        intro x hx h
        refine Lib.hid ?_
        rw [List.all_eq_false]
        exact ⟨l[k], List.getElem_mem hlt, by rw [hx, h]; simp⟩
      have step_ : shortL l[k] = true → Hid (∀ j x, j < k + 1 → l[j]? = some x → shortL x = true) := by
        intro h
        refine Lib.hid fun j x hj hx => ?_
        by_cases hjk : j = k
        · subst hjk
          rw [List.getElem?_eq_getElem hlt] at hx
          injection hx with hx
          rw [← hx]; exact h
        · exact HNO.out j x (by omega) hx
      by_cases h1 : 1500 < l[k].length
      · have i1 : (1500 : Int) < ((bs l[k]).size : Int) := by omega
        by_cases h2 : l[k].length ≤ 20000
        · have i2 : ((bs l[k]).size : Int) ≤ 20000 := by omega
          have HF := fail_ _ rfl (by simp [shortL, h1, h2])
          clear fail_ step_ hsh h1 h2 hz
          go_wp2
          go_ret
          exact ⟨ret_bool HF.out.symm, rfl⟩
        · have i2 : ¬ ((bs l[k]).size : Int) ≤ 20000 := by omega
          by_cases h3 : 20100 < l[k].length
          · have i3 : (20100 : Int) < ((bs l[k]).size : Int) := by omega
            have HF := fail_ _ rfl (by simp [shortL, h3])
            clear fail_ step_ hsh h1 h2 h3 hz
            go_wp2
            go_ret
            exact ⟨ret_bool HF.out.symm, rfl⟩
          · have i3 : ¬ (20100 : Int) < ((bs l[k]).size : Int) := by omega
            have HF := step_ (by simp [shortL, h2, h3])
            clear fail_ step_ hsh h1 h2 h3 hz
            go_wp2
            go_round
            case rel => exact ⟨k + 1, by omega, by go_num, HF.out⟩
            case measure => simp [intOf]; omega
      · have i1 : ¬ (1500 : Int) < ((bs l[k]).size : Int) := by omega
        have i3 : ¬ (20100 : Int) < ((bs l[k]).size : Int) := by omega
        have HF := step_ (by have h3 : ¬ 20100 < l[k].length := by omega
                             simp [shortL, h1, h3])
        clear fail_ step_ hsh h1 hz
        go_wp2
        go_round
        case rel => exact ⟨k + 1, by omega, by go_num, HF.out⟩
        case measure => simp [intOf]; omega
    · have HK := Lib.hid (show k = l.length by omega)
      go_wp2
      go_ret
      refine ⟨ret_bool ?_, rfl⟩
      symm
      rw [List.all_eq_true]
      intro x hx
      obtain ⟨j, hj, rfl⟩ := List.getElem_of_mem hx
      exact HNO.out j _ (by have := HK.out; omega) (List.getElem?_eq_getElem hj)
end Go.Proofs.YtophcjkfhneghaaDoor
