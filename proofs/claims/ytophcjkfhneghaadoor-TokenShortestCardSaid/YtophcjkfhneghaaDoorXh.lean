/- Comparing lists of tokens by kind and text; texts two of which are short. -/
import Derived.Test.YtophcjkfhneghaaDoorYg
import Derived.Test.YtophcjkfhneghaaDoorYh
namespace Go.Proofs.YtophcjkfhneghaaDoor
open Go Go.RowKit

/-- Tokens of one kind and one text. -/
def likeT (t u : Tok) : Prop := t.kind = u.kind ∧ t.text = u.text
theorem one_iff {t u : Tok} : t.one = u.one ↔ likeT t u := by
  cases t; cases u
  simp [Tok.one, likeT]
theorem text_is {a b : List UInt8} (h : (bs a).toList = (bs b).toList) : a = b := by
  simpa [bs] using h

set_option maxRecDepth 100000 in
set_option maxHeartbeats 3200000 in
theorem alike_rows (a b : List Tok) (g1 o1 c1 g2 o2 c2 : Nat) (w : World) (h1 : TokRow w g1 o1 a) (h2 : TokRow w g2 o2 b) (hn : a.length ≤ 100000) (_hm : b.length ≤ 100000) :
    Calls Tryd.prog 37 #[.slice (some ⟨g1, o1, none⟩) a.length c1, .slice (some ⟨g2, o2, none⟩) b.length c2] w fun e w' => e = .returned (.bool (decide (a.map Tok.one = b.map Tok.one))) ∧ ∃ n, w' = w.drewN n := by
  have H1 := Lib.hid h1
  have H2 := Lib.hid h2
  clear h1 h2
  by_cases hl : a.length = b.length
  · have hl' : ((a.length : Int) != (b.length : Int)) = false := by simp [hl]
    have HL := Lib.hid hl
    clear hl
    go_enter Tryd.func37, Tryd.ntmps37
    go_wp2
    go_loopw [5] (fun i wr => ∃ k n : Nat, k ≤ a.length ∧ i = .int .i64 k ∧ wr = w.drewN n ∧ ∀ j, j < k → (a.map Tok.one)[j]? = (b.map Tok.one)[j]?) (fun i _ => a.length - (intOf i).toNat)
    case atStart => exact ⟨0, 0, by omega, rfl, rfl, fun j hj => by omega⟩
    case round =>
      obtain ⟨k, n, hk, rfl, rfl, hno⟩ := hrel
      have HNO := Lib.hid hno
      clear hno
      by_cases hlt : k < a.length
      · have hlt2 : k < b.length := by have := HL.out; omega
        obtain ⟨a0, a1, _⟩ := H1.out k a[k] (List.getElem?_eq_getElem hlt)
        obtain ⟨b0, b1, _⟩ := H2.out k b[k] (List.getElem?_eq_getElem hlt2)
        have hbad : ¬ likeT a[k] b[k] → Hid (false = decide (a.map Tok.one = b.map Tok.one)) := fun hne => Lib.hid (by
          symm
          rw [decide_eq_false_iff_not]
          intro e
          have := congrArg (fun l : List Tok => l[k]?) e
          simp only [List.getElem?_map, List.getElem?_eq_getElem hlt, List.getElem?_eq_getElem hlt2, Option.map_some, Option.some.injEq] at this
          exact hne (one_iff.1 this))
        by_cases q1 : a[k].kind = b[k].kind
        · by_cases q2 : (bs a[k].text).toList = (bs b[k].text).toList
          · have HQ := Lib.hid (show a[k].one = b[k].one from one_iff.2 ⟨q1, text_is q2⟩)
            clear hbad
            go_wp2_with fail
            go_quiet (fail)
            go_wp2
            go_roundw
            case rel =>
              refine ⟨k + 1, n + nq, by omega, by go_num, by simp [World.drewN], fun j hj => ?_⟩
              by_cases hjk : j = k
              · subst hjk
                rw [List.getElem?_map, List.getElem?_map, List.getElem?_eq_getElem hlt, List.getElem?_eq_getElem hlt2, Option.map_some, Option.map_some, HQ.out]
              · exact HNO.out j (by omega)
            case measure => simp [intOf]; omega
          · have HQ := hbad (fun h => q2 (by rw [h.2]))
            have q2' : ((bs a[k].text).toList == (bs b[k].text).toList) = false := beq_false_of_ne q2
            clear hbad
            go_wp2_with fail
            go_quiet (fail)
            go_wp2
            go_ret
            exact ⟨ret_bool HQ.out, n + nq, by simp [World.drewN, Nat.add_assoc]⟩
        · have HQ := hbad (fun h => q1 h.1)
          clear hbad
          go_wp2_with fail
          go_quiet (fail)
          go_wp2
          go_ret
          exact ⟨ret_bool HQ.out, n + nq, by simp [World.drewN, Nat.add_assoc]⟩
      · obtain rfl : k = a.length := by omega
        go_wp2
        go_ret
        refine ⟨ret_bool ?_, n, rfl⟩
        symm
        rw [decide_eq_true_eq]
        apply List.ext_getElem?
        intro j
        by_cases hj : j < a.length
        · exact HNO.out j hj
        · have := HL.out
          rw [List.getElem?_eq_none (by simp; omega), List.getElem?_eq_none (by simp; omega)]
  · have hl' : ((a.length : Int) != (b.length : Int)) = true := by simp; omega
    have HL := Lib.hid hl
    go_enter Tryd.func37, Tryd.ntmps37
    go_wp2
    go_ret
    exact ⟨ret_bool (by symm; rw [decide_eq_false_iff_not]; intro e; exact HL.out (by simpa using congrArg List.length e)), 0, rfl⟩

set_option maxRecDepth 100000 in
set_option maxHeartbeats 3200000 in
theorem alike_nil (ao1 ao2 : Option Addr) (c1 c2 : Nat) (w : World) :
    Calls Tryd.prog 37 #[.slice ao1 0 c1, .slice ao2 0 c2] w fun e w' => e = .returned (.bool true) ∧ ∃ n, w' = w.drewN n := by
  go_enter Tryd.func37, Tryd.ntmps37
  go_wp2
  go_loopw [5] (fun i wr => i = .int .i64 0 ∧ wr = w) (fun _ _ => 0)
  case atStart => exact ⟨rfl, rfl⟩
  case round =>
    obtain ⟨rfl, rfl⟩ := hrel
    go_wp2
    go_ret
    exact ⟨rfl, 0, rfl⟩

set_option maxRecDepth 100000 in
set_option maxHeartbeats 3200000 in
theorem alike_any (a b : List Tok) (v1 v2 : Value) (w : World) (h1 : TokSl w v1 a) (h2 : TokSl w v2 b) (hn : a.length ≤ 100000) (hm : b.length ≤ 100000) :
    Calls Tryd.prog 37 #[v1, v2] w fun e w' => e = .returned (.bool (decide (a.map Tok.one = b.map Tok.one))) ∧ ∃ n, w' = w.drewN n := by
  obtain ⟨a1, c1, rfl, h1⟩ := h1
  obtain ⟨a2, c2, rfl, h2⟩ := h2
  by_cases hl : a.length = b.length
  · rcases h1 with rfl | ⟨g1, o1, rfl, _, r1⟩
    · obtain rfl : b = [] := List.eq_nil_of_length_eq_zero hl.symm
      simpa using alike_nil a1 a2 c1 c2 w
    · rcases h2 with rfl | ⟨g2, o2, rfl, _, r2⟩
      · obtain rfl : a = [] := List.eq_nil_of_length_eq_zero hl
        simpa using alike_nil (some ⟨g1, o1, none⟩) a2 c1 c2 w
      · exact alike_rows a b g1 o1 c1 g2 o2 c2 w r1 r2 hn hm
  · have hl' : ((a.length : Int) != (b.length : Int)) = true := by simp; omega
    have HL := Lib.hid hl
    clear h1 h2
    go_enter Tryd.func37, Tryd.ntmps37
    go_wp2
    go_ret
    exact ⟨ret_bool (by symm; rw [decide_eq_false_iff_not]; intro e; exact HL.out (by simpa using congrArg List.length e)), 0, rfl⟩

theorem short_two (s1 s2 : ByteArray) (b : Bool) (hb : (shortL s1.data.toList && shortL s2.data.toList) = b) (g : Nat) (w : World) (hr : Blk w g 9 #[.string s1, .string s2]) :
    Calls Tryd.prog 22 #[.slice (some ⟨g, 0, none⟩) 2 2] w fun e w' => e = .returned (.bool b) ∧ w = w' := by
  have h := short_any [s1.data.toList, s2.data.toList] g 2 w (by
    intro i x hi
    match i with
    | 0 =>
      simp at hi
      subst hi
      rw [bs_toList]
      exact hr.cell 0
    | 1 =>
      simp at hi
      subst hi
      rw [bs_toList]
      exact hr.cell 1
    | i + 2 => simp at hi) (by simp)
  simp only [List.all_cons, List.all_nil, Bool.and_true, hb] at h
  exact h
end Go.Proofs.YtophcjkfhneghaaDoor
