/- Comparing lists of tokens and of texts, wherever they lie. -/
import Derived.Test.YtophcjkfhneghaaDoorYf
import Derived.Test.YtophcjkfhneghaaDoorZa
namespace Go.Proofs.YtophcjkfhneghaaDoor
open Go Go.RowKit

theorem tok_eq {t u : Tok} (h1 : t.kind = u.kind) (h2 : (bs t.text).toList = (bs u.text).toList) (h3 : t.line = u.line) : t = u := by
  cases t; cases u
  simp only at *
  rw [ByteArray.toList_eq, ByteArray.toList_eq, bs_data, bs_data] at h2
  simp [h1, h2, h3]

set_option maxRecDepth 100000 in
set_option maxHeartbeats 3200000 in
theorem sameStrs_rows (a b : List (List UInt8)) (g1 o1 c1 g2 o2 c2 : Nat) (w : World) (h1 : StrRow w g1 o1 a) (h2 : StrRow w g2 o2 b) (hn : a.length ≤ 100000) (hm : b.length ≤ 100000) :
    Calls Tryd.prog 17 #[.slice (some ⟨g1, o1, none⟩) a.length c1, .slice (some ⟨g2, o2, none⟩) b.length c2] w fun e w' => e = .returned (.bool (decide (a = b))) ∧ ∃ n, w' = w.drewN n := by
  have H1 := Lib.hid h1
  have H2 := Lib.hid h2
  clear h1 h2
  by_cases hl : a.length = b.length
  · have hl' : ((a.length : Int) != (b.length : Int)) = false := by simp [hl]
    have HL := Lib.hid hl
    clear hl
    go_enter Tryd.func17, Tryd.ntmps17
    go_wp2
    go_loopw [5] (fun i wr => ∃ k n : Nat, k ≤ a.length ∧ i = .int .i64 k ∧ wr = w.drewN n ∧ ∀ j, j < k → a[j]? = b[j]?) (fun i _ => a.length - (intOf i).toNat)
    case atStart => exact ⟨0, 0, by omega, rfl, rfl, fun j hj => by omega⟩
    case round =>
      obtain ⟨k, n, hk, rfl, rfl, hno⟩ := hrel
      have HNO := Lib.hid hno
      clear hno
      by_cases hlt : k < a.length
      · have hlt2 : k < b.length := by have := HL.out; omega
        have a0 := H1.out k a[k] (List.getElem?_eq_getElem hlt)
        have b0 := H2.out k b[k] (List.getElem?_eq_getElem hlt2)
        by_cases hq : a[k] = b[k]
        · have hq2 : ((bs a[k]).toList == (bs b[k]).toList) = true := by rw [hq]; simp
          have HQ := Lib.hid hq
          clear hq
          go_wp2
          go_quiet (fail)
          go_wp2
          go_roundw
          case rel =>
            refine ⟨k + 1, n + nq, by omega, by go_num, by simp [World.drewN], fun j hj => ?_⟩
            by_cases hjk : j = k
            · subst hjk
              rw [List.getElem?_eq_getElem hlt, List.getElem?_eq_getElem hlt2, HQ.out]
            · exact HNO.out j (by omega)
          case measure => simp [intOf]; omega
        · have hq2 : ((bs a[k]).toList == (bs b[k]).toList) = false := by
            rw [beq_eq_false_iff_ne, ByteArray.toList_eq, ByteArray.toList_eq, bs_data, bs_data]; exact hq
          have HQ := Lib.hid hq
          clear hq
          go_wp2
          go_quiet (fail)
          go_wp2
          go_ret
          refine ⟨ret_bool ?_, n + nq, by simp [World.drewN, Nat.add_assoc]⟩
          symm
          rw [decide_eq_false_iff_not]
          intro e
          subst e
          exact HQ.out rfl
      · have : k = a.length := by omega
        subst this
        go_wp2
        go_ret
        refine ⟨ret_bool ?_, n, rfl⟩
        symm
        rw [decide_eq_true_eq]
        apply List.ext_getElem?
        intro j
        by_cases hj : j < a.length
        · exact HNO.out j hj
        · have := HL.out
          rw [List.getElem?_eq_none (by omega), List.getElem?_eq_none (by omega)]
  · have hl' : ((a.length : Int) != (b.length : Int)) = true := by simp; omega
    have HL := Lib.hid hl
    go_enter Tryd.func17, Tryd.ntmps17
    go_wp2
    go_ret
    exact ⟨ret_bool (by symm; rw [decide_eq_false_iff_not]; intro e; exact HL.out (by rw [e])), 0, rfl⟩

set_option maxRecDepth 100000 in
set_option maxHeartbeats 3200000 in
theorem same_rows (a b : List Tok) (g1 o1 c1 g2 o2 c2 : Nat) (w : World) (h1 : TokRow w g1 o1 a) (h2 : TokRow w g2 o2 b) (hn : a.length ≤ 100000) (hm : b.length ≤ 100000) :
    Calls Tryd.prog 27 #[.slice (some ⟨g1, o1, none⟩) a.length c1, .slice (some ⟨g2, o2, none⟩) b.length c2] w fun e w' => e = .returned (.bool (decide (a = b))) ∧ ∃ n, w' = w.drewN n := by
  have H1 := Lib.hid h1
  have H2 := Lib.hid h2
  clear h1 h2
  by_cases hl : a.length = b.length
  · have hl' : ((a.length : Int) != (b.length : Int)) = false := by simp [hl]
    have HL := Lib.hid hl
    clear hl
    go_enter Tryd.func27, Tryd.ntmps27
    go_wp2
    go_loopw [5] (fun i wr => ∃ k n : Nat, k ≤ a.length ∧ i = .int .i64 k ∧ wr = w.drewN n ∧ ∀ j, j < k → a[j]? = b[j]?) (fun i _ => a.length - (intOf i).toNat)
    case atStart => exact ⟨0, 0, by omega, rfl, rfl, fun j hj => by omega⟩
    case round =>
      obtain ⟨k, n, hk, rfl, rfl, hno⟩ := hrel
      have HNO := Lib.hid hno
      clear hno
      by_cases hlt : k < a.length
      · have hlt2 : k < b.length := by have := HL.out; omega
        obtain ⟨a0, a1, a2⟩ := H1.out k a[k] (List.getElem?_eq_getElem hlt)
        obtain ⟨b0, b1, b2⟩ := H2.out k b[k] (List.getElem?_eq_getElem hlt2)
        by_cases q1 : a[k].kind = b[k].kind
        · by_cases q2 : (bs a[k].text).toList = (bs b[k].text).toList
          · by_cases q3 : a[k].line = b[k].line
            · have HQ := Lib.hid (tok_eq q1 q2 q3)
              go_wp2
              go_quiet (fail)
              go_wp2
              go_roundw
              case rel =>
                refine ⟨k + 1, n + nq, by omega, by go_num, by simp [World.drewN], fun j hj => ?_⟩
                by_cases hjk : j = k
                · subst hjk
                  rw [List.getElem?_eq_getElem hlt, List.getElem?_eq_getElem hlt2, HQ.out]
                · exact HNO.out j (by omega)
              case measure => simp [intOf]; omega
            · have HQ := Lib.hid q3
              go_wp2
              go_quiet (fail)
              go_wp2
              go_ret
              refine ⟨ret_bool ?_, n + nq, by simp [World.drewN, Nat.add_assoc]⟩
              symm
              rw [decide_eq_false_iff_not]
              intro e
              subst e
              exact HQ.out rfl
          · have HQ := Lib.hid q2
            go_wp2
            go_quiet (fail)
            go_wp2
            go_ret
            refine ⟨ret_bool ?_, n + nq, by simp [World.drewN, Nat.add_assoc]⟩
            symm
            rw [decide_eq_false_iff_not]
            intro e
            subst e
            exact HQ.out rfl
        · have HQ := Lib.hid q1
          go_wp2
          go_quiet (fail)
          go_wp2
          go_ret
          refine ⟨ret_bool ?_, n + nq, by simp [World.drewN, Nat.add_assoc]⟩
          symm
          rw [decide_eq_false_iff_not]
          intro e
          subst e
          exact HQ.out rfl
      · have : k = a.length := by omega
        subst this
        go_wp2
        go_ret
        refine ⟨ret_bool ?_, n, rfl⟩
        symm
        rw [decide_eq_true_eq]
        apply List.ext_getElem?
        intro j
        by_cases hj : j < a.length
        · exact HNO.out j hj
        · have := HL.out
          rw [List.getElem?_eq_none (by omega), List.getElem?_eq_none (by omega)]
  · have hl' : ((a.length : Int) != (b.length : Int)) = true := by simp; omega
    have HL := Lib.hid hl
    go_enter Tryd.func27, Tryd.ntmps27
    go_wp2
    go_ret
    exact ⟨ret_bool (by symm; rw [decide_eq_false_iff_not]; intro e; exact HL.out (by rw [e])), 0, rfl⟩

/-- A list of tokens as a slice. -/
def TokSl (w : World) (v : Value) (l : List Tok) : Prop := ∃ ao cap, v = .slice ao l.length cap ∧ (l = [] ∨ ∃ g o, ao = some ⟨g, o, none⟩ ∧ g < w.heap.size ∧ TokRow w g o l)
def StrSl (w : World) (v : Value) (l : List (List UInt8)) : Prop := ∃ ao cap, v = .slice ao l.length cap ∧ (l = [] ∨ ∃ g o, ao = some ⟨g, o, none⟩ ∧ g < w.heap.size ∧ StrRow w g o l)
theorem TokSl.below {w w' : World} {v : Value} {l : List Tok} (h : TokSl w v l) (hb : Below w.heap.size w w') : TokSl w' v l := by
  obtain ⟨ao, cap, rfl, h | ⟨g, o, rfl, hg, hr⟩⟩ := h
  · exact ⟨ao, cap, rfl, .inl h⟩
  · exact ⟨_, cap, rfl, .inr ⟨g, o, rfl, Nat.lt_of_lt_of_le hg hb.size, hr.below hb hg⟩⟩
theorem StrSl.below {w w' : World} {v : Value} {l : List (List UInt8)} (h : StrSl w v l) (hb : Below w.heap.size w w') : StrSl w' v l := by
  obtain ⟨ao, cap, rfl, h | ⟨g, o, rfl, hg, hr⟩⟩ := h
  · exact ⟨ao, cap, rfl, .inl h⟩
  · exact ⟨_, cap, rfl, .inr ⟨g, o, rfl, Nat.lt_of_lt_of_le hg hb.size, hr.below hb hg⟩⟩
theorem tokSl_own {w : World} {base : Nat} {v : Value} {l : List Tok} (h : w.ownsRow base 38 3 v l.length (tokVs l)) : TokSl w v l := by
  by_cases hn : 0 < l.length
  · obtain ⟨g, cap, rfl, _, hg, hr⟩ := own_toks h hn
    exact ⟨_, cap, rfl, .inr ⟨g, 0, rfl, hg, hr⟩⟩
  · obtain ⟨ao, cap, rfl⟩ := own_len h
    exact ⟨ao, cap, rfl, .inl (List.eq_nil_of_length_eq_zero (by omega))⟩
theorem strSl_own {w : World} {base : Nat} {v : Value} {l : List (List UInt8)} (h : w.ownsRow base 9 1 v l.length (strVs l)) : StrSl w v l := by
  by_cases hn : 0 < l.length
  · obtain ⟨g, cap, rfl, _, hg, hr⟩ := own_strs h hn
    exact ⟨_, cap, rfl, .inr ⟨g, 0, rfl, hg, hr⟩⟩
  · obtain ⟨ao, cap, rfl⟩ := own_len h
    exact ⟨ao, cap, rfl, .inl (List.eq_nil_of_length_eq_zero (by omega))⟩
theorem tokSl_nil (w : World) : TokSl w (.slice none 0 0) [] := ⟨none, 0, rfl, .inl rfl⟩
theorem strSl_nil (w : World) : StrSl w (.slice none 0 0) [] := ⟨none, 0, rfl, .inl rfl⟩

set_option maxRecDepth 100000 in
set_option maxHeartbeats 3200000 in
theorem same_any (a b : List Tok) (v1 v2 : Value) (w : World) (h1 : TokSl w v1 a) (h2 : TokSl w v2 b) (hn : a.length ≤ 100000) (hm : b.length ≤ 100000) :
    Calls Tryd.prog 27 #[v1, v2] w fun e w' => e = .returned (.bool (decide (a = b))) ∧ ∃ n, w' = w.drewN n := by
  obtain ⟨a1, c1, rfl, h1⟩ := h1
  obtain ⟨a2, c2, rfl, h2⟩ := h2
  by_cases hl : a.length = b.length
  · rcases h1 with rfl | ⟨g1, o1, rfl, _, r1⟩
    · obtain rfl : b = [] := List.eq_nil_of_length_eq_zero hl.symm
      clear h2 hl
      simp only [List.length_nil]
      go_enter Tryd.func27, Tryd.ntmps27
      go_wp2
      go_loopw [5] (fun i wr => i = .int .i64 0 ∧ wr = w) (fun _ _ => 0)
      case atStart => exact ⟨rfl, rfl⟩
      case round =>
        obtain ⟨rfl, rfl⟩ := hrel
        go_wp2
        go_ret
        exact ⟨ret_bool (by simp), 0, rfl⟩
    · rcases h2 with rfl | ⟨g2, o2, rfl, _, r2⟩
      · obtain rfl : a = [] := List.eq_nil_of_length_eq_zero hl
        exact same_rows [] [] g1 o1 c1 0 0 c2 w r1 (fun i t h => by simp at h) hn hm |> fun h => by
          clear h
          clear r1 hl
          simp only [List.length_nil]
          go_enter Tryd.func27, Tryd.ntmps27
          go_wp2
          go_loopw [5] (fun i wr => i = .int .i64 0 ∧ wr = w) (fun _ _ => 0)
          case atStart => exact ⟨rfl, rfl⟩
          case round =>
            obtain ⟨rfl, rfl⟩ := hrel
            go_wp2
            go_ret
            exact ⟨ret_bool (by simp), 0, rfl⟩
      · exact same_rows a b g1 o1 c1 g2 o2 c2 w r1 r2 hn hm
  · have hl' : ((a.length : Int) != (b.length : Int)) = true := by simp; omega
    have HL := Lib.hid hl
    clear h1 h2
    go_enter Tryd.func27, Tryd.ntmps27
    go_wp2
    go_ret
    exact ⟨ret_bool (by symm; rw [decide_eq_false_iff_not]; intro e; exact HL.out (by rw [e])), 0, rfl⟩
end Go.Proofs.YtophcjkfhneghaaDoor
