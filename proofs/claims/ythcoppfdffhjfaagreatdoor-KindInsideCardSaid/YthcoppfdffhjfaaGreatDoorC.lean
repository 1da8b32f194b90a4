/- The reference's words and names. -/
import Derived.Test.YthcoppfdffhjfaaGreatDoorB
namespace Go.Proofs.YthcoppfdffhjfaaGreatDoor
open Go Go.RowKit

set_option maxRecDepth 100000 in
set_option maxHeartbeats 1000000 in
theorem refWords_any (w : World) : Calls Tryz.prog 110 #[] w fun e w' => e = .returned (.slice (some ⟨w.heap.size, 0, none⟩) 46 46) ∧ Blk w' w.heap.size 9 (strsV wordL) ∧ Below w.heap.size w w' := by
  go_enter Tryz.func110, Tryz.ntmps110
  go_wp2
  go_ret
  exact ⟨rfl, (heap_alloc_new w _).trans (by kernel_rfl), (Below.refl _ w).alloc (Nat.le_refl _) _⟩
set_option maxRecDepth 100000 in
set_option maxHeartbeats 1000000 in
theorem in_any (l : List (List UInt8)) (g o cap : Nat) (s : ByteArray) (w : World) (hr : StrRow w g o l) (hn : l.length ≤ 1000) :
    Calls Tryz.prog 109 #[.slice (some ⟨g, o, none⟩) l.length cap, .string s] w fun e w' => e = .returned (.bool (l.any fun x => bs x == s)) ∧ w = w' := by
  have HR := Lib.hid hr
  clear hr
  go_enter Tryz.func109, Tryz.ntmps109
  go_wp2
  go_loop [5] (fun i => ∃ k : Nat, k ≤ l.length ∧ i = .int .i64 k ∧ ∀ j, j < k → (bs (l.getD j []) == s) = false) (fun i => l.length - (intOf i).toNat)
  case atStart => exact ⟨0, by omega, rfl, fun j hj => by omega⟩
  case round =>
    obtain ⟨k, hk, rfl, hno⟩ := hrel
    have HNO := Lib.hid hno
    clear hno
    by_cases hlt : k < l.length
    · have a0 := HR.out k l[k] (List.getElem?_eq_getElem hlt)
      have hgd := Lib.hid (show l.getD k [] = l[k] by simp [List.getD, hlt])
      cases hq : (bs l[k] == s)
      · have hq2 : ((bs l[k]).toList == s.toList) = false := by rw [← beq_toListBytes]; exact hq
        have HQ := Lib.hid hq
        clear hq
        go_wp2
        go_round
        case rel =>
          refine ⟨k + 1, by omega, by go_num, fun j hj => ?_⟩
          by_cases hjk : j = k
          · subst hjk; rw [hgd.out]; exact HQ.out
          · exact HNO.out j (by omega)
        case measure => simp [intOf]; omega
      · have hq2 : ((bs l[k]).toList == s.toList) = true := by rw [← beq_toListBytes]; exact hq
        have HQ := Lib.hid hq
        clear hq
        go_wp2
        go_ret
        exact ⟨ret_bool (any_getD (l := l) (k := k) hlt (by rw [hgd.out]; exact HQ.out)).symm, rfl⟩
    · have : k = l.length := by omega
      subst this
      go_wp2
      go_ret
      exact ⟨ret_bool (any_none (l := l) HNO.out).symm, rfl⟩

set_option maxRecDepth 100000 in
set_option maxHeartbeats 1000000 in
theorem refIsWord_any (s : ByteArray) (w : World) : Calls Tryz.prog 88 #[.string s] w fun e w' => e = .returned (.bool (isWordB s)) ∧ Below w.heap.size w w' := by
  go_enter Tryz.func88, Tryz.ntmps88
  go_wp2_with fail
  refine (refWords_any w).mono ?_
  rintro e w1 ⟨rfl, hk, hb⟩
  have HB := Lib.hid hb
  have HK := Lib.hid (strRow_of_block hk)
  clear hk hb
  go_wp2_with fail
  refine (in_any wordL w.heap.size 0 46 s w1 HK.out (by simp [wordL])).mono ?_
  rintro e w2 ⟨rfl, rfl⟩
  go_wp2
  go_ret
  exact ⟨rfl, HB.out⟩

theorem refLetter_any (b : Int) (w : World) : Calls Tryz.prog 86 #[.int .u8 b] w fun e w' => e = .returned (.bool (isLet b)) ∧ w = w' := by
  by_cases h1 : 97 ≤ b
  · go_enter Tryz.func86, Tryz.ntmps86
    go_wp2
    go_ret
    exact ⟨by simp [isLet, h1], rfl⟩
  · go_enter Tryz.func86, Tryz.ntmps86
    go_wp2
    go_ret
    exact ⟨by simp [isLet]; omega, rfl⟩

theorem refDigit_any (b : Int) (w : World) : Calls Tryz.prog 108 #[.int .u8 b] w fun e w' => e = .returned (.bool (isDig b)) ∧ w = w' := by
  by_cases h1 : 48 ≤ b
  · go_enter Tryz.func108, Tryz.ntmps108
    go_wp2
    go_ret
    exact ⟨by simp [isDig, h1], rfl⟩
  · go_enter Tryz.func108, Tryz.ntmps108
    go_wp2
    go_ret
    exact ⟨by simp [isDig]; omega, rfl⟩

set_option maxRecDepth 100000 in
set_option maxHeartbeats 3200000 in
theorem refRun_any (s : ByteArray) (w : World) (hs : s.size ≤ 1000000) : Calls Tryz.prog 87 #[.string s] w fun e w' => e = .returned (.int .i64 (lead isLD s 0)) ∧ w = w' := by
  go_enter Tryz.func87, Tryz.ntmps87
  go_wp2
  go_loop [3] (fun i => ∃ k : Nat, k ≤ s.size ∧ i = .int .i64 k ∧ k ≤ lead isLD s 0) (fun i => s.size - (intOf i).toNat)
  case atStart => exact ⟨0, by omega, rfl, by omega⟩
  case round =>
    obtain ⟨k, hk, rfl, hno⟩ := hrel
    have HNO := Lib.hid hno
    clear hno
    by_cases hlt : k < s.size
    · have hbk : (s[k].toNat : Int) = byteAt s k := by simp [byteAt, hlt]; rfl
      have more : isLD (byteAt s k) = true → k + 1 ≤ lead isLD s 0 := by
        intro hr
        rcases Nat.lt_or_ge k (lead isLD s 0) with h | h
        · exact h
        · have h2 := HNO.out
          have h3 : lead isLD s 0 = k := by omega
          have := lead_stop (p := isLD) (s := s) (i := 0) (by omega)
          rw [h3, Nat.zero_add, hr] at this
          cases this
      have MORE := Lib.hid more
      clear more
      cases h1 : isLet (byteAt s k)
      · cases h2 : isDig (byteAt s k)
        · have hend : Hid (lead isLD s 0 = k) := by
            refine Lib.hid ?_
            rcases Nat.lt_or_ge k (lead isLD s 0) with h | h
            · have := (lead_in h).2
              rw [Nat.zero_add] at this
              simp [isLD, h1, h2] at this
            · have := HNO.out; omega
          go_wp2_with (first | (go_at_call 86; refine (refLetter_any _ _).mono ?_; rintro e w' ⟨rfl, rfl⟩; rw [h1]) | (go_at_call 108; refine (refDigit_any _ _).mono ?_; rintro e w' ⟨rfl, rfl⟩; rw [h2]))
          go_ret
          exact ⟨ret_int (by rw [hend.out]), rfl⟩
        · go_wp2_with (first | (go_at_call 86; refine (refLetter_any _ _).mono ?_; rintro e w' ⟨rfl, rfl⟩; rw [h1]) | (go_at_call 108; refine (refDigit_any _ _).mono ?_; rintro e w' ⟨rfl, rfl⟩; rw [h2]))
          go_round
          case rel => exact ⟨k + 1, by omega, by go_num, MORE.out (by simp [isLD, h2])⟩
          case measure => simp [intOf]; omega
      · go_wp2_with (first | (go_at_call 86; refine (refLetter_any _ _).mono ?_; rintro e w' ⟨rfl, rfl⟩; rw [h1]) | (go_at_call 108; refine (refDigit_any _ _).mono ?_; rintro e w' ⟨rfl, rfl⟩; rw [h2]))
        go_round
        case rel => exact ⟨k + 1, by omega, by go_num, MORE.out (by simp [isLD, h1])⟩
        case measure => simp [intOf]; omega
    · have HK := Lib.hid (show k = s.size by omega)
      go_wp2
      go_ret
      refine ⟨ret_int ?_, rfl⟩
      have h1 := lead_le (p := isLD) (s := s) (i := 0) (by omega)
      have := HNO.out; have := HK.out
      omega

set_option maxRecDepth 100000 in
set_option maxHeartbeats 3200000 in
theorem sameStrings_any (a b : List (List UInt8)) (g1 o1 c1 g2 o2 c2 : Nat) (w : World) (h1 : StrRow w g1 o1 a) (h2 : StrRow w g2 o2 b) (hn : a.length ≤ 1000) (hm : b.length ≤ 1000) :
    Calls Tryz.prog 46 #[.slice (some ⟨g1, o1, none⟩) a.length c1, .slice (some ⟨g2, o2, none⟩) b.length c2] w fun e w' => e = .returned (.bool (decide (a = b))) ∧ ∃ n, w' = w.drewN n := by
  have H1 := Lib.hid h1
  have H2 := Lib.hid h2
  clear h1 h2
  by_cases hl : a.length = b.length
  · have hl' : ((a.length : Int) != (b.length : Int)) = false := by simp [hl]
    have HL := Lib.hid hl
    clear hl
    go_enter Tryz.func46, Tryz.ntmps46
    go_wp2
    go_loopw [5] (fun i wr => ∃ k n : Nat, k ≤ a.length ∧ i = .int .i64 k ∧ wr = w.drewN n ∧ ∀ j, j < k → a[j]? = b[j]?) (fun i _ => a.length - (intOf i).toNat)
    case atStart => exact ⟨0, 0, by omega, rfl, rfl, fun j hj => by omega⟩
    case round =>
      obtain ⟨k, n, hk, rfl, rfl, hno⟩ := hrel
      have HNO := Lib.hid hno
      clear hno
      by_cases hlt : k < a.length
      · have hlt2 : k < b.length := by have := HL.out; omega
        have a0 := H1.out k a[k] (List.getElem?_eq_getElem hlt)
        have b0 := H2.out k b[k] (List.getElem?_eq_getElem hlt2)
        by_cases hq : a[k] = b[k]
        · have hq2 : ((bs a[k]).toList == (bs b[k]).toList) = true := by rw [hq]; simp
          have HQ := Lib.hid hq
          clear hq
          go_wp2
          go_quiet (fail)
          go_wp2
          go_roundw
          case rel =>
            refine ⟨k + 1, n + nq, by omega, by go_num, by simp [World.drewN], fun j hj => ?_⟩
            by_cases hjk : j = k
            · subst hjk
              rw [List.getElem?_eq_getElem hlt, List.getElem?_eq_getElem hlt2, HQ.out]
            · exact HNO.out j (by omega)
          case measure => simp [intOf]; omega
        · have hq2 : ((bs a[k]).toList == (bs b[k]).toList) = false := by
            rw [beq_eq_false_iff_ne, ByteArray.toList_eq, ByteArray.toList_eq, bs_data, bs_data]; exact hq
          have HQ := Lib.hid hq
          clear hq
          go_wp2
          go_quiet (fail)
          go_wp2
          go_ret
          refine ⟨ret_bool ?_, n + nq, by simp [World.drewN, Nat.add_assoc]⟩
          symm
          rw [decide_eq_false_iff_not]
          intro e
          subst e
          exact HQ.out rfl
      · have : k = a.length := by omega
        subst this
        go_wp2
        go_ret
        refine ⟨ret_bool ?_, n, rfl⟩
        symm
        rw [decide_eq_true_eq]
        apply List.ext_getElem?
        intro j
        by_cases hj : j < a.length
        · exact HNO.out j hj
        · have := HL.out
          rw [List.getElem?_eq_none (by omega), List.getElem?_eq_none (by omega)]
  · have hl' : ((a.length : Int) != (b.length : Int)) = true := by simp; omega
    have HL := Lib.hid hl
    go_enter Tryz.func46, Tryz.ntmps46
    go_wp2
    go_ret
    exact ⟨ret_bool (by symm; rw [decide_eq_false_iff_not]; intro e; exact HL.out (by rw [e])), 0, rfl⟩

set_option maxRecDepth 100000 in
set_option maxHeartbeats 3200000 in
theorem refIsName_any (s : ByteArray) (w : World) (hs : s.size ≤ 1000000) : Calls Tryz.prog 61 #[.string s] w fun e w' => e = .returned (.bool (isNameB s)) ∧ Below w.heap.size w w' := by
  by_cases h0 : s.size = 0
  · go_enter Tryz.func61, Tryz.ntmps61
    go_wp2
    go_ret
    exact ⟨ret_bool (by simp [isNameB, h0]), Below.refl _ w⟩
  · have hp : 0 < s.size := by omega
    have hb : (s[0].toNat : Int) = byteAt s 0 := by simp [byteAt, hp]; rfl
    by_cases h12 : s.size ≤ 12
    · have h12' : (s.size : Int) ≤ 12 := by omega
      cases h1 : isLet (byteAt s 0)
      · go_enter Tryz.func61, Tryz.ntmps61
        go_wp2_with (go_at_call 86; refine (refLetter_any _ _).mono ?_; rintro e w' ⟨rfl, rfl⟩; rw [h1])
        go_ret
        exact ⟨ret_bool (by simp [isNameB, h1]), Below.refl _ w⟩
      · by_cases h2 : lead isLD s 0 = s.size
        · have h2' : ((lead isLD s 0 : Int) == (s.size : Int)) = true := by simp [h2]
          have H2 := Lib.hid h2
          clear h2
          cases h3 : isWordB s
          all_goals
            go_enter Tryz.func61, Tryz.ntmps61
            go_wp2_with (first | (go_at_call 86; refine (refLetter_any _ _).mono ?_; rintro e w' ⟨rfl, rfl⟩; rw [h1]) | (go_at_call 87; refine (refRun_any _ _ hs).mono ?_; rintro e w' ⟨rfl, rfl⟩) | (go_at_call 88; refine (refIsWord_any _ _).mono ?_; rintro e w' ⟨rfl, hbw⟩; rw [h3]))
            go_ret
            exact ⟨ret_bool (by simp [isNameB, h1, h3, H2.out, h12, hp]), hbw⟩
        · have h2' : ((lead isLD s 0 : Int) == (s.size : Int)) = false := by simp; omega
          have H2 := Lib.hid h2
          clear h2
          go_enter Tryz.func61, Tryz.ntmps61
          go_wp2_with (first | (go_at_call 86; refine (refLetter_any _ _).mono ?_; rintro e w' ⟨rfl, rfl⟩; rw [h1]) | (go_at_call 87; refine (refRun_any _ _ hs).mono ?_; rintro e w' ⟨rfl, rfl⟩))
          go_ret
          exact ⟨ret_bool (by simp [isNameB, H2.out]), Below.refl _ w⟩
    · have h12' : ¬ (s.size : Int) ≤ 12 := by omega
      go_enter Tryz.func61, Tryz.ntmps61
      go_wp2
      go_ret
      exact ⟨ret_bool (by simp [isNameB, h12]), Below.refl _ w⟩
end Go.Proofs.YthcoppfdffhjfaaGreatDoor
