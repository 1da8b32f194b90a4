/- The reference's digits, numbers and comments. -/
import Derived.Test.YtophcjkfhneghaaDoorYa
namespace Go.Proofs.YtophcjkfhneghaaDoor
open Go Go.RowKit

theorem lead_more {p : Int → Bool} {s : ByteArray} {k : Nat} (h : k ≤ lead p s 0) (hlt : k < s.size) (hp : p (byteAt s k) = true) : k + 1 ≤ lead p s 0 := by
  rcases Nat.lt_or_ge k (lead p s 0) with h1 | h1
  · exact h1
  · have h3 : lead p s 0 = k := by omega
    have := lead_stop (p := p) (s := s) (i := 0) (by omega)
    rw [h3, Nat.zero_add, hp] at this
    cases this
theorem lead_ends {p : Int → Bool} {s : ByteArray} {k : Nat} (h : k ≤ lead p s 0) (hp : p (byteAt s k) = false) : k = lead p s 0 := by
  rcases Nat.lt_or_ge k (lead p s 0) with h1 | h1
  · have := (lead_in h1).2
    rw [Nat.zero_add, hp] at this
    cases this
  · omega
theorem lead_full {p : Int → Bool} {s : ByteArray} {k : Nat} (h : k ≤ lead p s 0) (hk : k = s.size) : k = lead p s 0 := by
  have h1 := lead_le (p := p) (s := s) (i := 0) (by omega)
  omega

set_option maxRecDepth 100000 in
set_option maxHeartbeats 3200000 in
theorem refDigits_any (s : ByteArray) (w : World) (hs : s.size ≤ 1000000) : Calls Tryd.prog 65 #[.string s] w fun e w' => e = .returned (.int .i64 (lead isDig s 0)) ∧ w = w' := by
  go_enter Tryd.func65, Tryd.ntmps65
  go_wp2
  go_loop [3] (fun i => ∃ k : Nat, k ≤ s.size ∧ i = .int .i64 k ∧ k ≤ lead isDig s 0) (fun i => s.size - (intOf i).toNat)
  case atStart => exact ⟨0, by omega, rfl, by omega⟩
  case round =>
    obtain ⟨k, hk, rfl, hno⟩ := hrel
    have HNO := Lib.hid hno
    clear hno
    by_cases hlt : k < s.size
    · have hbk : (s[k].toNat : Int) = byteAt s k := by simp [byteAt, hlt]; rfl
      cases h1 : isDig (byteAt s k)
      · have hend := Lib.hid (lead_ends HNO.out h1)
        go_wp2_with (go_at_call 50; refine (refDigit_any _ _).mono ?_; rintro e w' ⟨rfl, rfl⟩; rw [h1])
        go_ret
        exact ⟨ret_int (by rw [← hend.out]), rfl⟩
      · have hmo := Lib.hid (lead_more HNO.out hlt h1)
        go_wp2_with (go_at_call 50; refine (refDigit_any _ _).mono ?_; rintro e w' ⟨rfl, rfl⟩; rw [h1])
        go_round
        case rel => exact ⟨k + 1, by omega, by go_num, hmo.out⟩
        case measure => simp [intOf]; omega
    · have hend := Lib.hid (lead_full HNO.out (show k = s.size by omega))
      go_wp2
      go_ret
      exact ⟨ret_int (by rw [← hend.out]), rfl⟩

set_option maxRecDepth 100000 in
set_option maxHeartbeats 3200000 in
theorem refComment_any (s : ByteArray) (w : World) (hs : s.size ≤ 1000000) : Calls Tryd.prog 53 #[.string s] w fun e w' => e = .returned (.int .i64 (lead notNl s 0)) ∧ w = w' := by
  go_enter Tryd.func53, Tryd.ntmps53
  go_wp2
  go_loop [3] (fun i => ∃ k : Nat, k ≤ s.size ∧ i = .int .i64 k ∧ k ≤ lead notNl s 0) (fun i => s.size - (intOf i).toNat)
  case atStart => exact ⟨0, by omega, rfl, by omega⟩
  case round =>
    obtain ⟨k, hk, rfl, hno⟩ := hrel
    have HNO := Lib.hid hno
    clear hno
    by_cases hlt : k < s.size
    · have hbk : (s[k].toNat : Int) = byteAt s k := by simp [byteAt, hlt]; rfl
      by_cases h1 : byteAt s k = 10
      · have hend := Lib.hid (lead_ends HNO.out (show notNl (byteAt s k) = false by simp [notNl, h1]))
        have hq : (byteAt s k != 10) = false := by simp [h1]
        clear h1
        go_wp2
        go_ret
        exact ⟨ret_int (by rw [← hend.out]), rfl⟩
      · have hmo := Lib.hid (lead_more HNO.out hlt (show notNl (byteAt s k) = true by simp [notNl, h1]))
        have hq : (byteAt s k != 10) = true := by simp [h1]
        clear h1
        go_wp2
        go_round
        case rel => exact ⟨k + 1, by omega, by go_num, hmo.out⟩
        case measure => simp [intOf]; omega
    · have hend := Lib.hid (lead_full HNO.out (show k = s.size by omega))
      go_wp2
      go_ret
      exact ⟨ret_int (by rw [← hend.out]), rfl⟩

/-- A number as the reference has it. -/
def refNumB (s : ByteArray) : Bool := decide (0 < s.size) && decide (s.size ≤ 10) && decide (lead isDig s 0 = s.size) && !(decide (1 < s.size) && byteAt s 0 == 48) && (decide (s.size < 10) || s == bs billion)

set_option maxRecDepth 100000 in
set_option maxHeartbeats 3200000 in
theorem refNumber_any (s : ByteArray) (w : World) : Calls Tryd.prog 56 #[.string s] w fun e w' => e = .returned (.bool (refNumB s)) ∧ w = w' := by
  by_cases h0 : s.size = 0
  · go_enter Tryd.func56, Tryd.ntmps56
    go_wp2
    go_ret
    exact ⟨ret_bool (by simp [refNumB, h0]), rfl⟩
  · have hp : 0 < s.size := by omega
    have hb : (s[0].toNat : Int) = byteAt s 0 := by simp [byteAt, hp]; rfl
    by_cases h10 : s.size ≤ 10
    · have h10' : ¬ (10 : Int) < (s.size : Int) := by omega
      by_cases h2 : lead isDig s 0 = s.size
      · have h2' : ((lead isDig s 0 : Int) != (s.size : Int)) = false := by simp [h2]
        have H2 := Lib.hid h2
        clear h2
        by_cases h1 : 1 < s.size
        · have h1' : (1 : Int) < (s.size : Int) := by omega
          cases h3 : (byteAt s 0 == 48)
          · by_cases h9 : s.size < 10
            · have h9' : (s.size : Int) < 10 := by omega
              go_enter Tryd.func56, Tryd.ntmps56
              go_wp2_with (go_at_call 65; refine (refDigits_any _ _ (by omega)).mono ?_; rintro e w' ⟨rfl, rfl⟩)
              go_ret
              exact ⟨ret_bool (by simp [refNumB, hp, h10, H2.out, h3, h9]), rfl⟩
            · have h9' : ¬ (s.size : Int) < 10 := by omega
              cases h4 : (s == bs billion)
              all_goals
                have h4' := h4
                rw [beq_toListBytes] at h4'
                simp only [bs, billion] at h4'
                go_enter Tryd.func56, Tryd.ntmps56
                go_wp2_with (go_at_call 65; refine (refDigits_any _ _ (by omega)).mono ?_; rintro e w' ⟨rfl, rfl⟩)
                go_ret
                refine ⟨ret_bool ?_, rfl⟩
                simp [refNumB, hp, h10, H2.out, h3, h9, h4]
                first
                  | exact ⟨by omega, by simpa using h4'⟩
                  | exact .inr (by simpa using h4')
          · go_enter Tryd.func56, Tryd.ntmps56
            go_wp2_with (go_at_call 65; refine (refDigits_any _ _ (by omega)).mono ?_; rintro e w' ⟨rfl, rfl⟩)
            go_ret
            exact ⟨ret_bool (by simp [refNumB, h1, h3]), rfl⟩
        · have h1' : ¬ (1 : Int) < (s.size : Int) := by omega
          have h9' : (s.size : Int) < 10 := by omega
          have h9 : s.size < 10 := by omega
          go_enter Tryd.func56, Tryd.ntmps56
          go_wp2_with (go_at_call 65; refine (refDigits_any _ _ (by omega)).mono ?_; rintro e w' ⟨rfl, rfl⟩)
          go_ret
          exact ⟨ret_bool (by simp [refNumB, hp, h10, H2.out, h1, h9]), rfl⟩
      · have h2' : ((lead isDig s 0 : Int) != (s.size : Int)) = true := by simp; omega
        have H2 := Lib.hid h2
        clear h2
        go_enter Tryd.func56, Tryd.ntmps56
        go_wp2_with (go_at_call 65; refine (refDigits_any _ _ (by omega)).mono ?_; rintro e w' ⟨rfl, rfl⟩)
        go_ret
        exact ⟨ret_bool (by simp [refNumB, H2.out]), rfl⟩
    · have h10' : (10 : Int) < (s.size : Int) := by omega
      go_enter Tryd.func56, Tryd.ntmps56
      go_wp2
      go_ret
      exact ⟨ret_bool (by simp [refNumB, h10]), rfl⟩

/-- On digits both are one. -/
theorem refNumB_dig {s : ByteArray} (hd : lead isDig s 0 = s.size) (h0 : 0 < s.size) : refNumB s = numB s := by
  have hl : s.data.toList.length = s.size := data_length s
  have hne : s.data.toList ≠ [] := fun e => by rw [e] at hl; simp at hl; omega
  have hdl : digL s.data.toList := by
    intro c hc
    obtain ⟨k, hk, rfl⟩ := List.getElem_of_mem hc
    have h1 := (lead_in (p := isDig) (s := s) (i := 0) (k := k) (by omega)).2
    rw [Nat.zero_add, byteAt_some (List.getElem?_eq_getElem hk)] at h1
    simp only [isDig, Bool.and_eq_true, decide_eq_true_eq] at h1
    omega
  have e := numB_list hdl hne
  rw [bs_toList] at e
  rw [e]
  have hhead : (byteAt s 0 == 48) = (s.data.toList.head? == some 48) := by
    obtain ⟨c, r, hcr⟩ := List.exists_cons_of_ne_nil hne
    rw [byteAt_some (c := c) (by rw [hcr]; rfl), hcr, Bool.eq_iff_iff]
    simp only [beq_iff_eq, List.head?_cons, Option.some.injEq]
    constructor
    · intro h
      apply UInt8.toNat_inj.1
      have e48 : (48 : UInt8).toNat = 48 := rfl
      omega
    · rintro rfl; rfl
  have hbil : (s == bs billion) = (s.data.toList == billion) := by
    rw [beq_toListBytes, Bool.eq_iff_iff, beq_iff_eq, beq_iff_eq, ByteArray.toList_eq, ByteArray.toList_eq, bs_data]
  unfold refNumB numL
  rw [hhead, hbil, hl]
  simp [h0, hd]
end Go.Proofs.YtophcjkfhneghaaDoor
