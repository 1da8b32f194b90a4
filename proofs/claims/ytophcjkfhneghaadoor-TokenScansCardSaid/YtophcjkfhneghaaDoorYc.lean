/- The reference's first token of a text. -/
import Derived.Test.YtophcjkfhneghaaDoorYb
import Derived.Deep.RegionWith
import Derived.BigQuiet
import Derived.OwnWalk
namespace Go.Proofs.YtophcjkfhneghaaDoor
open Go Go.RowKit

theorem isWordB_size {s : ByteArray} (h : isWordB s = true) : s.size ≤ 8 := by
  unfold isWordB at h
  rw [List.any_eq_true] at h
  obtain ⟨l, hl, h⟩ := h
  have hh : ((bs l).data == s.data) = true := h
  rw [beq_iff_eq] at hh
  have hs : s = bs l := by
    cases s
    simp only [bs] at hh ⊢
    rw [hh]
  subst hs
  rw [bs_size]
  have hall : ∀ l ∈ wordL, l.length ≤ 8 := by decide +kernel
  exact hall l hl
theorem signL_first : ∀ l ∈ signL, l.take 1 ∈ signL := by decide +kernel
theorem isSignB_first {s : ByteArray} (h : isSignB (s.extract 0 2) = true) : isSignB (s.extract 0 1) = true := by
  obtain ⟨l, hl, e⟩ := isSignB_mem h
  have e1 : s.extract 0 1 = bs (l.take 1) := by
    rw [extract_bs]
    have := congrArg (fun x : ByteArray => x.data.toList) e
    simp only [extract_list, bs_data, Nat.sub_zero, List.drop_zero] at this
    rw [← this]
    simp [List.take_take]
  rw [e1]
  unfold isSignB
  rw [List.any_eq_true]
  exact ⟨l.take 1, signL_first l hl, by rw [beq_toListBytes]; simp⟩

theorem kind3_is {s : ByteArray} {i : Nat} (h : kindAt s i = 3) : isLet (byteAt s i) = true := by
  unfold kindAt at h
  split at h
  · omega
  split at h
  · omega
  split at h
  · assumption
  split at h
  · omega
  split at h <;> omega
theorem kind4_is {s : ByteArray} {i : Nat} (h : kindAt s i = 4) : isLet (byteAt s i) = false ∧ isDig (byteAt s i) = true := by
  unfold kindAt at h
  split at h
  · omega
  split at h
  · omega
  split at h
  · omega
  rename_i h3
  split at h
  · exact ⟨by simpa using h3, by assumption⟩
  split at h <;> omega
theorem kind5_is {s : ByteArray} {i : Nat} (h : kindAt s i = 5) : isLet (byteAt s i) = false ∧ isDig (byteAt s i) = false ∧ isSignB (s.extract i (i + 1)) = true := by
  unfold kindAt at h
  split at h
  · omega
  split at h
  · omega
  split at h
  · omega
  rename_i h3
  split at h
  · omega
  rename_i h4
  split at h
  · exact ⟨by simpa using h3, by simpa using h4, by assumption⟩
  · omega
theorem kind0_is {s : ByteArray} {i : Nat} (h : kindAt s i = 0) : isLet (byteAt s i) = false ∧ isDig (byteAt s i) = false ∧ isSignB (s.extract i (i + 1)) = false := by
  unfold kindAt at h
  split at h
  · omega
  split at h
  · omega
  split at h
  · omega
  rename_i h3
  split at h
  · omega
  rename_i h4
  split at h
  · omega
  rename_i h5
  exact ⟨by simpa using h3, by simpa using h4, by simpa using h5⟩

set_option maxRecDepth 100000 in
set_option maxHeartbeats 3200000 in
theorem refFirst_let (s : ByteArray) (w : World) (h0 : 0 < s.size) (hs : s.size ≤ 1000000) (hk : kindAt s 0 = 3) (n : Nat) (hn : lead isLD s 0 = n) :
    Calls Tryd.prog 54 #[.string s] w fun e w' => e = .returned (.tuple (if isWordB (s.extract 0 n) then #[.int .u8 2, .int .i64 n, .int .i64 0] else if 12 < n then #[.int .u8 0, .int .i64 0, .int .i64 12] else #[.int .u8 1, .int .i64 n, .int .i64 0])) ∧ Below w.heap.size w w' := by
  have h1 := kind3_is hk
  have hb : (s[0].toNat : Int) = byteAt s 0 := by simp [byteAt, h0]; rfl
  have b0 : (0 : Int) ≤ (n : Int) := Int.natCast_nonneg _
  have b1 : (n : Int) ≤ (s.size : Int) := by have := lead_le (p := isLD) (s := s) (i := 0) (by omega); omega
  have HN := Lib.hid hn
  clear hn
  cases hw : isWordB (s.extract 0 n)
  · by_cases h12 : 12 < n
    · have h12' : (12 : Int) < (n : Int) := by omega
      go_enter Tryd.func54, Tryd.ntmps54
      go_wp2_with (first | (go_at_call 40; refine (refLetter_any _ _).mono ?_; rintro e w' ⟨rfl, rfl⟩; rw [h1]) | (go_at_call 41; refine (refRun_any _ _ hs).mono ?_; rintro e w' ⟨rfl, rfl⟩; rw [HN.out]) | (go_at_call 16; refine (refIsWord_any _ _).mono ?_; rintro e w' ⟨rfl, hbw⟩; rw [hw]))
      ((try simp only [Exit.inBlock, Exit.then]); refine bodyPost_ret (results_tmp3 rfl _ _ _) rfl ?_)
      exact ⟨by simp [], hbw⟩
    · have h12' : ¬ (12 : Int) < (n : Int) := by omega
      go_enter Tryd.func54, Tryd.ntmps54
      go_wp2_with (first | (go_at_call 40; refine (refLetter_any _ _).mono ?_; rintro e w' ⟨rfl, rfl⟩; rw [h1]) | (go_at_call 41; refine (refRun_any _ _ hs).mono ?_; rintro e w' ⟨rfl, rfl⟩; rw [HN.out]) | (go_at_call 16; refine (refIsWord_any _ _).mono ?_; rintro e w' ⟨rfl, hbw⟩; rw [hw]))
      ((try simp only [Exit.inBlock, Exit.then]); refine bodyPost_ret (results_tmp3 rfl _ _ _) rfl ?_)
      exact ⟨by simp [], hbw⟩
  · go_enter Tryd.func54, Tryd.ntmps54
    go_wp2_with (first | (go_at_call 40; refine (refLetter_any _ _).mono ?_; rintro e w' ⟨rfl, rfl⟩; rw [h1]) | (go_at_call 41; refine (refRun_any _ _ hs).mono ?_; rintro e w' ⟨rfl, rfl⟩; rw [HN.out]) | (go_at_call 16; refine (refIsWord_any _ _).mono ?_; rintro e w' ⟨rfl, hbw⟩; rw [hw]))
    ((try simp only [Exit.inBlock, Exit.then]); refine bodyPost_ret (results_tmp3 rfl _ _ _) rfl ?_)
    exact ⟨by simp, hbw⟩

set_option maxRecDepth 100000 in
set_option maxHeartbeats 3200000 in
theorem refFirst_dig (s : ByteArray) (w : World) (h0 : 0 < s.size) (hs : s.size ≤ 1000000) (hk : kindAt s 0 = 4) (n : Nat) (hn : lead isDig s 0 = n) :
    Calls Tryd.prog 54 #[.string s] w fun e w' => e = .returned (.tuple (if refNumB (s.extract 0 n) then #[.int .u8 3, .int .i64 n, .int .i64 0] else #[.int .u8 0, .int .i64 0, .int .i64 11])) ∧ Below w.heap.size w w' := by
  obtain ⟨h1, h2⟩ := kind4_is hk
  have hb : (s[0].toNat : Int) = byteAt s 0 := by simp [byteAt, h0]; rfl
  have b0 : (0 : Int) ≤ (n : Int) := Int.natCast_nonneg _
  have b1 : (n : Int) ≤ (s.size : Int) := by have := lead_le (p := isDig) (s := s) (i := 0) (by omega); omega
  have HN := Lib.hid hn
  clear hn
  cases hw : refNumB (s.extract 0 n)
  all_goals
    go_enter Tryd.func54, Tryd.ntmps54
    go_wp2_with (first | (go_at_call 40; refine (refLetter_any _ _).mono ?_; rintro e w' ⟨rfl, rfl⟩; rw [h1]) | (go_at_call 50; refine (refDigit_any _ _).mono ?_; rintro e w' ⟨rfl, rfl⟩; rw [h2]) | (go_at_call 65; refine (refDigits_any _ _ hs).mono ?_; rintro e w' ⟨rfl, rfl⟩; rw [HN.out]) | (go_at_call 56; refine (refNumber_any _ _).mono ?_; rintro e w' ⟨rfl, rfl⟩; rw [hw]))
    ((try simp only [Exit.inBlock, Exit.then]); refine bodyPost_ret (results_tmp3 rfl _ _ _) rfl ?_)
    exact ⟨by simp, Below.refl _ w⟩

theorem in_signs (g : Nat) (s : ByteArray) (v : Bool) (hv : isSignB s = v) (w : World) (hr : Blk w g 9 (strsV signL)) : Calls Tryd.prog 42 #[.slice (some ⟨g, 0, none⟩) 21 21, .string s] w fun e w' => e = .returned (.bool v) ∧ w = w' := by
  subst hv
  exact in_any signL g 0 21 s w (strRow_of_block hr) (by simp [signL])

theorem takeWhile_idem {α : Type} (p : α → Bool) : ∀ l : List α, (l.takeWhile p).takeWhile p = l.takeWhile p
  | [] => rfl
  | c :: r => by
    rw [List.takeWhile_cons]
    split
    · rename_i h
      rw [List.takeWhile_cons, if_pos h, takeWhile_idem p r]
    · rfl
/-- The digits that a text begins with are digits. -/
theorem lead_num (s : ByteArray) (hp : 0 < lead isDig s 0) (hle : 0 + lead isDig s 0 ≤ s.size) : refNumB (s.extract 0 (lead isDig s 0)) = numB (s.extract 0 (lead isDig s 0)) := by
  have hz : (s.extract 0 (lead isDig s 0)).size = lead isDig s 0 := by rw [ByteArray.size_extract]; omega
  refine refNumB_dig ?_ (by omega)
  rw [hz]
  have e1 : lead isDig (s.extract 0 (lead isDig s 0)) 0 = leadL isDig (s.data.toList.take (lead isDig s 0)) := by
    unfold lead
    rw [extract_list]
    simp
  rw [e1]
  unfold lead leadL
  rw [List.drop_zero]
  have e2 : s.data.toList.take (s.data.toList.takeWhile fun c => isDig (c.toNat : Int)).length = s.data.toList.takeWhile fun c => isDig (c.toNat : Int) :=
    (List.prefix_iff_eq_take.1 (List.takeWhile_prefix _)).symm
  rw [e2, takeWhile_idem]

set_option maxRecDepth 100000 in
set_option maxHeartbeats 3200000 in
theorem refFirst_two (s : ByteArray) (w : World) (h0 : 0 < s.size) (h1 : isLet (byteAt s 0) = false) (h2 : isDig (byteAt s 0) = false) (h3 : 1 < s.size) (q2 : isSignB (s.extract 0 2) = true) :
    Calls Tryd.prog 54 #[.string s] w fun e w' => e = .returned (.tuple #[.int .u8 4, .int .i64 2, .int .i64 0]) ∧ Below w.heap.size w w' := by
  have hb : (s[0].toNat : Int) = byteAt s 0 := by simp [byteAt, h0]; rfl
  have h3' : (1 : Int) < (s.size : Int) := by omega
  have h3'' : (2 : Int) ≤ (s.size : Int) := by omega
  go_enter Tryd.func54, Tryd.ntmps54
  go_wp2_with (first | (go_at_call 40; refine (refLetter_any _ _).mono ?_; rintro e w' ⟨rfl, rfl⟩; rw [h1]) | (go_at_call 50; refine (refDigit_any _ _).mono ?_; rintro e w' ⟨rfl, rfl⟩; rw [h2]))
  go_region_with (first | (go_at_call 21; refine (refSigns_any _).mono ?_; rintro e w1 ⟨rfl, hk1, hb1⟩) | (go_at_call 42; refine (in_signs _ _ _ q2 _ hk1).mono ?_; rintro e w' ⟨rfl, rfl⟩))
  all_goals
    go_wp2
    ((try simp only [Exit.inBlock, Exit.then]); refine bodyPost_ret (results_tmp3 rfl _ _ _) rfl ?_)
    exact ⟨rfl, (Below.refl _ w).drew.trans hb1⟩

set_option maxRecDepth 100000 in
set_option maxHeartbeats 6400000 in
theorem refFirst_one (s : ByteArray) (w : World) (h0 : 0 < s.size) (h1 : isLet (byteAt s 0) = false) (h2 : isDig (byteAt s 0) = false) (h3 : s.size = 1 ∨ isSignB (s.extract 0 2) = false) (b : Bool) (q1 : isSignB (s.extract 0 1) = b) :
    Calls Tryd.prog 54 #[.string s] w fun e w' => e = .returned (.tuple #[.int .u8 (cond b 4 0), .int .i64 (cond b 1 0), .int .i64 (cond b 0 10)]) ∧ Below w.heap.size w w' := by
  have hb : (s[0].toNat : Int) = byteAt s 0 := by simp [byteAt, h0]; rfl
  have c0 : (1 : Int) ≤ (s.size : Int) := by omega
  by_cases h4 : s.size = 1
  · have h3' : ¬ (1 : Int) < (s.size : Int) := by omega
    clear h3
    cases b
    all_goals
      simp only [cond]
      go_enter Tryd.func54, Tryd.ntmps54
      go_wp2_with (first | (go_at_call 40; refine (refLetter_any _ _).mono ?_; rintro e w' ⟨rfl, rfl⟩; rw [h1]) | (go_at_call 50; refine (refDigit_any _ _).mono ?_; rintro e w' ⟨rfl, rfl⟩; rw [h2]))
      go_region
      go_wp2_with fail
      go_region_with (first | (go_at_call 21; refine (refSigns_any _).mono ?_; rintro e w2 ⟨rfl, hk2, hb2⟩) | (go_at_call 42; refine (in_signs _ _ _ q1 _ hk2).mono ?_; rintro e w' ⟨rfl, rfl⟩))
      all_goals
        go_wp2
        ((try simp only [Exit.inBlock, Exit.then]); refine bodyPost_ret (results_tmp3 rfl _ _ _) rfl ?_)
        exact ⟨rfl, (Below.refl _ w).drew.drew.trans hb2⟩
  · have h3' : (1 : Int) < (s.size : Int) := by omega
    have h3'' : (2 : Int) ≤ (s.size : Int) := by omega
    have q2 : isSignB (s.extract 0 2) = false := by exact h3.resolve_left h4
    clear h3 h4
    cases b
    all_goals
      simp only [cond]
      go_enter Tryd.func54, Tryd.ntmps54
      go_wp2_with (first | (go_at_call 40; refine (refLetter_any _ _).mono ?_; rintro e w' ⟨rfl, rfl⟩; rw [h1]) | (go_at_call 50; refine (refDigit_any _ _).mono ?_; rintro e w' ⟨rfl, rfl⟩; rw [h2]))
      go_region_with (first | (go_at_call 21; refine (refSigns_any _).mono ?_; rintro e w1 ⟨rfl, hk1, hb1⟩) | (go_at_call 42; refine (in_signs _ _ _ q2 _ hk1).mono ?_; rintro e w' ⟨rfl, rfl⟩))
      all_goals
        go_wp2_with fail
        go_region_with (first | (go_at_call 21; refine (refSigns_any _).mono ?_; rintro e w2 ⟨rfl, hk2, hb2⟩) | (go_at_call 42; refine (in_signs _ _ _ q1 _ hk2).mono ?_; rintro e w' ⟨rfl, rfl⟩))
        all_goals
          go_wp2
          ((try simp only [Exit.inBlock, Exit.then]); refine bodyPost_ret (results_tmp3 rfl _ _ _) rfl ?_)
          exact ⟨rfl, ((Below.refl _ w).drew.trans hb1).drew.trans (hb2.mono hb1.size)⟩

/-- The first token of a text, as it is read. -/
theorem refFirst_tok (s : ByteArray) (w : World) (h0 : 0 < s.size) (hs : s.size ≤ 1000000) (k : Int) (n : Nat) (hp : pieceAt s 0 = .tok k n) :
    Calls Tryd.prog 54 #[.string s] w fun e w' => e = .returned (.tuple #[.int .u8 k, .int .i64 n, .int .i64 0]) ∧ Below w.heap.size w w' := by
  unfold pieceAt at hp
  split at hp
  · cases hp
  split at hp
  · cases hp
  split at hp
  · rename_i hk
    split at hp
    · cases hp
    · rename_i h12
      rw [Nat.zero_add] at hp
      injection hp with e1 e2
      have h := refFirst_let s w h0 hs hk _ e2
      rw [e2] at e1 h12
      rw [if_neg h12] at h
      cases hq : isWordB (s.extract 0 n) <;> rw [hq] at e1 h <;> simp only [cond] at e1 <;> subst e1
      · simpa using h
      · simpa using h
  split at hp
  · rename_i hk
    rw [Nat.zero_add] at hp
    have hle := lead_le (p := isDig) (s := s) (i := 0) (by omega)
    have hpos := lead_pos (p := isDig) (s := s) (i := 0) h0 (kind4_is hk).2
    have hnum : refNumB (s.extract 0 (lead isDig s 0)) = numB (s.extract 0 (lead isDig s 0)) := lead_num s hpos hle
    have h := refFirst_dig s w h0 hs hk _ rfl
    rw [hnum] at h
    cases hq : numB (s.extract 0 (lead isDig s 0)) <;> rw [hq] at hp h <;> simp only [cond] at hp
    · cases hp
    · injection hp with e1 e2
      subst e1
      rw [e2] at h
      simpa using h
  split at hp
  · rename_i hk
    obtain ⟨h1, h2, h3⟩ := kind5_is hk
    injection hp with e1 e2
    subst e1
    unfold signLen at e2
    rw [Nat.zero_add, Nat.zero_add] at e2
    split at e2
    · rename_i hc
      subst e2
      exact refFirst_two s w h0 h1 h2 hc.1 hc.2
    · rename_i hc
      subst e2
      refine refFirst_one s w h0 h1 h2 ?_ true h3
      by_cases h4 : s.size = 1
      · exact .inl h4
      · right
        cases hq : isSignB (s.extract 0 2)
        · rfl
        · exact absurd ⟨by omega, hq⟩ hc
  · cases hp
theorem refFirst_bad (s : ByteArray) (w : World) (h0 : 0 < s.size) (hs : s.size ≤ 1000000) (c : Int) (hp : pieceAt s 0 = .bad c) :
    Calls Tryd.prog 54 #[.string s] w fun e w' => e = .returned (.tuple #[.int .u8 0, .int .i64 0, .int .i64 c]) ∧ Below w.heap.size w w' := by
  have hk0 := kindAt_cases s 0
  unfold pieceAt at hp
  split at hp
  · cases hp
  split at hp
  · cases hp
  split at hp
  · rename_i hk
    split at hp
    · rename_i h12
      injection hp with e1
      subst e1
      have h := refFirst_let s w h0 hs hk _ rfl
      rw [if_pos h12] at h
      cases hq : isWordB (s.extract 0 (lead isLD s 0)) <;> rw [hq] at h
      · simpa using h
      · have h8 := isWordB_size hq
        have hle := lead_le (p := isLD) (s := s) (i := 0) (by omega)
        rw [ByteArray.size_extract] at h8
        omega
    · cases hp
  split at hp
  · rename_i hk
    rw [Nat.zero_add] at hp
    have hle := lead_le (p := isDig) (s := s) (i := 0) (by omega)
    have hpos := lead_pos (p := isDig) (s := s) (i := 0) h0 (kind4_is hk).2
    have hnum : refNumB (s.extract 0 (lead isDig s 0)) = numB (s.extract 0 (lead isDig s 0)) := lead_num s hpos hle
    have h := refFirst_dig s w h0 hs hk _ rfl
    rw [hnum] at h
    cases hq : numB (s.extract 0 (lead isDig s 0)) <;> rw [hq] at hp h <;> simp only [cond] at hp
    · injection hp with e1
      subst e1
      simpa using h
    · cases hp
  split at hp
  · cases hp
  · injection hp with e1
    subst e1
    obtain ⟨h1, h2, h3⟩ := kind0_is (s := s) (i := 0) (by omega)
    refine refFirst_one s w h0 h1 h2 ?_ false h3
    by_cases h4 : s.size = 1
    · exact .inl h4
    · right
      cases hq : isSignB (s.extract 0 2)
      · rfl
      · rw [isSignB_first hq] at h3
        cases h3
end Go.Proofs.YtophcjkfhneghaaDoor
