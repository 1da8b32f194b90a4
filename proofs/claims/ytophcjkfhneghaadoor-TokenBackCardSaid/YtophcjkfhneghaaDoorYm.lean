/- A token's kind and text: the program's way (read the text, look whether it is this token) and the reference's way (ask the text) agree. -/
import Derived.Test.YtophcjkfhneghaaDoorYi
namespace Go.Proofs.YtophcjkfhneghaaDoor
open Go Go.RowKit

/-- A kind and a text are as said. -/
def rightB (k : Int) (s : ByteArray) : Bool := if k = 1 then isNameB s else if k = 2 then isWordB s else if k = 3 then refNumB s else if k = 4 then isSignB s else false

theorem lead_cut (p : Int → Bool) (s : ByteArray) (i : Nat) : lead p (bs (cut s i (lead p s i))) 0 = lead p s i := by
  unfold lead leadL cut
  rw [bs_data, List.drop_zero]
  have e2 : (s.data.toList.drop i).take ((s.data.toList.drop i).takeWhile fun c => p (c.toNat : Int)).length = (s.data.toList.drop i).takeWhile fun c => p (c.toNat : Int) :=
    (List.prefix_iff_eq_take.1 (List.takeWhile_prefix _)).symm
  rw [e2, takeWhile_idem]
theorem cut_len {s : ByteArray} {i n : Nat} (h : i + n ≤ s.size) : (cut s i n).length = n := by
  unfold cut
  rw [List.length_take, List.length_drop, data_length]
  omega
theorem cut_byte {s : ByteArray} {i n j : Nat} (h : j < n) : byteAt (bs (cut s i n)) j = byteAt s (i + j) := by
  unfold byteAt cut
  rw [bs_data, List.getElem?_take, if_pos h, List.getElem?_drop]

theorem piece_right {s : ByteArray} {i n : Nat} {k : Int} (hi : i < s.size) (h : pieceAt s i = .tok k n) : rightB k (bs (cut s i n)) = true := by
  obtain ⟨hn, hle⟩ := piece_tok hi h
  unfold pieceAt at h
  split at h
  · cases h
  split at h
  · cases h
  split at h
  · rename_i hk
    split at h
    · cases h
    · rename_i h12
      injection h with h1 h2
      have e1 := lead_cut isLD s i
      rw [extract_cut] at h1
      rw [h2] at h1 e1 h12
      have e2 := kind3_is hk
      have e3 := cut_byte (s := s) (i := i) hn
      have e4 := cut_len hle
      rw [Nat.add_zero] at e3
      cases hw : isWordB (bs (cut s i n)) <;> rw [hw] at h1 <;> simp only [cond] at h1 <;> subst h1
      · simp [rightB, isNameB, hw, e1, e2, e3, bs_size, e4, hn, show n ≤ 12 by omega]
      · simp [rightB, hw]
  split at h
  · rename_i hk
    have e1 := lead_cut isDig s i
    rw [extract_cut] at h
    cases hw : numB (bs (cut s i (lead isDig s i))) <;> rw [hw] at h <;> simp only [cond] at h
    · cases h
    · injection h with h1 h2
      subst h1
      rw [h2] at e1 hw
      have e4 := cut_len hle
      have := refNumB_dig (s := bs (cut s i n)) (by rw [e1, bs_size, e4]) (by rw [bs_size]; omega)
      simp [rightB, this, hw]
  split at h
  · rename_i hk
    injection h with h1 h2
    subst h1
    have hs : isSignB (bs (cut s i n)) = true := by
      unfold signLen at h2
      split at h2
      · rename_i hc
        subst h2
        rw [← extract_cut]
        exact hc.2
      · subst h2
        rw [← extract_cut]
        exact (kind5_is hk).2.2
    simp [rightB, hs]
  · cases h

theorem scanA_right (s : ByteArray) : ∀ (f i line : Nat) (toks : List Tok) (cs : List (List UInt8)) {toks' : List Tok} {cs' : List (List UInt8)}, scanA s f i line toks cs = .ok (toks', cs') → (∀ t ∈ toks, rightB t.kind (bs t.text) = true) → ∀ t ∈ toks', rightB t.kind (bs t.text) = true
  | 0, _, _, toks, cs, _, _, h, ht => by
    simp only [scanA, Except.ok.injEq, Prod.mk.injEq] at h
    obtain ⟨rfl, rfl⟩ := h
    exact ht
  | f + 1, i, line, toks, cs, _, _, h, ht => by
    rw [scanA] at h
    split at h
    · rename_i hi
      split at h
      · exact scanA_right s f _ _ _ _ h ht
      · exact scanA_right s f _ _ _ _ h ht
      · rename_i k n hp
        refine scanA_right s f _ _ _ _ h ?_
        intro t hm
        simp only [List.mem_append, List.mem_singleton] at hm
        rcases hm with hm | hm
        · exact ht t hm
        · subst hm; exact piece_right hi hp
      · cases h
    · simp only [Except.ok.injEq, Prod.mk.injEq] at h
      obtain ⟨rfl, rfl⟩ := h
      exact ht
theorem scanT_right {s : ByteArray} {toks : List Tok} {cs : List (List UInt8)} (h : scanT s = .ok (toks, cs)) : ∀ t ∈ toks, rightB t.kind (bs t.text) = true := by
  unfold scanT at h
  split at h
  · cases h
  · exact scanA_right s _ _ _ _ _ h (by simp)

theorem scanA_line (s : ByteArray) (hnl : ∀ j, j < s.size → byteAt s j ≠ 10) : ∀ (f i : Nat) (toks : List Tok) (cs : List (List UInt8)) {toks' : List Tok} {cs' : List (List UInt8)}, scanA s f i 1 toks cs = .ok (toks', cs') → (∀ t ∈ toks, t.line = 1) → ∀ t ∈ toks', t.line = 1
  | 0, _, toks, cs, _, _, h, ht => by
    simp only [scanA, Except.ok.injEq, Prod.mk.injEq] at h
    obtain ⟨rfl, rfl⟩ := h
    exact ht
  | f + 1, i, toks, cs, _, _, h, ht => by
    rw [scanA] at h
    split at h
    · rename_i hi
      split at h
      · rw [lineUp, if_neg (hnl i hi)] at h
        exact scanA_line s hnl f _ _ _ h ht
      · exact scanA_line s hnl f _ _ _ h ht
      · rename_i k n hp
        refine scanA_line s hnl f _ _ _ h ?_
        intro t hm
        simp only [List.mem_append, List.mem_singleton] at hm
        rcases hm with hm | hm
        · exact ht t hm
        · subst hm; rfl
      · cases h
    · simp only [Except.ok.injEq, Prod.mk.injEq] at h
      obtain ⟨rfl, rfl⟩ := h
      exact ht
theorem scanT_line {s : ByteArray} (hnl : ∀ j, j < s.size → byteAt s j ≠ 10) {toks : List Tok} {cs : List (List UInt8)} (h : scanT s = .ok (toks, cs)) : ∀ t ∈ toks, t.line = 1 := by
  unfold scanT at h
  split at h
  · cases h
  · exact scanA_line s hnl _ _ _ _ h (by simp)

/-- What each word and each sign is like. -/
theorem wordL_all : ∀ l ∈ wordL, leadL isLD l = l.length ∧ 0 < l.length ∧ l.length ≤ 8 ∧ isLet (byteAt (bs l) 0) = true := by decide +kernel
theorem signL_all : ∀ l ∈ signL, kindAt (bs l) 0 = 5 ∧ signLen (bs l) 0 = l.length ∧ 0 < l.length ∧ isLD (byteAt (bs l) 0) = false := by decide +kernel
theorem isWordB_mem {s : ByteArray} (h : isWordB s = true) : ∃ l ∈ wordL, s = bs l := by
  unfold isWordB at h
  rw [List.any_eq_true] at h
  obtain ⟨l, hl, h⟩ := h
  refine ⟨l, hl, ?_⟩
  have hh : ((bs l).data == s.data) = true := h
  rw [beq_iff_eq] at hh
  cases s
  simp only [bs] at hh ⊢
  rw [hh]

theorem kind_letter {s : ByteArray} {i : Nat} (h : isLet (byteAt s i) = true) : kindAt s i = 3 := by
  have h' := h
  simp only [isLet, Bool.and_eq_true, decide_eq_true_eq] at h'
  unfold kindAt
  rw [if_neg (by omega), if_neg (by omega), if_pos h]
theorem kind_digit {s : ByteArray} {i : Nat} (h : isDig (byteAt s i) = true) : kindAt s i = 4 := by
  have h' := h
  simp only [isDig, Bool.and_eq_true, decide_eq_true_eq] at h'
  unfold kindAt
  rw [if_neg (by omega), if_neg (by omega), if_neg (by simp [isLet]; omega), if_pos h]
theorem extract_all (s : ByteArray) : s.extract 0 (0 + s.size) = s := by
  rw [Nat.zero_add]; simp

/-- Tokens that are as said, by kind. -/
theorem right_piece {k : Int} {s : ByteArray} (h : rightB k s = true) : 0 < s.size ∧ pieceAt s 0 = .tok k s.size ∧ ∀ j, j < s.size → byteAt s j ≠ 10 := by
  have nlLD : lead isLD s 0 = s.size → ∀ j, j < s.size → byteAt s j ≠ 10 := by
    intro hl j hj e
    have := (lead_in (p := isLD) (s := s) (i := 0) (k := j) (by omega)).2
    rw [Nat.zero_add, e] at this
    cases this
  unfold rightB at h
  split at h
  · rename_i hk
    subst hk
    simp only [isNameB, Bool.and_eq_true, decide_eq_true_eq, Bool.not_eq_true'] at h
    obtain ⟨⟨⟨h1, h2⟩, h3, h5⟩, h4⟩ := h
    have hk := kind_letter h3
    refine ⟨h1, ?_, nlLD h4⟩
    unfold pieceAt
    rw [hk, h4, extract_all, h5]
    simp [show ¬ 12 < s.size by omega]
  split at h
  · rename_i hk
    subst hk
    obtain ⟨l, hl, rfl⟩ := isWordB_mem h
    obtain ⟨h1, h2, h3, h4⟩ := wordL_all l hl
    have hk := kind_letter h4
    have h5 : lead isLD (bs l) 0 = (bs l).size := by unfold lead; rw [bs_data, List.drop_zero, h1, bs_size]
    refine ⟨by rw [bs_size]; exact h2, ?_, nlLD h5⟩
    unfold pieceAt
    rw [hk, h5, extract_all, h]
    rw [bs_size]
    simp [show ¬ 12 < l.length by omega]
  split at h
  · rename_i hk
    subst hk
    have hn := h
    simp only [refNumB, Bool.and_eq_true, decide_eq_true_eq] at hn
    obtain ⟨⟨⟨⟨h1, h2⟩, h3⟩, h4⟩, h5⟩ := hn
    have hd := (lead_in (p := isDig) (s := s) (i := 0) (k := 0) (by omega)).2
    have hk := kind_digit hd
    refine ⟨h1, ?_, ?_⟩
    · unfold pieceAt
      rw [hk, h3, extract_all, ← refNumB_dig h3 h1, h]
      simp
    · intro j hj e
      have := (lead_in (p := isDig) (s := s) (i := 0) (k := j) (by omega)).2
      rw [Nat.zero_add, e] at this
      cases this
  split at h
  · rename_i hk
    subst hk
    obtain ⟨l, hl, rfl⟩ := isSignB_mem h
    obtain ⟨h1, h2, h3, _⟩ := signL_all l hl
    refine ⟨by rw [bs_size]; exact h3, ?_, ?_⟩
    · unfold pieceAt
      rw [h1, h2, bs_size]
      simp
    · intro j hj e
      have hlt : j < (bs l).data.toList.length := by rw [data_length]; exact hj
      have := isSignB_nl h _ (List.getElem_mem hlt)
      apply this
      rw [byteAt_some (List.getElem?_eq_getElem hlt)] at e
      apply UInt8.toNat_inj.1
      have e10 : (10 : UInt8).toNat = 10 := rfl
      omega
  · cases h

/-- The kind is a matter of the text. -/
theorem right_unique {k k' : Int} {s : ByteArray} (h : rightB k s = true) (h' : rightB k' s = true) : k = k' := by
  have h1 := (right_piece h).2.1
  rw [(right_piece h').2.1] at h1
  injection h1 with h1
  exact h1.symm

theorem right_scan {k : Int} {x : List UInt8} (h : rightB k (bs x) = true) (hs : x.length ≤ 20000) : scanT (bs x) = .ok ([⟨k, x, 1⟩], []) := by
  obtain ⟨h0, h1, _⟩ := right_piece h
  have hz := bs_size x
  unfold scanT scanS
  rw [if_neg (by omega)]
  rw [hz] at h0 h1
  obtain ⟨m, hm⟩ : ∃ m, x.length = m + 1 := ⟨x.length - 1, by omega⟩
  rw [hz, scanA, if_pos (by omega), h1]
  simp only
  rw [hm, scanA, if_neg (by omega)]
  have e : cut (bs x) 0 (m + 1) = x := by unfold cut; rw [bs_data, List.drop_zero, ← hm, List.take_length]
  rw [e]
  rfl

theorem right_size {k : Int} {s : ByteArray} (h : rightB k s = true) : s.size ≤ 12 := by
  unfold rightB at h
  split at h
  · simp only [isNameB, Bool.and_eq_true, decide_eq_true_eq] at h
    omega
  split at h
  · have := isWordB_size h; omega
  split at h
  · simp only [refNumB, Bool.and_eq_true, decide_eq_true_eq] at h
    omega
  split at h
  · have := isSignB_size h; omega
  · cases h

theorem isTokB_right (t : Tok) : isTokB t = rightB t.kind (bs t.text) := by
  unfold isTokB
  cases h : rightB t.kind (bs t.text)
  · cases hs : scanT (bs t.text) with
    | error e => obtain ⟨c, ln⟩ := e; exact readsB_no hs
    | ok p =>
      obtain ⟨toks, cs⟩ := p
      rw [readsB_ok hs, decide_eq_false_iff_not]
      rintro rfl
      have := scanT_right hs t.one (by simp)
      simp only [Tok.one] at this
      rw [h] at this
      cases this
  · have hz := right_size h
    rw [bs_size] at hz
    rw [readsB_ok (right_scan h (by omega))]
    simp [Tok.one]
end Go.Proofs.YtophcjkfhneghaaDoor
