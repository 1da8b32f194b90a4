/- What a text is read as, told from its front: one piece after another. -/
import Derived.Test.YtophcjkfhneghaaDoorYn
namespace Go.Proofs.YtophcjkfhneghaaDoor
open Go Go.RowKit

theorem len_pos {α : Type} {l : List α} (h : l ≠ []) : 0 < l.length := List.length_pos_iff.2 h

/-- The piece with which a text begins. -/
def pieceL (l : List UInt8) : Pc := pieceAt (bs l) 0
abbrev Res := Except (Int × Int) (List Tok × List (List UInt8))
/-- Something read ahead of the rest. -/
def front (a : List Tok) (c : List (List UInt8)) : Res → Res
  | .ok (x, y) => .ok (a ++ x, c ++ y)
  | .error e => .error e
theorem front_front (a a' : List Tok) (c c' : List (List UInt8)) (r : Res) : front a c (front a' c' r) = front (a ++ a') (c ++ c') r := by
  cases r with
  | error e => rfl
  | ok p => obtain ⟨x, y⟩ := p; simp [front]
theorem front_nil (r : Res) : front [] [] r = r := by
  cases r with
  | error e => rfl
  | ok p => obtain ⟨x, y⟩ := p; simp [front]

/-- How a text is read, from a line on. -/
inductive Rds : Nat → List UInt8 → Res → Prop where
  | nil (line : Nat) : Rds line [] (.ok ([], []))
  | skip {line : Nat} {c : UInt8} {l : List UInt8} {r : Res} : pieceL (c :: l) = .skip → Rds (lineUp (c.toNat : Int) line) l r → Rds line (c :: l) r
  | com {line : Nat} {x l : List UInt8} {r : Res} : x ≠ [] → pieceL (x ++ l) = .com x.length → Rds line l r → Rds line (x ++ l) (front [] [x] r)
  | tok {line : Nat} {k : Int} {x l : List UInt8} {r : Res} : x ≠ [] → pieceL (x ++ l) = .tok k x.length → Rds line l r → Rds line (x ++ l) (front [⟨k, x, (line : Int)⟩] [] r)
  | bad {line : Nat} {c : UInt8} {l : List UInt8} {e : Int} : pieceL (c :: l) = .bad e → Rds line (c :: l) (.error (e, (line : Int)))

theorem piece_drop (s : ByteArray) (i : Nat) : pieceAt s i = pieceL (s.data.toList.drop i) := by
  rw [← suffix_piece, pieceL, ← suffix_list, bs_toList]

theorem drop_lt {s : ByteArray} {i : Nat} {l : List UInt8} (h : s.data.toList.drop i = l) (hn : l ≠ []) : i < s.size := by
  rw [← data_length]
  refine Nat.lt_of_not_le fun hle => hn ?_
  rw [← h]
  exact List.drop_of_length_le hle

theorem rds_scanA {line : Nat} {l : List UInt8} {r : Res} (h : Rds line l r) : ∀ (s : ByteArray) (f i : Nat) (toks : List Tok) (cs : List (List UInt8)), s.data.toList.drop i = l → l.length < f → scanA s f i line toks cs = front toks cs r := by
  induction h with
  | nil line =>
    intro s f i toks cs hd hf
    obtain ⟨f, rfl⟩ : ∃ g, f = g + 1 := ⟨f - 1, by omega⟩
    have hge : ¬ i < s.size := by
      rw [← data_length]
      have := List.drop_eq_nil_iff.1 hd
      omega
    rw [scanA, if_neg hge]
    simp [front]
  | @skip line c l r hp _ ih =>
    intro s f i toks cs hd hf
    obtain ⟨f, rfl⟩ : ∃ g, f = g + 1 := ⟨f - 1, by omega⟩
    have hlt := drop_lt hd (by simp)
    have hpp : pieceAt s i = .skip := by rw [piece_drop, hd]; exact hp
    have hb : byteAt s i = (c.toNat : Int) := byteAt_some (by have := congrArg (fun l => l[0]?) hd; simpa using this)
    rw [scanA, if_pos hlt, hpp]
    simp only [hb]
    refine ih s f (i + 1) toks cs ?_ (by simp at hf; omega)
    have := congrArg (List.drop 1) hd
    rw [List.drop_drop] at this
    simpa using this
  | @com line x l r hx hp _ ih =>
    intro s f i toks cs hd hf
    obtain ⟨f, rfl⟩ : ∃ g, f = g + 1 := ⟨f - 1, by omega⟩
    have hlt := drop_lt hd (by simp [hx])
    have hpp : pieceAt s i = .com x.length := by rw [piece_drop, hd]; exact hp
    have hc : cut s i x.length = x := by unfold cut; rw [hd, List.take_left]
    have h0 := len_pos hx
    rw [scanA, if_pos hlt, hpp]
    simp only [hc]
    rw [ih s f (i + x.length) toks (cs ++ [x]) ?_ (by simp at hf; omega), front_front, List.append_nil]
    rw [← List.drop_drop, hd, List.drop_left]
  | @tok line k x l r hx hp _ ih =>
    intro s f i toks cs hd hf
    obtain ⟨f, rfl⟩ : ∃ g, f = g + 1 := ⟨f - 1, by omega⟩
    have hlt := drop_lt hd (by simp [hx])
    have hpp : pieceAt s i = .tok k x.length := by rw [piece_drop, hd]; exact hp
    have hc : cut s i x.length = x := by unfold cut; rw [hd, List.take_left]
    have h0 := len_pos hx
    rw [scanA, if_pos hlt, hpp]
    simp only [hc]
    rw [ih s f (i + x.length) (toks ++ [({ kind := k, text := x, line := (line : Int) } : Tok)]) cs ?_ (by simp at hf; omega), front_front, List.append_nil]
    rw [← List.drop_drop, hd, List.drop_left]
  | @bad line c l e hp =>
    intro s f i toks cs hd hf
    obtain ⟨f, rfl⟩ : ∃ g, f = g + 1 := ⟨f - 1, by omega⟩
    have hlt := drop_lt hd (by simp)
    have hpp : pieceAt s i = .bad e := by rw [piece_drop, hd]; exact hp
    rw [scanA, if_pos hlt, hpp]
    rfl

theorem rds_scanT {l : List UInt8} {r : Res} (h : Rds 1 l r) (hs : l.length ≤ 20000) : scanT (bs l) = r := by
  unfold scanT scanS
  rw [if_neg (by rw [bs_size]; omega), rds_scanA h (bs l) _ 0 [] [] (by rw [bs_data]; rfl) (by rw [bs_size]; omega), front_nil]

theorem piece_com {s : ByteArray} {i n : Nat} (hi : i < s.size) (h : pieceAt s i = .com n) : 0 < n ∧ i + n ≤ s.size ∧ kindAt s i = 2 ∧ n = lead notNl s i := by
  unfold pieceAt at h
  split at h
  · cases h
  split at h
  · rename_i hk
    injection h with h
    subst h
    exact ⟨lead_pos hi (by rw [kind2_pct hk]; rfl), lead_le (by omega), hk, rfl⟩
  split at h
  · split at h <;> cases h
  split at h
  · rename_i hk
    cases hq : numB (s.extract i (i + lead isDig s i)) <;> rw [hq] at h <;> cases h
  split at h <;> cases h

theorem rds_all : ∀ (n : Nat) (l : List UInt8) (line : Nat), l.length ≤ n → ∃ r, Rds line l r
  | _, [], line, _ => ⟨_, .nil line⟩
  | 0, _ :: _, _, h => by simp at h
  | n + 1, c :: l, line, h => by
    have hlt : 0 < (bs (c :: l)).size := by rw [bs_size]; simp
    have hsp : ∀ m, 0 < m → 0 + m ≤ (bs (c :: l)).size → (c :: l).take m ≠ [] ∧ ((c :: l).take m).length = m ∧ ((c :: l).drop m).length ≤ n := by
      intro m h0 hm
      rw [bs_size] at hm
      have e : ((c :: l).take m).length = m := by rw [List.length_take]; omega
      refine ⟨fun hn => ?_, e, ?_⟩
      · rw [hn] at e; simp at e; omega
      · rw [List.length_drop]; simp only [List.length_cons] at h ⊢; omega
    cases hp : pieceL (c :: l) with
    | skip =>
      obtain ⟨r, hr⟩ := rds_all n l (lineUp (c.toNat : Int) line) (by simpa using h)
      exact ⟨r, .skip hp hr⟩
    | com m =>
      obtain ⟨h0, hm, _⟩ := piece_com hlt hp
      obtain ⟨a1, a2, a3⟩ := hsp m h0 hm
      obtain ⟨r, hr⟩ := rds_all n ((c :: l).drop m) line a3
      have := Rds.com (line := line) (x := (c :: l).take m) (l := (c :: l).drop m) a1 (by rw [List.take_append_drop, a2]; exact hp) hr
      rw [List.take_append_drop] at this
      exact ⟨_, this⟩
    | tok k m =>
      obtain ⟨h0, hm⟩ := piece_tok hlt hp
      obtain ⟨a1, a2, a3⟩ := hsp m h0 hm
      obtain ⟨r, hr⟩ := rds_all n ((c :: l).drop m) line a3
      have := Rds.tok (line := line) (k := k) (x := (c :: l).take m) (l := (c :: l).drop m) a1 (by rw [List.take_append_drop, a2]; exact hp) hr
      rw [List.take_append_drop] at this
      exact ⟨_, this⟩
    | bad e => exact ⟨_, .bad hp⟩

theorem rds_of_scan {l : List UInt8} (hs : l.length ≤ 20000) : Rds 1 l (scanT (bs l)) := by
  obtain ⟨r, hr⟩ := rds_all l.length l 1 (Nat.le_refl _)
  rw [rds_scanT hr hs]
  exact hr

/- What a text's first piece hangs on. -/
theorem leadL_app {p : Int → Bool} {x m : List UInt8} (h : leadL p x = x.length) : leadL p (x ++ m) = x.length + leadL p m := by
  unfold leadL at h ⊢
  rw [List.takeWhile_append, if_pos h, List.length_append]
theorem leadL_zero {p : Int → Bool} {m : List UInt8} : leadL p m = 0 ↔ ∀ c, m.head? = some c → p (c.toNat : Int) = false := by
  cases m with
  | nil => simp [leadL]
  | cons c m => cases h : p (c.toNat : Int) <;> simp [leadL, h]
theorem lead_bs (p : Int → Bool) (l : List UInt8) : lead p (bs l) 0 = leadL p l := by unfold lead; rw [bs_data, List.drop_zero]
theorem byte_head (c : UInt8) (l : List UInt8) : byteAt (bs (c :: l)) 0 = (c.toNat : Int) := by simp [byteAt, bs_data]
theorem ext_bs (l : List UInt8) (n : Nat) : (bs l).extract 0 (0 + n) = bs (l.take n) := by rw [extract_cut]; rfl

/-- Blanks, tabs, line feeds. -/
def gapB (c : UInt8) : Bool := decide ((c.toNat : Int) = 32 ∨ (c.toNat : Int) = 9 ∨ (c.toNat : Int) = 10)

theorem skip_iff (c : UInt8) (l : List UInt8) : pieceL (c :: l) = .skip ↔ gapB c = true := by
  have hb := byte_head c l
  unfold gapB
  rw [decide_eq_true_eq, ← hb]
  constructor
  · intro h
    refine kind1_gap ?_
    unfold pieceL pieceAt at h
    split at h
    · assumption
    split at h
    · cases h
    split at h
    · split at h <;> cases h
    split at h
    · rename_i hk
      cases hq : numB ((bs (c :: l)).extract 0 (0 + lead isDig (bs (c :: l)) 0)) <;> rw [hq] at h <;> cases h
    split at h <;> cases h
  · intro h
    have hk : kindAt (bs (c :: l)) 0 = 1 := by unfold kindAt; rw [if_pos h]
    unfold pieceL pieceAt
    rw [if_pos hk]

/-- What may stand behind a token that is as said. -/
def stopB (k : Int) (x : List UInt8) (c : UInt8) : Bool := if k = 1 ∨ k = 2 then !isLD (c.toNat : Int) else if k = 3 then !isDig (c.toNat : Int) else !isSignB (bs (x ++ [c]))

theorem rightB_kind {k : Int} {s : ByteArray} (h : rightB k s = true) : k = 1 ∨ k = 2 ∨ k = 3 ∨ k = 4 := by
  unfold rightB at h
  split at h
  · left; assumption
  split at h
  · right; left; assumption
  split at h
  · right; right; left; assumption
  split at h
  · right; right; right; assumption
  · cases h

theorem right_letters {k : Int} {x : List UInt8} (h : rightB k (bs x) = true) (hk : k = 1 ∨ k = 2) : ∃ c x', x = c :: x' ∧ isLet (c.toNat : Int) = true ∧ leadL isLD x = x.length ∧ x.length ≤ 12 ∧ isWordB (bs x) = decide (k = 2) := by
  have hz := right_size h
  rw [bs_size] at hz
  obtain ⟨h0, _⟩ := right_piece h
  rw [bs_size] at h0
  cases x with
  | nil => simp at h0
  | cons c x =>
    refine ⟨c, x, rfl, ?_⟩
    rcases hk with rfl | rfl
    · simp only [rightB, isNameB, if_pos, Bool.and_eq_true, decide_eq_true_eq, Bool.not_eq_true', byte_head, lead_bs, bs_size] at h
      exact ⟨h.1.2.1, h.2, hz, by rw [h.1.2.2]; rfl⟩
    · have hw : isWordB (bs (c :: x)) = true := by simpa [rightB] using h
      obtain ⟨l, hl, e⟩ := isWordB_mem hw
      obtain ⟨h1, h2, h3, h4⟩ := wordL_all l hl
      rw [bs_inj] at e
      subst e
      rw [byte_head] at h4
      exact ⟨h4, h1, hz, by rw [hw]; rfl⟩

theorem piece_let {k : Int} {x : List UInt8} (h : rightB k (bs x) = true) (hk : k = 1 ∨ k = 2) (m : List UInt8) : pieceL (x ++ m) = .tok k x.length ↔ leadL isLD m = 0 := by
  obtain ⟨c, x', rfl, h1, h2, h3, h4⟩ := right_letters h hk
  have hkk : kindAt (bs (c :: x' ++ m)) 0 = 3 := kind_letter (by rw [List.cons_append, byte_head]; exact h1)
  have hl : lead isLD (bs (c :: x' ++ m)) 0 = (c :: x').length + leadL isLD m := by rw [lead_bs, leadL_app h2]
  unfold pieceL pieceAt
  rw [hkk, if_neg (by decide), if_neg (by decide), if_pos rfl, hl, ext_bs]
  constructor
  · intro h
    split at h
    · cases h
    · injection h with _ h
      omega
  · intro h
    rw [h, Nat.add_zero, if_neg (by omega), List.take_left, h4]
    rcases hk with rfl | rfl <;> rfl

theorem right_digits {x : List UInt8} (h : rightB 3 (bs x) = true) : ∃ c x', x = c :: x' ∧ isDig (c.toNat : Int) = true ∧ leadL isDig x = x.length ∧ numB (bs x) = true := by
  have hn : refNumB (bs x) = true := by simpa [rightB] using h
  have hn' := hn
  simp only [refNumB, Bool.and_eq_true, decide_eq_true_eq] at hn'
  obtain ⟨⟨⟨⟨h1, h2⟩, h3⟩, h4⟩, h5⟩ := hn'
  have hb := refNumB_dig h3 h1
  rw [hn] at hb
  rw [lead_bs, bs_size] at h3
  rw [bs_size] at h1
  cases x with
  | nil => simp at h1
  | cons c x =>
    refine ⟨c, x, rfl, ?_, h3, hb.symm⟩
    cases hd : isDig (c.toNat : Int) with
    | true => rfl
    | false => simp [leadL, hd] at h3

theorem piece_num {x : List UInt8} (h : rightB 3 (bs x) = true) (m : List UInt8) : pieceL (x ++ m) = .tok 3 x.length ↔ leadL isDig m = 0 := by
  obtain ⟨c, x', rfl, h1, h2, h3⟩ := right_digits h
  have hkk : kindAt (bs (c :: x' ++ m)) 0 = 4 := kind_digit (by rw [List.cons_append, byte_head]; exact h1)
  have hl : lead isDig (bs (c :: x' ++ m)) 0 = (c :: x').length + leadL isDig m := by rw [lead_bs, leadL_app h2]
  unfold pieceL pieceAt
  rw [hkk, if_neg (by decide), if_neg (by decide), if_neg (by decide), if_pos rfl, hl, ext_bs]
  constructor
  · intro h
    cases hq : numB (bs ((c :: x' ++ m).take ((c :: x').length + leadL isDig m))) <;> rw [hq] at h <;> simp only [cond] at h
    · cases h
    · injection h with _ h
      omega
  · intro h
    rw [h, Nat.add_zero, List.take_left, h3]
    rfl

theorem signL_heads : ∀ l ∈ signL, ∃ c l', l = c :: l' ∧ gapB c = false ∧ ¬ (c.toNat : Int) = 37 ∧ isLet (c.toNat : Int) = false ∧ isDig (c.toNat : Int) = false ∧ isSignB (bs [c]) = true := by
  intro l hl
  simp only [signL, List.mem_cons, List.not_mem_nil, or_false] at hl
  rcases hl with h | h | h | h | h | h | h | h | h | h | h | h | h | h | h | h | h | h | h | h | h <;> subst h <;> exact ⟨_, _, rfl, by decide, by decide, by decide, by decide, by decide +kernel⟩

theorem kindL_sign {c : UInt8} {l : List UInt8} (h1 : gapB c = false) (h2 : ¬ (c.toNat : Int) = 37) (h3 : isLet (c.toNat : Int) = false) (h4 : isDig (c.toNat : Int) = false) (h5 : isSignB (bs [c]) = true) : kindAt (bs (c :: l)) 0 = 5 := by
  unfold gapB at h1
  rw [decide_eq_false_iff_not] at h1
  unfold kindAt
  rw [byte_head, if_neg h1, if_neg h2, h3, h4, ext_bs]
  simp [h5]

theorem piece_sign {x : List UInt8} (h : rightB 4 (bs x) = true) (m : List UInt8) : pieceL (x ++ m) = .tok 4 x.length ↔ ∀ c, m.head? = some c → isSignB (bs (x ++ [c])) = false := by
  have hs : isSignB (bs x) = true := by simpa [rightB] using h
  obtain ⟨l, hl, e⟩ := isSignB_mem hs
  rw [bs_inj] at e
  subst e
  obtain ⟨c, x', rfl, h1, h2, h3, h4, h5⟩ := signL_heads x hl
  have hkk := kindL_sign (l := x' ++ m) h1 h2 h3 h4 h5
  have hz := isSignB_size hs
  rw [bs_size] at hz
  unfold pieceL pieceAt
  rw [List.cons_append, hkk, if_neg (by decide), if_neg (by decide), if_neg (by decide), if_neg (by decide), if_pos rfl]
  unfold signLen
  rw [show (0 : Nat) + 2 = 0 + 2 from rfl, ext_bs, bs_size]
  cases x' with
  | nil =>
    cases m with
    | nil => simp
    | cons d m =>
      have e : (c :: ([] ++ d :: m)).take 2 = [c] ++ [d] := rfl
      rw [e]
      cases hq : isSignB (bs [c, d]) <;> simp [hq]
  | cons d x' =>
    have : x' = [] := by
      cases x' with
      | nil => rfl
      | cons _ _ => simp at hz
    subst this
    have e : (c :: ([d] ++ m)).take 2 = [c, d] := rfl
    rw [e, if_pos ⟨by simp, hs⟩]
    simp only [List.length_cons, List.length_nil, true_iff]
    intro b _
    cases hq : isSignB (bs ([c, d] ++ [b])) with
    | false => rfl
    | true =>
      have := isSignB_size hq
      rw [bs_size] at this
      simp at this

/-- A token's text is read as this token exactly if what is behind it may be. -/
theorem tok_iff {k : Int} {x : List UInt8} (h : rightB k (bs x) = true) (m : List UInt8) : pieceL (x ++ m) = .tok k x.length ↔ ∀ c, m.head? = some c → stopB k x c = true := by
  rcases rightB_kind h with rfl | rfl | rfl | rfl
  · rw [piece_let h (by simp), leadL_zero]; simp [stopB]
  · rw [piece_let h (by simp), leadL_zero]; simp [stopB]
  · rw [piece_num h, leadL_zero]; simp [stopB]
  · rw [piece_sign h]; simp [stopB]

theorem tok_right {k : Int} {x m : List UInt8} (hx : x ≠ []) (h : pieceL (x ++ m) = .tok k x.length) : rightB k (bs x) = true := by
  have hlt : 0 < (bs (x ++ m)).size := by rw [bs_size, List.length_append]; have := len_pos hx; omega
  have := piece_right hlt h
  unfold cut at this
  rw [bs_data, List.drop_zero, List.take_left] at this
  exact this

/-- Bytes behind which every token ends. -/
def endB (c : UInt8) : Bool := gapB c || decide (c = 37)
theorem signL_ends : ∀ l ∈ signL, ∀ c ∈ l, endB c = false := by decide +kernel
theorem stop_end (k : Int) (x : List UInt8) {c : UInt8} (h : endB c = true) : stopB k x c = true := by
  have hc : c.toNat = 32 ∨ c.toNat = 9 ∨ c.toNat = 10 ∨ c.toNat = 37 := by
    unfold endB gapB at h
    simp only [Bool.or_eq_true, decide_eq_true_eq] at h
    rcases h with (h | h | h) | h
    · omega
    · omega
    · omega
    · subst h; decide
  have hD : isDig (c.toNat : Int) = false := by simp only [isDig]; rcases hc with h | h | h | h <;> rw [h] <;> rfl
  have hL : isLD (c.toNat : Int) = false := by rw [isLD, hD]; simp only [isLet]; rcases hc with h | h | h | h <;> rw [h] <;> rfl
  unfold stopB
  split
  · rw [hL]; rfl
  split
  · rw [hD]; rfl
  · cases hq : isSignB (bs (x ++ [c])) with
    | false => rfl
    | true =>
      obtain ⟨l, hl, e⟩ := isSignB_mem hq
      rw [bs_inj] at e
      have := signL_ends l hl c (by rw [← e]; simp)
      rw [h] at this
      cases this

theorem tok_before {k : Int} {x m : List UInt8} (h : rightB k (bs x) = true) (hm : ∀ c, m.head? = some c → endB c = true) : pieceL (x ++ m) = .tok k x.length :=
  (tok_iff h m).2 fun c hc => stop_end k x (hm c hc)

/-- A token behind others. -/
theorem Rds.put {line : Nat} {k : Int} {x m : List UInt8} {toks : List Tok} {cs : List (List UInt8)} (h : rightB k (bs x) = true) (hm : ∀ c, m.head? = some c → stopB k x c = true) (hr : Rds line m (.ok (toks, cs))) : Rds line (x ++ m) (.ok (⟨k, x, (line : Int)⟩ :: toks, cs)) := by
  have h0 := (right_piece h).1
  rw [bs_size] at h0
  exact Rds.tok (List.ne_nil_of_length_pos h0) ((tok_iff h m).2 hm) hr

theorem Rds.gap {line : Nat} {c : UInt8} {m : List UInt8} {r : Res} (h : gapB c = true) (hr : Rds (lineUp (c.toNat : Int) line) m r) : Rds line (c :: m) r := .skip ((skip_iff c m).2 h) hr
theorem Rds.blank {line : Nat} {m : List UInt8} {r : Res} (hr : Rds line m r) : Rds line (32 :: m) r := Rds.gap (by decide) hr
theorem Rds.feed {line : Nat} {m : List UInt8} {r : Res} (hr : Rds (line + 1) m r) : Rds line (10 :: m) r := Rds.gap (by decide) hr
theorem Rds.feeds : ∀ (n : Nat) {line : Nat} {m : List UInt8} {r : Res}, Rds (line + n) m r → Rds line (List.replicate n 10 ++ m) r
  | 0, _, _, _, h => h
  | n + 1, line, m, r, h => by
    rw [List.replicate_succ, List.cons_append]
    exact .feed (Rds.feeds n (by rw [show line + 1 + n = line + (n + 1) by omega]; exact h))
end Go.Proofs.YtophcjkfhneghaaDoor
