/- Texts whose comments are left out, and texts behind one another (the plain half of P1.5). -/
import Derived.Test.YtophcjkfhneghaaDoorYt
namespace Go.Proofs.YtophcjkfhneghaaDoor
open Go Go.RowKit

/-- A text's bytes, from a place on, without comments; are we in one? -/
def bareL : Bool → List UInt8 → List UInt8
  | _, [] => []
  | out, c :: l => if c = 10 then 10 :: bareL false l else if out = true ∨ c = 37 then bareL true l else c :: bareL false l
/-- How many line feeds. -/
def feedsL : List UInt8 → Nat
  | [] => 0
  | c :: l => if c = 10 then feedsL l + 1 else feedsL l

theorem u8_of_int {c : UInt8} {n : Nat} (hn : n < 256) (h : (c.toNat : Int) = (n : Int)) : c = UInt8.ofNat n := by
  apply UInt8.toNat_inj.1
  have h1 : c.toNat = n := by omega
  have h2 : (UInt8.ofNat n).toNat = n := by simp []; omega
  rw [h1, h2]

theorem notNl_iff (c : UInt8) : notNl (c.toNat : Int) = true ↔ c ≠ 10 := by
  unfold notNl
  constructor
  · rintro h rfl
    exact absurd h (by decide)
  · intro h
    simp only [Bool.not_eq_true', beq_eq_false_iff_ne, ne_eq]
    intro e
    exact h (u8_of_int (n := 10) (by decide) e)

theorem leadL_pre {p : Int → Bool} : ∀ {x l : List UInt8}, leadL p (x ++ l) = x.length → leadL p x = x.length ∧ leadL p l = 0
  | [], l, h => ⟨rfl, by simpa using h⟩
  | c :: x, l, h => by
    unfold leadL at h ⊢
    rw [List.cons_append, List.takeWhile_cons] at h
    rw [List.takeWhile_cons]
    cases hc : p (c.toNat : Int) with
    | false => rw [hc] at h; simp at h
    | true =>
      rw [hc] at h
      simp only [if_true, List.length_cons, Nat.add_right_cancel_iff] at h ⊢
      exact leadL_pre (x := x) (l := l) h

theorem leadL_all {p : Int → Bool} : ∀ {x : List UInt8}, leadL p x = x.length → ∀ c ∈ x, p (c.toNat : Int) = true
  | [], _, c, hc => by cases hc
  | d :: x, h, c, hc => by
    unfold leadL at h
    rw [List.takeWhile_cons] at h
    cases hd : p (d.toNat : Int) with
    | false => rw [hd] at h; simp at h
    | true =>
      rw [hd] at h
      simp only [if_true, List.length_cons, Nat.add_right_cancel_iff] at h
      rcases List.mem_cons.1 hc with rfl | hc
      · exact hd
      · exact leadL_all (x := x) h c hc

/-- A comment at the front: its first byte, no line feed in it, one behind it (or nothing). -/
theorem com_parts {x l : List UInt8} (hx : x ≠ []) (h : pieceL (x ++ l) = .com x.length) : (∃ x', x = 37 :: x') ∧ (∀ c ∈ x, c ≠ 10) ∧ (∀ c, l.head? = some c → c = 10) ∧ leadL notNl x = x.length := by
  cases x with
  | nil => exact absurd rfl hx
  | cons c x =>
    rw [List.cons_append] at h
    obtain ⟨h1, h2⟩ := (com_iff c (x ++ l) _).1 h
    obtain ⟨h3, h4⟩ := leadL_pre (x := c :: x) (l := l) (p := notNl) h2.symm
    refine ⟨⟨x, by rw [u8_of_int (n := 37) (by decide) h1]; rfl⟩, fun d hd => (notNl_iff d).1 (leadL_all h3 d hd), fun d hd => ?_, h3⟩
    have := leadL_zero.1 h4 d hd
    by_cases hdn : d = 10
    · exact hdn
    · rw [(notNl_iff d).2 hdn] at this; cases this

theorem com_behind {x l : List UInt8} (hx : x ≠ []) (h : pieceL (x ++ l) = .com x.length) {m : List UInt8} (hm : ∀ c, m.head? = some c → c = 10) : pieceL (x ++ m) = .com x.length := by
  obtain ⟨⟨x', rfl⟩, _, _, h3⟩ := com_parts hx h
  refine (com_iff 37 (x' ++ m) _).2 ⟨by decide, ?_⟩
  rw [← List.cons_append, leadL_app h3, leadL_zero.2 (fun c hc => by rw [hm c hc]; decide)]
  rfl

theorem bare_true {l : List UInt8} (h : ∀ c, l.head? = some c → c = 10) : bareL true l = bareL false l := by
  cases l with
  | nil => rfl
  | cons c l =>
    have := h c rfl
    subst this
    rfl
theorem bare_out : ∀ (x l : List UInt8), (∀ c ∈ x, c ≠ 10) → bareL true (x ++ l) = bareL true l
  | [], _, _ => rfl
  | c :: x, l, h => by
    rw [List.cons_append, bareL, if_neg (h c (by simp)), if_pos (.inl rfl)]
    exact bare_out x l fun d hd => h d (by simp [hd])
theorem bare_in : ∀ (x l : List UInt8), (∀ c ∈ x, c ≠ 10 ∧ c ≠ 37) → bareL false (x ++ l) = x ++ bareL false l
  | [], _, _ => rfl
  | c :: x, l, h => by
    have hc := h c (by simp)
    rw [List.cons_append, bareL, if_neg hc.1, if_neg (by rintro (h | h); · cases h
                                                         · exact hc.2 h), bare_in x l fun d hd => h d (by simp [hd])]
    rfl
theorem bare_true_head : ∀ {l : List UInt8} {c : UInt8}, (bareL true l).head? = some c → c = 10
  | [], _, h => by cases h
  | e :: l, c, h => by
    rw [bareL] at h
    split at h
    · simpa using h.symm
    · rw [if_pos (.inl rfl)] at h
      exact bare_true_head h
theorem bare_head {l : List UInt8} {c : UInt8} (h : (bareL false l).head? = some c) : l.head? = some c ∨ c = 10 := by
  cases l with
  | nil => cases h
  | cons d l =>
    rw [bareL] at h
    split at h
    · right; simpa using h.symm
    split at h
    · right; exact bare_true_head h
    · left; simpa using h

theorem right_noend {k : Int} {x : List UInt8} (h : rightB k (bs x) = true) : ∀ c ∈ x, endB c = false := by
  have key : ∀ (p : Int → Bool) (x : List UInt8), p 32 = false → p 9 = false → p 10 = false → p 37 = false → leadL p x = x.length → ∀ c ∈ x, endB c = false := by
    intro p x h1 h2 h3 h4 hl c hc
    have hp := leadL_all hl c hc
    unfold endB gapB
    rw [Bool.or_eq_false_iff, decide_eq_false_iff_not, decide_eq_false_iff_not]
    refine ⟨?_, ?_⟩
    · rintro (e | e | e)
      · rw [e, h1] at hp; cases hp
      · rw [e, h2] at hp; cases hp
      · rw [e, h3] at hp; cases hp
    · rintro rfl
      have : ((37 : UInt8).toNat : Int) = 37 := rfl
      rw [this, h4] at hp; cases hp
  rcases rightB_kind h with rfl | rfl | rfl | rfl
  · obtain ⟨_, _, _, _, h2, _⟩ := right_letters h (by simp)
    exact key isLD x rfl rfl rfl rfl h2
  · obtain ⟨_, _, _, _, h2, _⟩ := right_letters h (by simp)
    exact key isLD x rfl rfl rfl rfl h2
  · obtain ⟨_, _, _, _, h2, _⟩ := right_digits h
    exact key isDig x rfl rfl rfl rfl h2
  · have hs : isSignB (bs x) = true := by simpa [rightB] using h
    obtain ⟨l, hl, e⟩ := isSignB_mem hs
    rw [bs_inj] at e
    subst e
    exact signL_ends x hl
theorem right_plain {k : Int} {x : List UInt8} (h : rightB k (bs x) = true) : ∀ c ∈ x, c ≠ 10 ∧ c ≠ 37 := fun c hc => by
  have := right_noend h c hc
  constructor
  · rintro rfl; exact absurd this (by decide)
  · rintro rfl; exact absurd this (by decide)

/-- Without its comments a text has the same tokens. -/
theorem bare_reads {line : Nat} {T : List UInt8} {r : Res} (h : Rds line T r) : ∀ toks cs, r = .ok (toks, cs) → Rds line (bareL false T) (.ok (toks, [])) := by
  induction h with
  | nil line =>
    intro toks cs e
    injection e with e; injection e with e1 e2; subst e1
    exact .nil line
  | @skip line c l r hp _ ih =>
    intro toks cs e
    have hg := (skip_iff c l).1 hp
    have hne : c ≠ 37 := by rintro rfl; exact absurd hg (by decide)
    have e : bareL false (c :: l) = c :: bareL false l := by
      rw [bareL]
      split
      · rename_i hc; rw [hc]
      · rw [if_neg]; rintro (h | h)
        · cases h
        · exact hne h
    rw [e]
    exact .gap hg (ih toks cs ‹_›)
  | @com line x l r hx hp _ ih =>
    intro toks cs e
    cases r with
    | error e' => cases e
    | ok p =>
      obtain ⟨a, b⟩ := p
      simp only [front, Except.ok.injEq, Prod.mk.injEq, List.nil_append] at e
      obtain ⟨rfl, _⟩ := e
      obtain ⟨⟨x', rfl⟩, h1, h2, _⟩ := com_parts hx hp
      have e : bareL false (37 :: x' ++ l) = bareL false l := by
        rw [List.cons_append, bareL, if_neg (by decide), if_pos (.inr rfl), bare_out x' l (fun c hc => h1 c (by simp [hc])), bare_true h2]
      rw [e]
      exact ih _ _ rfl
  | @tok line k x l r hx hp _ ih =>
    intro toks cs e
    cases r with
    | error e' => cases e
    | ok p =>
      obtain ⟨a, b⟩ := p
      simp only [front, Except.ok.injEq, Prod.mk.injEq, List.singleton_append] at e
      obtain ⟨rfl, _⟩ := e
      have hr := tok_right hx hp
      rw [bare_in x l (right_plain hr)]
      refine Rds.put hr (fun c hc => ?_) (ih _ _ rfl)
      rcases bare_head hc with hl | rfl
      · exact (tok_iff hr l).1 hp c hl
      · exact stop_end _ _ (by decide)
  | bad _ =>
    intro toks cs e
    cases e

theorem feeds_zero : ∀ (x l : List UInt8), (∀ c ∈ x, c ≠ 10) → feedsL (x ++ l) = feedsL l
  | [], _, _ => rfl
  | c :: x, l, h => by
    rw [List.cons_append, feedsL, if_neg (h c (by simp))]
    exact feeds_zero x l fun d hd => h d (by simp [hd])

/-- A text behind another one that ends with a line feed. -/
theorem cat_reads {line : Nat} {T : List UInt8} {r : Res} (h : Rds line T r) : ∀ toks cs, r = .ok (toks, cs) → ∀ (two : List UInt8) (r2 : Res), Rds (line + feedsL T + 1) two r2 → Rds line (T ++ 10 :: two) (front toks cs r2) := by
  induction h with
  | nil line =>
    intro toks cs e two r2 h2
    injection e with e; injection e with e1 e2; subst e1 e2
    rw [front_nil]
    exact .feed h2
  | @skip line c l r hp _ ih =>
    intro toks cs e two r2 h2
    have hg := (skip_iff c l).1 hp
    rw [List.cons_append]
    refine .gap hg (ih toks cs e two r2 ?_)
    have : lineUp (c.toNat : Int) line + feedsL l = line + feedsL (c :: l) := by
      rw [feedsL]
      unfold lineUp
      by_cases hc : c = 10
      · subst hc
        rw [if_pos (by decide), if_pos rfl]; omega
      · rw [if_neg hc, if_neg (show ¬ ((c.toNat : Int) = 10) from fun e => hc (u8_of_int (n := 10) (by decide) e))]
    rw [this]
    exact h2
  | @com line x l r hx hp _ ih =>
    intro toks cs e two r2 h2
    cases r with
    | error e' => cases e
    | ok p =>
      obtain ⟨a, b⟩ := p
      simp only [front, Except.ok.injEq, Prod.mk.injEq, List.nil_append, List.singleton_append] at e
      obtain ⟨rfl, rfl⟩ := e
      obtain ⟨_, h1, h3, _⟩ := com_parts hx hp
      rw [feeds_zero x l h1] at h2
      have := ih _ _ rfl two r2 h2
      rw [List.append_assoc]
      have hc := Rds.com (line := line) hx (com_behind hx hp (m := l ++ 10 :: two) (fun c hc => ?_)) this
      · rw [front_front] at hc
        exact hc
      · cases l with
        | nil => simpa using hc.symm
        | cons d l => exact h3 c (by simpa using hc)
  | @tok line k x l r hx hp _ ih =>
    intro toks cs e two r2 h2
    cases r with
    | error e' => cases e
    | ok p =>
      obtain ⟨a, b⟩ := p
      simp only [front, Except.ok.injEq, Prod.mk.injEq, List.nil_append, List.singleton_append] at e
      obtain ⟨rfl, rfl⟩ := e
      have hr := tok_right hx hp
      rw [feeds_zero x l (fun c hc => (right_plain hr c hc).1)] at h2
      have := ih _ _ rfl two r2 h2
      rw [List.append_assoc]
      have hc := Rds.tok (line := line) (k := k) hx ((tok_iff hr (l ++ 10 :: two)).2 fun c hc => ?_) this
      · rw [front_front] at hc
        exact hc
      · cases l with
        | nil =>
          have : c = 10 := by simpa using hc.symm
          subst this
          exact stop_end _ _ (by decide)
        | cons d l => exact (tok_iff hr (d :: l)).1 hp c (by simpa using hc)
  | bad _ =>
    intro toks cs e
    cases e

/-- Some lines further down. -/
def Tok.down (d : Nat) (t : Tok) : Tok := { t with line := t.line + (d : Int) }
def shiftR (d : Nat) : Res → Res
  | .ok (a, c) => .ok (a.map (Tok.down d), c)
  | .error (e, ln) => .error (e, ln + (d : Int))
theorem shift_front (d : Nat) (a : List Tok) (c : List (List UInt8)) (r : Res) : shiftR d (front a c r) = front (a.map (Tok.down d)) c (shiftR d r) := by
  cases r with
  | error e => obtain ⟨e, ln⟩ := e; rfl
  | ok p => obtain ⟨x, y⟩ := p; simp [front, shiftR]
theorem shift_reads {line : Nat} {T : List UInt8} {r : Res} (h : Rds line T r) (d : Nat) : Rds (line + d) T (shiftR d r) := by
  induction h with
  | nil line => exact .nil _
  | @skip line c l r hp _ ih =>
    refine .skip hp ?_
    have : lineUp (c.toNat : Int) (line + d) = lineUp (c.toNat : Int) line + d := by unfold lineUp; split <;> omega
    rw [this]
    exact ih
  | @com line x l r hx hp _ ih =>
    rw [shift_front]
    exact .com hx hp ih
  | @tok line k x l r hx hp _ ih =>
    rw [shift_front]
    have := Rds.tok (line := line + d) hx hp ih
    simpa [Tok.down] using this
  | @bad line c l e hp =>
    have := Rds.bad (line := line + d) hp
    simpa [shiftR] using this

theorem scan_bare {s : ByteArray} {toks : List Tok} {cs : List (List UInt8)} (h : scanT s = .ok (toks, cs)) (hb : (bareL false s.data.toList).length ≤ 20000) : scanT (bs (bareL false s.data.toList)) = .ok (toks, []) := by
  obtain ⟨hz, _⟩ := scanT_small h
  have hr := rds_of_scan (l := s.data.toList) (by rw [data_length]; exact hz)
  rw [bs_toList, h] at hr
  exact rds_scanT (bare_reads hr toks cs rfl) hb

theorem scan_cat {one two : ByteArray} {toks : List Tok} {cs : List (List UInt8)} (h : scanT one = .ok (toks, cs)) (h1 : one.size ≤ 1500) (h2 : two.size ≤ 1500) :
    scanT (one ++ bs [10] ++ two) = front toks cs (shiftR (feedsL one.data.toList + 1) (scanT two)) := by
  have hr := rds_of_scan (l := one.data.toList) (by rw [data_length]; omega)
  rw [bs_toList, h] at hr
  have hr2 := rds_of_scan (l := two.data.toList) (by rw [data_length]; omega)
  rw [bs_toList] at hr2
  have hc := cat_reads hr toks cs rfl two.data.toList _ (by have := shift_reads hr2 (feedsL one.data.toList + 1); rw [← Nat.add_assoc] at this; exact this)
  have e : one ++ bs [10] ++ two = bs (one.data.toList ++ 10 :: two.data.toList) := by
    rw [← bs_toList (one ++ bs [10] ++ two), bs_inj]
    simp [bs]
  rw [e]
  exact rds_scanT hc (by simp only [List.length_append, List.length_cons, data_length]; omega)
end Go.Proofs.YtophcjkfhneghaaDoor
