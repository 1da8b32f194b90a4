/- The shortest text of some tokens (the plain half of T1 for Tight). -/
import Derived.Test.YtophcjkfhneghaaDoorYp
namespace Go.Proofs.YtophcjkfhneghaaDoor
open Go Go.RowKit

theorem head_app {x m : List UInt8} (h : x ≠ []) : (x ++ m).head? = x.head? := by
  cases x with
  | nil => exact absurd rfl h
  | cons c x => rfl

theorem com_iff (c : UInt8) (l : List UInt8) (n : Nat) : pieceL (c :: l) = .com n ↔ (c.toNat : Int) = 37 ∧ n = leadL notNl (c :: l) := by
  have hb := byte_head c l
  constructor
  · intro h
    obtain ⟨_, _, hk, hn⟩ := piece_com (s := bs (c :: l)) (i := 0) (by rw [bs_size]; simp) h
    rw [lead_bs] at hn
    exact ⟨by rw [← hb]; exact kind2_pct hk, hn⟩
  · rintro ⟨h, rfl⟩
    have hk : kindAt (bs (c :: l)) 0 = 2 := by unfold kindAt; rw [hb, if_neg (by omega), if_pos h]
    unfold pieceL pieceAt
    rw [hk, if_neg (by decide), if_pos rfl, lead_bs]

theorem right_ne {k : Int} {x : List UInt8} (h : rightB k (bs x) = true) : x ≠ [] := by
  have h0 := (right_piece h).1
  rw [bs_size] at h0
  exact List.ne_nil_of_length_pos h0

/-- A text that begins with a token's text begins with a token, or with what is none. -/
theorem right_first {k : Int} {x : List UInt8} (h : rightB k (bs x) = true) (m : List UInt8) : (∃ k' n, pieceL (x ++ m) = .tok k' n) ∨ ∃ e, pieceL (x ++ m) = .bad e := by
  have h0 := (tok_iff h []).2 (by simp)
  have hne := right_ne h
  cases x with
  | nil => exact absurd rfl hne
  | cons c x =>
    rw [List.append_nil] at h0
    cases hp : pieceL (c :: x ++ m) with
    | skip =>
      have := (skip_iff c x).2 ((skip_iff c (x ++ m)).1 hp)
      rw [this] at h0; cases h0
    | com n =>
      have := (com_iff c x _).2 ⟨((com_iff c (x ++ m) n).1 hp).1, rfl⟩
      rw [this] at h0; cases h0
    | tok k' n => exact .inl ⟨_, _, rfl⟩
    | bad e => exact .inr ⟨_, rfl⟩

theorem rds_tok_inv {line : Nat} {T : List UInt8} {r : Res} (h : Rds line T r) {k : Int} {n : Nat} (hT : T ≠ []) (hp : pieceL T = .tok k n) : ∃ r', Rds line (T.drop n) r' ∧ r = front [⟨k, T.take n, (line : Int)⟩] [] r' := by
  cases h with
  | nil => exact absurd rfl hT
  | skip h1 _ => rw [h1] at hp; cases hp
  | com _ h1 _ => rw [h1] at hp; cases hp
  | tok _ h1 h2 =>
    rw [h1] at hp
    injection hp with e1 e2
    subst e1 e2
    rw [List.drop_left, List.take_left]
    exact ⟨_, h2, rfl⟩
  | bad h1 => rw [h1] at hp; cases hp
theorem rds_bad_inv {line : Nat} {T : List UInt8} {r : Res} (h : Rds line T r) {e : Int} (hT : T ≠ []) (hp : pieceL T = .bad e) : r = .error (e, (line : Int)) := by
  cases h with
  | nil => exact absurd rfl hT
  | skip h1 _ => rw [h1] at hp; cases hp
  | com _ h1 _ => rw [h1] at hp; cases hp
  | tok _ h1 h2 => rw [h1] at hp; cases hp
  | bad h1 =>
    rw [h1] at hp
    injection hp with e1
    subst e1
    rfl

/-- Something has to be between two tokens exactly if the second one's first byte may not stand behind the first. -/
theorem apart_iff {t u : Tok} (h1 : rightB t.kind (bs t.text) = true) (h2 : rightB u.kind (bs u.text) = true) : apartB t u = false ↔ ∀ c, u.text.head? = some c → stopB t.kind t.text c = true := by
  have z1 := right_size h1
  have z2 := right_size h2
  rw [bs_size] at z1 z2
  have hlen : (t.text ++ u.text).length ≤ 20000 := by rw [List.length_append]; omega
  unfold apartB
  rw [Bool.not_eq_false', bs_append]
  constructor
  · intro h
    cases hs : scanT (bs (t.text ++ u.text)) with
    | error e =>
      obtain ⟨c, ln⟩ := e
      rw [readsB_no hs] at h; cases h
    | ok p =>
      obtain ⟨toks, cs⟩ := p
      rw [readsB_ok hs, decide_eq_true_eq] at h
      subst h
      have hr := rds_of_scan hlen
      rw [hs] at hr
      have hT : t.text ++ u.text ≠ [] := by simp [right_ne h1]
      rcases right_first h1 u.text with ⟨k', n, hp⟩ | ⟨e, hp⟩
      · obtain ⟨r', hr', e⟩ := rds_tok_inv hr hT hp
        have hn := (piece_tok (s := bs (t.text ++ u.text)) (i := 0) (by rw [bs_size]; exact len_pos hT) hp).2
        rw [bs_size] at hn
        cases r' with
        | error e' => cases e
        | ok p =>
          obtain ⟨a, b⟩ := p
          simp only [front, Except.ok.injEq, Prod.mk.injEq, List.map_cons, List.map_nil, List.singleton_append, List.cons.injEq] at e
          have e1 := e.1.1
          simp only [Tok.one, Tok.mk.injEq] at e1
          obtain ⟨ek, et, _⟩ := e1
          have hl := congrArg List.length et
          rw [List.length_take] at hl
          have : n = t.text.length := by omega
          subst this
          rw [← ek] at hp
          exact (tok_iff h1 u.text).1 hp
      · have := rds_bad_inv hr hT hp
        cases this
  · intro h
    have hu := Rds.put (line := 1) (m := []) h2 (by simp) (.nil 1)
    rw [List.append_nil] at hu
    have hne := right_ne h2
    have ht := Rds.put (line := 1) (m := u.text) h1 h hu
    rw [readsB_ok (rds_scanT ht hlen)]
    simp [Tok.one]

theorem tightA_nil (q : Option Tok) : tightA q [] = [] := by cases q <;> rfl
theorem tight_none (t : Tok) (l : List Tok) : tightA none (t :: l) = t.text ++ tightA (some t) l := tight_first t l
theorem tight_some (q t : Tok) (l : List Tok) : tightA (some q) (t :: l) = (if apartB q t then [32] else []) ++ tightA none (t :: l) := by
  rw [tight_next, tight_first, List.append_assoc]

/-- What Tight writes is read as the tokens, on the first line. -/
theorem tight_reads : ∀ (l : List Tok), (∀ t ∈ l, rightB t.kind (bs t.text) = true) → Rds 1 (tightA none l) (.ok (l.map Tok.one, []))
  | [], _ => .nil 1
  | [t], h => by
    rw [tight_none, tightA_nil]
    exact Rds.put (line := 1) (h t (by simp)) (by simp) (.nil 1)
  | t :: u :: l, h => by
    have ih := tight_reads (u :: l) (fun x hx => h x (by simp at hx ⊢; exact .inr hx))
    have h1 := h t (by simp)
    have h2 := h u (by simp)
    rw [tight_none, tight_some]
    cases ha : apartB t u
    · simp only [Bool.false_eq_true, if_false, List.nil_append]
      refine Rds.put (line := 1) h1 ?_ ih
      intro c hc
      rw [tight_none, head_app (right_ne h2)] at hc
      exact (apart_iff h1 h2).1 ha c hc
    · simp only [if_true, List.singleton_append]
      exact Rds.put (line := 1) h1 (fun c hc => stop_end _ _ (by simp at hc; subst hc; decide)) (.blank ih)

/-- No text with these tokens is shorter. -/
theorem tight_least {line : Nat} {T : List UInt8} {r : Res} (h : Rds line T r) : ∀ toks cs, r = .ok (toks, cs) →
    (tightA none toks).length ≤ T.length ∧ ∀ (q t : Tok) (ts : List Tok), toks = t :: ts → rightB q.kind (bs q.text) = true → pieceL (q.text ++ T) = .tok q.kind q.text.length → apartB q t = true → (tightA none toks).length + 1 ≤ T.length := by
  induction h with
  | nil line =>
    intro toks cs e
    injection e with e; injection e with e1 e2; subst e1
    exact ⟨by simp [tightA_nil], fun _ _ _ h => by cases h⟩
  | @skip line c l r hp _ ih =>
    intro toks cs e
    have := (ih toks cs e).1
    simp only [List.length_cons]
    exact ⟨by omega, fun _ _ _ _ _ _ _ => by omega⟩
  | @com line x l r hx hp _ ih =>
    intro toks cs e
    have h0 := len_pos hx
    cases r with
    | error e' => cases e
    | ok p =>
      obtain ⟨a, b⟩ := p
      simp only [front, Except.ok.injEq, Prod.mk.injEq, List.nil_append] at e
      obtain ⟨rfl, _⟩ := e
      have := (ih _ _ rfl).1
      simp only [List.length_append]
      exact ⟨by omega, fun _ _ _ _ _ _ _ => by omega⟩
  | @tok line k x l r hx hp _ ih =>
    intro toks cs e
    cases r with
    | error e' => cases e
    | ok p =>
      obtain ⟨a, b⟩ := p
      simp only [front, Except.ok.injEq, Prod.mk.injEq, List.singleton_append] at e
      obtain ⟨rfl, _⟩ := e
      obtain ⟨i1, i2⟩ := ih _ _ rfl
      have hr := tok_right hx hp
      refine ⟨?_, ?_⟩
      · rw [tight_none]
        simp only [List.length_append]
        cases a with
        | nil => simp [tightA_nil]
        | cons u us =>
          rw [tight_some]
          cases ha : apartB ⟨k, x, (line : Int)⟩ u
          · simp only [Bool.false_eq_true, if_false, List.nil_append]; omega
          · have := i2 ⟨k, x, (line : Int)⟩ u us rfl hr hp ha
            simp only [if_true, List.length_append, List.length_cons, List.length_nil]; omega
      · intro q t ts ht hq hadj hap
        injection ht with e1 e2
        subst e1
        have hst := (tok_iff hq _).1 hadj
        have : apartB q ⟨k, x, (line : Int)⟩ = false := by
          refine (apart_iff hq hr).2 fun c hc => hst c ?_
          rw [head_app hx]
          exact hc
        rw [this] at hap; cases hap
  | bad _ =>
    intro toks cs e
    cases e

theorem one_one (t : Tok) : t.one.one = t.one := rfl
theorem readsB_one (s : ByteArray) (l : List Tok) : readsB s (l.map Tok.one) = readsB s l := by
  cases hs : scanT s with
  | error e => obtain ⟨c, ln⟩ := e; rw [readsB_no hs, readsB_no hs]
  | ok p =>
    obtain ⟨toks, cs⟩ := p
    rw [readsB_ok hs, readsB_ok hs]
    simp [List.map_map, Function.comp_def, one_one]
theorem apartB_one (t u : Tok) : apartB t.one u.one = apartB t u := by
  unfold apartB
  have := readsB_one (bs t.text ++ bs u.text) [t, u]
  simp only [List.map_cons, List.map_nil] at this
  rw [← this]
  rfl
theorem tightA_one : ∀ (l : List Tok), tightA none (l.map Tok.one) = tightA none l
  | [] => rfl
  | [t] => by simp only [List.map_cons, List.map_nil]; rw [tight_none, tight_none, tightA_nil, tightA_nil]; rfl
  | t :: u :: l => by
    have ih := tightA_one (u :: l)
    simp only [List.map_cons] at ih ⊢
    rw [tight_none, tight_none, tight_some, tight_some, apartB_one, ih]
    rfl

/-- All that is said of Tight of a text that can be read. -/
theorem tight_scan {s : ByteArray} {toks : List Tok} {cs : List (List UInt8)} (h : scanT s = .ok (toks, cs)) :
    (tightR s).2 = (0, 0) ∧ scanT (bs (tightR s).1) = .ok (toks.map Tok.one, []) ∧ tightR (bs (tightR s).1) = tightR s ∧ (tightR s).1.length ≤ s.size := by
  obtain ⟨hz, _⟩ := scanT_small h
  have hr := rds_of_scan (l := s.data.toList) (by rw [data_length]; exact hz)
  rw [bs_toList, h] at hr
  have hlen := (tight_least hr toks cs rfl).1
  rw [data_length] at hlen
  have ht := tightR_ok h
  have hsc : scanT (bs (tightR s).1) = .ok (toks.map Tok.one, []) := by
    rw [ht]
    exact rds_scanT (tight_reads toks (scanT_right h)) (Nat.le_trans hlen hz)
  refine ⟨by rw [ht], hsc, ?_, by rw [ht]; exact hlen⟩
  rw [tightR_ok hsc, tightA_one, ← ht]

theorem tight_other {s o : ByteArray} {toks toks' : List Tok} {cs cs' : List (List UInt8)} (h : scanT s = .ok (toks, cs)) (h' : scanT o = .ok (toks', cs')) (ha : toks.map Tok.one = toks'.map Tok.one) : (tightR s).1.length ≤ o.size := by
  have h1 := (tight_scan h').2.2.2
  rw [tightR_ok h'] at h1
  rw [tightR_ok h, ← tightA_one, ha, tightA_one]
  exact h1
end Go.Proofs.YtophcjkfhneghaaDoor
