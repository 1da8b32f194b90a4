/- What is printed is read as it was (the plain half of T1 for tokens). -/
import Derived.Test.YtophcjkfhneghaaDoorYo
namespace Go.Proofs.YtophcjkfhneghaaDoor
open Go Go.RowKit

theorem check_cons {k : Nat} {line : Int} {t : Tok} {l : List Tok} (h : (checkA k line (t :: l)).2 = 0) : line ≤ t.line ∧ t.line ≤ 20000 ∧ rightB t.kind (bs t.text) = true ∧ (checkA (k + 1) t.line l).2 = 0 := by
  rw [checkA] at h
  split at h
  · cases h
  split at h
  · cases h
  · rename_i h1 h2
    refine ⟨by omega, by omega, ?_, h⟩
    rw [← isTokB_right]
    cases hq : isTokB t with
    | true => rfl
    | false => exact absurd (.inr (.inr hq)) h2

theorem printA_head {k : Nat} (line : Int) (l : List Tok) (c : UInt8) (h : (printA line true l).head? = some c) (hk : (checkA k line l).2 = 0) : endB c = true := by
  cases l with
  | nil => simp [printA] at h; subst h; decide
  | cons t l =>
    obtain ⟨h1, _⟩ := check_cons hk
    rw [printA] at h
    by_cases hle : t.line ≤ line
    · rw [show (t.line - line).toNat = 0 by omega] at h
      simp [hle] at h
      subst h; decide
    · obtain ⟨n, hn⟩ : ∃ n, (t.line - line).toNat = n + 1 := ⟨(t.line - line).toNat - 1, by omega⟩
      rw [hn, List.replicate_succ] at h
      simp at h
      subst h; decide

theorem print_reads : ∀ (l : List Tok) (k line : Nat) (gap : Bool), (checkA k (line : Int) l).2 = 0 → Rds line (printA (line : Int) gap l) (.ok (l, []))
  | [], k, line, gap, _ => by
    rw [printA]
    exact .feed (.nil _)
  | t :: l, k, line, gap, h => by
    obtain ⟨h1, h2, h3, h4⟩ := check_cons h
    obtain ⟨n, hn⟩ : ∃ n : Nat, t.line = (n : Int) := ⟨t.line.toNat, by omega⟩
    have hih := print_reads l (k + 1) n true (by rw [← hn]; exact h4)
    have hput := Rds.put (line := n) h3 (fun c hc => stop_end _ _ (printA_head (n : Int) l c hc (by rw [← hn]; exact h4))) hih
    rw [← hn] at hput
    rw [printA, List.append_assoc, List.append_assoc]
    refine Rds.feeds _ ?_
    rw [show line + (t.line - (line : Int)).toNat = n by omega]
    split
    · exact .blank hput
    · exact hput

/-- What Print prints is read as it was. -/
theorem scan_print {l : List Tok} (h : (printR l).2 = 0) : scanT (bs (printR l).1) = .ok (l, []) := by
  unfold printR at h ⊢
  split at h
  · rename_i hc
    split at h
    · rename_i he
      subst he
      rw [if_pos rfl]
      exact rds_scanT (l := []) (.nil 1) (by simp)
    · rename_i he
      rw [if_neg he]
      split at h
      · cases h
      · rename_i hlen
        rw [if_neg hlen, if_pos hc]
        exact rds_scanT (print_reads l 0 1 false hc) (Nat.le_of_not_lt hlen)
  · rename_i hc
    exact absurd h hc

/-- The tokens of a text: as said, on lines that go up, one byte at least each. -/
theorem reads_check {line : Nat} {l : List UInt8} {r : Res} (h : Rds line l r) : ∀ toks cs, r = .ok (toks, cs) → ∀ k (ln : Int), k + l.length ≤ 20000 → line + l.length ≤ 20001 → ln ≤ (line : Int) → (checkA k ln toks).2 = 0 := by
  induction h with
  | nil line =>
    intro toks cs e k ln _ _ _
    injection e with e; injection e with e1 e2; subst e1
    rfl
  | @skip line c l r hp _ ih =>
    intro toks cs e k ln h1 h2 h3
    simp only [List.length_cons] at h1 h2
    refine ih toks cs e k ln (by omega) ?_ ?_
    · unfold lineUp; split <;> omega
    · unfold lineUp; split <;> omega
  | @com line x l r hx hp _ ih =>
    intro toks cs e k ln h1 h2 h3
    simp only [List.length_append] at h1 h2
    cases r with
    | error e' => cases e
    | ok p =>
      obtain ⟨a, b⟩ := p
      simp only [front, Except.ok.injEq, Prod.mk.injEq, List.nil_append] at e
      obtain ⟨rfl, _⟩ := e
      exact ih _ _ rfl k ln (by omega) (by omega) h3
  | @tok line k' x l r hx hp _ ih =>
    intro toks cs e k ln h1 h2 h3
    simp only [List.length_append] at h1 h2
    have h0 := len_pos hx
    cases r with
    | error e' => cases e
    | ok p =>
      obtain ⟨a, b⟩ := p
      simp only [front, Except.ok.injEq, Prod.mk.injEq, List.nil_append, List.singleton_append] at e
      obtain ⟨rfl, _⟩ := e
      have hr := tok_right hx hp
      rw [checkA, if_neg (by omega), if_neg]
      · exact ih _ _ rfl (k + 1) (line : Int) (by omega) (by omega) (by omega)
      · rintro (h | h | h)
        · simp only at h; omega
        · simp only at h; omega
        · rw [isTokB_right] at h
          simp only at h
          rw [hr] at h; cases h
  | bad _ =>
    intro toks cs e
    cases e

theorem scan_check {s : ByteArray} {toks : List Tok} {cs : List (List UInt8)} (h : scanT s = .ok (toks, cs)) : (checkR toks).2 = 0 := by
  obtain ⟨hz, _⟩ := scanT_small h
  have hr := rds_of_scan (l := s.data.toList) (by rw [data_length]; exact hz)
  rw [bs_toList, h] at hr
  exact reads_check hr toks cs rfl 0 1 (by rw [data_length]; omega) (by rw [data_length]; omega) (by omega)

/-- A text's tokens, printed: the same tokens, and printed as they were; or too long. -/
theorem scan_print_scan {s : ByteArray} {toks : List Tok} {cs : List (List UInt8)} (h : scanT s = .ok (toks, cs)) : (printR toks).2 = 0 ∨ (printR toks).2 = 2 := by
  have hc := scan_check h
  unfold printR
  rw [if_pos hc]
  split
  · left; rfl
  split
  · right; rfl
  · left; rfl

/-- Tokens with a blank between them are read as they are. -/
theorem scan_blank {t u : Tok} (h1 : rightB t.kind (bs t.text) = true) (h2 : rightB u.kind (bs u.text) = true) : scanT (bs t.text ++ bs [32] ++ bs u.text) = .ok ([t.one, u.one], []) := by
  have z1 := right_size h1
  have z2 := right_size h2
  rw [bs_size] at z1 z2
  rw [bs_append, bs_append]
  refine rds_scanT ?_ (by simp; omega)
  rw [List.append_assoc]
  have hu := Rds.put (line := 1) (m := []) h2 (by simp) (.nil 1)
  rw [List.append_nil] at hu
  exact Rds.put h1 (fun c hc => stop_end _ _ (by simp at hc; subst hc; decide)) (.blank hu)
end Go.Proofs.YtophcjkfhneghaaDoor
