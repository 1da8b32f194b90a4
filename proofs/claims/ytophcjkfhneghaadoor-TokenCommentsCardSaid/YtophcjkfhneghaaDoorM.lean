/- What a text is read as; the states of a read in progress. -/
import Derived.Test.YtophcjkfhneghaaDoorL
namespace Go.Proofs.YtophcjkfhneghaaDoor
open Go Go.RowKit

/-- What stands at a place of a text. -/
inductive Pc where
  | skip
  | com (n : Nat)
  | tok (k : Int) (n : Nat)
  | bad (e : Int)

def pieceAt (s : ByteArray) (i : Nat) : Pc :=
  if kindAt s i = 1 then .skip
  else if kindAt s i = 2 then .com (lead notNl s i)
  else if kindAt s i = 3 then (if 12 < lead isLD s i then .bad 12 else .tok (cond (isWordB (s.extract i (i + lead isLD s i))) 2 1) (lead isLD s i))
  else if kindAt s i = 4 then (cond (numB (s.extract i (i + lead isDig s i))) (.tok 3 (lead isDig s i)) (.bad 11))
  else if kindAt s i = 5 then .tok 4 (signLen s i)
  else .bad 10

/-- What a text is read as: its tokens and its comments, or its fault's error and line. -/
def scanA (s : ByteArray) : Nat → Nat → Nat → List Tok → List (List UInt8) → Except (Int × Int) (List Tok × List (List UInt8))
  | 0, _, _, toks, cs => .ok (toks, cs)
  | f + 1, i, line, toks, cs =>
    if i < s.size then
      match pieceAt s i with
      | .skip => scanA s f (i + 1) (lineUp (byteAt s i) line) toks cs
      | .com n => scanA s f (i + n) line toks (cs ++ [cut s i n])
      | .tok k n => scanA s f (i + n) line (toks ++ [⟨k, cut s i n, line⟩]) cs
      | .bad e => .error (e, line)
    else .ok (toks, cs)
def scanS (s : ByteArray) : Except (Int × Int) (List Tok × List (List UInt8)) := scanA s (s.size + 1) 0 1 [] []

theorem kindAt_cases (s : ByteArray) (i : Nat) : kindAt s i = 0 ∨ kindAt s i = 1 ∨ kindAt s i = 2 ∨ kindAt s i = 3 ∨ kindAt s i = 4 ∨ kindAt s i = 5 := by
  unfold kindAt
  repeat' split
  all_goals simp

theorem kind_is (k : Int) (b at_ line m : Nat) (cv : Value) (s : ByteArray) (w : World) (h : Scn w b s at_ line m cv) (he : Env w) (hlt : at_ < s.size) (hs : s.size ≤ 20000) (hk : kindAt s at_ = k) :
    Calls Tryd.prog 64 #[.pointer (some ⟨b, 0, none⟩)] w fun e w' => e = .returned (.int .i64 k) ∧ ∃ n, w' = w.drewN n := by
  subst hk; exact kind_any b at_ line m cv s w h he hlt hs

theorem lead_pos {p : Int → Bool} {s : ByteArray} {i : Nat} (h : i < s.size) (hp : p (byteAt s i) = true) : 0 < lead p s i := by
  rcases Nat.eq_zero_or_pos (lead p s i) with h0 | h0
  · have := lead_stop (p := p) (s := s) (i := i) (by omega)
    rw [h0, Nat.add_zero, hp] at this
    cases this
  · exact h0

theorem kind2_pct {s : ByteArray} {i : Nat} (h : kindAt s i = 2) : byteAt s i = 37 := by
  unfold kindAt at h
  repeat' split at h
  all_goals first | assumption | omega
theorem kind3_let {s : ByteArray} {i : Nat} (h : kindAt s i = 3) : isLD (byteAt s i) = true := by
  unfold kindAt at h
  split at h
  · omega
  split at h
  · omega
  split at h
  · rename_i hq; simp [isLD, hq]
  split at h
  · omega
  split at h <;> omega
theorem kind4_dig {s : ByteArray} {i : Nat} (h : kindAt s i = 4) : isDig (byteAt s i) = true := by
  unfold kindAt at h
  split at h
  · omega
  split at h
  · omega
  split at h
  · omega
  split at h
  · assumption
  split at h <;> omega
theorem kind5_nl {s : ByteArray} {i : Nat} (h : kindAt s i = 5) : byteAt s i ≠ 10 := by
  unfold kindAt at h
  split at h
  · omega
  · rename_i hq
    intro e
    exact hq (.inr (.inr e))

/-- What a read in progress turns. -/
def ReadT (B0 b l : Nat) (i : Nat) (o : Obj) : Prop := i = B0 ∨ (i = l ∧ ∃ r, o = .loop r) ∨ i = b ∨ (b < i ∧ ((∃ cs fr, o = .cells cs 38 fr) ∨ (∃ cs fr, o = .cells cs 9 fr)))
theorem readT_of_scan {B0 b l i : Nat} {o : Obj} (h : ScanT b i o) : ReadT B0 b l i o := by
  rcases h with h | ⟨h1, h2⟩
  · exact .inr (.inr (.inl h))
  · exact .inr (.inr (.inr ⟨h1, .inr h2⟩))
theorem readT_of_round {B0 b l i : Nat} {o : Obj} (h : RoundT B0 b l i o) : ReadT B0 b l i o := by
  rcases h with h | h | ⟨h1, h2⟩
  · exact .inl h
  · exact .inr (.inl h)
  · exact .inr (.inr (.inr ⟨h1, .inl h2⟩))

/-- A read in progress. -/
structure St (fn : Nat) (x : Nat → Value) (A Bd : Code) (B0 b l D m : Nat) (W : World) (toks : List Tok) (cs : List (List UInt8)) (s : ByteArray) (at_ line : Nat) : Prop where
  box : ∃ vt, Blk W B0 28 #[vt] ∧ W.ownsRow (b + 1) 38 3 vt toks.length (tokVs toks)
  scn : ∃ cv, Scn W b s at_ line m cv ∧ Coms W b cv cs
  loop : W.heap[l]? = some (.loop (readLoop fn x B0 D A Bd .ready none))
  env : Env W
  lex : Lex W m

section
variable {fn : Nat} {x : Nat → Value} {A Bd : Code} {B0 b l D m : Nat} {W W' : World} {toks : List Tok} {cs : List (List UInt8)} {s : ByteArray} {at_ line at' line' : Nat}
/-- The scanner has moved on. -/
theorem St.scanned (h : St fn x A Bd B0 b l D m W toks cs s at_ line) (h7 : 7 ≤ B0) (hB : B0 < b) (hbl : b < l) (hm : m < B0) (ht : Turns (ScanT b) W W') {cv' : Value} {cs' : List (List UInt8)} (hs : Scn W' b s at' line' m cv') (hc : Coms W' b cv' cs') :
    St fn x A Bd B0 b l D m W' toks cs' s at' line' := by
  obtain ⟨vt, hv, ho⟩ := h.box
  refine ⟨⟨vt, ht.blk hv ?_, ht.own ho ?_⟩, ⟨cv', hs, hc⟩, ht.same _ _ h.loop ?_, ht.env h.env ?_, ht.same _ _ h.lex ?_⟩
  · rintro (h | ⟨h, _⟩) <;> omega
  · rintro g cur hg (h | ⟨_, cs, fr, h⟩)
    · omega
    · cases h
  · rintro (h | ⟨_, cs, fr, h⟩)
    · omega
    · cases h
  · rintro i o (h | ⟨h, _⟩) <;> omega
  · rintro (h | ⟨_, cs, fr, h⟩)
    · omega
    · cases h
/-- A round has put a token. -/
theorem St.put (h : St fn x A Bd B0 b l D m W toks cs s at_ line) (h7 : 7 ≤ B0) (hB : B0 < b) (hbl : b < l) (hm : m < B0) (ht : Turns (RoundT B0 b l) W W') {t : Tok} (hl : W'.heap[l]? = some (.loop (readLoop fn x B0 D A Bd .ready none)))
    (hb : ∃ vt', Blk W' B0 28 #[vt'] ∧ W'.ownsRow (b + 1) 38 3 vt' (toks ++ [t]).length (tokVs (toks ++ [t]))) : St fn x A Bd B0 b l D m W' (toks ++ [t]) cs s at_ line := by
  obtain ⟨cv, hs, hc⟩ := h.scn
  refine ⟨hb, ⟨cv, ht.blk hs ?_, ht.own hc ?_⟩, hl, ht.env h.env ?_, ht.same _ _ h.lex ?_⟩
  · rintro (h | ⟨h, _⟩ | ⟨h, _⟩) <;> omega
  · rintro g cur hg (h | ⟨_, r, h⟩ | ⟨_, cs, fr, h⟩)
    · omega
    · cases h
    · cases h
  · rintro i o (h | ⟨h, _⟩ | ⟨h, _⟩) <;> omega
  · rintro (h | ⟨h, _⟩ | ⟨_, cs, fr, h⟩)
    · omega
    · omega
    · cases h
end
end Go.Proofs.YtophcjkfhneghaaDoor
