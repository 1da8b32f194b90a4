/- The reference's reading of a text. -/
import Derived.Test.YtophcjkfhneghaaDoorYc
namespace Go.Proofs.YtophcjkfhneghaaDoor
open Go Go.RowKit

theorem suffix_list (s : ByteArray) (i : Nat) : (s.extract i s.size).data.toList = s.data.toList.drop i := by
  rw [extract_list, ← data_length s, ← List.length_drop, List.take_length]
theorem suffix_byte (s : ByteArray) (i j : Nat) : byteAt (s.extract i s.size) j = byteAt s (i + j) := by
  unfold byteAt
  rw [suffix_list, List.getElem?_drop]
theorem suffix_lead (p : Int → Bool) (s : ByteArray) (i : Nat) : lead p (s.extract i s.size) 0 = lead p s i := by
  unfold lead
  rw [suffix_list, List.drop_zero]
theorem suffix_cut (s : ByteArray) (i n : Nat) : (s.extract i s.size).extract 0 n = s.extract i (i + n) := by
  rw [extract_bs (s.extract i s.size), suffix_list, extract_bs s i (i + n), List.drop_zero, Nat.sub_zero, Nat.add_sub_cancel_left]
theorem suffix_kind (s : ByteArray) (i : Nat) : kindAt (s.extract i s.size) 0 = kindAt s i := by
  unfold kindAt
  rw [suffix_byte, suffix_cut, Nat.add_zero]
theorem suffix_sign (s : ByteArray) (i : Nat) : signLen (s.extract i s.size) 0 = signLen s i := by
  unfold signLen
  have e : (0 + 1 < (s.extract i s.size).size) ↔ (i + 1 < s.size) := by rw [ByteArray.size_extract]; omega
  simp only [suffix_cut, e]
theorem suffix_piece (s : ByteArray) (i : Nat) : pieceAt (s.extract i s.size) 0 = pieceAt s i := by
  unfold pieceAt
  rw [suffix_kind, suffix_lead, suffix_lead, suffix_lead, suffix_sign, Nat.zero_add, Nat.zero_add, suffix_cut, suffix_cut]

theorem own_apart {w : World} {base n size n' size' : Nat} {e e' : TypeId} {v v' : Value} {xs xs' : List Value} (h : w.ownsRow base e size v n xs) (h' : w.ownsRow base e' size' v' n' xs') (hne : e ≠ e') : v.ownBlock = none ∨ v.ownBlock ≠ v'.ownBlock := by
  cases hv : v.ownBlock with
  | none => exact .inl rfl
  | some g =>
    refine .inr fun e1 => ?_
    rcases h with ⟨_, ⟨h3, _⟩ | ⟨g0, cap, cur, h3, _, h4, _⟩⟩
    · subst h3; cases hv
    · subst h3
      injection hv with hv
      subst hv
      obtain ⟨_, cs, fr, h5⟩ := own_turn h' e1.symm h4
      injection h5 with _ h5
      exact hne h5
theorem row_below {w w' W : World} {B n size : Nat} {e : TypeId} {v : Value} {xs : List Value} (h : Below B W w) (hB : B ≤ w.heap.size) (ho : w.ownsRow B e size v n xs) (hg : w.grownBy w' v.ownBlock) : Below B W w' :=
  h.grown hg hB fun k hk => (ho.lt k hk).1

theorem ret_read {g : Nat} {tmps : Array Value} {w : World} {x y : Value} (hc : tmps.getD 4 undef = .pointer (some ⟨g, 0, none⟩)) (hb : Blk w g 31 #[x, y]) :
    (results Tryd.f45 tmps).run Tryd.prog w = .ok (.tuple #[tmps.getD 2 undef, tmps.getD 3 undef, .agg #[x, y]]) w := by
  have c0 := hb.cell 0
  have c1 := hb.cell 1
  simp only [List.getElem?_toArray, List.getElem?_cons_zero, List.getElem?_cons_succ] at c0 c1
  simp only [Array.getD_eq_getD_getElem?] at hc
  simp [results, Tryd.results45, hc, go_sem, c0, c1]

/-- A reading in progress. -/
structure Rd (s : ByteArray) (B : Nat) (w0 wr : World) (vt vc : Value) (toks : List Tok) (cs : List (List UInt8)) (line at_ f : Nat) : Prop where
  rt : wr.ownsRow B 38 3 vt toks.length (tokVs toks)
  rc : wr.ownsRow B 9 1 vc cs.length (strVs cs)
  le : at_ ≤ s.size
  sc : scanA s f at_ line toks cs = scanS s
  fu : s.size + 1 ≤ at_ + f
  ln : line ≤ at_ + 1
  tl : toks.length ≤ at_
  cl : cs.length ≤ at_
  bl : Below B w0 wr

section
variable {s : ByteArray} {B : Nat} {w0 wr : World} {vt vc : Value} {toks : List Tok} {cs : List (List UInt8)} {line at_ f : Nat}
theorem Rd.fuel (h : Rd s B w0 wr vt vc toks cs line at_ f) : ∃ j, f = j + 1 := ⟨f - 1, by have := h.le; have := h.fu; omega⟩
theorem Rd.skip (h : Rd s B w0 wr vt vc toks cs line at_ f) (hlt : at_ < s.size) (hp : pieceAt s at_ = .skip) {l2 : Nat} (hl : l2 = lineUp (byteAt s at_) line) : Rd s B w0 wr vt vc toks cs l2 (at_ + 1) (f - 1) := by
  obtain ⟨j, rfl⟩ := h.fuel
  have hsc := h.sc
  rw [scanA, if_pos hlt, hp] at hsc
  have h1 := h.ln; have h2 := h.tl; have h3 := h.cl; have h4 := h.fu
  have h5 := lineUp_le (byteAt s at_) line
  subst hl
  exact ⟨h.rt, h.rc, by omega, by simpa using hsc, by omega, by omega, by omega, by omega, h.bl⟩
theorem Rd.end (h : Rd s B w0 wr vt vc toks cs line at_ f) (hlt : ¬ at_ < s.size) : scanS s = .ok (toks, cs) := by
  obtain ⟨j, rfl⟩ := h.fuel
  have hsc := h.sc
  rw [scanA, if_neg hlt] at hsc
  exact hsc.symm
theorem Rd.bad (h : Rd s B w0 wr vt vc toks cs line at_ f) (hlt : at_ < s.size) {c : Int} (hp : pieceAt s at_ = .bad c) : scanS s = .error (c, (line : Int)) := by
  obtain ⟨j, rfl⟩ := h.fuel
  have hsc := h.sc
  rw [scanA, if_pos hlt, hp] at hsc
  exact hsc.symm
theorem Rd.com (h : Rd s B w0 wr vt vc toks cs line at_ f) (hlt : at_ < s.size) {n E : Nat} (hp : pieceAt s at_ = .com n) (hn : 0 < n) (hE : at_ + n = E) (hs : E ≤ s.size) {w1 w2 : World} {v2 : Value} (hw : Below wr.heap.size wr w1) (hB : B ≤ wr.heap.size)
    (hg : w1.grownBy w2 vc.ownBlock) (ho : w2.ownsRow B 9 1 v2 (cs.length + 1) (strVs cs ++ [.string (s.extract at_ E)])) : Rd s B w0 w2 vt v2 toks (cs ++ [cut s at_ n]) line E (f - 1) := by
  obtain ⟨j, rfl⟩ := h.fuel
  have hsc := h.sc
  rw [scanA, if_pos hlt, hp] at hsc
  have h1 := h.ln; have h2 := h.tl; have h3 := h.cl; have h4 := h.fu
  have t1 : Turns (fun _ _ => False) wr w1 := Turns.of_below hw
  have rt1 := t1.own h.rt (fun _ _ _ h => h)
  have rc1 := t1.own h.rc (fun _ _ _ h => h)
  have bl1 : Below B w0 w1 := h.bl.trans (hw.mono hB)
  refine ⟨rt1.kept hg (own_apart rt1 rc1 (by decide)), ?_, hs, by subst hE; simpa using hsc, by omega, by omega, by omega, by simp; omega, row_below bl1 (by have := hw.size; omega) rc1 hg⟩
  rw [List.length_append, List.length_singleton, strVs, List.map_append, List.map_singleton, ← extract_cut, hE]
  exact ho
theorem Rd.put (h : Rd s B w0 wr vt vc toks cs line at_ f) (hlt : at_ < s.size) {n E : Nat} {k : Int} (hp : pieceAt s at_ = .tok k n) (hn : 0 < n) (hE : at_ + n = E) (hs : E ≤ s.size) {w1 w2 : World} {v2 : Value} (hw : Below wr.heap.size wr w1) (hB : B ≤ wr.heap.size)
    (hg : w1.grownBy w2 vt.ownBlock) (ho : w2.ownsRow B 38 3 v2 (toks.length + 1) (tokVs toks ++ [.int .u8 k, .string (s.extract at_ E), .int .i64 line])) : Rd s B w0 w2 v2 vc (toks ++ [⟨k, cut s at_ n, line⟩]) cs line E (f - 1) := by
  obtain ⟨j, rfl⟩ := h.fuel
  have hsc := h.sc
  rw [scanA, if_pos hlt, hp] at hsc
  have h1 := h.ln; have h2 := h.tl; have h3 := h.cl; have h4 := h.fu
  have t1 : Turns (fun _ _ => False) wr w1 := Turns.of_below hw
  have rt1 := t1.own h.rt (fun _ _ _ h => h)
  have rc1 := t1.own h.rc (fun _ _ _ h => h)
  have bl1 : Below B w0 w1 := h.bl.trans (hw.mono hB)
  refine ⟨?_, rc1.kept hg (own_apart rc1 rt1 (by decide)), hs, by subst hE; simpa using hsc, by omega, by omega, by simp; omega, by omega, row_below bl1 (by have := hw.size; omega) rt1 hg⟩
  rw [List.length_append, List.length_singleton, tokVs_snoc, tokCells, ← extract_cut, hE]
  exact ho
end
end Go.Proofs.YtophcjkfhneghaaDoor
