/- Arguments that are tokens, and lists of tokens: from what the rows say to what the walks ask. -/
import Derived.Test.YtophcjkfhneghaaDoorYi
import Derived.Test.YtophcjkfhneghaaDoorZd
import Derived.Lib.SmallJoins
import Derived.Deep.Slices
import Derived.Carry
namespace Go.Proofs.YtophcjkfhneghaaDoor
open Go Go.ChangeShapes Go.WideShapes Go.ChangeAt Go.RowKit Go.ChangeMaps Go.Joins

theorem Tryd.laidOut : laidOutB Tryd.prog = true := by kernel_rfl
theorem cells38 : Tryd.prog.cellsOf 38 = 3 := by kernel_rfl
theorem cells5 : Tryd.prog.cellsOf 5 = 1 := by kernel_rfl
theorem cells9 : Tryd.prog.cellsOf 9 = 1 := by kernel_rfl
theorem cells3 : Tryd.prog.cellsOf 3 = 1 := by kernel_rfl

section
variable {H : Type} {enc : TypeId × Value → H}

set_option maxRecDepth 100000 in
theorem open_tok {W : World} {base : Nat} {sp : Nat → Bool} {held : Bool} {r : Reach} {b0 : Nat} {v : Value} {d : DataW H} {p : List MemPlace} (hv : Value.okWide Tryd.prog W r b0 38 v) (h : DataW.Trod enc Tryd.prog W base sp held 38 v d p) :
    ∃ t : Tok, v = .agg #[.int .u8 t.kind, .string (bs t.text), .int .i64 t.line] ∧ t.text.length ≤ maxLen := by
  obtain ⟨v0, v1, v2, y0, y1, y2, n, rfl, _, _, h0, h1, h2⟩ := open_agg3 Tryd.underlying38 (by kernel_rfl) cells38 hv h
  obtain ⟨k, e0, _, _⟩ := DataW.trod_int Tryd.underlying5 h0
  obtain ⟨s, e1, _, hs⟩ := DataW.trod_string Tryd.underlying9 h1
  obtain ⟨ln, e2, _, _⟩ := DataW.trod_int Tryd.underlying3 h2
  simp only [List.cons.injEq, and_true] at e0 e1 e2
  subst e0 e1 e2
  refine ⟨⟨k, s.data.toList, ln⟩, by rw [bs_toList], by rw [data_length]; exact hs⟩

set_option maxRecDepth 100000 in
theorem tok_cells {W : World} {base : Nat} {sp : Nat → Bool} {held : Bool} {n : Nat} {a : Addr} {cs : List Value} {x : DataW H × List MemPlace} (hc : W.cells? base a (Tryd.prog.cellsOf 38) = some cs) (h : DataW.trod enc Tryd.prog W base sp held n 38 cs = some x) :
    ∃ t : Tok, W.cell? a = some (.int .u8 t.kind) ∧ W.cell? (a.add 1) = some (.string (bs t.text)) ∧ W.cell? (a.add 2) = some (.int .i64 t.line) := by
  rw [cells38] at hc
  obtain ⟨_, hl, hi⟩ := World.cells?_some hc
  obtain ⟨xs, m, _, _, _, hlen, hf⟩ := DataW.trod_struct Tryd.underlying38 h
  match cs, hl with
  | [c0, c1, c2], _ =>
    have f0 : DataW.trod enc Tryd.prog W base sp held m 5 (List.take (Tryd.prog.cellsOf 5) [c0, c1, c2]) = xs[0]? := hf 0 _ rfl
    have f1 : DataW.trod enc Tryd.prog W base sp held m 9 (List.take (Tryd.prog.cellsOf 9) [c1, c2]) = xs[1]? := hf 1 _ rfl
    have f2 : DataW.trod enc Tryd.prog W base sp held m 3 (List.take (Tryd.prog.cellsOf 3) [c2]) = xs[2]? := hf 2 _ rfl
    rw [cells5] at f0
    rw [cells9] at f1
    rw [cells3] at f2
    match xs, hlen with
    | [y0, y1, y2], _ =>
      obtain ⟨k, e0, _, _⟩ := DataW.trod_int Tryd.underlying5 f0
      obtain ⟨s, e1, _, _⟩ := DataW.trod_string Tryd.underlying9 f1
      obtain ⟨ln, e2, _, _⟩ := DataW.trod_int Tryd.underlying3 f2
      have e0 : c0 = .int .u8 k := (List.cons.inj e0).1
      have e1 : c1 = .string s := (List.cons.inj e1).1
      have e2 : c2 = .int .i64 ln := (List.cons.inj e2).1
      subst e0 e1 e2
      exact ⟨⟨k, s.data.toList, ln⟩, by simpa [Addr.add] using hi 0 (by decide), by rw [bs_toList]; simpa using hi 1 (by decide), by simpa using hi 2 (by decide)⟩

set_option maxRecDepth 100000 in
theorem open_toks {W : World} {base : Nat} {sp : Nat → Bool} {held : Bool} {r : Reach} {b0 : Nat} {v : Value} {d : DataW H} {p : List MemPlace} (hv : Value.okWide Tryd.prog W r b0 28 v) (h : DataW.Trod enc Tryd.prog W base sp held 28 v d p) :
    ∃ l : List Tok, TokSl W v l := by
  obtain ⟨ao, n, cap, rfl⟩ := okWide_slice Tryd.underlying28 hv
  obtain ⟨fuel, h⟩ := h
  rcases Deep.open_slice Tryd.underlying28 h with ⟨e, _⟩ | ⟨a, len, cap', m, k, D, Pl, e, hb, hl, hc, hm, hx, hi⟩
  · simp [Value.cells] at e
    obtain ⟨rfl, rfl, rfl⟩ := e
    exact ⟨[], tokSl_nil W⟩
  · simp [Value.cells] at e
    obtain ⟨rfl, rfl, rfl⟩ := e
    have hle : n ≤ m := by rw [hm]; split <;> omega
    have each : ∀ i, i < n → ∃ t : Tok, W.cell? (a.add (i * 3)) = some (.int .u8 t.kind) ∧ W.cell? (a.add (i * 3 + 1)) = some (.string (bs t.text)) ∧ W.cell? (a.add (i * 3 + 2)) = some (.int .i64 t.line) := by
      intro i hin
      obtain ⟨cs', h1, h2⟩ := hi i (by omega)
      obtain ⟨t, g0, g1, g2⟩ := tok_cells h1 h2
      rw [cells38] at g0 g1 g2
      rw [Deep.add_add] at g1 g2
      exact ⟨t, g0, g1, g2⟩
    obtain ⟨f, hf⟩ : ∃ f : Nat → Tok, ∀ i, i < n → W.cell? (a.add (i * 3)) = some (.int .u8 (f i).kind) ∧ W.cell? (a.add (i * 3 + 1)) = some (.string (bs (f i).text)) ∧ W.cell? (a.add (i * 3 + 2)) = some (.int .i64 (f i).line) := by
      refine ⟨fun i => if hin : i < n then Classical.choose (each i hin) else ⟨0, [], 0⟩, fun i hin => ?_⟩
      simp only [dif_pos hin]
      exact Classical.choose_spec (each i hin)
    refine ⟨(List.range n).map f, some a, cap, by simp, ?_⟩
    by_cases h0 : n = 0
    · left; subst h0; rfl
    · right
      have hsp : a.spot = none := by
        have := (hf 0 (by omega)).1
        cases hs : a.spot with
        | none => rfl
        | some x =>
          simp only [Nat.zero_mul, Addr.add, if_true, World.cell?, hs] at this
          split at this <;> simp at this
      obtain ⟨g, o, spt⟩ := a
      simp only at hsp
      subst hsp
      have hadd : ∀ j, (Addr.add ⟨g, o, none⟩ j : Addr) = ⟨g, o + j, none⟩ := by intro j; unfold Addr.add; split <;> simp_all
      refine ⟨g, o, rfl, ?_, ?_⟩
      · have := (hf 0 (by omega)).1
        rw [hadd] at this
        exact World.block_lt_of_cell? W _ this
      · intro i t hit
        rw [List.getElem?_map] at hit
        have hin : i < n := by
          by_cases hin : i < n
          · exact hin
          · rw [List.getElem?_eq_none (by simp; omega)] at hit; cases hit
        rw [List.getElem?_range hin] at hit
        simp only [Option.map_some, Option.some.injEq] at hit
        subst hit
        obtain ⟨g0, g1, g2⟩ := hf i hin
        rw [hadd] at g0 g1 g2
        exact ⟨g0, by rw [Nat.add_assoc]; exact g1, by rw [Nat.add_assoc]; exact g2⟩

/-- An argument reads as it did where nothing of what was there has turned. -/
theorem trod_under {W W' : World} {sp : Nat → Bool} {t : TypeId} {v : Value} {d : DataW H} {p : List MemPlace} (hr : Tryd.prog.readableRec t = true) (hrow : t < Tryd.prog.types.size) (h : DataW.Trod enc Tryd.prog W 0 (fun _ => true) true t v d p) (hb : Below W.heap.size W W')
    (hlt : ∀ x ∈ p, x.block < W.heap.size) (hs : ∀ x ∈ p, sp x.block = true) : DataW.Trod enc Tryd.prog W' 0 sp true t v d p :=
  WideElems.Trod_stays Tryd.laidOut hr hrow h (fun x hx => hb.same (hlt x hx)) hs
end
end Go.Proofs.YtophcjkfhneghaaDoor
