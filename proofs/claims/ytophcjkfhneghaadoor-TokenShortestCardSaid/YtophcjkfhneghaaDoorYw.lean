/- The law TokenPrints answers true: the walk. -/
import Derived.Test.YtophcjkfhneghaaDoorYs
import Derived.Test.YtophcjkfhneghaaDoorYv
namespace Go.Proofs.YtophcjkfhneghaaDoor
open Go Go.RowKit

theorem check_nilR : checkR [] = (0, 0) := rfl
theorem print_nilR : printR [] = ([], 0) := rfl
theorem Check_sl (l : List Tok) (v : Value) (w : World) (he : Env w) (h : TokSl w v l) (hn : l.length ≤ 20000) :
    Calls Tryd.prog 29 #[v] w fun e w' => e = .returned (.tuple #[.int .i64 (checkR l).1, .int .i64 (checkR l).2]) ∧ Below w.heap.size w w' := by
  obtain ⟨ao, cap, rfl, h⟩ := h
  rcases h with rfl | ⟨g, o, rfl, hg, hr⟩
  · exact Check_nil ao cap w he
  · exact Check_any l g o cap w he hr hg (by omega)
theorem refCheck_sl (l : List Tok) (v : Value) (w : World) (h : TokSl w v l) (hn : l.length ≤ 20000) (hs : ∀ t ∈ l, t.text.length ≤ 1000000) :
    Calls Tryd.prog 30 #[v] w fun e w' => e = .returned (.tuple #[.int .i64 (checkR l).1, .int .i64 (checkR l).2]) ∧ Below w.heap.size w w' := by
  obtain ⟨ao, cap, rfl, h⟩ := h
  rcases h with rfl | ⟨g, o, rfl, hg, hr⟩
  · exact refCheck_nil ao cap w
  · exact refCheck_rows l g o cap w hr hg hn hs
theorem Print_sl (l : List Tok) (v : Value) (w : World) (he : Env w) (h : TokSl w v l) (hn : l.length ≤ 20000) (hs : ∀ t ∈ l, t.text.length ≤ 20000) :
    Calls Tryd.prog 31 #[v] w fun e w' => e = .returned (.tuple #[.string (bs (printR l).1), .int .i64 (printR l).2]) ∧ Below w.heap.size w w' := by
  obtain ⟨ao, cap, rfl, h⟩ := h
  rcases h with rfl | ⟨g, o, rfl, hg, hr⟩
  · exact Print_nil ao cap w he
  · exact Print_any l g o cap w he hr hg hn hs
theorem refPrint_sl (l : List Tok) (v : Value) (w : World) (h : TokSl w v l) (hn : l.length ≤ 20000) (hs : ∀ t ∈ l, t.text.length ≤ 20000) :
    Calls Tryd.prog 32 #[v] w fun e w' => e = .returned (.tuple #[.string (bs (printR l).1), .int .i64 (printR l).2]) ∧ Below w.heap.size w w' := by
  obtain ⟨ao, cap, rfl, h⟩ := h
  rcases h with rfl | ⟨g, o, rfl, hg, hr⟩
  · exact refPrint_nil ao cap w
  · exact refPrint_rows l g o cap w hr hg hn hs

theorem few_is {l : List Tok} (h : fewL l = true) : l.length ≤ 300 ∧ ∀ t ∈ l, t.text.length ≤ 40 := by
  simp only [fewL, Bool.and_eq_true, List.all_eq_true, decide_eq_true_eq] at h
  exact ⟨h.2, h.1⟩

theorem tokSl_two {w : World} {g cap : Nat} {t u : Tok} (h : Blk w g 38 #[.int .u8 t.kind, .string (bs t.text), .int .i64 t.line, .int .u8 u.kind, .string (bs u.text), .int .i64 u.line]) : TokSl w (.slice (some ⟨g, 0, none⟩) 2 cap) [t, u] :=
  ⟨some ⟨g, 0, none⟩, cap, rfl, .inr ⟨g, 0, rfl, h.lt, row_of_block (t := 38) h⟩⟩

set_option maxRecDepth 100000 in
set_option maxHeartbeats 12800000 in
theorem TokenPrints_true (l : List Tok) (t u : Tok) (v : Value) (w : World) (he : Env w) (h : TokSl w v l) :
    Calls Tryd.prog 5 #[v, .agg #[.int .u8 t.kind, .string (bs t.text), .int .i64 t.line], .agg #[.int .u8 u.kind, .string (bs u.text), .int .i64 u.line]] w fun e w' => e = .returned (.bool true) ∧ Below w.heap.size w w' := by
  obtain ⟨ao, cap, rfl, h'⟩ := h
  have h : TokSl w (.slice ao l.length cap) l := ⟨ao, cap, rfl, h'⟩
  clear h'
  have be := ((Below.refl _ w).alloc (Nat.le_refl _) (.cells #[.int .u8 t.kind, .string (bs t.text), .int .i64 t.line] 38)).alloc (by simp) (.cells #[.int .u8 u.kind, .string (bs u.text), .int .i64 u.line] 38)
  have B0 := Lib.hid be
  have E0 := Lib.hid (he.below be)
  have T0 := Lib.hid (h.below be)
  have k0 := Lib.hid ((Blk.new w 38 #[.int .u8 t.kind, .string (bs t.text), .int .i64 t.line]).alloc (.cells #[.int .u8 u.kind, .string (bs u.text), .int .i64 u.line] 38))
  have j0 : Hid (Blk ((w.alloc (.cells #[.int .u8 t.kind, .string (bs t.text), .int .i64 t.line] 38)).alloc (.cells #[.int .u8 u.kind, .string (bs u.text), .int .i64 u.line] 38)) (w.heap.size + 1) 38 #[.int .u8 u.kind, .string (bs u.text), .int .i64 u.line]) := by
    have := Blk.new (w.alloc (.cells #[.int .u8 t.kind, .string (bs t.text), .int .i64 t.line] 38)) 38 #[.int .u8 u.kind, .string (bs u.text), .int .i64 u.line]
    rwa [World.size_alloc] at this
  clear he h be
  cases hf : fewL l
  · go_enter Tryd.func5, Tryd.ntmps5
    go_wp2_with fail
    generalize (w.alloc (.cells #[.int .u8 t.kind, .string (bs t.text), .int .i64 t.line] 38)).alloc (.cells #[.int .u8 u.kind, .string (bs u.text), .int .i64 u.line] 38) = w0 at *
    have s0 := B0.out.size
    refine (few_any l _ w0 T0.out).mono ?_
    rintro e w1 ⟨rfl, rfl⟩
    rw [hf]
    go_wp2_with fail
    refine (read_true _ E0.out).mono ?_
    rintro e w2 ⟨rfl, hb⟩
    have HB := Lib.hid hb
    clear hb
    go_wp2
    go_ret
    exact ⟨rfl, B0.out.trans (HB.out.mono s0)⟩
  cases hf2 : fewL [t, u]
  · go_enter Tryd.func5, Tryd.ntmps5
    go_wp2_with fail
    generalize (w.alloc (.cells #[.int .u8 t.kind, .string (bs t.text), .int .i64 t.line] 38)).alloc (.cells #[.int .u8 u.kind, .string (bs u.text), .int .i64 u.line] 38) = w0 at *
    have s0 := B0.out.size
    refine (few_any l _ w0 T0.out).mono ?_
    rintro e w1 ⟨rfl, rfl⟩
    rw [hf]
    have a0 := k0.out.cell 0
    have a1 := k0.out.cell 1
    have a2 := k0.out.cell 2
    have b0 := j0.out.cell 0
    have b1 := j0.out.cell 1
    have b2 := j0.out.cell 2
    simp only [List.getElem?_toArray, List.getElem?_cons_zero, List.getElem?_cons_succ] at a0 a1 a2 b0 b1 b2
    go_wp2_with fail
    have be := B0.out.alloc s0 (.cells #[.int .u8 t.kind, .string (bs t.text), .int .i64 t.line, .int .u8 u.kind, .string (bs u.text), .int .i64 u.line] 38)
    have B1 := Lib.hid be
    have E1 := Lib.hid (E0.out.below ((Below.refl _ w0).alloc (Nat.le_refl _) (.cells #[.int .u8 t.kind, .string (bs t.text), .int .i64 t.line, .int .u8 u.kind, .string (bs u.text), .int .i64 u.line] 38)))
    have n1 := Lib.hid (Blk.new w0 38 #[.int .u8 t.kind, .string (bs t.text), .int .i64 t.line, .int .u8 u.kind, .string (bs u.text), .int .i64 u.line])
    clear be a0 a1 a2 b0 b1 b2
    generalize w0.alloc (.cells #[.int .u8 t.kind, .string (bs t.text), .int .i64 t.line, .int .u8 u.kind, .string (bs u.text), .int .i64 u.line] 38) = w1 at *
    have s1 := B1.out.size
    refine (few_any [t, u] _ w1 (tokSl_two n1.out)).mono ?_
    rintro e w2 ⟨rfl, rfl⟩
    rw [hf2]
    go_wp2_with fail
    refine (read_true _ E1.out).mono ?_
    rintro e w2 ⟨rfl, hb⟩
    have HB := Lib.hid hb
    clear hb
    go_wp2
    go_ret
    exact ⟨rfl, B1.out.trans (HB.out.mono s1)⟩
  obtain ⟨hl3, hl4⟩ := few_is hf
  obtain ⟨_, ht4⟩ := few_is hf2
  have HL := Lib.hid hl3
  have HX := Lib.hid hl4
  have HT := Lib.hid (ht4 t (by simp))
  have HU := Lib.hid (ht4 u (by simp))
  have zt := Lib.hid (bs_size t.text)
  have zu := Lib.hid (bs_size u.text)
  clear hl3 hl4 ht4
  go_enter Tryd.func5, Tryd.ntmps5
  go_wp2_with fail
  generalize (w.alloc (.cells #[.int .u8 t.kind, .string (bs t.text), .int .i64 t.line] 38)).alloc (.cells #[.int .u8 u.kind, .string (bs u.text), .int .i64 u.line] 38) = w0 at *
  have s0 := B0.out.size
  refine (few_any l _ w0 T0.out).mono ?_
  rintro e w1 ⟨rfl, rfl⟩
  rw [hf]
  have a0 := k0.out.cell 0
  have a1 := k0.out.cell 1
  have a2 := k0.out.cell 2
  have b0 := j0.out.cell 0
  have b1 := j0.out.cell 1
  have b2 := j0.out.cell 2
  simp only [List.getElem?_toArray, List.getElem?_cons_zero, List.getElem?_cons_succ] at a0 a1 a2 b0 b1 b2
  go_wp2_with fail
  have be := (Below.refl _ w0).alloc (Nat.le_refl _) (.cells #[.int .u8 t.kind, .string (bs t.text), .int .i64 t.line, .int .u8 u.kind, .string (bs u.text), .int .i64 u.line] 38)
  have B1 := Lib.hid (B0.out.trans (be.mono s0))
  have E1 := Lib.hid (E0.out.below be)
  have T1 := Lib.hid (T0.out.below be)
  have k1 := Lib.hid (k0.out.below be k0.out.lt)
  have j1 := Lib.hid (j0.out.below be j0.out.lt)
  have n1 := Lib.hid (Blk.new w0 38 #[.int .u8 t.kind, .string (bs t.text), .int .i64 t.line, .int .u8 u.kind, .string (bs u.text), .int .i64 u.line])
  clear be a0 a1 a2 b0 b1 b2
  generalize w0.alloc (.cells #[.int .u8 t.kind, .string (bs t.text), .int .i64 t.line, .int .u8 u.kind, .string (bs u.text), .int .i64 u.line] 38) = w1 at *
  have s1 := B1.out.size
  refine (few_any [t, u] _ w1 (tokSl_two n1.out)).mono ?_
  rintro e w2 ⟨rfl, rfl⟩
  rw [hf2]
  clear hf hf2 n1
  go_wp2_with fail
  refine (Check_sl l _ w1 E1.out T1.out (by have := HL.out; omega)).mono ?_
  rintro e w2 ⟨rfl, hb⟩
  have B2 := Lib.hid (B1.out.trans (hb.mono s1))
  have E2 := Lib.hid (E1.out.below hb)
  have T2 := Lib.hid (T1.out.below hb)
  have k2 := Lib.hid (k1.out.below hb k1.out.lt)
  have j2 := Lib.hid (j1.out.below hb j1.out.lt)
  have s2 := B2.out.size
  clear hb
  go_wp2_with fail
  refine (refCheck_sl l _ w2 T2.out (by have := HL.out; omega) (fun x hx => by have := HX.out x hx; omega)).mono ?_
  rintro e w3 ⟨rfl, hb⟩
  have B3 := Lib.hid (B2.out.trans (hb.mono s2))
  have E3 := Lib.hid (E2.out.below hb)
  have T3 := Lib.hid (T2.out.below hb)
  have k3 := Lib.hid (k2.out.below hb k2.out.lt)
  have j3 := Lib.hid (j2.out.below hb j2.out.lt)
  have s3 := B3.out.size
  clear hb
  go_wp2_with fail
  refine (Print_sl l _ w3 E3.out T3.out (by have := HL.out; omega) (fun x hx => by have := HX.out x hx; omega)).mono ?_
  rintro e w4 ⟨rfl, hb⟩
  have B4 := Lib.hid (B3.out.trans (hb.mono s3))
  have E4 := Lib.hid (E3.out.below hb)
  have T4 := Lib.hid (T3.out.below hb)
  have k4 := Lib.hid (k3.out.below hb k3.out.lt)
  have j4 := Lib.hid (j3.out.below hb j3.out.lt)
  have s4 := B4.out.size
  clear hb
  go_wp2_with fail
  refine (refPrint_sl l _ w4 T4.out (by have := HL.out; omega) (fun x hx => by have := HX.out x hx; omega)).mono ?_
  rintro e w5 ⟨rfl, hb⟩
  have B5 := Lib.hid (B4.out.trans (hb.mono s4))
  have E5 := Lib.hid (E4.out.below hb)
  have k5 := Lib.hid (k4.out.below hb k4.out.lt)
  have j5 := Lib.hid (j4.out.below hb j4.out.lt)
  have s5 := B5.out.size
  clear hb
  have a0 := k5.out.cell 0
  have a1 := k5.out.cell 1
  have a2 := k5.out.cell 2
  have b0 := j5.out.cell 0
  have b1 := j5.out.cell 1
  have b2 := j5.out.cell 2
  simp only [List.getElem?_toArray, List.getElem?_cons_zero, List.getElem?_cons_succ] at a0 a1 a2 b0 b1 b2
  go_wp2_with fail
  refine (Apart_any t u w5 E5.out (by have := HT.out; have := HU.out; have := zt.out; have := zu.out; omega)).mono ?_
  rintro e w6 ⟨rfl, hb⟩
  have B6 := Lib.hid (B5.out.trans (hb.mono s5))
  have E6 := Lib.hid (E5.out.below hb)
  have k6 := Lib.hid (k5.out.below hb k5.out.lt)
  have j6 := Lib.hid (j5.out.below hb j5.out.lt)
  have s6 := B6.out.size
  clear hb a0 a1 a2 b0 b1 b2
  have a0 := k6.out.cell 0
  have a1 := k6.out.cell 1
  have a2 := k6.out.cell 2
  have b0 := j6.out.cell 0
  have b1 := j6.out.cell 1
  have b2 := j6.out.cell 2
  simp only [List.getElem?_toArray, List.getElem?_cons_zero, List.getElem?_cons_succ] at a0 a1 a2 b0 b1 b2
  go_wp2_with fail
  refine (refApart_any t u w6 (by have := HT.out; omega) (by have := HU.out; omega)).mono ?_
  rintro e w7 ⟨rfl, hb⟩
  have B7 := Lib.hid (B6.out.trans (hb.mono s6))
  have E7 := Lib.hid (E6.out.below hb)
  have s7 := B7.out.size
  clear hb a0 a1 a2 b0 b1 b2
  go_wp2_with fail
  refine (read_true w7 E7.out).mono ?_
  rintro e w8 ⟨rfl, hb⟩
  have B8 := Lib.hid (B7.out.trans (hb.mono s7))
  clear hb
  go_wp2
  go_ret
  exact ⟨rfl, B8.out⟩
end Go.Proofs.YtophcjkfhneghaaDoor
