/- kept: the chapter's examples. -/
import Derived.Test.YthcoppfdffhjfaaGreatDoorWa
import Derived.Test.YthcoppfdffhjfaaGreatDoorRp
namespace Go.Proofs.YthcoppfdffhjfaaGreatDoor
open Go Go.RowKit

def x1 : Bys := [114, 101, 99, 111, 114, 100, 91, 97, 58, 63, 116, 44, 98, 58, 97, 114, 114, 97, 121, 91, 63, 116, 93, 93]
def x2 : Bys := [115, 101, 116, 91, 105, 110, 116, 93]
def x3 : Bys := [114, 101, 99, 111, 114, 100, 91, 97, 58, 115, 101, 116, 91, 105, 110, 116, 93, 44, 98, 58, 97, 114, 114, 97, 121, 91, 115, 101, 116, 91, 105, 110, 116, 93, 93, 93]
def x4 : Bys := [97, 114, 114, 97, 121, 91, 63, 116, 93]
def x5 : Bys := [97, 114, 114, 97, 121, 91, 115, 101, 116, 91, 105, 110, 116, 93, 93]
def x6 : Bys := [114, 101, 99, 111, 114, 100, 91, 97, 58, 97, 114, 114, 97, 121, 91, 105, 110, 116, 93, 44, 98, 58, 105, 110, 116, 93]
def x7 : Bys := [97, 114, 114, 97, 121, 91, 105, 110, 116, 93]
def x8 : Bys := [105, 110, 116]
def x9 : Bys := [115, 101, 116, 91, 109, 97, 112, 91, 63, 116, 93, 93]
def xMap : Bys := [109, 97, 112]
def xSet : Bys := [115, 101, 116]
def xA : Bys := [97]
def xB : Bys := [98]
def xR : Bys := [114, 101, 99, 111, 114, 100, 91, 97, 58, 63, 116, 44, 98, 58, 105, 110, 116, 93]
def xS : Bys := [115, 101, 116, 91, 63, 116, 93]
def xI : Bys := [105, 110, 116, 91, 105, 110, 116, 93]

theorem kept_with : withT x1 x2 = (x3, 0) := by decide +kernel
theorem kept_match : matchT x4 x5 = (x2, true, 0) := matchT_some (by decide +kernel) (by decide +kernel) (by decide +kernel) (by decide +kernel) (by decide +kernel)
theorem kept_inside : insideT x6 = ([x6, x7, x8], 0) := by decide +kernel
theorem kept_names : namesT x9 = ([xMap, xSet], 0) := by decide +kernel
theorem kept_made : madeT false [(xB, x8), (xA, qt)] = (xR, 0) := by decide +kernel
theorem kept_kind : kindT xS = (7, 0) := by decide +kernel
theorem kept_chk : chk xI = 4 := by decide +kernel

theorem strRow_block {w : World} {g : Nat} {l : List Bys} (h : w.heap[g]? = some (.cells (strVs l).toArray 9 (0, 0))) : StrRow w g 0 l := by
  intro i x hi
  rw [cell_of_row w g (0 + i) _ 9 (0, 0) h]
  simp only [Nat.zero_add, List.getElem?_toArray, strVs, List.getElem?_map, hi]
  rfl
theorem stv_block {w : World} {g cap : Nat} {l : List Bys} (h : w.heap[g]? = some (.cells (strVs l).toArray 9 (0, 0))) : StV w (.slice (some ⟨g, 0, none⟩) l.length cap) l :=
  .inr ⟨g, 0, cap, rfl, (Array.getElem?_eq_some_iff.1 h).1, strRow_block h⟩

theorem ptv_two {w : World} {g cap : Nat} {p q : Bys × Bys} (h : Blk w g 42 #[.string (bs p.1), .string (bs p.2), .string (bs q.1), .string (bs q.2)]) (hc : 2 ≤ cap) : PtV w (.slice (some ⟨g, 0, none⟩) 2 cap) [p, q] := by
  refine .inr ⟨g, 0, cap, rfl, h.lt, fun i x hi => ?_, by simp, hc⟩
  have c0 := h.cell 0
  have c1 := h.cell 1
  have c2 := h.cell 2
  have c3 := h.cell 3
  simp only [List.getElem?_toArray, List.getElem?_cons_zero, List.getElem?_cons_succ] at c0 c1 c2 c3
  match i, hi with
  | 0, hi => simp at hi; subst hi; exact ⟨c0, c1⟩
  | 1, hi => simp at hi; subst hi; exact ⟨c2, c3⟩

set_option maxRecDepth 100000 in
set_option maxHeartbeats 6400000 in
/-- kept of the laws. -/
theorem kept_any (w : World) (he : Env w) : Calls Tryz.prog 14 #[] w fun e w' => e = .returned (.bool true) ∧ Below w.heap.size w w' := by
  have HE := Lib.hid he
  clear he
  have t_x3 : (bs x3).toList = [114, 101, 99, 111, 114, 100, 91, 97, 58, 115, 101, 116, 91, 105, 110, 116, 93, 44, 98, 58, 97, 114, 114, 97, 121, 91, 115, 101, 116, 91, 105, 110, 116, 93, 93, 93] := by rw [ByteArray.toList_eq, bs_data]; rfl
  have t_x2 : (bs x2).toList = [115, 101, 116, 91, 105, 110, 116, 93] := by rw [ByteArray.toList_eq, bs_data]; rfl
  have t_xR : (bs xR).toList = [114, 101, 99, 111, 114, 100, 91, 97, 58, 63, 116, 44, 98, 58, 105, 110, 116, 93] := by rw [ByteArray.toList_eq, bs_data]; rfl
  go_enter Tryz.func14, Tryz.ntmps14
  go_wp2_with fail
  refine (With_any x1 x2 w HE.out).mono ?_
  rintro e w1 ⟨rfl, hb⟩
  rw [kept_with]
  have B1 := Lib.hid hb
  have E1 := Lib.hid (HE.out.below hb)
  clear hb
  go_wp2_with fail
  refine (Match_any x4 x5 w1 E1.out).mono ?_
  rintro e w2 ⟨rfl, hb⟩
  rw [kept_match]
  have B2 := Lib.hid (B1.out.trans (hb.mono B1.out.size))
  have E2 := Lib.hid (E1.out.below hb)
  clear hb
  go_wp2_with fail
  refine (Inside_any x6 w2 E2.out).mono ?_
  rintro e w3 ⟨v3, rfl, hv, hb⟩
  rw [kept_inside] at hv ⊢
  have hv3 := stV_own hv
  obtain ⟨a3, c3, rfl⟩ := hv3.slice
  have V3 := Lib.hid hv3
  have B3 := Lib.hid (B2.out.trans (hb.mono B2.out.size))
  have E3 := Lib.hid (E2.out.below hb)
  clear hb hv hv3
  go_wp2_with fail
  refine (Names_any x9 w3 E3.out).mono ?_
  rintro e w4 ⟨v4, rfl, hv, hb⟩
  rw [kept_names] at hv ⊢
  obtain ⟨a4, c4, rfl⟩ := hv.slice
  have V3 := Lib.hid (V3.out.keep hb)
  have V4 := Lib.hid hv
  have B4 := Lib.hid (B3.out.trans (hb.mono B3.out.size))
  have E4 := Lib.hid (E3.out.below hb)
  clear hb hv
  have hb5 : Below w4.heap.size w4 (w4.alloc (.cells #[.string (bs xB), .string (bs x8), .string (bs xA), .string (bs qt)] 42)) := (Below.refl _ _).alloc (Nat.le_refl _) _
  have B5 := Lib.hid (B4.out.trans (hb5.mono B4.out.size))
  have E5 := Lib.hid (E4.out.below hb5)
  have V3 := Lib.hid (V3.out.keep hb5)
  have V4 := Lib.hid (V4.out.keep hb5)
  have P5 := Lib.hid (ptv_two (p := (xB, x8)) (q := (xA, qt)) (cap := 2) (Blk.new w4 42 #[.string (bs xB), .string (bs x8), .string (bs xA), .string (bs qt)]) (Nat.le_refl _))
  clear hb5
  go_wp2_with fail
  refine (Record_any [(xB, x8), (xA, qt)] _ _ E5.out (by decide) (by decide) P5.out).mono ?_
  rintro e w6 ⟨rfl, hb⟩
  rw [kept_made]
  have V3 := Lib.hid (V3.out.keep hb)
  have V4 := Lib.hid (V4.out.keep hb)
  have B6 := Lib.hid (B5.out.trans (hb.mono B5.out.size))
  have E6 := Lib.hid (E5.out.below hb)
  clear hb
  go_wp2_with fail
  refine (Kind_any xS w6 E6.out).mono ?_
  rintro e w7 ⟨rfl, hb⟩
  rw [kept_kind]
  have V3 := Lib.hid (V3.out.keep hb)
  have V4 := Lib.hid (V4.out.keep hb)
  have B7 := Lib.hid (B6.out.trans (hb.mono B6.out.size))
  have E7 := Lib.hid (E6.out.below hb)
  have hb8 : Below w7.heap.size w7 (w7.alloc (.cells #[.string (bs x6), .string (bs x7), .string (bs x8)] 9)) := (Below.refl _ _).alloc (Nat.le_refl _) _
  have V3 := Lib.hid (V3.out.keep hb8)
  have V4 := Lib.hid (V4.out.keep hb8)
  have B8 := Lib.hid (B7.out.trans (hb8.mono B7.out.size))
  have E8 := Lib.hid (E7.out.below hb8)
  have V8 := Lib.hid (stv_block (w := w7.alloc (.cells #[.string (bs x6), .string (bs x7), .string (bs x8)] 9)) (cap := 3) (l := [x6, x7, x8]) (heap_alloc_new w7 _))
  clear hb hb8
  go_wp2_with fail
  refine (same_any [x6, x7, x8] [x6, x7, x8] _ _ _ V3.out V8.out (by decide) (by decide)).mono ?_
  rintro e w9 ⟨rfl, n9, rfl⟩
  rw [decide_eq_true (rfl : ([x6, x7, x8] : List Bys) = [x6, x7, x8])]
  have B9 : Hid (Below w.heap.size w ((w7.alloc (.cells #[.string (bs x6), .string (bs x7), .string (bs x8)] 9)).drewN n9)) := Lib.hid ⟨B8.out.os, B8.out.tape, B8.out.output, B8.out.size, B8.out.block⟩
  have E9 : Hid (Env ((w7.alloc (.cells #[.string (bs x6), .string (bs x7), .string (bs x8)] 9)).drewN n9)) := Lib.hid (E8.out.drewN n9)
  have V9 : Hid (StV ((w7.alloc (.cells #[.string (bs x6), .string (bs x7), .string (bs x8)] 9)).drewN n9) (.slice a4 [xMap, xSet].length c4) [xMap, xSet]) := Lib.hid (V4.out.keep ⟨rfl, rfl, rfl, Nat.le_refl _, fun _ _ => rfl⟩)
  have hw9 : ∃ w9, ((w7.alloc (.cells #[.string (bs x6), .string (bs x7), .string (bs x8)] 9)).drewN n9) = w9 := ⟨_, rfl⟩
  obtain ⟨w9, hw9⟩ := hw9
  rw [hw9] at B9 E9 V9 ⊢
  clear hw9
  have hb10 : Below w9.heap.size w9 (w9.alloc (.cells #[.string (bs xMap), .string (bs xSet)] 9)) := (Below.refl _ _).alloc (Nat.le_refl _) _
  have V10 := Lib.hid (V9.out.keep hb10)
  have B10 := Lib.hid (B9.out.trans (hb10.mono B9.out.size))
  have E10 := Lib.hid (E9.out.below hb10)
  have V11 := Lib.hid (stv_block (w := w9.alloc (.cells #[.string (bs xMap), .string (bs xSet)] 9)) (cap := 2) (l := [xMap, xSet]) (heap_alloc_new w9 _))
  clear hb10
  go_wp2_with fail
  refine (same_any [xMap, xSet] [xMap, xSet] _ _ _ V10.out V11.out (by decide) (by decide)).mono ?_
  rintro e w12 ⟨rfl, n12, rfl⟩
  rw [decide_eq_true (rfl : ([xMap, xSet] : List Bys) = [xMap, xSet])]
  have B12 : Hid (Below w.heap.size w ((w9.alloc (.cells #[.string (bs xMap), .string (bs xSet)] 9)).drewN n12)) := Lib.hid ⟨B10.out.os, B10.out.tape, B10.out.output, B10.out.size, B10.out.block⟩
  have E12 : Hid (Env ((w9.alloc (.cells #[.string (bs xMap), .string (bs xSet)] 9)).drewN n12)) := Lib.hid (E10.out.drewN n12)
  have hw12 : ∃ w12, ((w9.alloc (.cells #[.string (bs xMap), .string (bs xSet)] 9)).drewN n12) = w12 := ⟨_, rfl⟩
  obtain ⟨w12, hw12⟩ := hw12
  rw [hw12] at B12 E12 ⊢
  clear hw12
  go_wp2_with fail
  refine (Check_any xI w12 E12.out).mono ?_
  rintro e w13 ⟨rfl, hb⟩
  rw [kept_chk]
  have B13 := Lib.hid (B12.out.trans (hb.mono B12.out.size))
  clear hb
  go_wp2
  go_ret
  exact ⟨rfl, B13.out⟩
end Go.Proofs.YthcoppfdffhjfaaGreatDoor
