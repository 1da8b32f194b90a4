/- The laws' check of the chapter's examples. -/
import Derived.Test.YtophcjkfhneghaaDoorZ
namespace Go.Proofs.YtophcjkfhneghaaDoor
open Go Go.RowKit

theorem scan_ok {s : ByteArray} {toks : List Tok} {cs : List (List UInt8)} (h : scanT s = .ok (toks, cs)) (w : World) (he : Env w) :
    Calls Tryd.prog 23 #[.string s] w fun e w' => Below w.heap.size w w' ∧ ∃ vt, e = .returned (.tuple #[vt, .agg #[.int .i64 0, .int .i64 0]]) ∧ w'.ownsRow w.heap.size 38 3 vt toks.length (tokVs toks) := by
  refine (Scan_any s w he).mono ?_
  rintro e w' ⟨hb, ⟨toks', cs', vt, hs, he, ho⟩ | ⟨c, ln, hs, he⟩⟩
  · rw [h] at hs
    injection hs with hs
    injection hs with h1 h2
    subst h1
    exact ⟨hb, vt, he, ho⟩
  · rw [h] at hs; cases hs
theorem scan_bad {s : ByteArray} {c ln : Int} (h : scanT s = .error (c, ln)) (w : World) (he : Env w) :
    Calls Tryd.prog 23 #[.string s] w fun e w' => Below w.heap.size w w' ∧ e = .returned (.tuple #[.slice none 0 0, .agg #[.int .i64 c, .int .i64 ln]]) := by
  refine (Scan_any s w he).mono ?_
  rintro e w' ⟨hb, ⟨toks', cs', vt, hs, he, ho⟩ | ⟨c', ln', hs, he⟩⟩
  · rw [h] at hs; cases hs
  · rw [h] at hs
    injection hs with hs
    injection hs with h1 h2
    subst h1
    subst h2
    exact ⟨hb, he⟩
theorem comments_ok {s : ByteArray} {toks : List Tok} {cs : List (List UInt8)} (h : scanT s = .ok (toks, cs)) (w : World) (he : Env w) :
    Calls Tryd.prog 25 #[.string s] w fun e w' => Below w.heap.size w w' ∧ ∃ vt, e = .returned (.tuple #[vt, .agg #[.int .i64 0, .int .i64 0]]) ∧ w'.ownsRow w.heap.size 9 1 vt cs.length (strVs cs) := by
  refine (Comments_any s w he).mono ?_
  rintro e w' ⟨hb, ⟨toks', cs', vt, hs, he, ho⟩ | ⟨c, ln, hs, he⟩⟩
  · rw [h] at hs
    injection hs with hs
    injection hs with h1 h2
    subst h2
    exact ⟨hb, vt, he, ho⟩
  · rw [h] at hs; cases hs

theorem own_strs {w : World} {base : Nat} {v : Value} {l : List (List UInt8)} (h : w.ownsRow base 9 1 v l.length (strVs l)) (hn : 0 < l.length) : ∃ g cap, v = .slice (some ⟨g, 0, none⟩) l.length cap ∧ base ≤ g ∧ g < w.heap.size ∧ StrRow w g 0 l := by
  rcases h with ⟨h1, ⟨_, h0⟩ | ⟨g, cap, cur, hv, hg, hh, hc, _, hcs, ht⟩⟩
  · omega
  · refine ⟨g, cap, hv, hg, (Array.getElem?_eq_some_iff.1 hh).1, fun i x hi => ?_⟩
    have hil : i < l.length := (List.getElem?_eq_some_iff.1 hi).1
    have e : (strVs l)[i]? = some (.string (bs x)) := by simp [strVs, hi]
    rw [Nat.zero_add, cell_of_row w g i cur 9 (0, 0) hh, ← e, ← ht, List.getElem?_take, if_pos (by omega)]
    simp

theorem name_yes (w : World) (he : Env w) : Calls Tryd.prog 13 #[.string (bs [116, 104, 105, 114, 116, 101, 101, 110])] w fun e w' => e = .returned (.bool true) ∧ w = w' := by
  have h := IsName_any (bs [116, 104, 105, 114, 116, 101, 101, 110]) w he
  rw [ex_name] at h
  exact h
theorem name_no (w : World) (he : Env w) : Calls Tryd.prog 13 #[.string (bs [100, 111])] w fun e w' => e = .returned (.bool false) ∧ w = w' := by
  have h := IsName_any (bs [100, 111]) w he
  rw [ex_noname] at h
  exact h

theorem tight_first_ok (w : World) (he : Env w) : Calls Tryd.prog 35 #[.string firstT] w fun e w' => e = .returned (.tuple #[.string { data := #[120, 58, 61, 97, 91, 49, 50, 93, 101, 110, 100] }, .agg #[.int .i64 0, .int .i64 0]]) ∧ Below w.heap.size w w' := by
  have h := Tight_any firstT w he
  rw [ex_tight] at h
  exact h
theorem print_ok (g cap : Nat) (w : World) (he : Env w) (hr : TokRow w g 0 printToks) (hg : g < w.heap.size) : Calls Tryd.prog 31 #[.slice (some ⟨g, 0, none⟩) 3 cap] w fun e w' => e = .returned (.tuple #[.string { data := #[100, 111, 10, 10, 120, 32, 58, 61, 10] }, .int .i64 0]) ∧ Below w.heap.size w w' := by
  have h := Print_any printToks g 0 cap w he hr hg (by simp [printToks]) (by simp [printToks])
  rw [ex_print] at h
  exact h

set_option maxRecDepth 100000 in
set_option maxHeartbeats 12800000 in
theorem read_true (w : World) (he : Env w) : Calls Tryd.prog 12 #[] w fun e w' => e = .returned (.bool true) ∧ Below w.heap.size w w' := by
  have HE := Lib.hid he
  clear he
  go_enter Tryd.func12, Tryd.ntmps12
  go_wp2_with fail
  refine (scan_ok ex_scan w HE.out).mono ?_
  rintro e w1 ⟨hb, vt, rfl, ho⟩
  obtain ⟨g1, cp1, rfl, hg1, hl1, hr1⟩ := own_toks ho (by simp [firstToks])
  rw [show firstToks.length = 7 from rfl]
  have B1 := Lib.hid hb
  have E1 := Lib.hid (HE.out.below hb)
  have R1 := Lib.hid hr1
  have s1 := hb.size
  clear hb ho hr1
  go_wp2_with fail
  have be := (Below.refl _ w1).alloc (Nat.le_refl _) (.cells #[Value.int .i64 0, Value.int .i64 0] 31)
  have k2 := Lib.hid (Blk.new w1 31 #[Value.int .i64 0, Value.int .i64 0])
  have s1' : w1.heap.size < (w1.alloc (.cells #[Value.int .i64 0, Value.int .i64 0] 31)).heap.size := by simp
  generalize w1.alloc (.cells #[Value.int .i64 0, Value.int .i64 0] 31) = v1 at *
  have B2 := Lib.hid (B1.out.trans (be.mono s1))
  have E2 := Lib.hid (E1.out.below be)
  have R2 := Lib.hid (R1.out.below be hl1)
  clear be
  refine (comments_ok ex_scan v1 E2.out).mono ?_
  rintro e w2 ⟨hb, vt, rfl, ho⟩
  obtain ⟨g3, cp3, rfl, hg3, hl3, hr3⟩ := own_strs ho (by simp [firstComs])
  rw [show firstComs.length = 1 from rfl]
  have B3 := Lib.hid (B2.out.trans (hb.mono (by omega)))
  have E3 := Lib.hid (E2.out.below hb)
  have R3 := Lib.hid (R2.out.below hb (by omega))
  have k3 := Lib.hid (k2.out.below hb s1')
  have C3 := Lib.hid hr3
  have s2 := hb.size
  clear hb ho hr3
  go_wp2_with fail
  have be := (Below.refl _ w2).alloc (Nat.le_refl _) (.cells #[Value.int .i64 0, Value.int .i64 0] 31)
  have j4 := Lib.hid (Blk.new w2 31 #[Value.int .i64 0, Value.int .i64 0])
  have s2' : w2.heap.size < (w2.alloc (.cells #[Value.int .i64 0, Value.int .i64 0] 31)).heap.size := by simp
  generalize w2.alloc (.cells #[Value.int .i64 0, Value.int .i64 0] 31) = v2 at *
  have B4 := Lib.hid (B3.out.trans (be.mono (by omega)))
  have E4 := Lib.hid (E3.out.below be)
  have R4 := Lib.hid (R3.out.below be (by omega))
  have k4 := Lib.hid (k3.out.below be (by omega))
  have C4 := Lib.hid (C3.out.below be hl3)
  clear be
  refine (tight_first_ok v2 E4.out).mono ?_
  rintro e w3 ⟨rfl, hb⟩
  have B5 := Lib.hid (B4.out.trans (hb.mono (by omega)))
  have E5 := Lib.hid (E4.out.below hb)
  have R5 := Lib.hid (R4.out.below hb (by omega))
  have k5 := Lib.hid (k4.out.below hb (by omega))
  have C5 := Lib.hid (C4.out.below hb (by omega))
  have j5 := Lib.hid (j4.out.below hb s2')
  have s3 := hb.size
  clear hb
  go_wp2_with fail
  have be := (Below.refl _ w3).alloc (Nat.le_refl _) (.cells #[Value.int .i64 0, Value.int .i64 0] 31)
  have i6 := Lib.hid (Blk.new w3 31 #[Value.int .i64 0, Value.int .i64 0])
  have s3' : (w3.alloc (.cells #[Value.int .i64 0, Value.int .i64 0] 31)).heap.size = w3.heap.size + 1 := by simp
  generalize w3.alloc (.cells #[Value.int .i64 0, Value.int .i64 0] 31) = v3 at *
  have be2 := be.alloc (by omega) (.cells #[Value.int .u8 2, Value.string { data := #[100, 111] }, Value.int .i64 1, Value.int .u8 1, Value.string { data := #[120] }, Value.int .i64 3, Value.int .u8 4, Value.string { data := #[58, 61] }, Value.int .i64 3] 38)
  have row : TokRow (v3.alloc (.cells #[Value.int .u8 2, Value.string { data := #[100, 111] }, Value.int .i64 1, Value.int .u8 1, Value.string { data := #[120] }, Value.int .i64 3, Value.int .u8 4, Value.string { data := #[58, 61] }, Value.int .i64 3] 38)) (w3.heap.size + 1) 0 printToks := by
    refine row_of_block (t := 38) ?_
    rw [← s3']
    exact (heap_alloc_new v3 _).trans rfl
  have i7 := Lib.hid (i6.out.alloc (.cells #[Value.int .u8 2, Value.string { data := #[100, 111] }, Value.int .i64 1, Value.int .u8 1, Value.string { data := #[120] }, Value.int .i64 3, Value.int .u8 4, Value.string { data := #[58, 61] }, Value.int .i64 3] 38))
  have s3'' : w3.heap.size + 1 < (v3.alloc (.cells #[Value.int .u8 2, Value.string { data := #[100, 111] }, Value.int .i64 1, Value.int .u8 1, Value.string { data := #[120] }, Value.int .i64 3, Value.int .u8 4, Value.string { data := #[58, 61] }, Value.int .i64 3] 38)).heap.size := by simp; omega
  generalize v3.alloc (.cells #[Value.int .u8 2, Value.string { data := #[100, 111] }, Value.int .i64 1, Value.int .u8 1, Value.string { data := #[120] }, Value.int .i64 3, Value.int .u8 4, Value.string { data := #[58, 61] }, Value.int .i64 3] 38) = v4 at *
  have B6 := Lib.hid (B5.out.trans (be2.mono (by omega)))
  have E6 := Lib.hid (E5.out.below be2)
  have R6 := Lib.hid (R5.out.below be2 (by omega))
  have k6 := Lib.hid (k5.out.below be2 (by omega))
  have C6 := Lib.hid (C5.out.below be2 (by omega))
  have j6 := Lib.hid (j5.out.below be2 (by omega))
  clear be be2
  refine (print_ok (w3.heap.size + 1) 3 v4 E6.out row s3'').mono ?_
  rintro e w4 ⟨rfl, hb⟩
  have B7 := Lib.hid (B6.out.trans (hb.mono (by omega)))
  have E7 := Lib.hid (E6.out.below hb)
  have R7 := Lib.hid (R6.out.below hb (by omega))
  have k7 := Lib.hid (k6.out.below hb (by omega))
  have C7 := Lib.hid (C6.out.below hb (by omega))
  have j7 := Lib.hid (j6.out.below hb (by omega))
  have i8 := Lib.hid (i7.out.below hb (by omega))
  have s4 := hb.size
  clear hb row
  go_wp2_with fail
  refine (scan_bad ex_bad w4 E7.out).mono ?_
  rintro e w5 ⟨hb, rfl⟩
  have B8 := Lib.hid (B7.out.trans (hb.mono (by omega)))
  have E8 := Lib.hid (E7.out.below hb)
  have R8 := Lib.hid (R7.out.below hb (by omega))
  have k8 := Lib.hid (k7.out.below hb (by omega))
  have C8 := Lib.hid (C7.out.below hb (by omega))
  have j8 := Lib.hid (j7.out.below hb (by omega))
  have i9 := Lib.hid (i8.out.below hb (by omega))
  have s5 := hb.size
  clear hb
  have be := (Below.refl _ w5).alloc (Nat.le_refl _) (.cells #[Value.int .i64 11, Value.int .i64 2] 31)
  have be2 := be.alloc (by simp) (.cells #[Value.int .i64 0, Value.int .i64 0] 31)
  have f1 := Lib.hid ((Blk.new w5 31 #[Value.int .i64 11, Value.int .i64 2]).alloc (.cells #[Value.int .i64 0, Value.int .i64 0] 31))
  have f2 : Hid (Blk ((w5.alloc (.cells #[Value.int .i64 11, Value.int .i64 2] 31)).alloc (.cells #[Value.int .i64 0, Value.int .i64 0] 31)) (w5.heap.size + 1) 31 #[Value.int .i64 0, Value.int .i64 0]) := by
    have h := Blk.new (w5.alloc (.cells #[Value.int .i64 11, Value.int .i64 2] 31)) 31 #[Value.int .i64 0, Value.int .i64 0]
    rw [World.size_alloc] at h
    exact Lib.hid h
  have B9 := Lib.hid (B8.out.trans (be2.mono (by omega)))
  have E9 := Lib.hid (E8.out.below be2)
  have R9 := R8.out.below be2 (by omega)
  have k9 := k8.out.below be2 (by omega)
  have C9 := C8.out.below be2 (by omega)
  have j9 := j8.out.below be2 (by omega)
  have i9' := i9.out.below be2 (by omega)
  clear be be2
  have t0 : ((w5.alloc (.cells #[Value.int .i64 11, Value.int .i64 2] 31)).alloc (.cells #[Value.int .i64 0, Value.int .i64 0] 31)).cell? ⟨g1, 0, none⟩ = some (.int .u8 1) := (R9 0 _ rfl).1
  have t1 : ((w5.alloc (.cells #[Value.int .i64 11, Value.int .i64 2] 31)).alloc (.cells #[Value.int .i64 0, Value.int .i64 0] 31)).cell? ⟨g1, 1, none⟩ = some (.string { data := #[120] }) := (R9 0 _ rfl).2.1
  have t2 : ((w5.alloc (.cells #[Value.int .i64 11, Value.int .i64 2] 31)).alloc (.cells #[Value.int .i64 0, Value.int .i64 0] 31)).cell? ⟨g1, 2, none⟩ = some (.int .i64 1) := (R9 0 _ rfl).2.2
  have u0 : ((w5.alloc (.cells #[Value.int .i64 11, Value.int .i64 2] 31)).alloc (.cells #[Value.int .i64 0, Value.int .i64 0] 31)).cell? ⟨g1, 18, none⟩ = some (.int .u8 2) := (R9 6 _ rfl).1
  have u1 : ((w5.alloc (.cells #[Value.int .i64 11, Value.int .i64 2] 31)).alloc (.cells #[Value.int .i64 0, Value.int .i64 0] 31)).cell? ⟨g1, 19, none⟩ = some (.string { data := #[101, 110, 100] }) := (R9 6 _ rfl).2.1
  have u2 : ((w5.alloc (.cells #[Value.int .i64 11, Value.int .i64 2] 31)).alloc (.cells #[Value.int .i64 0, Value.int .i64 0] 31)).cell? ⟨g1, 20, none⟩ = some (.int .i64 2) := (R9 6 _ rfl).2.2
  have x0 : ((w5.alloc (.cells #[Value.int .i64 11, Value.int .i64 2] 31)).alloc (.cells #[Value.int .i64 0, Value.int .i64 0] 31)).cell? ⟨g3, 0, none⟩ = some (.string { data := #[37, 32, 102, 105, 114, 115, 116] }) := C9 0 _ rfl
  have k0 := k9.cell 0
  have k1 := k9.cell 1
  have j0 := j9.cell 0
  have j1 := j9.cell 1
  have i0 := i9'.cell 0
  have i1 := i9'.cell 1
  have y0 := f1.out.cell 0
  have y1 := f1.out.cell 1
  have z0 := f2.out.cell 0
  have z1 := f2.out.cell 1
  simp only [List.getElem?_toArray, List.getElem?_cons_zero, List.getElem?_cons_succ] at k0 k1 j0 j1 i0 i1 y0 y1 z0 z1
  clear R9 k9 C9 j9 i9'
  go_wp2_with fail
  refine (name_yes _ E9.out).mono ?_
  rintro e w6 ⟨rfl, rfl⟩
  go_wp2_with fail
  refine (name_no _ E9.out).mono ?_
  rintro e w7 ⟨rfl, rfl⟩
  go_wp2
  go_ret
  exact ⟨rfl, B9.out⟩
end Go.Proofs.YtophcjkfhneghaaDoor
