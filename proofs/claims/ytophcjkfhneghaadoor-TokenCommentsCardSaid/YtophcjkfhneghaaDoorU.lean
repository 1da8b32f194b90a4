/- The contracts of package token's isToken, apart, Apart. -/
import Derived.Test.YtophcjkfhneghaaDoorT
namespace Go.Proofs.YtophcjkfhneghaaDoor
open Go Go.RowKit

/-- A text's token is this one. -/
def isTokB (t : Tok) : Bool := readsB (bs t.text) [t]
/-- Two tokens need something between them. -/
def apartB (a b : Tok) : Bool := !readsB (bs a.text ++ bs b.text) [a, b]

theorem row_of_block {w : World} {g t : Nat} {l : List Tok} (h : w.heap[g]? = some (.cells (tokVs l).toArray t (0, 0))) : TokRow w g 0 l := by
  intro i x hi
  have key : ∀ j, j < 3 → w.cell? ⟨g, i * 3 + j, none⟩ = (tokCells x)[j]? := by
    intro j hj
    rw [cell_of_row w g (i * 3 + j) _ t (0, 0) h, ← tokVs_at l i x hi j hj]
    simp
  rw [Nat.zero_add]
  exact ⟨key 0 (by omega), key 1 (by omega), key 2 (by omega)⟩

set_option maxRecDepth 100000 in
set_option maxHeartbeats 1000000 in
theorem isToken_any (m : Nat) (t : Tok) (w : World) (he : Env w) (hx : Lex w m) :
    Calls Tryd.prog 46 #[.map (some m), .agg #[.int .u8 t.kind, .string (bs t.text), .int .i64 t.line]] w fun e w' => e = .returned (.bool (isTokB t)) ∧ Below w.heap.size w w' := by
  have be1 := (Below.refl _ w).alloc (Nat.le_refl _) (.cells #[.int .u8 t.kind, .string (bs t.text), .int .i64 t.line] 38)
  have be2 := be1.alloc (by simp) (.cells #[.int .u8 t.kind, .string (bs t.text), .int .i64 t.line] 38)
  have HE := Lib.hid (he.below be2)
  have HX := Lib.hid (hx.below be2 hx.lt)
  have HB := Lib.hid be2
  clear he hx be1 be2
  go_enter Tryd.func46, Tryd.ntmps46
  go_wp2_with fail
  have HR : TokRow ((w.alloc (.cells #[.int .u8 t.kind, .string (bs t.text), .int .i64 t.line] 38)).alloc (.cells #[.int .u8 t.kind, .string (bs t.text), .int .i64 t.line] 38)) (w.heap.size + 1) 0 [t] :=
    row_of_block (t := 38) (by have := heap_alloc_new (w.alloc (.cells #[.int .u8 t.kind, .string (bs t.text), .int .i64 t.line] 38)) (.cells #[.int .u8 t.kind, .string (bs t.text), .int .i64 t.line] 38); rwa [World.size_alloc] at this)
  refine (readsAs_any m (bs t.text) [t] _ 0 1 _ HE.out HX.out HR (by simp) (by simp) (by simp)).mono ?_
  rintro e w' ⟨rfl, hb⟩
  have HB2 := Lib.hid (HB.out.trans (hb.mono HB.out.size))
  clear hb HR
  go_wp2
  go_ret
  exact ⟨rfl, HB2.out⟩

set_option maxRecDepth 100000 in
set_option maxHeartbeats 1000000 in
theorem apart_any (m : Nat) (t u : Tok) (w : World) (he : Env w) (hx : Lex w m) (hsz : (bs t.text).size + (bs u.text).size ≤ 4611686018427387904) :
    Calls Tryd.prog 48 #[.map (some m), .agg #[.int .u8 t.kind, .string (bs t.text), .int .i64 t.line], .agg #[.int .u8 u.kind, .string (bs u.text), .int .i64 u.line]] w fun e w' => e = .returned (.bool (apartB t u)) ∧ Below w.heap.size w w' := by
  have be := (((Below.refl _ w).alloc (Nat.le_refl _) (.cells #[.int .u8 t.kind, .string (bs t.text), .int .i64 t.line] 38)).alloc (by simp) (.cells #[.int .u8 u.kind, .string (bs u.text), .int .i64 u.line] 38)).alloc (by simp <;> omega)
    (.cells #[.int .u8 t.kind, .string (bs t.text), .int .i64 t.line, .int .u8 u.kind, .string (bs u.text), .int .i64 u.line] 38)
  have HE := Lib.hid (he.below be)
  have HX := Lib.hid (hx.below be hx.lt)
  have HB := Lib.hid be
  have hs2 : ¬ 9223372036854775807 < (bs t.text).size + (bs u.text).size := by omega
  clear he hx be
  go_enter Tryd.func48, Tryd.ntmps48
  go_wp2_with fail
  have HR : TokRow (((w.alloc (.cells #[.int .u8 t.kind, .string (bs t.text), .int .i64 t.line] 38)).alloc (.cells #[.int .u8 u.kind, .string (bs u.text), .int .i64 u.line] 38)).alloc
      (.cells #[.int .u8 t.kind, .string (bs t.text), .int .i64 t.line, .int .u8 u.kind, .string (bs u.text), .int .i64 u.line] 38)) (w.heap.size + 1 + 1) 0 [t, u] :=
    row_of_block (t := 38) (by
      have := heap_alloc_new ((w.alloc (.cells #[.int .u8 t.kind, .string (bs t.text), .int .i64 t.line] 38)).alloc (.cells #[.int .u8 u.kind, .string (bs u.text), .int .i64 u.line] 38)) (.cells #[.int .u8 t.kind, .string (bs t.text), .int .i64 t.line, .int .u8 u.kind, .string (bs u.text), .int .i64 u.line] 38)
      rwa [World.size_alloc, World.size_alloc] at this)
  refine (readsAs_any m (bs t.text ++ bs u.text) [t, u] _ 0 2 _ HE.out HX.out HR (by simp <;> omega) (by simp) (by simp)).mono ?_
  rintro e w' ⟨rfl, hb⟩
  have HB2 := Lib.hid (HB.out.trans (hb.mono HB.out.size))
  clear hb HR
  go_wp2
  go_ret
  exact ⟨rfl, HB2.out⟩

/-- What Apart answers. -/
def apartR (t u : Tok) : Bool × Int := if isTokB t && isTokB u then (apartB t u, 0) else (false, 1)

set_option maxRecDepth 100000 in
set_option maxHeartbeats 1000000 in
theorem Apart_any (t u : Tok) (w : World) (he : Env w) (hsz : (bs t.text).size + (bs u.text).size ≤ 4611686018427387904) :
    Calls Tryd.prog 33 #[.agg #[.int .u8 t.kind, .string (bs t.text), .int .i64 t.line], .agg #[.int .u8 u.kind, .string (bs u.text), .int .i64 u.line]] w fun e w' => e = .returned (.tuple #[.bool (apartR t u).1, .int .i64 (apartR t u).2]) ∧ Below w.heap.size w w' := by
  have be := ((Below.refl _ w).alloc (Nat.le_refl _) (.cells #[.int .u8 t.kind, .string (bs t.text), .int .i64 t.line] 38)).alloc (by simp) (.cells #[.int .u8 u.kind, .string (bs u.text), .int .i64 u.line] 38)
  have HE := Lib.hid (he.below be)
  have HB := Lib.hid be
  have k1 := Lib.hid ((Blk.new w 38 #[.int .u8 t.kind, .string (bs t.text), .int .i64 t.line]).alloc (.cells #[.int .u8 u.kind, .string (bs u.text), .int .i64 u.line] 38))
  have k2 : Hid (Blk ((w.alloc (.cells #[.int .u8 t.kind, .string (bs t.text), .int .i64 t.line] 38)).alloc (.cells #[.int .u8 u.kind, .string (bs u.text), .int .i64 u.line] 38)) (w.heap.size + 1) 38 #[.int .u8 u.kind, .string (bs u.text), .int .i64 u.line]) := by
    have := Blk.new (w.alloc (.cells #[.int .u8 t.kind, .string (bs t.text), .int .i64 t.line] 38)) 38 #[.int .u8 u.kind, .string (bs u.text), .int .i64 u.line]
    rwa [World.size_alloc] at this
  have HSZ := Lib.hid hsz
  clear he be hsz
  go_enter Tryd.func33, Tryd.ntmps33
  go_wp2_with fail
  generalize (w.alloc (.cells #[.int .u8 t.kind, .string (bs t.text), .int .i64 t.line] 38)).alloc (.cells #[.int .u8 u.kind, .string (bs u.text), .int .i64 u.line] 38) = w0 at *
  have lt0 : w.heap.size < w0.heap.size := k1.out.lt
  have lt1 : w.heap.size + 1 < w0.heap.size := k2.out.lt
  refine (newLexicon_any w0 HE.out).mono ?_
  rintro e w1 ⟨m, rfl, hx, hm, hb⟩
  have HX := Lib.hid hx
  have HB1 := Lib.hid (HB.out.trans (hb.mono (Nat.le_of_lt lt0)))
  have HE1 := Lib.hid (HE.out.below hb)
  have s1 := hb.size
  have p1 := Lib.hid (k1.out.below hb lt0)
  have p2 := Lib.hid (k2.out.below hb lt1)
  clear hx hb
  have a0 := p1.out.cell 0
  have a1 := p1.out.cell 1
  have a2 := p1.out.cell 2
  simp only [List.getElem?_toArray, List.getElem?_cons_zero, List.getElem?_cons_succ] at a0 a1 a2
  cases q1 : isTokB t
  · go_wp2_with fail
    refine (isToken_any m t w1 HE1.out HX.out).mono ?_
    rintro e w2 ⟨rfl, hb⟩
    have HB2 := Lib.hid (HB1.out.trans (hb.mono (by omega)))
    clear hb a0 a1 a2
    rw [q1]
    go_wp2
    go_ret2
    exact ⟨by simp [apartR, q1], HB2.out⟩
  · go_wp2_with fail
    refine (isToken_any m t w1 HE1.out HX.out).mono ?_
    rintro e w2 ⟨rfl, hb⟩
    have HB2 := Lib.hid (HB1.out.trans (hb.mono (by omega)))
    have HE2 := Lib.hid (HE1.out.below hb)
    have HX2 := Lib.hid (HX.out.below hb HX.out.lt)
    have s2 := hb.size
    have r1 := Lib.hid (p1.out.below hb (by omega))
    have r2 := Lib.hid (p2.out.below hb (by omega))
    clear hb a0 a1 a2
    have a0 := r2.out.cell 0
    have a1 := r2.out.cell 1
    have a2 := r2.out.cell 2
    simp only [List.getElem?_toArray, List.getElem?_cons_zero, List.getElem?_cons_succ] at a0 a1 a2
    rw [q1]
    cases q2 : isTokB u
    · go_wp2_with fail
      refine (isToken_any m u w2 HE2.out HX2.out).mono ?_
      rintro e w3 ⟨rfl, hb⟩
      have HB3 := Lib.hid (HB2.out.trans (hb.mono (by omega)))
      clear hb a0 a1 a2
      rw [q2]
      go_wp2
      go_ret2
      exact ⟨by simp [apartR, q2], HB3.out⟩
    · go_wp2_with fail
      refine (isToken_any m u w2 HE2.out HX2.out).mono ?_
      rintro e w3 ⟨rfl, hb⟩
      have HB3 := Lib.hid (HB2.out.trans (hb.mono (by omega)))
      have HE3 := Lib.hid (HE2.out.below hb)
      have HX3 := Lib.hid (HX2.out.below hb HX2.out.lt)
      have s3 := hb.size
      have v1 := Lib.hid (r1.out.below hb (by omega))
      have v2 := Lib.hid (r2.out.below hb (by omega))
      clear hb a0 a1 a2
      have a0 := v1.out.cell 0
      have a1 := v1.out.cell 1
      have a2 := v1.out.cell 2
      have b0 := v2.out.cell 0
      have b1 := v2.out.cell 1
      have b2 := v2.out.cell 2
      simp only [List.getElem?_toArray, List.getElem?_cons_zero, List.getElem?_cons_succ] at a0 a1 a2 b0 b1 b2
      rw [q2]
      go_wp2_with fail
      refine (apart_any m t u w3 HE3.out HX3.out HSZ.out).mono ?_
      rintro e w4 ⟨rfl, hb⟩
      have HB4 := Lib.hid (HB3.out.trans (hb.mono (by omega)))
      clear hb a0 a1 a2 b0 b1 b2
      go_wp2
      go_ret2
      exact ⟨by simp [apartR, q1, q2], HB4.out⟩
end Go.Proofs.YtophcjkfhneghaaDoor
