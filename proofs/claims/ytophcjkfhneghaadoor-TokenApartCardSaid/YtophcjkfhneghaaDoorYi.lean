/- The law TokenScans answers true: the walk. -/
import Derived.Test.YtophcjkfhneghaaDoorYh
namespace Go.Proofs.YtophcjkfhneghaaDoor
open Go Go.RowKit

/-- What a text is read as: its tokens, its comments, its fault. -/
def stoks (s : ByteArray) : List Tok := match scanT s with | .ok (t, _) => t | .error _ => []
def scoms (s : ByteArray) : List (List UInt8) := match scanT s with | .ok (_, c) => c | .error _ => []
def sflt (s : ByteArray) : Int × Int := match scanT s with | .ok _ => (0, 0) | .error e => e

def ScanOut (s : ByteArray) (w : World) (e : Ending) (w' : World) : Prop :=
  Below w.heap.size w w' ∧ ∃ ao cap, e = .returned (.tuple #[.slice ao (stoks s).length cap, .agg #[.int .i64 (sflt s).1, .int .i64 (sflt s).2]]) ∧ TokSl w' (.slice ao (stoks s).length cap) (stoks s)
def ComsOut (s : ByteArray) (w : World) (e : Ending) (w' : World) : Prop :=
  Below w.heap.size w w' ∧ ∃ ao cap, e = .returned (.tuple #[.slice ao (scoms s).length cap, .agg #[.int .i64 (sflt s).1, .int .i64 (sflt s).2]]) ∧ StrSl w' (.slice ao (scoms s).length cap) (scoms s)

theorem scanOut_of {s : ByteArray} {w w' : World} {e : Ending} (h : Below w.heap.size w w' ∧
    ((∃ toks cs vt, scanT s = .ok (toks, cs) ∧ e = .returned (.tuple #[vt, .agg #[.int .i64 0, .int .i64 0]]) ∧ w'.ownsRow w.heap.size 38 3 vt toks.length (tokVs toks)) ∨
     (∃ c ln, scanT s = .error (c, ln) ∧ e = .returned (.tuple #[.slice none 0 0, .agg #[.int .i64 c, .int .i64 ln]])))) : ScanOut s w e w' := by
  obtain ⟨hb, ⟨toks, cs, vt, hs, rfl, ho⟩ | ⟨c, ln, hs, rfl⟩⟩ := h
  · have h1 : stoks s = toks := by simp [stoks, hs]
    have h2 : sflt s = (0, 0) := by simp [sflt, hs]
    obtain ⟨ao, cap, rfl⟩ := own_len ho
    refine ⟨hb, ao, cap, ?_, ?_⟩
    · rw [h1, h2]
    · rw [h1]; exact tokSl_own ho
  · have h1 : stoks s = [] := by simp [stoks, hs]
    have h2 : sflt s = (c, ln) := by simp [sflt, hs]
    refine ⟨hb, none, 0, ?_, ?_⟩
    · rw [h1, h2]; rfl
    · rw [h1]; exact tokSl_nil _
theorem comsOut_of {s : ByteArray} {w w' : World} {e : Ending} (h : Below w.heap.size w w' ∧
    ((∃ toks cs vt, scanT s = .ok (toks, cs) ∧ e = .returned (.tuple #[vt, .agg #[.int .i64 0, .int .i64 0]]) ∧ w'.ownsRow w.heap.size 9 1 vt cs.length (strVs cs)) ∨
     (∃ c ln, scanT s = .error (c, ln) ∧ e = .returned (.tuple #[.slice none 0 0, .agg #[.int .i64 c, .int .i64 ln]])))) : ComsOut s w e w' := by
  obtain ⟨hb, ⟨toks, cs, vt, hs, rfl, ho⟩ | ⟨c, ln, hs, rfl⟩⟩ := h
  · have h1 : scoms s = cs := by simp [scoms, hs]
    have h2 : sflt s = (0, 0) := by simp [sflt, hs]
    obtain ⟨ao, cap, rfl⟩ := own_len ho
    refine ⟨hb, ao, cap, ?_, ?_⟩
    · rw [h1, h2]
    · rw [h1]; exact strSl_own ho
  · have h1 : scoms s = [] := by simp [scoms, hs]
    have h2 : sflt s = (c, ln) := by simp [sflt, hs]
    refine ⟨hb, none, 0, ?_, ?_⟩
    · rw [h1, h2]; rfl
    · rw [h1]; exact strSl_nil _
theorem Scan_out (s : ByteArray) (w : World) (he : Env w) : Calls Tryd.prog 23 #[.string s] w (ScanOut s w) := (Scan_any s w he).mono fun _ _ h => scanOut_of h
theorem refScan_out (s : ByteArray) (w : World) : Calls Tryd.prog 24 #[.string s] w (ScanOut s w) := (refScan_any s w).mono fun _ _ h => scanOut_of h
theorem Comments_out (s : ByteArray) (w : World) (he : Env w) : Calls Tryd.prog 25 #[.string s] w (ComsOut s w) := (Comments_any s w he).mono fun _ _ h => comsOut_of h
theorem refComments_out (s : ByteArray) (w : World) : Calls Tryd.prog 26 #[.string s] w (ComsOut s w) := (refComments_any s w).mono fun _ _ h => comsOut_of h

theorem stoks_few (s : ByteArray) : (stoks s).length ≤ 100000 := by
  cases h : scanT s with
  | ok x =>
    obtain ⟨t, c⟩ := x
    have h1 : stoks s = t := by simp [stoks, h]
    obtain ⟨h2, _⟩ := scanT_small h
    rw [h1]; omega
  | error e => simp [stoks, h]
theorem scanA_coms (s : ByteArray) : ∀ (f i line : Nat) (toks : List Tok) (cs : List (List UInt8)) {t c}, scanA s f i line toks cs = .ok (t, c) → c.length ≤ cs.length + f
  | 0, _, _, _, _, t, c, h => by
    rw [scanA] at h
    injection h with h
    injection h with h1 h2
    subst h2
    omega
  | f + 1, i, line, toks, cs, t, c, h => by
    rw [scanA] at h
    split at h
    · split at h
      · have := scanA_coms s f _ _ _ _ h; omega
      · have := scanA_coms s f _ _ _ _ h
        simp at this; omega
      · have := scanA_coms s f _ _ _ _ h; omega
      · cases h
    · injection h with h
      injection h with h1 h2
      subst h2
      omega
theorem scoms_few (s : ByteArray) : (scoms s).length ≤ 100000 := by
  cases h : scanT s with
  | ok x =>
    obtain ⟨t, c⟩ := x
    have h1 : scoms s = c := by simp [scoms, h]
    unfold scanT at h
    split at h
    · cases h
    · have := scanA_coms s _ _ _ _ _ h
      rw [h1]
      simp at this
      omega
  | error e => simp [scoms, h]

theorem same_refl (a : List Tok) (v1 v2 : Value) (w : World) (h1 : TokSl w v1 a) (h2 : TokSl w v2 a) (hn : a.length ≤ 100000) :
    Calls Tryd.prog 27 #[v1, v2] w fun e w' => e = .returned (.bool true) ∧ ∃ n, w' = w.drewN n := by
  have h := same_any a a v1 v2 w h1 h2 hn hn
  simp only [decide_true] at h
  exact h
theorem sameStrs_refl (a : List (List UInt8)) (v1 v2 : Value) (w : World) (h1 : StrSl w v1 a) (h2 : StrSl w v2 a) (hn : a.length ≤ 100000) :
    Calls Tryd.prog 17 #[v1, v2] w fun e w' => e = .returned (.bool true) ∧ ∃ n, w' = w.drewN n := by
  have h := sameStrs_any a a v1 v2 w h1 h2 hn hn
  simp only [decide_true] at h
  exact h
theorem short_one (s : ByteArray) (b : Bool) (hb : shortL s.data.toList = b) (g : Nat) (w : World) (hr : Blk w g 9 #[.string s]) :
    Calls Tryd.prog 22 #[.slice (some ⟨g, 0, none⟩) 1 1] w fun e w' => e = .returned (.bool b) ∧ w = w' := by
  have h := short_any [s.data.toList] g 1 w (by
    intro i x hi
    cases i with
    | zero =>
      simp at hi
      subst hi
      rw [bs_toList]
      exact hr.cell 0
    | succ i => simp at hi) (by simp)
  simp only [List.all_cons, List.all_nil, Bool.and_true, hb] at h
  exact h

set_option maxRecDepth 100000 in
set_option maxHeartbeats 12800000 in
theorem TokenScans_true (s : ByteArray) (w : World) (he : Env w) : Calls Tryd.prog 4 #[.string s] w fun e w' => e = .returned (.bool true) ∧ Below w.heap.size w w' := by
  have HE := Lib.hid he
  clear he
  cases hq : shortL s.data.toList
  · go_enter Tryd.func4, Tryd.ntmps4
    go_wp2_with fail
    refine (short_one s false hq w.heap.size _ (Blk.new w 9 #[.string s])).mono ?_
    rintro e w1 ⟨rfl, rfl⟩
    have be := (Below.refl _ w).alloc (Nat.le_refl _) (.cells #[Value.string s] 9)
    have B1 := Lib.hid be
    have E1 := Lib.hid (HE.out.below be)
    clear be
    generalize w.alloc (.cells #[Value.string s] 9) = w1 at *
    have s1 := B1.out.size
    go_wp2_with fail
    refine (read_true _ E1.out).mono ?_
    rintro e w2 ⟨rfl, hb⟩
    have HB := Lib.hid hb
    clear hb
    go_wp2
    go_ret
    exact ⟨rfl, B1.out.trans (HB.out.mono s1)⟩
  · go_enter Tryd.func4, Tryd.ntmps4
    go_wp2_with fail
    refine (short_one s true hq w.heap.size _ (Blk.new w 9 #[.string s])).mono ?_
    rintro e w1 ⟨rfl, rfl⟩
    have be := (Below.refl _ w).alloc (Nat.le_refl _) (.cells #[Value.string s] 9)
    have B1 := Lib.hid be
    have E1 := Lib.hid (HE.out.below be)
    clear be
    generalize w.alloc (.cells #[Value.string s] 9) = w1 at *
    have s1 := B1.out.size
    go_wp2_with fail
    refine (Scan_out s w1 E1.out).mono ?_
    rintro e w2 ⟨hb, a1, c1, rfl, ht1⟩
    have B2 := Lib.hid (B1.out.trans (hb.mono s1))
    have E2 := Lib.hid (E1.out.below hb)
    have T2 := Lib.hid ht1
    have s2 := hb.size
    clear hb ht1
    go_wp2_with fail
    have be := (Below.refl _ w2).alloc (Nat.le_refl _) (.cells #[Value.int .i64 (sflt s).1, Value.int .i64 (sflt s).2] 31)
    have k3 := Lib.hid (Blk.new w2 31 #[Value.int .i64 (sflt s).1, Value.int .i64 (sflt s).2])
    have l3 := k3.out.lt
    have B3 := Lib.hid (B2.out.trans (be.mono (by omega)))
    have E3 := Lib.hid (E2.out.below be)
    have T3 := Lib.hid (T2.out.below be)
    have s3 := be.size
    clear be
    generalize w2.alloc (.cells #[Value.int .i64 (sflt s).1, Value.int .i64 (sflt s).2] 31) = w3 at *
    refine (refScan_out s w3).mono ?_
    rintro e w4 ⟨hb, a2, c2, rfl, ht1⟩
    have B4 := Lib.hid (B3.out.trans (hb.mono (by omega)))
    have E4 := Lib.hid (E3.out.below hb)
    have T4 := Lib.hid (T3.out.below hb)
    have U4 := Lib.hid ht1
    have k4 := Lib.hid (k3.out.below hb l3)
    have s4 := hb.size
    clear hb ht1
    go_wp2_with fail
    have be := (Below.refl _ w4).alloc (Nat.le_refl _) (.cells #[Value.int .i64 (sflt s).1, Value.int .i64 (sflt s).2] 31)
    have j5 := Lib.hid (Blk.new w4 31 #[Value.int .i64 (sflt s).1, Value.int .i64 (sflt s).2])
    have l5 := j5.out.lt
    have B5 := Lib.hid (B4.out.trans (be.mono (by omega)))
    have E5 := Lib.hid (E4.out.below be)
    have T5 := Lib.hid (T4.out.below be)
    have U5 := Lib.hid (U4.out.below be)
    have k5 := Lib.hid (k4.out.below be (by omega))
    have s5 := be.size
    clear be
    generalize w4.alloc (.cells #[Value.int .i64 (sflt s).1, Value.int .i64 (sflt s).2] 31) = w5 at *
    refine (Comments_out s w5 E5.out).mono ?_
    rintro e w6 ⟨hb, a3, c3, rfl, ht1⟩
    have B6 := Lib.hid (B5.out.trans (hb.mono (by omega)))
    have E6 := Lib.hid (E5.out.below hb)
    have T6 := Lib.hid (T5.out.below hb)
    have U6 := Lib.hid (U5.out.below hb)
    have V6 := Lib.hid ht1
    have k6 := Lib.hid (k5.out.below hb (by omega))
    have j6 := Lib.hid (j5.out.below hb l5)
    have s6 := hb.size
    clear hb ht1
    go_wp2_with fail
    have be := (Below.refl _ w6).alloc (Nat.le_refl _) (.cells #[Value.int .i64 (sflt s).1, Value.int .i64 (sflt s).2] 31)
    have i7 := Lib.hid (Blk.new w6 31 #[Value.int .i64 (sflt s).1, Value.int .i64 (sflt s).2])
    have l7 := i7.out.lt
    have B7 := Lib.hid (B6.out.trans (be.mono (by omega)))
    have E7 := Lib.hid (E6.out.below be)
    have T7 := Lib.hid (T6.out.below be)
    have U7 := Lib.hid (U6.out.below be)
    have V7 := Lib.hid (V6.out.below be)
    have k7 := Lib.hid (k6.out.below be (by omega))
    have j7 := Lib.hid (j6.out.below be (by omega))
    have s7 := be.size
    clear be
    generalize w6.alloc (.cells #[Value.int .i64 (sflt s).1, Value.int .i64 (sflt s).2] 31) = w7 at *
    refine (refComments_out s w7).mono ?_
    rintro e w8 ⟨hb, a4, c4, rfl, ht1⟩
    have B8 := Lib.hid (B7.out.trans (hb.mono (by omega)))
    have E8 := Lib.hid (E7.out.below hb)
    have T8 := Lib.hid (T7.out.below hb)
    have U8 := Lib.hid (U7.out.below hb)
    have V8 := Lib.hid (V7.out.below hb)
    have X8 := Lib.hid ht1
    have k8 := Lib.hid (k7.out.below hb (by omega))
    have j8 := Lib.hid (j7.out.below hb (by omega))
    have i8 := Lib.hid (i7.out.below hb l7)
    have s8 := hb.size
    clear hb ht1
    go_wp2_with fail
    have be := (Below.refl _ w8).alloc (Nat.le_refl _) (.cells #[Value.int .i64 (sflt s).1, Value.int .i64 (sflt s).2] 31)
    have h9 := Lib.hid (Blk.new w8 31 #[Value.int .i64 (sflt s).1, Value.int .i64 (sflt s).2])
    have l9 := h9.out.lt
    have B9 := Lib.hid (B8.out.trans (be.mono (by omega)))
    have E9 := Lib.hid (E8.out.below be)
    have T9 := Lib.hid (T8.out.below be)
    have U9 := Lib.hid (U8.out.below be)
    have V9 := Lib.hid (V8.out.below be)
    have X9 := Lib.hid (X8.out.below be)
    have k9 := Lib.hid (k8.out.below be (by omega))
    have j9 := Lib.hid (j8.out.below be (by omega))
    have i9 := Lib.hid (i8.out.below be (by omega))
    have s9 := be.size
    clear be
    generalize w8.alloc (.cells #[Value.int .i64 (sflt s).1, Value.int .i64 (sflt s).2] 31) = w9 at *
    refine (read_true w9 E9.out).mono ?_
    rintro e w10 ⟨rfl, hb⟩
    have B10 := Lib.hid (B9.out.trans (hb.mono (by omega)))
    have T10 := Lib.hid (T9.out.below hb)
    have U10 := Lib.hid (U9.out.below hb)
    have V10 := Lib.hid (V9.out.below hb)
    have X10 := Lib.hid (X9.out.below hb)
    have k10 := Lib.hid (k9.out.below hb (by omega))
    have j10 := Lib.hid (j9.out.below hb (by omega))
    have i10 := Lib.hid (i9.out.below hb (by omega))
    have h10 := Lib.hid (h9.out.below hb l9)
    have s10 := hb.size
    clear hb
    go_wp2_with fail
    refine (same_refl (stoks s) _ _ w10 T10.out U10.out (stoks_few s)).mono ?_
    rintro e w11 ⟨rfl, n1, rfl⟩
    have n0 := (k10.out.drewN n1).cell 0
    have n1' := (k10.out.drewN n1).cell 1
    have m0 := (j10.out.drewN n1).cell 0
    have m1 := (j10.out.drewN n1).cell 1
    simp only [List.getElem?_toArray, List.getElem?_cons_zero, List.getElem?_cons_succ] at n0 n1' m0 m1
    go_wp2_with fail
    have V11 : StrSl (w10.drewN n1) _ _ := V10.out
    have X11 : StrSl (w10.drewN n1) _ _ := X10.out
    refine (sameStrs_refl (scoms s) _ _ (w10.drewN n1) V11 X11 (scoms_few s)).mono ?_
    rintro e w12 ⟨rfl, n2, rfl⟩
    clear n0 n1' m0 m1
    have n0 := (i10.out.drewN (n1 + n2)).cell 0
    have n1' := (i10.out.drewN (n1 + n2)).cell 1
    have m0 := (h10.out.drewN (n1 + n2)).cell 0
    have m1 := (h10.out.drewN (n1 + n2)).cell 1
    simp only [List.getElem?_toArray, List.getElem?_cons_zero, List.getElem?_cons_succ] at n0 n1' m0 m1
    go_wp2
    go_ret
    exact ⟨rfl, B10.out.trans ⟨rfl, rfl, rfl, Nat.le_refl _, fun _ _ => rfl⟩⟩
end Go.Proofs.YtophcjkfhneghaaDoor
