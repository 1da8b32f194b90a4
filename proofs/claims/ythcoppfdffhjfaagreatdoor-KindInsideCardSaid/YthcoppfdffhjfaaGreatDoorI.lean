/- The reader's closure calls itself: what is read in brackets. -/
import Derived.Test.YthcoppfdffhjfaaGreatDoorH
namespace Go.Proofs.YthcoppfdffhjfaaGreatDoor
open Go Go.RowKit

/-- The closure that reads a type, with what it holds. -/
def nextF (b1 b4 b5 b6 : Nat) : Value := .func (.func 75) #[] #[.pointer (some ⟨b5, 0, none⟩), .pointer (some ⟨b4, 0, none⟩), .pointer (some ⟨b6, 0, none⟩), .pointer (some ⟨b1, 0, none⟩)]
/-- What the closure meets: its variables, the map, the words. -/
structure NxE (w : World) (b1 b4 b5 b6 cb m : Nat) (s : Bys) : Prop where
  env : Env w
  k1 : Blk w b1 9 #[.string (bs s)]
  k4 : Blk w b4 78 #[.map (some m)]
  k5 : Blk w b5 80 #[.pointer (some ⟨cb, 0, none⟩)]
  k6 : Blk w b6 83 #[nextF b1 b4 b5 b6]
  km : Kinds w m
  n1 : b1 ≠ cb
  n4 : b4 ≠ cb
  n5 : b5 ≠ cb
  n6 : b6 ≠ cb
  nm : m ≠ cb
  h4 : 4 ≤ cb
theorem NxE.grown {w w' : World} {b1 b4 b5 b6 cb m : Nat} {s : Bys} (h : NxE w b1 b4 b5 b6 cb m s) (hg : w.grownBy w' (some cb)) : NxE w' b1 b4 b5 b6 cb m s :=
  ⟨h.env.grown hg h.h4, h.k1.grown hg (by simpa using h.n1), h.k4.grown hg (by simpa using h.n4), h.k5.grown hg (by simpa using h.n5), h.k6.grown hg (by simpa using h.n6), h.km.grown hg (by simpa using h.nm), h.n1, h.n4, h.n5, h.n6, h.nm, h.h4⟩

def NxPost (f cb : Nat) (s : Bys) (a : Nat) (w : World) (e : Ending) (w' : World) : Prop :=
  (∃ T r vs, nx f (s.drop a) = some (T, r) ∧ e = .returned (.agg vs.toArray) ∧ TyV w' (fun g => w.heap.size ≤ g) T vs ∧ Cur w' cb s (s.length - r.length) ∧ w.grownBy w' (some cb)) ∨
  (nx f (s.drop a) = none ∧ e = gaveUp ∧ w.grownBy w' (some cb))
/-- The closure's contract at a text, where little is left. -/
def NextC (f b1 b4 b5 b6 cb m : Nat) (s : Bys) : Prop := ∀ w a, NxE w b1 b4 b5 b6 cb m s → Cur w cb s a → a ≤ s.length → s.length - a < f →
  Calls Tryz.prog 75 #[.pointer (some ⟨b5, 0, none⟩), .pointer (some ⟨b4, 0, none⟩), .pointer (some ⟨b6, 0, none⟩), .pointer (some ⟨b1, 0, none⟩)] w (NxPost f cb s a w)

def ArgPost (f cb : Nat) (s : Bys) (a : Nat) (w : World) (e : Ending) (w' : World) : Prop :=
  (∃ T r vk vs, rdB (nx f) (s.drop a) = some (T, r) ∧ e = .returned vk ∧ KdV w' (fun g => w.heap.size ≤ g) vk [vs] ∧ TyV w' (fun g => w.heap.size ≤ g) T vs ∧ Cur w' cb s (s.length - r.length) ∧ w.grownBy w' (some cb)) ∨
  (rdB (nx f) (s.drop a) = none ∧ e = gaveUp ∧ w.grownBy w' (some cb))

theorem rdB_none {one : Bys → Option (Ty × Bys)} {s : Bys} (h : ∀ l, s ≠ 91 :: l) : rdB one s = none := by
  unfold rdB
  split
  · exact absurd rfl (h _)
  · rfl
theorem suffix_drop {s t r : Bys} (a : Nat) (h : s.drop a = t ++ r) : r = s.drop (s.length - r.length) ∧ r.length ≤ s.length - a := by
  have h1 : (s.drop a).length = t.length + r.length := by rw [h, List.length_append]
  rw [List.length_drop] at h1
  refine ⟨?_, by omega⟩
  have h2 : (s.drop a).drop t.length = r := by rw [h]; simp
  rw [List.drop_drop] at h2
  rcases Nat.eq_zero_or_pos r.length with h0 | h0
  · have : r = [] := List.length_eq_zero_iff.1 h0
    subst this
    simp
  · rw [show s.length - r.length = a + t.length by omega]
    exact h2.symm

set_option maxRecDepth 100000 in
set_option maxHeartbeats 6400000 in
theorem arg_any (f b1 b4 b5 b6 cb m a : Nat) (s : Bys) (hs : s.length ≤ 1000) (H : NextC f b1 b4 b5 b6 cb m s) (w : World) (hE : NxE w b1 b4 b5 b6 cb m s) (hC : Cur w cb s a) (ha : a ≤ s.length) (hf : s.length - a ≤ f) :
    Calls Tryz.prog 78 #[.pointer (some ⟨cb, 0, none⟩), nextF b1 b4 b5 b6] w (ArgPost f cb s a w) := by
  have HN := Lib.hid H
  have HE := Lib.hid hE
  have HC := Lib.hid hC
  clear H hE hC
  cases hb : seeB s a 91
  · have hno := Lib.hid (rdB_none (one := nx f) (seeB_false hb))
    have HB := Lib.hid hb
    clear hb
    unfold nextF
    go_enter Tryz.func78, Tryz.ntmps78
    go_wp2_with fail
    refine (take_no cb a s 91 HB.out _ HC.out ha).mono ?_
    rintro e w' ⟨rfl, hg⟩
    exact ⟨rfl, .inr ⟨hno.out, rfl, hg⟩⟩
  · obtain ⟨hd, hlt⟩ := seeB_true hb
    have HD := Lib.hid hd
    have HB := Lib.hid hb
    clear hd hb
    unfold nextF
    go_enter Tryz.func78, Tryz.ntmps78
    go_wp2_with fail
    refine (take_yes cb a s 91 HB.out _ HC.out hs).mono ?_
    rintro e w1 ⟨rfl, hC1, hG1⟩
    have HC1 := Lib.hid hC1
    have HG1 := Lib.hid hG1
    have HE1 := Lib.hid (HE.out.grown hG1)
    clear hC1 hG1
    go_wp2_with fail
    refine (HN.out w1 (a + 1) HE1.out HC1.out (by omega) (by omega)).mono ?_
    rintro e w2 (⟨T, r, vs, hnx, rfl, hT, hC2, hG2⟩ | ⟨hnx, rfl, hG2⟩)
    · obtain ⟨an, nn, cn, ak, nk, ck, rfl⟩ := hT.four
      have HT := Lib.hid hT
      have HC2 := Lib.hid hC2
      have HG2 := Lib.hid hG2
      have HNX := Lib.hid hnx
      obtain ⟨hs1, hs2⟩ := nx_sound _ _ _ _ hnx
      have hsf := suffix_drop (a + 1) hs1
      have HR := Lib.hid hsf.1
      have hrl := hsf.2
      clear hT hC2 hG2 hnx hs1 hs2 hsf
      go_wp2_with fail
      have hnew : Hid (Blk (w2.alloc (.cells #[Value.string (bs T.pr), Value.int IntKind.u8 T.kind, Value.slice an nn cn, Value.slice ak nk ck] 58)) w2.heap.size 58 #[Value.string (bs T.pr), Value.int IntKind.u8 T.kind, Value.slice an nn cn, Value.slice ak nk ck]) := Lib.hid (Blk.new w2 58 _)
      have hbl := (Below.refl _ w2).alloc (Nat.le_refl _) (.cells #[Value.string (bs T.pr), Value.int IntKind.u8 T.kind, Value.slice an nn cn, Value.slice ak nk ck] 58)
      have hsz : w2.heap.size < (w2.alloc (.cells #[Value.string (bs T.pr), Value.int IntKind.u8 T.kind, Value.slice an nn cn, Value.slice ak nk ck] 58)).heap.size := by simp
      have HC3 := Lib.hid (HC2.out.below hbl HC2.out.lt)
      have HT3 := Lib.hid (HT.out.keep hbl.size (fun g _ hg => hbl.block g hg))
      have HG3 := Lib.hid (grown_below (grown_trans HG1.out HG2.out) hbl)
      have hcb := HC2.out.lt
      have hcb1 := HC1.out.lt
      have hw1 : w.heap.size ≤ w1.heap.size := HG1.out.size
      have hw2 : w1.heap.size ≤ w2.heap.size := HG2.out.size
      clear hbl
      generalize hW3 : w2.alloc (.cells #[Value.string (bs T.pr), Value.int IntKind.u8 T.kind, Value.slice an nn cn, Value.slice ak nk ck] 58) = w3 at *
      clear hW3
      cases hb2 : seeB s (s.length - r.length) 93
      · have hno := seeB_false hb2
        rw [← HR.out] at hno
        have HNO := Lib.hid hno
        have HB2 := Lib.hid hb2
        clear hno hb2
        refine (take_no cb _ s 93 HB2.out _ HC3.out (by omega)).mono ?_
        rintro e w4 ⟨rfl, hg⟩
        refine ⟨rfl, .inr ⟨?_, rfl, grown_trans HG3.out hg⟩⟩
        rw [HD.out]
        simp only [rdB, HNX.out]
        split
        · rename_i q
          injection q with q
          injection q with _ q
          exact absurd q (HNO.out _)
        · rfl
      · obtain ⟨hd2, hlt2⟩ := seeB_true hb2
        rw [← HR.out] at hd2
        have HD2 := Lib.hid hd2
        have HB2 := Lib.hid hb2
        clear hd2 hb2
        refine (take_yes cb _ s 93 HB2.out _ HC3.out hs).mono ?_
        rintro e w4 ⟨rfl, hC4, hG4⟩
        have HC4 := Lib.hid hC4
        have HG4 := Lib.hid hG4
        have hne : w2.heap.size ≠ cb := by omega
        have hk4 := hnew.out.grown hG4 (by simpa using hne)
        have hw4 : w3.heap.size ≤ w4.heap.size := hG4.size
        have HT4 := Lib.hid (HT3.out.keep hG4.size (fun g hg hlt => hG4.block g hlt (by simp; omega)))
        have q0 := Blk.cell hk4 0
        have q1 := Blk.cell hk4 1
        have q2 := Blk.cell hk4 2
        have q3 := Blk.cell hk4 3
        simp only [List.getElem?_toArray, List.getElem?_cons_zero, List.getElem?_cons_succ] at q0 q1 q2 q3
        clear hC4 hG4 hk4
        go_wp2
        go_ret
        refine .inl ⟨T, s.drop (s.length - r.length + 1), _, [.string (bs T.pr), .int .u8 T.kind, .slice an nn cn, .slice ak nk ck], ?_, rfl, ?_, ?_, ?_, ?_⟩
        · rw [HD.out]
          simp only [rdB, HNX.out]
          have e := HD2.out
          generalize s.drop (s.length - r.length + 1) = q at e ⊢
          rw [e]
          rfl
        · exact .inr ⟨w4.heap.size, 1, rfl, by omega, by simp, kids_one _ _ _, by simp⟩
        · refine (HT4.out.keep (by simp) (fun g _ hg => Below.heap_alloc _ _ _ hg)).mono (fun g hg _ => by omega)
        · have e : s.length - (s.drop (s.length - r.length + 1)).length = s.length - r.length + 1 := by rw [List.length_drop]; omega
          rw [e]
          exact Blk.alloc HC4.out _
        · exact grown_alloc (grown_trans HG3.out HG4.out) _
    · refine ⟨rfl, .inr ⟨?_, rfl, grown_trans HG1.out hG2⟩⟩
      rw [HD.out]
      simp only [rdB, hnx]
end Go.Proofs.YthcoppfdffhjfaaGreatDoor
