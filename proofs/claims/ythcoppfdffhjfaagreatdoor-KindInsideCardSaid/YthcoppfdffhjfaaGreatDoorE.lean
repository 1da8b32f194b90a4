/- The contracts of package kind's cursor: a word, a sign. -/
import Derived.Test.YthcoppfdffhjfaaGreatDoorD
namespace Go.Proofs.YthcoppfdffhjfaaGreatDoor
open Go Go.RowKit

theorem extract_bs (s : ByteArray) (i j : Nat) : s.extract i j = bs ((s.data.toList.drop i).take (j - i)) := by
  have : (s.extract i j).data.toList = (s.data.toList.drop i).take (j - i) := by
    rw [ByteArray.data_extract, Array.toList_extract, List.extract_eq_take_drop]
  rw [← this, bs_toList]

/-- A text is the bytes l. -/
theorem extract_at (l : Bys) (i j : Nat) : (bs l).extract i j = bs ((l.drop i).take (j - i)) := extract_bs (bs l) i j

theorem signsB_list : signsB.data.toList = [91, 93, 44, 58] := rfl
theorem signs_has (c : UInt8) : signsB.data.toList.contains c = sg c := by
  rw [signsB_list]
  simp only [List.contains_cons, List.contains_nil, Bool.or_false, sg, Bool.or_assoc]
theorem any_word : ∀ l : Bys, (Lib.indexAny l signsB.data.toList = -1 ∧ wd l = l) ∨ (∃ n : Nat, Lib.indexAny l signsB.data.toList = (n : Int) ∧ n < l.length ∧ wd l = l.take n)
  | [] => .inl ⟨rfl, rfl⟩
  | c :: l => by
    unfold Lib.indexAny
    rw [signs_has]
    cases hc : sg c
    · simp only [Bool.false_eq_true, if_false]
      have hw : wd (c :: l) = c :: wd l := by simp [wd, hc]
      rcases any_word l with ⟨h1, h2⟩ | ⟨n, h1, h2, h3⟩
      · exact .inl ⟨by rw [h1]; rfl, by rw [hw, h2]⟩
      · refine .inr ⟨n + 1, ?_, by simpa using h2, by rw [hw, h3]; rfl⟩
        have hm : (Lib.indexAny l signsB.data.toList == -1) = false := by rw [h1]; simp
        rw [hm, h1]
        simp
    · exact .inr ⟨0, by simp, by simp, by simp [wd, hc]⟩

/-- A cursor: its text, where it is. -/
def curArr (s : Bys) (a : Nat) : Array Value := #[.string (bs s), .int .i64 a]
def Cur (w : World) (b : Nat) (s : Bys) (a : Nat) : Prop := Blk w b 82 (curArr s a)
section
variable {w w' : World} {b a : Nat} {s : Bys}
theorem Cur.c0 (h : Cur w b s a) : w.cell? ⟨b, 0, none⟩ = some (.string (bs s)) := h.cell 0
theorem Cur.c1 (h : Cur w b s a) : w.cell? ⟨b, 1, none⟩ = some (.int .i64 a) := h.cell 1
theorem Cur.f (h : Cur w b s a) (i : Nat) : w.frozen? ⟨b, i, none⟩ = false := h.frozen i
theorem Cur.lt (h : Cur w b s a) : b < w.heap.size := Blk.lt h
theorem Cur.below {B : Nat} (h : Cur w b s a) (hb : Below B w w') (hg : b < B) : Cur w' b s a := Blk.below h hb hg
theorem Cur.set (h : Cur w b s a) {k : Nat} {v : Value} (hv : v = .int .i64 k) : Cur (w.setCell ⟨b, 1, none⟩ v) b s k := by
  subst hv; exact h.set_ 1 _
end

theorem IndexAny_l (l : Bys) (hs : l.length ≤ 1000000) (w : World) :
    Calls Tryz.prog 100 #[.string (bs l), .string { data := #[91, 93, 44, 58] }] w fun e w' => e = .returned (.int .i64 (Lib.indexAny l signsB.data.toList)) ∧ Below w.heap.size w w' :=
  indexAny_any (bs l) (by rw [bs_size]; exact hs) w
theorem HasPrefix_l (l p : Bys) (w : World) : Calls Tryz.prog 101 #[.string (bs l), .string (bs p)] w fun e w' => e = .returned (.bool (p.isPrefixOf l)) ∧ w' = w :=
  Tryz.strings_HasPrefix (bs l) (bs p) w

theorem ret_str {x y : ByteArray} (h : x = y) : Ending.returned (.string x) = .returned (.string y) := by rw [h]

set_option maxRecDepth 100000 in
set_option maxHeartbeats 3200000 in
/-- word: what stands ahead of the next sign. -/
theorem word_any (b a : Nat) (s : Bys) (w : World) (h : Cur w b s a) (ha : a ≤ s.length) (hs : s.length ≤ 1000) :
    Calls Tryz.prog 76 #[.pointer (some ⟨b, 0, none⟩)] w fun e w' => e = .returned (.string (bs (wd (s.drop a)))) ∧ Cur w' b s (a + (wd (s.drop a)).length) ∧ w.grownBy w' (some b) := by
  have c0 := h.c0
  have c1 := h.c1
  have HH := Lib.hid h
  have hz : (bs s).size = s.length := bs_size s
  have hx : (bs s).extract a (bs s).size = bs (s.drop a) := by
    rw [extract_at, hz, List.take_of_length_le (by simp)]
  have hsz : (bs (s.drop a)).size = s.length - a := by rw [bs_size, List.length_drop]
  have ha2 : a ≤ 1000 := by omega
  have hb2 : (bs (s.drop a)).size ≤ 1000 := by omega
  have ha' : a ≤ (bs s).size := by rw [hz]; exact ha
  have HX := Lib.hid hx
  have HSZ := Lib.hid hsz
  have HZ := Lib.hid hz
  clear h hx hsz hz
  rcases any_word (s.drop a) with ⟨h1, h2⟩ | ⟨n, h1, h2, h3⟩
  · have H1 := Lib.hid h1
    have H2 := Lib.hid h2
    clear h1 h2
    go_enter Tryz.func76, Tryz.ntmps76
    go_wp2
    go_quiet (fail)
    rw [HX.out]
    go_wp2_with fail
    refine (IndexAny_l (s.drop a) (by simp; omega) _).mono ?_
    rintro e w' ⟨rfl, hb⟩
    rw [H1.out]
    have hb0 : Below w.heap.size w w' := (show Below w.heap.size w (w.drewN nq) from ⟨rfl, rfl, rfl, Nat.le_refl _, fun _ _ => rfl⟩).trans hb
    have HC := Lib.hid (HH.out.below hb0 HH.out.lt)
    have HB := Lib.hid hb0
    clear hb hb0 c0 c1
    have c1 := HC.out.c1
    have f1 := HC.out.f 1
    go_wp2
    go_ret
    refine ⟨?_, ?_, ?_⟩
    · exact ret_str (by rw [H2.out])
    · refine HC.out.set ?_
      rw [H2.out, HSZ.out, List.length_drop]
      go_num
    · exact grown_set (grown_of_below HB.out _) _
  · have H1 := Lib.hid h1
    have H3 := Lib.hid h3
    have hn : n ≤ (bs (s.drop a)).size := by rw [HSZ.out]; rw [List.length_drop] at h2; omega
    have hn2 : n ≤ 1000 := by omega
    clear h1 h2 h3
    go_enter Tryz.func76, Tryz.ntmps76
    go_wp2
    go_quiet (fail)
    rw [HX.out]
    go_wp2_with fail
    refine (IndexAny_l (s.drop a) (by simp; omega) _).mono ?_
    rintro e w' ⟨rfl, hb⟩
    rw [H1.out]
    have hb0 : Below w.heap.size w w' := (show Below w.heap.size w (w.drewN nq) from ⟨rfl, rfl, rfl, Nat.le_refl _, fun _ _ => rfl⟩).trans hb
    have HC := Lib.hid (HH.out.below hb0 HH.out.lt)
    have HB := Lib.hid hb0
    clear hb hb0 c0 c1
    have c1 := HC.out.c1
    have f1 := HC.out.f 1
    go_wp2
    go_ret
    refine ⟨?_, ?_, ?_⟩
    · exact ret_str (by rw [H3.out, extract_at, List.drop_zero, Nat.sub_zero])
    · refine HC.out.set ?_
      rw [H3.out, List.length_take]
      have := HSZ.out
      rw [bs_size] at hn
      rw [Nat.min_eq_left hn]
      go_num
    · exact grown_set (grown_of_below HB.out _) _

/-- Whether a sign stands at a place. -/
def seeB (s : Bys) (a : Nat) (c : UInt8) : Bool := [c].isPrefixOf (s.drop a)
theorem seeB_true {s : Bys} {a : Nat} {c : UInt8} (h : seeB s a c = true) : s.drop a = c :: s.drop (a + 1) ∧ a < s.length := by
  unfold seeB at h
  cases hd : s.drop a with
  | nil => rw [hd] at h; cases h
  | cons x l =>
    rw [hd] at h
    simp at h
    subst h
    have h2 : s.drop (a + 1) = l := by rw [← List.tail_drop, hd]; rfl
    refine ⟨by rw [h2], ?_⟩
    rcases Nat.lt_or_ge a s.length with q | q
    · exact q
    · rw [List.drop_eq_nil_of_le q] at hd; cases hd
theorem seeB_false {s : Bys} {a : Nat} {c : UInt8} (h : seeB s a c = false) : ∀ l, s.drop a ≠ c :: l := by
  intro l e
  unfold seeB at h
  rw [e] at h
  simp at h

theorem hasPrefix_v (l p : Bys) (v : Bool) (hv : p.isPrefixOf l = v) (w : World) : Calls Tryz.prog 101 #[.string (bs l), .string (bs p)] w fun e w' => e = .returned (.bool v) ∧ w' = w := by
  subst hv; exact HasPrefix_l l p w
theorem hasPrefix_q (s : ByteArray) (l p : Bys) (v : Bool) (hx : s = bs l) (hv : p.isPrefixOf l = v) (w : World) : Calls Tryz.prog 101 #[.string s, .string (bs p)] w fun e w' => e = .returned (.bool v) ∧ w' = w := by
  subst hv hx; exact HasPrefix_l l p w

set_option maxRecDepth 100000 in
set_option maxHeartbeats 3200000 in
theorem sees_any (b a : Nat) (s : Bys) (c : UInt8) (v : Bool) (hv : seeB s a c = v) (w : World) (h : Cur w b s a) (ha : a ≤ s.length) :
    Calls Tryz.prog 77 #[.pointer (some ⟨b, 0, none⟩), .string (bs [c])] w fun e w' => e = .returned (.bool v) ∧ ∃ n, w' = w.drewN n := by
  have c0 := h.c0
  have c1 := h.c1
  have hx : (bs s).extract a (bs s).size = bs (s.drop a) := by
    rw [extract_at, bs_size, List.take_of_length_le (by simp)]
  have ha' : a ≤ (bs s).size := by rw [bs_size]; exact ha
  have HX := Lib.hid hx
  have HV := Lib.hid hv
  clear h hx hv
  go_enter Tryz.func77, Tryz.ntmps77
  go_wp2
  go_quiet ((go_at_call 101; exact Calls.quiet_of_same (hasPrefix_q _ (s.drop a) [c] v HX.out HV.out _)))
  go_wp2
  go_ret
  exact ⟨rfl, _, rfl⟩

set_option maxRecDepth 100000 in
set_option maxHeartbeats 3200000 in
theorem have_yes (b a : Nat) (s : Bys) (c : UInt8) (hv : seeB s a c = true) (w : World) (h : Cur w b s a) (hs : s.length ≤ 1000) :
    Calls Tryz.prog 103 #[.pointer (some ⟨b, 0, none⟩), .string (bs [c])] w fun e w' => e = .returned (.bool true) ∧ Cur w' b s (a + 1) ∧ w.grownBy w' (some b) := by
  have ha := (seeB_true hv).2
  have ha2 : a ≤ 1000 := by omega
  have HH := Lib.hid h
  have HV := Lib.hid hv
  have hz : (bs [c]).size = 1 := rfl
  clear h hv
  go_enter Tryz.func103, Tryz.ntmps103
  go_wp2_with fail
  refine (sees_any b a s c true HV.out _ HH.out (by omega)).mono ?_
  rintro e w' ⟨rfl, nq, rfl⟩
  have HC : Hid (Cur (w.drewN nq) b s a) := Lib.hid (HH.out.drewN nq)
  have HB : Hid (w.grownBy (w.drewN nq) (some b)) := Lib.hid (grown_drewN (grown_refl _ _) _)
  generalize w.drewN nq = w2 at *
  have c1 := HC.out.c1
  have f1 := HC.out.f 1
  go_wp2
  go_ret
  exact ⟨rfl, HC.out.set (by go_num), grown_set HB.out _⟩
set_option maxRecDepth 100000 in
set_option maxHeartbeats 3200000 in
theorem have_no (b a : Nat) (s : Bys) (c : UInt8) (hv : seeB s a c = false) (w : World) (h : Cur w b s a) (ha : a ≤ s.length) :
    Calls Tryz.prog 103 #[.pointer (some ⟨b, 0, none⟩), .string (bs [c])] w fun e w' => e = .returned (.bool false) ∧ Cur w' b s a ∧ w.grownBy w' (some b) := by
  have HH := Lib.hid h
  have HV := Lib.hid hv
  clear h hv
  go_enter Tryz.func103, Tryz.ntmps103
  go_wp2_with fail
  refine (sees_any b a s c false HV.out _ HH.out ha).mono ?_
  rintro e w' ⟨rfl, nq, rfl⟩
  go_wp2
  go_ret
  exact ⟨rfl, HH.out.drewN nq, grown_drewN (grown_refl _ _) _⟩

/-- What a reader that gives up leaves. -/
def gaveUp : Ending := .panicked [{ v := .iface 24 (.int .i64 4), recovered := false }]

set_option maxRecDepth 100000 in
set_option maxHeartbeats 3200000 in
theorem take_yes (b a : Nat) (s : Bys) (c : UInt8) (hv : seeB s a c = true) (w : World) (h : Cur w b s a) (hs : s.length ≤ 1000) :
    Calls Tryz.prog 102 #[.pointer (some ⟨b, 0, none⟩), .string (bs [c])] w fun e w' => e = .returned (.tuple #[]) ∧ Cur w' b s (a + 1) ∧ w.grownBy w' (some b) := by
  have HH := Lib.hid h
  have HV := Lib.hid hv
  clear h hv
  go_enter Tryz.func102, Tryz.ntmps102
  go_wp2_with fail
  refine (have_yes b a s c HV.out _ HH.out hs).mono ?_
  rintro e w' ⟨rfl, h1, h2⟩
  go_wp2
  go_end0
  exact ⟨rfl, h1, h2⟩
set_option maxRecDepth 100000 in
set_option maxHeartbeats 3200000 in
theorem take_no (b a : Nat) (s : Bys) (c : UInt8) (hv : seeB s a c = false) (w : World) (h : Cur w b s a) (ha : a ≤ s.length) :
    Calls Tryz.prog 102 #[.pointer (some ⟨b, 0, none⟩), .string (bs [c])] w fun e w' => e = gaveUp ∧ w.grownBy w' (some b) := by
  have HH := Lib.hid h
  have HV := Lib.hid hv
  clear h hv
  go_enter Tryz.func102, Tryz.ntmps102
  go_wp2_with fail
  refine (have_no b a s c HV.out _ HH.out ha).mono ?_
  rintro e w' ⟨rfl, h1, h2⟩
  go_wp2
  exact ⟨rfl, rfl, h2⟩
end Go.Proofs.YthcoppfdffhjfaaGreatDoor
