/- The reference's right and Apart. -/
import Derived.Test.YtophcjkfhneghaaDoorYm
namespace Go.Proofs.YtophcjkfhneghaaDoor
open Go Go.RowKit

set_option maxRecDepth 100000 in
set_option maxHeartbeats 3200000 in
theorem refRight_any (k : Int) (s : ByteArray) (w : World) (hs : s.size ≤ 1000000) : Calls Tryd.prog 47 #[.int .u8 k, .string s] w fun e w' => e = .returned (.bool (rightB k s)) ∧ Below w.heap.size w w' := by
  by_cases h1 : k = 1
  · subst h1
    go_enter Tryd.func47, Tryd.ntmps47
    go_wp2_with (go_at_call 14; refine (refIsName_any _ _ hs).mono ?_; rintro e w' ⟨rfl, hb⟩)
    go_ret
    exact ⟨rfl, hb⟩
  have q1 : (k == 1) = false := by simp [h1]
  by_cases h2 : k = 2
  · subst h2
    clear h1
    go_enter Tryd.func47, Tryd.ntmps47
    go_wp2_with (go_at_call 16; refine (refIsWord_any _ _).mono ?_; rintro e w' ⟨rfl, hb⟩)
    go_ret
    exact ⟨rfl, hb⟩
  have q2 : (k == 2) = false := by simp [h2]
  by_cases h3 : k = 3
  · subst h3
    clear h1 h2
    go_enter Tryd.func47, Tryd.ntmps47
    go_wp2_with (go_at_call 56; refine (refNumber_any _ _).mono ?_; rintro e w' ⟨rfl, rfl⟩)
    go_ret
    exact ⟨rfl, Below.refl _ _⟩
  have q3 : (k == 3) = false := by simp [h3]
  by_cases h4 : k = 4
  · subst h4
    clear h1 h2 h3
    go_enter Tryd.func47, Tryd.ntmps47
    go_wp2_with fail
    refine (refSigns_any w).mono ?_
    rintro e w1 ⟨rfl, hk, hb⟩
    have HK := Lib.hid hk
    have HB := Lib.hid hb
    clear hk hb
    go_wp2_with fail
    refine (in_signs _ s _ rfl w1 HK.out).mono ?_
    rintro e w2 ⟨rfl, rfl⟩
    go_wp2
    go_ret
    exact ⟨rfl, HB.out⟩
  have q4 : (k == 4) = false := by simp [h4]
  have HR := Lib.hid (show rightB k s = false by simp [rightB, h1, h2, h3, h4])
  clear h1 h2 h3 h4
  go_enter Tryd.func47, Tryd.ntmps47
  go_wp2
  go_ret
  exact ⟨ret_bool HR.out.symm, Below.refl _ _⟩

theorem bs_append (a b : List UInt8) : bs a ++ bs b = bs (a ++ b) := by
  have h : (bs a ++ bs b).data.toList = a ++ b := by simp [bs]
  rw [← bs_toList (bs a ++ bs b), h]

theorem apartR_no1 {t u : Tok} (h : rightB t.kind (bs t.text) = false) : apartR t u = (false, 1) := by simp [apartR, isTokB_right, h]
theorem apartR_no2 {t u : Tok} (h : rightB u.kind (bs u.text) = false) : apartR t u = (false, 1) := by simp [apartR, isTokB_right, h]
theorem apartR_yes {t u : Tok} (h1 : rightB t.kind (bs t.text) = true) (h2 : rightB u.kind (bs u.text) = true) {b : Bool} (h : readsB (bs t.text ++ bs u.text) [t, u] = !b) : apartR t u = (b, 0) := by
  simp [apartR, isTokB_right, h1, h2, apartB, h]

theorem both_nl {t u : Tok} (h1 : rightB t.kind (bs t.text) = true) (h2 : rightB u.kind (bs u.text) = true) : ∀ j, j < (bs t.text ++ bs u.text).size → byteAt (bs t.text ++ bs u.text) j ≠ 10 := by
  intro j hj
  rw [bs_append] at hj ⊢
  rw [bs_size, List.length_append] at hj
  have n1 := (right_piece h1).2.2
  have n2 := (right_piece h2).2.2
  rw [bs_size] at n1 n2
  by_cases hlt : j < t.text.length
  · have := n1 j hlt
    unfold byteAt at this ⊢
    rw [bs_data] at this ⊢
    rw [List.getElem?_append_left hlt]
    exact this
  · have := n2 (j - t.text.length) (by omega)
    unfold byteAt at this ⊢
    rw [bs_data] at this ⊢
    rw [List.getElem?_append_right (by omega)]
    exact this

/-- Two texts read behind one another: the kinds and the lines need no look. -/
theorem both_read {t u x y : Tok} {cs : List (List UInt8)} (h1 : rightB t.kind (bs t.text) = true) (h2 : rightB u.kind (bs u.text) = true) (h : scanT (bs t.text ++ bs u.text) = .ok ([x, y], cs)) :
    readsB (bs t.text ++ bs u.text) [t, u] = (decide (x.text = t.text) && decide (y.text = u.text)) := by
  rw [readsB_ok h]
  have r1 := scanT_right h x (by simp)
  have r2 := scanT_right h y (by simp)
  have l1 := scanT_line (both_nl h1 h2) h x (by simp)
  have l2 := scanT_line (both_nl h1 h2) h y (by simp)
  rw [Bool.eq_iff_iff]
  simp only [decide_eq_true_eq, Bool.and_eq_true, List.map_cons, List.map_nil, List.cons.injEq, and_true]
  constructor
  · rintro ⟨e1, e2⟩
    rw [e1, e2]
    exact ⟨rfl, rfl⟩
  · rintro ⟨e1, e2⟩
    rw [e1] at r1
    rw [e2] at r2
    have k1 := right_unique r1 h1
    have k2 := right_unique r2 h2
    constructor
    · cases x; cases t; simp only [Tok.one] at *; simp [k1, e1, l1]
    · cases y; cases u; simp only [Tok.one] at *; simp [k2, e2, l2]
end Go.Proofs.YtophcjkfhneghaaDoor
