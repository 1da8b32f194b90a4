/- The law KindPut answers true: the walk. -/
import Derived.Test.YthcoppfdffhjfaaGreatDoorWc
namespace Go.Proofs.YthcoppfdffhjfaaGreatDoor
open Go Go.RowKit

theorem openT_ok {t : Bys} (h : chk t = 0) : openT t = (t.contains 63, 0) := by
  unfold openT
  rw [h]
  rfl
theorem openT_no {t : Bys} (h : chk t ≠ 0) : openT t = (false, chk t) := by
  unfold openT
  rw [beq_eq_false_iff_ne.2 h]
  rfl
theorem withT_no {t : Bys} (a : Bys) (h : chk t ≠ 0) : withT t a = ([], chk t) := by
  unfold withT
  rw [if_pos h]
theorem withT_qt {t : Bys} (h : chk t ≠ 0) : withT qt t = ([], chk t) := by
  unfold withT
  rw [if_neg (by rw [chk_qt]; decide), if_pos h]

set_option maxRecDepth 100000 in
set_option maxHeartbeats 12800000 in
theorem KindPut_true (t a b : Bys) (w : World) (he : Env w) :
    Calls Tryz.prog 8 #[.string (bs t), .string (bs a), .string (bs b)] w fun e w' => e = .returned (.bool true) ∧ Below w.heap.size w w' := by
  have hb0 := (Below.refl _ w).alloc (Nat.le_refl _) (.cells #[.string (bs t), .string (bs a), .string (bs b)] 9)
  have B_0 := Lib.hid hb0
  have E_0 := Lib.hid (he.below hb0)
  have R_0 := Lib.hid (strRow_block (w := w.alloc (.cells #[.string (bs t), .string (bs a), .string (bs b)] 9)) (l := [t, a, b]) (heap_alloc_new w _))
  clear hb0 he
  cases hsh : [t, a, b].all shortB
  · go_enter Tryz.func8, Tryz.ntmps8
    go_wp2_with fail
    generalize (w.alloc (.cells #[.string (bs t), .string (bs a), .string (bs b)] 9)) = w_0 at *
    have s_0 := B_0.out.size
    refine (short_any [t, a, b] _ 3 w_0 R_0.out (by simp)).mono ?_
    rintro e w9 ⟨rfl, rfl⟩
    rw [hsh]
    go_wp2_with fail
    refine (kept_any w_0 E_0.out).mono ?_
    rintro e w_1 ⟨rfl, hb⟩
    have B_1 := Lib.hid (B_0.out.trans (hb.mono s_0))
    have E_1 := Lib.hid (E_0.out.below hb)
    have s_1 := B_1.out.size
    clear hb
    go_wp2
    go_ret
    exact ⟨rfl, B_1.out⟩
  obtain ⟨x, c, hH⟩ : ∃ x c, withT t a = (x, c) := ⟨_, _, rfl⟩
  obtain ⟨y, d, hI⟩ : ∃ y d, withT a b = (y, d) := ⟨_, _, rfl⟩
  have HH := Lib.hid hH
  have HI := Lib.hid hI
  by_cases hc : chk t = 0
  rotate_left
  · have HC := Lib.hid hc
    have z1 : (chk t == 0) = false := beq_eq_false_iff_ne.2 hc
    have z2 : (chk t != 0) = true := bne_iff_ne.2 hc
    obtain rfl : chk t = c := by rw [withT_no a hc] at hH; exact congrArg Prod.snd hH
    clear hc hH hI
    go_enter Tryz.func8, Tryz.ntmps8
    go_wp2_with fail
    generalize (w.alloc (.cells #[.string (bs t), .string (bs a), .string (bs b)] 9)) = w_0 at *
    have s_0 := B_0.out.size
    refine (short_any [t, a, b] _ 3 w_0 R_0.out (by simp)).mono ?_
    rintro e w9 ⟨rfl, rfl⟩
    rw [hsh]
    go_wp2_with fail
    refine (With_any t qt w_0 E_0.out).mono ?_
    rintro e w_1 ⟨rfl, hb⟩
    have B_1 := Lib.hid (B_0.out.trans (hb.mono s_0))
    have E_1 := Lib.hid (E_0.out.below hb)
    have s_1 := B_1.out.size
    clear hb
    rw [withT_no qt HC.out]
    go_wp2_with fail
    refine (With_any qt t w_1 E_1.out).mono ?_
    rintro e w_2 ⟨rfl, hb⟩
    have B_2 := Lib.hid (B_1.out.trans (hb.mono s_1))
    have E_2 := Lib.hid (E_1.out.below hb)
    have s_2 := B_2.out.size
    clear hb
    rw [withT_qt HC.out]
    go_wp2_with fail
    refine (Check_any t w_2 E_2.out).mono ?_
    rintro e w_3 ⟨rfl, hb⟩
    have B_3 := Lib.hid (B_2.out.trans (hb.mono s_2))
    have E_3 := Lib.hid (E_2.out.below hb)
    have s_3 := B_3.out.size
    clear hb
    go_wp2_with fail
    refine (Open_any t w_3 E_3.out).mono ?_
    rintro e w_4 ⟨rfl, hb⟩
    have B_4 := Lib.hid (B_3.out.trans (hb.mono s_3))
    have E_4 := Lib.hid (E_3.out.below hb)
    have s_4 := B_4.out.size
    clear hb
    rw [openT_no HC.out]
    go_wp2_with fail
    refine (With_any t a w_4 E_4.out).mono ?_
    rintro e w_5 ⟨rfl, hb⟩
    have B_5 := Lib.hid (B_4.out.trans (hb.mono s_4))
    have E_5 := Lib.hid (E_4.out.below hb)
    have s_5 := B_5.out.size
    clear hb
    rw [HH.out]
    go_wp2_with fail
    refine (With_any a b w_5 E_5.out).mono ?_
    rintro e w_6 ⟨rfl, hb⟩
    have B_6 := Lib.hid (B_5.out.trans (hb.mono s_5))
    have E_6 := Lib.hid (E_5.out.below hb)
    have s_6 := B_6.out.size
    clear hb
    rw [HI.out]
    go_wp2_with fail
    refine (kept_any w_6 E_6.out).mono ?_
    rintro e w_7 ⟨rfl, hb⟩
    have B_7 := Lib.hid (B_6.out.trans (hb.mono s_6))
    have E_7 := Lib.hid (E_6.out.below hb)
    have s_7 := B_7.out.size
    clear hb
    go_wp2
    go_ret
    exact ⟨rfl, B_7.out⟩
  have HC := Lib.hid hc
  have T1 := Lib.hid (with_par hc).1
  have T2 := Lib.hid (with_par hc).2
  by_cases h0 : c = 0
  rotate_left
  · have z1 : (c == 0) = false := beq_eq_false_iff_ne.2 h0
    have z2 : (c != 0) = true := bne_iff_ne.2 h0
    clear h0 hc hH hI
    cases ho : t.contains 63
    all_goals
      have O1 := Lib.hid (openT_ok HC.out)
      rw [ho] at O1
      clear ho
      go_enter Tryz.func8, Tryz.ntmps8
      go_wp2_with fail
      generalize (w.alloc (.cells #[.string (bs t), .string (bs a), .string (bs b)] 9)) = w_0 at *
      have s_0 := B_0.out.size
      refine (short_any [t, a, b] _ 3 w_0 R_0.out (by simp)).mono ?_
      rintro e w9 ⟨rfl, rfl⟩
      rw [hsh]
      go_wp2_with fail
      refine (With_any t qt w_0 E_0.out).mono ?_
      rintro e w_1 ⟨rfl, hb⟩
      have B_1 := Lib.hid (B_0.out.trans (hb.mono s_0))
      have E_1 := Lib.hid (E_0.out.below hb)
      have s_1 := B_1.out.size
      clear hb
      rw [T1.out]
      go_wp2_with fail
      refine (With_any qt t w_1 E_1.out).mono ?_
      rintro e w_2 ⟨rfl, hb⟩
      have B_2 := Lib.hid (B_1.out.trans (hb.mono s_1))
      have E_2 := Lib.hid (E_1.out.below hb)
      have s_2 := B_2.out.size
      clear hb
      rw [T2.out]
      go_wp2_with fail
      refine (Check_any t w_2 E_2.out).mono ?_
      rintro e w_3 ⟨rfl, hb⟩
      have B_3 := Lib.hid (B_2.out.trans (hb.mono s_2))
      have E_3 := Lib.hid (E_2.out.below hb)
      have s_3 := B_3.out.size
      clear hb
      rw [HC.out]
      go_wp2_with fail
      refine (Open_any t w_3 E_3.out).mono ?_
      rintro e w_4 ⟨rfl, hb⟩
      have B_4 := Lib.hid (B_3.out.trans (hb.mono s_3))
      have E_4 := Lib.hid (E_3.out.below hb)
      have s_4 := B_4.out.size
      clear hb
      rw [O1.out]
      go_wp2_with fail
      refine (With_any t a w_4 E_4.out).mono ?_
      rintro e w_5 ⟨rfl, hb⟩
      have B_5 := Lib.hid (B_4.out.trans (hb.mono s_4))
      have E_5 := Lib.hid (E_4.out.below hb)
      have s_5 := B_5.out.size
      clear hb
      rw [HH.out]
      go_wp2_with fail
      refine (With_any a b w_5 E_5.out).mono ?_
      rintro e w_6 ⟨rfl, hb⟩
      have B_6 := Lib.hid (B_5.out.trans (hb.mono s_5))
      have E_6 := Lib.hid (E_5.out.below hb)
      have s_6 := B_6.out.size
      clear hb
      rw [HI.out]
      go_wp2_with fail
      refine (kept_any w_6 E_6.out).mono ?_
      rintro e w_7 ⟨rfl, hb⟩
      have B_7 := Lib.hid (B_6.out.trans (hb.mono s_6))
      have E_7 := Lib.hid (E_6.out.below hb)
      have s_7 := B_7.out.size
      clear hb
      go_wp2
      go_ret
      exact ⟨rfl, B_7.out⟩
  subst h0
  have hx : t.contains 63 = false → x = t := fun ho => by
    have := with_closed (t := t) (a := a) ho (by rw [hH])
    rw [hH] at this
    exact this
  have HX := Lib.hid hx
  clear hx
  by_cases h1 : d = 0
  rotate_left
  · have z1 : (d == 0) = false := beq_eq_false_iff_ne.2 h1
    have z2 : (d != 0) = true := bne_iff_ne.2 h1
    clear h1 hc hH hI
    cases ho : t.contains 63
    · have O1 := Lib.hid (openT_ok HC.out)
      rw [ho] at O1
      have ex := (HX.out ho).symm
      subst ex
      clear ho
      go_enter Tryz.func8, Tryz.ntmps8
      go_wp2_with fail
      generalize (w.alloc (.cells #[.string (bs t), .string (bs a), .string (bs b)] 9)) = w_0 at *
      have s_0 := B_0.out.size
      refine (short_any [t, a, b] _ 3 w_0 R_0.out (by simp)).mono ?_
      rintro e w9 ⟨rfl, rfl⟩
      rw [hsh]
      go_wp2_with fail
      refine (With_any t qt w_0 E_0.out).mono ?_
      rintro e w_1 ⟨rfl, hb⟩
      have B_1 := Lib.hid (B_0.out.trans (hb.mono s_0))
      have E_1 := Lib.hid (E_0.out.below hb)
      have s_1 := B_1.out.size
      clear hb
      rw [T1.out]
      go_wp2_with fail
      refine (With_any qt t w_1 E_1.out).mono ?_
      rintro e w_2 ⟨rfl, hb⟩
      have B_2 := Lib.hid (B_1.out.trans (hb.mono s_1))
      have E_2 := Lib.hid (E_1.out.below hb)
      have s_2 := B_2.out.size
      clear hb
      rw [T2.out]
      go_wp2_with fail
      refine (Check_any t w_2 E_2.out).mono ?_
      rintro e w_3 ⟨rfl, hb⟩
      have B_3 := Lib.hid (B_2.out.trans (hb.mono s_2))
      have E_3 := Lib.hid (E_2.out.below hb)
      have s_3 := B_3.out.size
      clear hb
      rw [HC.out]
      go_wp2_with fail
      refine (Open_any t w_3 E_3.out).mono ?_
      rintro e w_4 ⟨rfl, hb⟩
      have B_4 := Lib.hid (B_3.out.trans (hb.mono s_3))
      have E_4 := Lib.hid (E_3.out.below hb)
      have s_4 := B_4.out.size
      clear hb
      rw [O1.out]
      go_wp2_with fail
      refine (With_any t a w_4 E_4.out).mono ?_
      rintro e w_5 ⟨rfl, hb⟩
      have B_5 := Lib.hid (B_4.out.trans (hb.mono s_4))
      have E_5 := Lib.hid (E_4.out.below hb)
      have s_5 := B_5.out.size
      clear hb
      rw [HH.out]
      go_wp2_with fail
      refine (With_any a b w_5 E_5.out).mono ?_
      rintro e w_6 ⟨rfl, hb⟩
      have B_6 := Lib.hid (B_5.out.trans (hb.mono s_5))
      have E_6 := Lib.hid (E_5.out.below hb)
      have s_6 := B_6.out.size
      clear hb
      rw [HI.out]
      go_wp2_with fail
      refine (kept_any w_6 E_6.out).mono ?_
      rintro e w_7 ⟨rfl, hb⟩
      have B_7 := Lib.hid (B_6.out.trans (hb.mono s_6))
      have E_7 := Lib.hid (E_6.out.below hb)
      have s_7 := B_7.out.size
      clear hb
      go_wp2
      go_ret
      exact ⟨rfl, B_7.out⟩
    · have O1 := Lib.hid (openT_ok HC.out)
      rw [ho] at O1
      clear ho
      go_enter Tryz.func8, Tryz.ntmps8
      go_wp2_with fail
      generalize (w.alloc (.cells #[.string (bs t), .string (bs a), .string (bs b)] 9)) = w_0 at *
      have s_0 := B_0.out.size
      refine (short_any [t, a, b] _ 3 w_0 R_0.out (by simp)).mono ?_
      rintro e w9 ⟨rfl, rfl⟩
      rw [hsh]
      go_wp2_with fail
      refine (With_any t qt w_0 E_0.out).mono ?_
      rintro e w_1 ⟨rfl, hb⟩
      have B_1 := Lib.hid (B_0.out.trans (hb.mono s_0))
      have E_1 := Lib.hid (E_0.out.below hb)
      have s_1 := B_1.out.size
      clear hb
      rw [T1.out]
      go_wp2_with fail
      refine (With_any qt t w_1 E_1.out).mono ?_
      rintro e w_2 ⟨rfl, hb⟩
      have B_2 := Lib.hid (B_1.out.trans (hb.mono s_1))
      have E_2 := Lib.hid (E_1.out.below hb)
      have s_2 := B_2.out.size
      clear hb
      rw [T2.out]
      go_wp2_with fail
      refine (Check_any t w_2 E_2.out).mono ?_
      rintro e w_3 ⟨rfl, hb⟩
      have B_3 := Lib.hid (B_2.out.trans (hb.mono s_2))
      have E_3 := Lib.hid (E_2.out.below hb)
      have s_3 := B_3.out.size
      clear hb
      rw [HC.out]
      go_wp2_with fail
      refine (Open_any t w_3 E_3.out).mono ?_
      rintro e w_4 ⟨rfl, hb⟩
      have B_4 := Lib.hid (B_3.out.trans (hb.mono s_3))
      have E_4 := Lib.hid (E_3.out.below hb)
      have s_4 := B_4.out.size
      clear hb
      rw [O1.out]
      go_wp2_with fail
      refine (With_any t a w_4 E_4.out).mono ?_
      rintro e w_5 ⟨rfl, hb⟩
      have B_5 := Lib.hid (B_4.out.trans (hb.mono s_4))
      have E_5 := Lib.hid (E_4.out.below hb)
      have s_5 := B_5.out.size
      clear hb
      rw [HH.out]
      go_wp2_with fail
      refine (With_any a b w_5 E_5.out).mono ?_
      rintro e w_6 ⟨rfl, hb⟩
      have B_6 := Lib.hid (B_5.out.trans (hb.mono s_5))
      have E_6 := Lib.hid (E_5.out.below hb)
      have s_6 := B_6.out.size
      clear hb
      rw [HI.out]
      go_wp2_with fail
      refine (kept_any w_6 E_6.out).mono ?_
      rintro e w_7 ⟨rfl, hb⟩
      have B_7 := Lib.hid (B_6.out.trans (hb.mono s_6))
      have E_7 := Lib.hid (E_6.out.below hb)
      have s_7 := B_7.out.size
      clear hb
      go_wp2
      go_ret
      exact ⟨rfl, B_7.out⟩
  subst h1
  have hXY : withT x b = withT t y := by
    have := with_with (t := t) (a := a) (b := b) (by rw [hH]) (by rw [hI])
    rw [hH, hI] at this
    exact this
  obtain ⟨u, v, hY⟩ : ∃ u v, withT t y = (u, v) := ⟨_, _, rfl⟩
  have HXY := Lib.hid (hXY.trans hY)
  have HY := Lib.hid hY
  clear hXY hY hc hH hI
  cases ho : t.contains 63
  · have O1 := Lib.hid (openT_ok HC.out)
    rw [ho] at O1
    have ex := (HX.out ho).symm
    subst ex
    clear ho
    go_enter Tryz.func8, Tryz.ntmps8
    go_wp2_with fail
    generalize (w.alloc (.cells #[.string (bs t), .string (bs a), .string (bs b)] 9)) = w_0 at *
    have s_0 := B_0.out.size
    refine (short_any [t, a, b] _ 3 w_0 R_0.out (by simp)).mono ?_
    rintro e w9 ⟨rfl, rfl⟩
    rw [hsh]
    go_wp2_with fail
    refine (With_any t qt w_0 E_0.out).mono ?_
    rintro e w_1 ⟨rfl, hb⟩
    have B_1 := Lib.hid (B_0.out.trans (hb.mono s_0))
    have E_1 := Lib.hid (E_0.out.below hb)
    have s_1 := B_1.out.size
    clear hb
    rw [T1.out]
    go_wp2_with fail
    refine (With_any qt t w_1 E_1.out).mono ?_
    rintro e w_2 ⟨rfl, hb⟩
    have B_2 := Lib.hid (B_1.out.trans (hb.mono s_1))
    have E_2 := Lib.hid (E_1.out.below hb)
    have s_2 := B_2.out.size
    clear hb
    rw [T2.out]
    go_wp2_with fail
    refine (Check_any t w_2 E_2.out).mono ?_
    rintro e w_3 ⟨rfl, hb⟩
    have B_3 := Lib.hid (B_2.out.trans (hb.mono s_2))
    have E_3 := Lib.hid (E_2.out.below hb)
    have s_3 := B_3.out.size
    clear hb
    rw [HC.out]
    go_wp2_with fail
    refine (Open_any t w_3 E_3.out).mono ?_
    rintro e w_4 ⟨rfl, hb⟩
    have B_4 := Lib.hid (B_3.out.trans (hb.mono s_3))
    have E_4 := Lib.hid (E_3.out.below hb)
    have s_4 := B_4.out.size
    clear hb
    rw [O1.out]
    go_wp2_with fail
    refine (With_any t a w_4 E_4.out).mono ?_
    rintro e w_5 ⟨rfl, hb⟩
    have B_5 := Lib.hid (B_4.out.trans (hb.mono s_4))
    have E_5 := Lib.hid (E_4.out.below hb)
    have s_5 := B_5.out.size
    clear hb
    rw [HH.out]
    go_wp2_with fail
    refine (With_any a b w_5 E_5.out).mono ?_
    rintro e w_6 ⟨rfl, hb⟩
    have B_6 := Lib.hid (B_5.out.trans (hb.mono s_5))
    have E_6 := Lib.hid (E_5.out.below hb)
    have s_6 := B_6.out.size
    clear hb
    rw [HI.out]
    go_wp2_with fail
    refine (With_any t b w_6 E_6.out).mono ?_
    rintro e w_7 ⟨rfl, hb⟩
    have B_7 := Lib.hid (B_6.out.trans (hb.mono s_6))
    have E_7 := Lib.hid (E_6.out.below hb)
    have s_7 := B_7.out.size
    clear hb
    rw [HXY.out]
    go_wp2_with fail
    refine (With_any t y w_7 E_7.out).mono ?_
    rintro e w_8 ⟨rfl, hb⟩
    have B_8 := Lib.hid (B_7.out.trans (hb.mono s_7))
    have E_8 := Lib.hid (E_7.out.below hb)
    have s_8 := B_8.out.size
    clear hb
    rw [HY.out]
    go_wp2_with fail
    refine (kept_any w_8 E_8.out).mono ?_
    rintro e w_9 ⟨rfl, hb⟩
    have B_9 := Lib.hid (B_8.out.trans (hb.mono s_8))
    have E_9 := Lib.hid (E_8.out.below hb)
    have s_9 := B_9.out.size
    clear hb
    go_wp2
    go_ret
    exact ⟨rfl, B_9.out⟩
  · have O1 := Lib.hid (openT_ok HC.out)
    rw [ho] at O1
    clear ho
    go_enter Tryz.func8, Tryz.ntmps8
    go_wp2_with fail
    generalize (w.alloc (.cells #[.string (bs t), .string (bs a), .string (bs b)] 9)) = w_0 at *
    have s_0 := B_0.out.size
    refine (short_any [t, a, b] _ 3 w_0 R_0.out (by simp)).mono ?_
    rintro e w9 ⟨rfl, rfl⟩
    rw [hsh]
    go_wp2_with fail
    refine (With_any t qt w_0 E_0.out).mono ?_
    rintro e w_1 ⟨rfl, hb⟩
    have B_1 := Lib.hid (B_0.out.trans (hb.mono s_0))
    have E_1 := Lib.hid (E_0.out.below hb)
    have s_1 := B_1.out.size
    clear hb
    rw [T1.out]
    go_wp2_with fail
    refine (With_any qt t w_1 E_1.out).mono ?_
    rintro e w_2 ⟨rfl, hb⟩
    have B_2 := Lib.hid (B_1.out.trans (hb.mono s_1))
    have E_2 := Lib.hid (E_1.out.below hb)
    have s_2 := B_2.out.size
    clear hb
    rw [T2.out]
    go_wp2_with fail
    refine (Check_any t w_2 E_2.out).mono ?_
    rintro e w_3 ⟨rfl, hb⟩
    have B_3 := Lib.hid (B_2.out.trans (hb.mono s_2))
    have E_3 := Lib.hid (E_2.out.below hb)
    have s_3 := B_3.out.size
    clear hb
    rw [HC.out]
    go_wp2_with fail
    refine (Open_any t w_3 E_3.out).mono ?_
    rintro e w_4 ⟨rfl, hb⟩
    have B_4 := Lib.hid (B_3.out.trans (hb.mono s_3))
    have E_4 := Lib.hid (E_3.out.below hb)
    have s_4 := B_4.out.size
    clear hb
    rw [O1.out]
    go_wp2_with fail
    refine (With_any t a w_4 E_4.out).mono ?_
    rintro e w_5 ⟨rfl, hb⟩
    have B_5 := Lib.hid (B_4.out.trans (hb.mono s_4))
    have E_5 := Lib.hid (E_4.out.below hb)
    have s_5 := B_5.out.size
    clear hb
    rw [HH.out]
    go_wp2_with fail
    refine (With_any a b w_5 E_5.out).mono ?_
    rintro e w_6 ⟨rfl, hb⟩
    have B_6 := Lib.hid (B_5.out.trans (hb.mono s_5))
    have E_6 := Lib.hid (E_5.out.below hb)
    have s_6 := B_6.out.size
    clear hb
    rw [HI.out]
    go_wp2_with fail
    refine (With_any x b w_6 E_6.out).mono ?_
    rintro e w_7 ⟨rfl, hb⟩
    have B_7 := Lib.hid (B_6.out.trans (hb.mono s_6))
    have E_7 := Lib.hid (E_6.out.below hb)
    have s_7 := B_7.out.size
    clear hb
    rw [HXY.out]
    go_wp2_with fail
    refine (With_any t y w_7 E_7.out).mono ?_
    rintro e w_8 ⟨rfl, hb⟩
    have B_8 := Lib.hid (B_7.out.trans (hb.mono s_7))
    have E_8 := Lib.hid (E_7.out.below hb)
    have s_8 := B_8.out.size
    clear hb
    rw [HY.out]
    go_wp2_with fail
    refine (kept_any w_8 E_8.out).mono ?_
    rintro e w_9 ⟨rfl, hb⟩
    have B_9 := Lib.hid (B_8.out.trans (hb.mono s_8))
    have E_9 := Lib.hid (E_8.out.below hb)
    have s_9 := B_9.out.size
    clear hb
    go_wp2
    go_ret
    exact ⟨rfl, B_9.out⟩
end Go.Proofs.YthcoppfdffhjfaaGreatDoor
