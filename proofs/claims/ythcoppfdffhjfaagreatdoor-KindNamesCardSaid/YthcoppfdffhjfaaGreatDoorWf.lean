/- The law KindMatched answers true: the walk. -/
import Derived.Test.YthcoppfdffhjfaaGreatDoorWd
namespace Go.Proofs.YthcoppfdffhjfaaGreatDoor
open Go Go.RowKit

theorem ne_lists {a b : Bys} (h : a ≠ b) : ((bs a).toList == (bs b).toList) = false ∧ ((bs a).toList != (bs b).toList) = true := by
  rw [ByteArray.toList_eq, ByteArray.toList_eq, bs_data, bs_data]
  exact ⟨beq_eq_false_iff_ne.2 h, bne_iff_ne.2 h⟩

set_option maxRecDepth 100000 in
set_option maxHeartbeats 12800000 in
theorem KindMatched_true (p t o : Bys) (w : World) (he : Env w) :
    Calls Tryz.prog 9 #[.string (bs p), .string (bs t), .string (bs o)] w fun e w' => e = .returned (.bool true) ∧ Below w.heap.size w w' := by
  have hb0 := (Below.refl _ w).alloc (Nat.le_refl _) (.cells #[.string (bs p), .string (bs t), .string (bs o)] 9)
  have B_0 := Lib.hid hb0
  have E_0 := Lib.hid (he.below hb0)
  have R_0 := Lib.hid (strRow_block (w := w.alloc (.cells #[.string (bs p), .string (bs t), .string (bs o)] 9)) (l := [p, t, o]) (heap_alloc_new w _))
  clear hb0 he
  have t0 : (bs []).toList.isEmpty = true := by rw [ByteArray.toList_eq]; rfl
  cases hsh : [p, t, o].all shortB
  · go_enter Tryz.func9, Tryz.ntmps9
    go_wp2_with fail
    generalize (w.alloc (.cells #[.string (bs p), .string (bs t), .string (bs o)] 9)) = w_0 at *
    have s_0 := B_0.out.size
    refine (short_any [p, t, o] _ 3 w_0 R_0.out (by simp)).mono ?_
    rintro e w9 ⟨rfl, rfl⟩
    rw [hsh]
    go_wp2_with fail
    refine (kept_any w_0 E_0.out).mono ?_
    rintro e w_1 ⟨rfl, hb⟩
    have B_1 := Lib.hid (B_0.out.trans (hb.mono s_0))
    have E_1 := Lib.hid (E_0.out.below hb)
    have s_1 := B_1.out.size
    clear hb
    go_wp2
    go_ret
    exact ⟨rfl, B_1.out⟩
  obtain ⟨a, is, c, hM⟩ : ∃ a is c, matchT p t = (a, is, c) := ⟨_, _, _, rfl⟩
  have HM := Lib.hid hM
  by_cases h0 : c = 0
  rotate_left
  · have z1 : (c == 0) = false := beq_eq_false_iff_ne.2 h0
    have z2 : (c != 0) = true := bne_iff_ne.2 h0
    clear h0 hM
    go_enter Tryz.func9, Tryz.ntmps9
    go_wp2_with fail
    generalize (w.alloc (.cells #[.string (bs p), .string (bs t), .string (bs o)] 9)) = w_0 at *
    have s_0 := B_0.out.size
    refine (short_any [p, t, o] _ 3 w_0 R_0.out (by simp)).mono ?_
    rintro e w9 ⟨rfl, rfl⟩
    rw [hsh]
    go_wp2_with fail
    refine (Match_any p t w_0 E_0.out).mono ?_
    rintro e w_1 ⟨rfl, hb⟩
    have B_1 := Lib.hid (B_0.out.trans (hb.mono s_0))
    have E_1 := Lib.hid (E_0.out.below hb)
    have s_1 := B_1.out.size
    clear hb
    rw [HM.out]
    go_wp2_with fail
    refine (kept_any w_1 E_1.out).mono ?_
    rintro e w_2 ⟨rfl, hb⟩
    have B_2 := Lib.hid (B_1.out.trans (hb.mono s_1))
    have E_2 := Lib.hid (E_1.out.below hb)
    have s_2 := B_2.out.size
    clear hb
    go_wp2
    go_ret
    exact ⟨rfl, B_2.out⟩
  subst h0
  obtain ⟨hp, ht⟩ := matchT_zero (p := p) (t := t) (by rw [hM])
  have HO := Lib.hid (openT_ok hp)
  cases ho : p.contains 63
  · have hq := matchT_closed hp ho ht
    rw [hM] at hq
    injection hq with q1 q2
    injection q2 with q2 _
    rw [ho] at HO
    by_cases hpt : p = t
    · subst hpt
      have q3 : is = true := by rw [q2]; simp
      subst q1 q3
      clear hM hp ht ho q2
      go_enter Tryz.func9, Tryz.ntmps9
      go_wp2_with fail
      generalize (w.alloc (.cells #[.string (bs p), .string (bs p), .string (bs o)] 9)) = w_0 at *
      have s_0 := B_0.out.size
      refine (short_any [p, p, o] _ 3 w_0 R_0.out (by simp)).mono ?_
      rintro e w9 ⟨rfl, rfl⟩
      rw [hsh]
      go_wp2_with fail
      refine (Match_any p p w_0 E_0.out).mono ?_
      rintro e w_1 ⟨rfl, hb⟩
      have B_1 := Lib.hid (B_0.out.trans (hb.mono s_0))
      have E_1 := Lib.hid (E_0.out.below hb)
      have s_1 := B_1.out.size
      clear hb
      rw [HM.out]
      go_wp2_with fail
      refine (Open_any p w_1 E_1.out).mono ?_
      rintro e w_2 ⟨rfl, hb⟩
      have B_2 := Lib.hid (B_1.out.trans (hb.mono s_1))
      have E_2 := Lib.hid (E_1.out.below hb)
      have s_2 := B_2.out.size
      clear hb
      rw [HO.out]
      go_wp2_with fail
      refine (kept_any w_2 E_2.out).mono ?_
      rintro e w_3 ⟨rfl, hb⟩
      have B_3 := Lib.hid (B_2.out.trans (hb.mono s_2))
      have E_3 := Lib.hid (E_2.out.below hb)
      have s_3 := B_3.out.size
      clear hb
      go_wp2
      go_ret
      exact ⟨rfl, B_3.out⟩
    · have q3 : is = false := by rw [q2]; exact beq_eq_false_iff_ne.2 hpt
      subst q1 q3
      obtain ⟨n1, n2⟩ := ne_lists hpt
      clear hM hp ht ho q2 hpt
      go_enter Tryz.func9, Tryz.ntmps9
      go_wp2_with fail
      generalize (w.alloc (.cells #[.string (bs p), .string (bs t), .string (bs o)] 9)) = w_0 at *
      have s_0 := B_0.out.size
      refine (short_any [p, t, o] _ 3 w_0 R_0.out (by simp)).mono ?_
      rintro e w9 ⟨rfl, rfl⟩
      rw [hsh]
      go_wp2_with fail
      refine (Match_any p t w_0 E_0.out).mono ?_
      rintro e w_1 ⟨rfl, hb⟩
      have B_1 := Lib.hid (B_0.out.trans (hb.mono s_0))
      have E_1 := Lib.hid (E_0.out.below hb)
      have s_1 := B_1.out.size
      clear hb
      rw [HM.out]
      go_wp2_with fail
      refine (Open_any p w_1 E_1.out).mono ?_
      rintro e w_2 ⟨rfl, hb⟩
      have B_2 := Lib.hid (B_1.out.trans (hb.mono s_1))
      have E_2 := Lib.hid (E_1.out.below hb)
      have s_2 := B_2.out.size
      clear hb
      rw [HO.out]
      go_wp2_with fail
      refine (kept_any w_2 E_2.out).mono ?_
      rintro e w_3 ⟨rfl, hb⟩
      have B_3 := Lib.hid (B_2.out.trans (hb.mono s_2))
      have E_3 := Lib.hid (E_2.out.below hb)
      have s_3 := B_3.out.size
      clear hb
      go_wp2
      go_ret
      exact ⟨rfl, B_3.out⟩
  rw [ho] at HO
  obtain ⟨x, d, hX⟩ : ∃ x d, withT p o = (x, d) := ⟨_, _, rfl⟩
  have HX := Lib.hid hX
  have hcase : (is = true ∧ withT p a = (t, 0) ∧ (d = 0 → x = t → a = o)) ∨ (is = false ∧ a = [] ∧ (d = 0 → x ≠ t)) := by
    rcases matchT_cases hp ho ht with ⟨a', _, _, h⟩ | ⟨hn, h⟩
    · rw [hM] at h
      injection h with h1 h2
      injection h2 with h2 _
      subst h1 h2
      refine .inl ⟨rfl, match_with ho hM, fun hd hx => ?_⟩
      subst hd hx
      have := match_only (p := p) (t := x) (o := o) ho (by rw [hM]) hX
      rw [hM] at this
      injection this
    · rw [hM] at h
      injection h with h1 h2
      injection h2 with h2 _
      subst h1 h2
      refine .inr ⟨rfl, rfl, fun hd hx => ?_⟩
      subst hd hx
      have := match_only (p := p) (t := x) (o := o) ho (by rw [hM]) hX
      rw [hM] at this
      injection this with _ this
      injection this with this _
      cases this
  clear hp ht ho hX hM
  rcases hcase with ⟨rfl, hW, hc⟩ | ⟨rfl, rfl, hc⟩
  · have HW := Lib.hid hW
    clear hW
    by_cases hd : d = 0
    · subst hd
      by_cases hx : x = t
      · subst hx
        obtain rfl := hc rfl rfl
        clear hc
        go_enter Tryz.func9, Tryz.ntmps9
        go_wp2_with fail
        generalize (w.alloc (.cells #[.string (bs p), .string (bs x), .string (bs a)] 9)) = w_0 at *
        have s_0 := B_0.out.size
        refine (short_any [p, x, a] _ 3 w_0 R_0.out (by simp)).mono ?_
        rintro e w9 ⟨rfl, rfl⟩
        rw [hsh]
        go_wp2_with fail
        refine (Match_any p x w_0 E_0.out).mono ?_
        rintro e w_1 ⟨rfl, hb⟩
        have B_1 := Lib.hid (B_0.out.trans (hb.mono s_0))
        have E_1 := Lib.hid (E_0.out.below hb)
        have s_1 := B_1.out.size
        clear hb
        rw [HM.out]
        go_wp2_with fail
        refine (Open_any p w_1 E_1.out).mono ?_
        rintro e w_2 ⟨rfl, hb⟩
        have B_2 := Lib.hid (B_1.out.trans (hb.mono s_1))
        have E_2 := Lib.hid (E_1.out.below hb)
        have s_2 := B_2.out.size
        clear hb
        rw [HO.out]
        go_wp2_with fail
        refine (With_any p a w_2 E_2.out).mono ?_
        rintro e w_3 ⟨rfl, hb⟩
        have B_3 := Lib.hid (B_2.out.trans (hb.mono s_2))
        have E_3 := Lib.hid (E_2.out.below hb)
        have s_3 := B_3.out.size
        clear hb
        rw [HW.out]
        go_wp2_with fail
        refine (With_any p a w_3 E_3.out).mono ?_
        rintro e w_4 ⟨rfl, hb⟩
        have B_4 := Lib.hid (B_3.out.trans (hb.mono s_3))
        have E_4 := Lib.hid (E_3.out.below hb)
        have s_4 := B_4.out.size
        clear hb
        rw [HX.out]
        go_wp2_with fail
        refine (kept_any w_4 E_4.out).mono ?_
        rintro e w_5 ⟨rfl, hb⟩
        have B_5 := Lib.hid (B_4.out.trans (hb.mono s_4))
        have E_5 := Lib.hid (E_4.out.below hb)
        have s_5 := B_5.out.size
        clear hb
        go_wp2
        go_ret
        exact ⟨rfl, B_5.out⟩
      · obtain ⟨n1, n2⟩ := ne_lists hx
        clear hc hx
        go_enter Tryz.func9, Tryz.ntmps9
        go_wp2_with fail
        generalize (w.alloc (.cells #[.string (bs p), .string (bs t), .string (bs o)] 9)) = w_0 at *
        have s_0 := B_0.out.size
        refine (short_any [p, t, o] _ 3 w_0 R_0.out (by simp)).mono ?_
        rintro e w9 ⟨rfl, rfl⟩
        rw [hsh]
        go_wp2_with fail
        refine (Match_any p t w_0 E_0.out).mono ?_
        rintro e w_1 ⟨rfl, hb⟩
        have B_1 := Lib.hid (B_0.out.trans (hb.mono s_0))
        have E_1 := Lib.hid (E_0.out.below hb)
        have s_1 := B_1.out.size
        clear hb
        rw [HM.out]
        go_wp2_with fail
        refine (Open_any p w_1 E_1.out).mono ?_
        rintro e w_2 ⟨rfl, hb⟩
        have B_2 := Lib.hid (B_1.out.trans (hb.mono s_1))
        have E_2 := Lib.hid (E_1.out.below hb)
        have s_2 := B_2.out.size
        clear hb
        rw [HO.out]
        go_wp2_with fail
        refine (With_any p a w_2 E_2.out).mono ?_
        rintro e w_3 ⟨rfl, hb⟩
        have B_3 := Lib.hid (B_2.out.trans (hb.mono s_2))
        have E_3 := Lib.hid (E_2.out.below hb)
        have s_3 := B_3.out.size
        clear hb
        rw [HW.out]
        go_wp2_with fail
        refine (With_any p o w_3 E_3.out).mono ?_
        rintro e w_4 ⟨rfl, hb⟩
        have B_4 := Lib.hid (B_3.out.trans (hb.mono s_3))
        have E_4 := Lib.hid (E_3.out.below hb)
        have s_4 := B_4.out.size
        clear hb
        rw [HX.out]
        go_wp2_with fail
        refine (kept_any w_4 E_4.out).mono ?_
        rintro e w_5 ⟨rfl, hb⟩
        have B_5 := Lib.hid (B_4.out.trans (hb.mono s_4))
        have E_5 := Lib.hid (E_4.out.below hb)
        have s_5 := B_5.out.size
        clear hb
        go_wp2
        go_ret
        exact ⟨rfl, B_5.out⟩
    · have z1 : (d == 0) = false := beq_eq_false_iff_ne.2 hd
      have z2 : (d != 0) = true := bne_iff_ne.2 hd
      clear hc hd
      go_enter Tryz.func9, Tryz.ntmps9
      go_wp2_with fail
      generalize (w.alloc (.cells #[.string (bs p), .string (bs t), .string (bs o)] 9)) = w_0 at *
      have s_0 := B_0.out.size
      refine (short_any [p, t, o] _ 3 w_0 R_0.out (by simp)).mono ?_
      rintro e w9 ⟨rfl, rfl⟩
      rw [hsh]
      go_wp2_with fail
      refine (Match_any p t w_0 E_0.out).mono ?_
      rintro e w_1 ⟨rfl, hb⟩
      have B_1 := Lib.hid (B_0.out.trans (hb.mono s_0))
      have E_1 := Lib.hid (E_0.out.below hb)
      have s_1 := B_1.out.size
      clear hb
      rw [HM.out]
      go_wp2_with fail
      refine (Open_any p w_1 E_1.out).mono ?_
      rintro e w_2 ⟨rfl, hb⟩
      have B_2 := Lib.hid (B_1.out.trans (hb.mono s_1))
      have E_2 := Lib.hid (E_1.out.below hb)
      have s_2 := B_2.out.size
      clear hb
      rw [HO.out]
      go_wp2_with fail
      refine (With_any p a w_2 E_2.out).mono ?_
      rintro e w_3 ⟨rfl, hb⟩
      have B_3 := Lib.hid (B_2.out.trans (hb.mono s_2))
      have E_3 := Lib.hid (E_2.out.below hb)
      have s_3 := B_3.out.size
      clear hb
      rw [HW.out]
      go_wp2_with fail
      refine (With_any p o w_3 E_3.out).mono ?_
      rintro e w_4 ⟨rfl, hb⟩
      have B_4 := Lib.hid (B_3.out.trans (hb.mono s_3))
      have E_4 := Lib.hid (E_3.out.below hb)
      have s_4 := B_4.out.size
      clear hb
      rw [HX.out]
      go_wp2_with fail
      refine (kept_any w_4 E_4.out).mono ?_
      rintro e w_5 ⟨rfl, hb⟩
      have B_5 := Lib.hid (B_4.out.trans (hb.mono s_4))
      have E_5 := Lib.hid (E_4.out.below hb)
      have s_5 := B_5.out.size
      clear hb
      go_wp2
      go_ret
      exact ⟨rfl, B_5.out⟩
  · by_cases hd : d = 0
    · subst hd
      obtain ⟨n1, n2⟩ := ne_lists (hc rfl)
      clear hc
      go_enter Tryz.func9, Tryz.ntmps9
      go_wp2_with fail
      generalize (w.alloc (.cells #[.string (bs p), .string (bs t), .string (bs o)] 9)) = w_0 at *
      have s_0 := B_0.out.size
      refine (short_any [p, t, o] _ 3 w_0 R_0.out (by simp)).mono ?_
      rintro e w9 ⟨rfl, rfl⟩
      rw [hsh]
      go_wp2_with fail
      refine (Match_any p t w_0 E_0.out).mono ?_
      rintro e w_1 ⟨rfl, hb⟩
      have B_1 := Lib.hid (B_0.out.trans (hb.mono s_0))
      have E_1 := Lib.hid (E_0.out.below hb)
      have s_1 := B_1.out.size
      clear hb
      rw [HM.out]
      go_wp2_with fail
      refine (Open_any p w_1 E_1.out).mono ?_
      rintro e w_2 ⟨rfl, hb⟩
      have B_2 := Lib.hid (B_1.out.trans (hb.mono s_1))
      have E_2 := Lib.hid (E_1.out.below hb)
      have s_2 := B_2.out.size
      clear hb
      rw [HO.out]
      go_wp2_with fail
      refine (With_any p o w_2 E_2.out).mono ?_
      rintro e w_3 ⟨rfl, hb⟩
      have B_3 := Lib.hid (B_2.out.trans (hb.mono s_2))
      have E_3 := Lib.hid (E_2.out.below hb)
      have s_3 := B_3.out.size
      clear hb
      rw [HX.out]
      go_wp2_with fail
      refine (kept_any w_3 E_3.out).mono ?_
      rintro e w_4 ⟨rfl, hb⟩
      have B_4 := Lib.hid (B_3.out.trans (hb.mono s_3))
      have E_4 := Lib.hid (E_3.out.below hb)
      have s_4 := B_4.out.size
      clear hb
      go_wp2
      go_ret
      exact ⟨rfl, B_4.out⟩
    · have z1 : (d == 0) = false := beq_eq_false_iff_ne.2 hd
      have z2 : (d != 0) = true := bne_iff_ne.2 hd
      clear hc hd
      go_enter Tryz.func9, Tryz.ntmps9
      go_wp2_with fail
      generalize (w.alloc (.cells #[.string (bs p), .string (bs t), .string (bs o)] 9)) = w_0 at *
      have s_0 := B_0.out.size
      refine (short_any [p, t, o] _ 3 w_0 R_0.out (by simp)).mono ?_
      rintro e w9 ⟨rfl, rfl⟩
      rw [hsh]
      go_wp2_with fail
      refine (Match_any p t w_0 E_0.out).mono ?_
      rintro e w_1 ⟨rfl, hb⟩
      have B_1 := Lib.hid (B_0.out.trans (hb.mono s_0))
      have E_1 := Lib.hid (E_0.out.below hb)
      have s_1 := B_1.out.size
      clear hb
      rw [HM.out]
      go_wp2_with fail
      refine (Open_any p w_1 E_1.out).mono ?_
      rintro e w_2 ⟨rfl, hb⟩
      have B_2 := Lib.hid (B_1.out.trans (hb.mono s_1))
      have E_2 := Lib.hid (E_1.out.below hb)
      have s_2 := B_2.out.size
      clear hb
      rw [HO.out]
      go_wp2_with fail
      refine (With_any p o w_2 E_2.out).mono ?_
      rintro e w_3 ⟨rfl, hb⟩
      have B_3 := Lib.hid (B_2.out.trans (hb.mono s_2))
      have E_3 := Lib.hid (E_2.out.below hb)
      have s_3 := B_3.out.size
      clear hb
      rw [HX.out]
      go_wp2_with fail
      refine (kept_any w_3 E_3.out).mono ?_
      rintro e w_4 ⟨rfl, hb⟩
      have B_4 := Lib.hid (B_3.out.trans (hb.mono s_3))
      have E_4 := Lib.hid (E_3.out.below hb)
      have s_4 := B_4.out.size
      clear hb
      go_wp2
      go_ret
      exact ⟨rfl, B_4.out⟩
end Go.Proofs.YthcoppfdffhjfaaGreatDoor
