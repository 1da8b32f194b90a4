/- The law KindLevels answers true: the walk. -/
import Derived.Test.YthcoppfdffhjfaaGreatDoorWf
namespace Go.Proofs.YthcoppfdffhjfaaGreatDoor
open Go Go.RowKit

theorem levT_no {t : Bys} (h : chk t ≠ 0) : levT t = (0, chk t) := by
  unfold levT
  rw [if_pos h]
theorem insideT_no {t : Bys} (h : chk t ≠ 0) : insideT t = ([], chk t) := by
  unfold insideT
  rw [if_pos h]
theorem inside_count {T : Ty} (h : Good T) : (insideT T.pr).1.length ≤ 101 := by
  rw [insideT_good h]
  have h1 := dedup_len (T.all.map Ty.pr)
  have h2 := T.all_len
  have h3 := h.len
  simp only [List.length_map] at h1
  simp only
  omega

set_option maxRecDepth 100000 in
set_option maxHeartbeats 12800000 in
theorem KindLevels_true (t a : Bys) (w : World) (he : Env w) :
    Calls Tryz.prog 11 #[.string (bs t), .string (bs a)] w fun e w' => e = .returned (.bool true) ∧ Below w.heap.size w w' := by
  have hb0 := (Below.refl _ w).alloc (Nat.le_refl _) (.cells #[.string (bs t), .string (bs a)] 9)
  have B_0 := Lib.hid hb0
  have E_0 := Lib.hid (he.below hb0)
  have R_0 := Lib.hid (strRow_block (w := w.alloc (.cells #[.string (bs t), .string (bs a)] 9)) (l := [t, a]) (heap_alloc_new w _))
  clear hb0 he
  cases hsh : [t, a].all shortB
  · go_enter Tryz.func11, Tryz.ntmps11
    go_wp2_with fail
    generalize (w.alloc (.cells #[.string (bs t), .string (bs a)] 9)) = w_0 at *
    have s_0 := B_0.out.size
    refine (short_any [t, a] _ 2 w_0 R_0.out (by simp)).mono ?_
    rintro e w9 ⟨rfl, rfl⟩
    rw [hsh]
    go_wp2_with fail
    refine (kept_any w_0 E_0.out).mono ?_
    rintro e w_1 ⟨rfl, hb⟩
    have B_1 := Lib.hid (B_0.out.trans (hb.mono s_0))
    have E_1 := Lib.hid (E_0.out.below hb)
    have s_1 := B_1.out.size
    clear hb
    go_wp2
    go_ret
    exact ⟨rfl, B_1.out⟩
  by_cases hc : chk t = 0
  rotate_left
  · have L1 := Lib.hid (levT_no hc)
    have I1 := Lib.hid (insideT_no hc)
    have z2 : (chk t != 0) = true := bne_iff_ne.2 hc
    clear hc
    go_enter Tryz.func11, Tryz.ntmps11
    go_wp2_with fail
    generalize (w.alloc (.cells #[.string (bs t), .string (bs a)] 9)) = w_0 at *
    have s_0 := B_0.out.size
    refine (short_any [t, a] _ 2 w_0 R_0.out (by simp)).mono ?_
    rintro e w9 ⟨rfl, rfl⟩
    rw [hsh]
    go_wp2_with fail
    refine (Level_any t w_0 E_0.out).mono ?_
    rintro e w_1 ⟨rfl, hb⟩
    have B_1 := Lib.hid (B_0.out.trans (hb.mono s_0))
    have E_1 := Lib.hid (E_0.out.below hb)
    have s_1 := B_1.out.size
    clear hb
    rw [L1.out]
    go_wp2_with fail
    refine (Inside_any t w_1 E_1.out).mono ?_
    rintro e w_2 ⟨v, rfl, hv, hb⟩
    rw [I1.out] at hv ⊢
    obtain ⟨av, cv, rfl⟩ := (stV_own hv).slice
    have B_2 := Lib.hid (B_1.out.trans (hb.mono s_1))
    have E_2 := Lib.hid (E_1.out.below hb)
    have s_2 := B_2.out.size
    clear hb hv
    go_wp2_with fail
    refine (kept_any w_2 E_2.out).mono ?_
    rintro e w_3 ⟨rfl, hb⟩
    have B_3 := Lib.hid (B_2.out.trans (hb.mono s_2))
    have E_3 := Lib.hid (E_2.out.below hb)
    have s_3 := B_3.out.size
    clear hb
    go_wp2
    go_ret
    exact ⟨rfl, B_3.out⟩
  obtain ⟨T, hT, rfl⟩ := chk_ok hc
  have hne := inside_ne hT
  have hcnt := inside_count hT
  have hlev : ∀ (i : Nat) (x : Bys), (insideT T.pr).1[i]? = some x → ∃ U : Ty, Good U ∧ x = U.pr ∧ (i = 0 ↔ x = T.pr) ∧ (0 < i → U.lev < T.lev) := fun i x h => inside_lev hT h
  have L1 := Lib.hid (levT_good hT)
  obtain ⟨l, hl⟩ : ∃ l, (insideT T.pr).1 = l := ⟨_, rfl⟩
  have I1 : Hid (insideT T.pr = (l, 0)) := Lib.hid (Prod.ext hl ((insideT_err T.pr).trans hc))
  rw [hl] at hne hcnt hlev
  have HLEV := Lib.hid hlev
  have HT := Lib.hid hT
  have hpos : (0 : Int) < (l.length : Int) := by omega
  have h1 : (1 : Int) ≤ ((T.lev : Nat) : Int) := by have := T.lev_pos; omega
  have h6 : ((T.lev : Nat) : Int) ≤ 6 := by have := hT.lev; omega
  have HCNT := Lib.hid hcnt
  clear hc hT hl hlev
  go_enter Tryz.func11, Tryz.ntmps11
  go_wp2_with fail
  generalize (w.alloc (.cells #[.string (bs T.pr), .string (bs a)] 9)) = w_0 at *
  have s_0 := B_0.out.size
  refine (short_any [T.pr, a] _ 2 w_0 R_0.out (by simp)).mono ?_
  rintro e w9 ⟨rfl, rfl⟩
  rw [hsh]
  go_wp2_with fail
  refine (Level_any T.pr w_0 E_0.out).mono ?_
  rintro e w_1 ⟨rfl, hb⟩
  have B_1 := Lib.hid (B_0.out.trans (hb.mono s_0))
  have E_1 := Lib.hid (E_0.out.below hb)
  have s_1 := B_1.out.size
  clear hb
  rw [L1.out]
  go_wp2_with fail
  refine (Inside_any T.pr w_1 E_1.out).mono ?_
  rintro e w_2 ⟨v, rfl, hv, hb⟩
  rw [I1.out] at hv ⊢
  have hv2 := stV_own hv
  have B_2 := Lib.hid (B_1.out.trans (hb.mono s_1))
  have E_2 := Lib.hid (E_1.out.below hb)
  have s_2 := B_2.out.size
  rcases hv2 with ⟨h0, _⟩ | ⟨gv, ov, cv, rfl, hgv, hrow⟩
  · have h0 : l = [] := h0; rw [h0] at hne; simp at hne
  have HGV := Lib.hid hgv
  have HROW := Lib.hid hrow
  clear hb hv hgv hrow hne
  go_wp2
  go_loopw [9] (fun v9 wr => ∃ k : Nat, k ≤ l.length ∧ v9 = .int .i64 k ∧ Hid (Below w_2.heap.size w_2 wr)) (fun i _ => l.length - (intOf i).toNat)
  case atStart => exact ⟨0, Nat.zero_le _, rfl, Lib.hid (Below.refl _ _)⟩
  case round =>
    obtain ⟨k, hk, rfl, hb⟩ := hrel
    have hkb : (k : Int) ≤ 101 := by have := HCNT.out; omega
    have HE := Lib.hid (E_2.out.below hb.out)
    by_cases hlt : k < l.length
    · have hx : l[k]? = some l[k] := List.getElem?_eq_getElem hlt
      obtain ⟨U, hU, hxe, h0, hlt2⟩ := HLEV.out k _ hx
      rw [hxe] at hx h0
      have HXE := Lib.hid hxe
      have a0 := (HROW.out.keep (hb.out.block gv HGV.out)) k _ hx
      have LU := Lib.hid (levT_good hU)
      have f2 : (((k : Int) == 0) = true ∧ ((bs U.pr).toList == (bs T.pr).toList) = true ∧ ¬ (0 : Int) < (k : Int)) ∨ (((k : Int) == 0) = false ∧ ((bs U.pr).toList == (bs T.pr).toList) = false ∧ (0 : Int) < (k : Int) ∧ ¬ ((T.lev : Nat) : Int) ≤ ((U.lev : Nat) : Int)) := by
        by_cases hk0 : k = 0
        · refine .inl ⟨by rw [hk0]; rfl, ?_, by omega⟩
          rw [h0.1 hk0]; simp
        · refine .inr ⟨beq_eq_false_iff_ne.2 (by omega), ?_, by omega, by have := hlt2 (by omega); omega⟩
          have : U.pr ≠ T.pr := fun e => hk0 (h0.2 e)
          exact (ne_lists this).1
      have HLT := Lib.hid hlt
      clear hx h0 hlt2 hxe hU
      rcases f2 with ⟨f1, f2, f3⟩ | ⟨f1, f2, f3, f4⟩
      all_goals
        go_wp2_with fail
        refine (Level_any U.pr wr HE.out).mono ?_
        rintro e w' ⟨rfl, hb2⟩
        rw [LU.out]
        have HB2 := Lib.hid (hb.out.trans (hb2.mono hb.out.size))
        have a0 := (HROW.out.keep (HB2.out.block gv HGV.out)) k _ (by first | exact (List.getElem?_eq_some_iff.2 ⟨HLT.out, HXE.out⟩))
        clear hb2
        go_wp2
        go_roundw
        case rel => exact ⟨k + 1, HLT.out, by go_num, HB2⟩
        case measure => have := HLT.out; simp [intOf]; omega
    · have hkl : k = l.length := by omega
      subst hkl
      have hbx := B_2.out.trans (hb.out.mono s_2)
      obtain ⟨m, gg, hA⟩ : ∃ m gg, levT a = (m, gg) := ⟨_, _, rfl⟩
      obtain ⟨x, h, hX⟩ : ∃ x h, withT T.pr a = (x, h) := ⟨_, _, rfl⟩
      obtain ⟨kk, jj, hK⟩ : ∃ kk jj, levT x = (kk, jj) := ⟨_, _, rfl⟩
      have HA := Lib.hid hA
      have HX := Lib.hid hX
      have HK := Lib.hid hK
      have B_9 := Lib.hid hbx
      have E_9 := HE
      have s_9 := B_9.out.size
      clear hb hbx
      by_cases hh : h = 0
      · subst hh
        have hca := (withT_ok hX).2.1
        obtain ⟨A, gA, rfl⟩ := chk_ok hca
        rw [levT_good gA] at hA
        injection hA with e1 e2
        subst e1 e2
        obtain ⟨X, gX, rfl, hlx⟩ := lev_with HT.out gA hX
        rw [levT_good gX] at hK
        injection hK with e1 e2
        subst e1 e2
        have f5 : ((X.lev : Nat) : Int) ≤ ((T.lev : Nat) : Int) + ((A.lev : Nat) : Int) - 1 := by omega
        have f7 : ((A.lev : Nat) : Int) ≤ 6 := by have := gA.lev; omega
        clear hX gA gX hlx hca
        go_wp2_with fail
        refine (Level_any A.pr wr E_9.out).mono ?_
        rintro e w_10 ⟨rfl, hb⟩
        have B_10 := Lib.hid (B_9.out.trans (hb.mono s_9))
        have E_10 := Lib.hid (E_9.out.below hb)
        have s_10 := B_10.out.size
        clear hb
        rw [HA.out]
        go_wp2_with fail
        refine (With_any T.pr A.pr w_10 E_10.out).mono ?_
        rintro e w_11 ⟨rfl, hb⟩
        have B_11 := Lib.hid (B_10.out.trans (hb.mono s_10))
        have E_11 := Lib.hid (E_10.out.below hb)
        have s_11 := B_11.out.size
        clear hb
        rw [HX.out]
        go_wp2_with fail
        refine (Level_any X.pr w_11 E_11.out).mono ?_
        rintro e w_12 ⟨rfl, hb⟩
        have B_12 := Lib.hid (B_11.out.trans (hb.mono s_11))
        have E_12 := Lib.hid (E_11.out.below hb)
        have s_12 := B_12.out.size
        clear hb
        rw [HK.out]
        go_wp2_with fail
        refine (kept_any w_12 E_12.out).mono ?_
        rintro e w_13 ⟨rfl, hb⟩
        have B_13 := Lib.hid (B_12.out.trans (hb.mono s_12))
        have E_13 := Lib.hid (E_12.out.below hb)
        have s_13 := B_13.out.size
        clear hb
        go_wp2
        go_ret
        exact ⟨rfl, B_13.out⟩
      · have z1 : (h == 0) = false := beq_eq_false_iff_ne.2 hh
        have z2 : (h != 0) = true := bne_iff_ne.2 hh
        clear hh hA hX hK
        go_wp2_with fail
        refine (Level_any a wr E_9.out).mono ?_
        rintro e w_10 ⟨rfl, hb⟩
        have B_10 := Lib.hid (B_9.out.trans (hb.mono s_9))
        have E_10 := Lib.hid (E_9.out.below hb)
        have s_10 := B_10.out.size
        clear hb
        rw [HA.out]
        go_wp2_with fail
        refine (With_any T.pr a w_10 E_10.out).mono ?_
        rintro e w_11 ⟨rfl, hb⟩
        have B_11 := Lib.hid (B_10.out.trans (hb.mono s_10))
        have E_11 := Lib.hid (E_10.out.below hb)
        have s_11 := B_11.out.size
        clear hb
        rw [HX.out]
        go_wp2_with fail
        refine (Level_any x w_11 E_11.out).mono ?_
        rintro e w_12 ⟨rfl, hb⟩
        have B_12 := Lib.hid (B_11.out.trans (hb.mono s_11))
        have E_12 := Lib.hid (E_11.out.below hb)
        have s_12 := B_12.out.size
        clear hb
        rw [HK.out]
        go_wp2_with fail
        refine (kept_any w_12 E_12.out).mono ?_
        rintro e w_13 ⟨rfl, hb⟩
        have B_13 := Lib.hid (B_12.out.trans (hb.mono s_12))
        have E_13 := Lib.hid (E_12.out.below hb)
        have s_13 := B_13.out.size
        clear hb
        go_wp2
        go_ret
        exact ⟨rfl, B_13.out⟩
end Go.Proofs.YthcoppfdffhjfaaGreatDoor
