/- The law KindRebuilt answers true: the walk. -/
import Derived.Test.YthcoppfdffhjfaaGreatDoorWj
namespace Go.Proofs.YthcoppfdffhjfaaGreatDoor
open Go Go.RowKit

theorem ptv_own {w : World} {base : Nat} {v : Value} {l : List (Bys × Bys)} (h : w.ownsRow base 42 2 v l.length (partVs l)) (hn : 0 < l.length) : PtV w v l := by
  obtain ⟨g, cap, rfl, _, h2, h3, h4, _⟩ := own_parts h hn
  exact .inr ⟨g, 0, cap, rfl, h2, h3, fun e => by rw [e] at hn; simp at hn, h4⟩
theorem PtV.slice {w : World} {v : Value} {l : List (Bys × Bys)} (h : PtV w v l) : ∃ ao c, v = .slice ao l.length c := by
  rcases h with ⟨rfl, a, c, rfl⟩ | ⟨g, o, cap, rfl, _⟩
  · exact ⟨_, _, rfl⟩
  · exact ⟨_, _, rfl⟩
theorem partVs_snoc (l : List (Bys × Bys)) (p : Bys × Bys) : partVs (l ++ [p]) = partVs l ++ [.string (bs p.1), .string (bs p.2)] := by simp [partVs]

set_option maxRecDepth 100000 in
set_option maxHeartbeats 25600000 in
theorem KindRebuilt_true (t : Bys) (d : Int) (w : World) (he : Env w) (hd0 : 0 ≤ d) (hd1 : d ≤ 255) :
    Calls Tryz.prog 10 #[.string (bs t), .int .u8 d] w fun e w' => e = .returned (.bool true) ∧ Below w.heap.size w w' := by
  have hb0 := (Below.refl _ w).alloc (Nat.le_refl _) (.cells #[.string (bs t)] 9)
  have B_0 := Lib.hid hb0
  have E_0 := Lib.hid (he.below hb0)
  have R_0 := Lib.hid (strRow_block (w := w.alloc (.cells #[.string (bs t)] 9)) (l := [t]) (heap_alloc_new w _))
  clear hb0 he
  obtain ⟨dn, rfl⟩ : ∃ n : Nat, d = n := ⟨d.toNat, by omega⟩
  cases hsh : [t].all shortB
  · go_enter Tryz.func10, Tryz.ntmps10
    go_wp2_with fail
    generalize (w.alloc (.cells #[.string (bs t)] 9)) = w_0 at *
    have s_0 := B_0.out.size
    refine (short_any [t] _ 1 w_0 R_0.out (by simp)).mono ?_
    rintro e w9 ⟨rfl, rfl⟩
    rw [hsh]
    go_wp2_with fail
    refine (kept_any w_0 E_0.out).mono ?_
    rintro e w_1 ⟨rfl, hb⟩
    have B_1 := Lib.hid (B_0.out.trans (hb.mono s_0))
    have E_1 := Lib.hid (E_0.out.below hb)
    have s_1 := B_1.out.size
    clear hb
    go_wp2
    go_ret
    exact ⟨rfl, B_1.out⟩
  by_cases hc : chk t = 0
  rotate_left
  · have K1 : Hid (kindT t = (0, chk t)) := Lib.hid (ofT_err hc)
    have z2 : (chk t != 0) = true := bne_iff_ne.2 hc
    clear hc
    go_enter Tryz.func10, Tryz.ntmps10
    go_wp2_with fail
    generalize (w.alloc (.cells #[.string (bs t)] 9)) = w_0 at *
    have s_0 := B_0.out.size
    refine (short_any [t] _ 1 w_0 R_0.out (by simp)).mono ?_
    rintro e w9 ⟨rfl, rfl⟩
    rw [hsh]
    go_wp2_with fail
    refine (Kind_any t w_0 E_0.out).mono ?_
    rintro e w_1 ⟨rfl, hb⟩
    have B_1 := Lib.hid (B_0.out.trans (hb.mono s_0))
    have E_1 := Lib.hid (E_0.out.below hb)
    have s_1 := B_1.out.size
    clear hb
    rw [K1.out]
    go_wp2_with fail
    refine (kept_any w_1 E_1.out).mono ?_
    rintro e w_2 ⟨rfl, hb⟩
    have B_2 := Lib.hid (B_1.out.trans (hb.mono s_1))
    have E_2 := Lib.hid (E_1.out.below hb)
    have s_2 := B_2.out.size
    clear hb
    go_wp2
    go_ret
    exact ⟨rfl, B_2.out⟩
  rcases rebuilt_cases hc with ⟨c, hK, ⟨h4, h5, h6, h7⟩, hA, hB, hP⟩ | ⟨u, hK, hA, hB, hP, hM, hu⟩ | ⟨n, u, b, hK, hA, hB, hP, hM, hn, hu⟩ | ⟨o, l, hK, hA, hB, hP, hl0, hl6, hln, hM⟩
  · have z4 : (c == 4) = false := beq_eq_false_iff_ne.2 h4
    have z5 : (c == 5) = false := beq_eq_false_iff_ne.2 h5
    have z6 : (c == 6) = false := beq_eq_false_iff_ne.2 h6
    have z7 : (c == 7) = false := beq_eq_false_iff_ne.2 h7
    have HK := Lib.hid hK
    have HA := Lib.hid hA
    have HB := Lib.hid hB
    have HP := Lib.hid hP
    go_enter Tryz.func10, Tryz.ntmps10
    go_wp2_with fail
    generalize (w.alloc (.cells #[.string (bs t)] 9)) = w_0 at *
    have s_0 := B_0.out.size
    refine (short_any [t] _ 1 w_0 R_0.out (by simp)).mono ?_
    rintro e w9 ⟨rfl, rfl⟩
    rw [hsh]
    go_wp2_with fail
    refine (Kind_any t w_0 E_0.out).mono ?_
    rintro e w_1 ⟨rfl, hb⟩
    have B_1 := Lib.hid (B_0.out.trans (hb.mono s_0))
    have E_1 := Lib.hid (E_0.out.below hb)
    have s_1 := B_1.out.size
    clear hb
    rw [HK.out]
    go_wp2_with fail
    refine (Arg_any t w_1 E_1.out).mono ?_
    rintro e w_2 ⟨rfl, hb⟩
    have B_2 := Lib.hid (B_1.out.trans (hb.mono s_1))
    have E_2 := Lib.hid (E_1.out.below hb)
    have s_2 := B_2.out.size
    clear hb
    rw [HA.out]
    go_wp2_with fail
    refine (Base_any t w_2 E_2.out).mono ?_
    rintro e w_3 ⟨rfl, hb⟩
    have B_3 := Lib.hid (B_2.out.trans (hb.mono s_2))
    have E_3 := Lib.hid (E_2.out.below hb)
    have s_3 := B_3.out.size
    clear hb
    rw [HB.out]
    go_wp2_with fail
    refine (Parts_any t w_3 E_3.out).mono ?_
    rintro e w_4 ⟨v, rfl, hv, hb⟩
    rw [HP.out] at hv ⊢
    obtain ⟨ap, cp, rfl⟩ := hv.slice
    have B_4 := Lib.hid (B_3.out.trans (hb.mono s_3))
    have E_4 := Lib.hid (E_3.out.below hb)
    have VP := Lib.hid hv
    have s_4 := B_4.out.size
    clear hb hv
    go_wp2
    refine wp_loop_rounds 1 ?_
    rw [rounds_succ]
    go_wp2_with fail
    refine (kept_any w_4 E_4.out).mono ?_
    rintro e w_5 ⟨rfl, hb⟩
    have B_5 := Lib.hid (B_4.out.trans (hb.mono s_4))
    have E_5 := Lib.hid (E_4.out.below hb)
    have s_5 := B_5.out.size
    clear hb
    go_wp2
    go_ret
    exact ⟨rfl, B_5.out⟩
  · have HM := Lib.hid hM
    have HU := Lib.hid hu
    have HK := Lib.hid hK
    have HA := Lib.hid hA
    have HB := Lib.hid hB
    have HP := Lib.hid hP
    go_enter Tryz.func10, Tryz.ntmps10
    go_wp2_with fail
    generalize (w.alloc (.cells #[.string (bs t)] 9)) = w_0 at *
    have s_0 := B_0.out.size
    refine (short_any [t] _ 1 w_0 R_0.out (by simp)).mono ?_
    rintro e w9 ⟨rfl, rfl⟩
    rw [hsh]
    go_wp2_with fail
    refine (Kind_any t w_0 E_0.out).mono ?_
    rintro e w_1 ⟨rfl, hb⟩
    have B_1 := Lib.hid (B_0.out.trans (hb.mono s_0))
    have E_1 := Lib.hid (E_0.out.below hb)
    have s_1 := B_1.out.size
    clear hb
    rw [HK.out]
    go_wp2_with fail
    refine (Arg_any t w_1 E_1.out).mono ?_
    rintro e w_2 ⟨rfl, hb⟩
    have B_2 := Lib.hid (B_1.out.trans (hb.mono s_1))
    have E_2 := Lib.hid (E_1.out.below hb)
    have s_2 := B_2.out.size
    clear hb
    rw [HA.out]
    go_wp2_with fail
    refine (Base_any t w_2 E_2.out).mono ?_
    rintro e w_3 ⟨rfl, hb⟩
    have B_3 := Lib.hid (B_2.out.trans (hb.mono s_2))
    have E_3 := Lib.hid (E_2.out.below hb)
    have s_3 := B_3.out.size
    clear hb
    rw [HB.out]
    go_wp2_with fail
    refine (Parts_any t w_3 E_3.out).mono ?_
    rintro e w_4 ⟨v, rfl, hv, hb⟩
    rw [HP.out] at hv ⊢
    obtain ⟨ap, cp, rfl⟩ := hv.slice
    have B_4 := Lib.hid (B_3.out.trans (hb.mono s_3))
    have E_4 := Lib.hid (E_3.out.below hb)
    have VP := Lib.hid hv
    have s_4 := B_4.out.size
    clear hb hv
    go_wp2
    refine wp_loop_rounds 1 ?_
    rw [rounds_succ]
    go_wp2_with fail
    refine (Array_any u HU.out w_4 E_4.out).mono ?_
    rintro e w_5 ⟨rfl, hb⟩
    have B_5 := Lib.hid (B_4.out.trans (hb.mono s_4))
    have E_5 := Lib.hid (E_4.out.below hb)
    have s_5 := B_5.out.size
    clear hb
    rw [HM.out]
    go_wp2_with fail
    refine (kept_any w_5 E_5.out).mono ?_
    rintro e w_6 ⟨rfl, hb⟩
    have B_6 := Lib.hid (B_5.out.trans (hb.mono s_5))
    have E_6 := Lib.hid (E_5.out.below hb)
    have s_6 := B_6.out.size
    clear hb
    go_wp2
    go_ret
    exact ⟨rfl, B_6.out⟩
  · have HM := Lib.hid hM
    have HU := Lib.hid hu
    have HNL := Lib.hid hn
    have HK := Lib.hid hK
    have HA := Lib.hid hA
    have HB := Lib.hid hB
    have HP := Lib.hid hP
    go_enter Tryz.func10, Tryz.ntmps10
    go_wp2_with fail
    generalize (w.alloc (.cells #[.string (bs t)] 9)) = w_0 at *
    have s_0 := B_0.out.size
    refine (short_any [t] _ 1 w_0 R_0.out (by simp)).mono ?_
    rintro e w9 ⟨rfl, rfl⟩
    rw [hsh]
    go_wp2_with fail
    refine (Kind_any t w_0 E_0.out).mono ?_
    rintro e w_1 ⟨rfl, hb⟩
    have B_1 := Lib.hid (B_0.out.trans (hb.mono s_0))
    have E_1 := Lib.hid (E_0.out.below hb)
    have s_1 := B_1.out.size
    clear hb
    rw [HK.out]
    go_wp2_with fail
    refine (Arg_any t w_1 E_1.out).mono ?_
    rintro e w_2 ⟨rfl, hb⟩
    have B_2 := Lib.hid (B_1.out.trans (hb.mono s_1))
    have E_2 := Lib.hid (E_1.out.below hb)
    have s_2 := B_2.out.size
    clear hb
    rw [HA.out]
    go_wp2_with fail
    refine (Base_any t w_2 E_2.out).mono ?_
    rintro e w_3 ⟨rfl, hb⟩
    have B_3 := Lib.hid (B_2.out.trans (hb.mono s_2))
    have E_3 := Lib.hid (E_2.out.below hb)
    have s_3 := B_3.out.size
    clear hb
    rw [HB.out]
    go_wp2_with fail
    refine (Parts_any t w_3 E_3.out).mono ?_
    rintro e w_4 ⟨v, rfl, hv, hb⟩
    rw [HP.out] at hv ⊢
    obtain ⟨ap, cp, rfl⟩ := hv.slice
    have B_4 := Lib.hid (B_3.out.trans (hb.mono s_3))
    have E_4 := Lib.hid (E_3.out.below hb)
    have VP := Lib.hid hv
    have s_4 := B_4.out.size
    clear hb hv
    go_wp2
    refine wp_loop_rounds 1 ?_
    rw [rounds_succ]
    go_wp2_with fail
    refine (Named_any n u HNL.out HU.out w_4 E_4.out).mono ?_
    rintro e w_5 ⟨rfl, hb⟩
    have B_5 := Lib.hid (B_4.out.trans (hb.mono s_4))
    have E_5 := Lib.hid (E_4.out.below hb)
    have s_5 := B_5.out.size
    clear hb
    rw [HM.out]
    go_wp2_with fail
    refine (kept_any w_5 E_5.out).mono ?_
    rintro e w_6 ⟨rfl, hb⟩
    have B_6 := Lib.hid (B_5.out.trans (hb.mono s_5))
    have E_6 := Lib.hid (E_5.out.below hb)
    have s_6 := B_6.out.size
    clear hb
    go_wp2
    go_ret
    exact ⟨rfl, B_6.out⟩
  · have HL0 := Lib.hid hl0
    have HL6 := Lib.hid hl6
    have HLN := Lib.hid hln
    have HM := Lib.hid hM
    clear hM hln
    obtain ⟨i0, hi, hz0, hz1, hz2⟩ := info42'
    rcases o with _ | _
    · have hK : kindT t = (5, 0) := hK
      have HK := Lib.hid hK
      have HA := Lib.hid hA
      have HB := Lib.hid hB
      have HP := Lib.hid hP
      go_enter Tryz.func10, Tryz.ntmps10
      go_wp2_with fail
      generalize (w.alloc (.cells #[.string (bs t)] 9)) = w_0 at *
      have s_0 := B_0.out.size
      refine (short_any [t] _ 1 w_0 R_0.out (by simp)).mono ?_
      rintro e w9 ⟨rfl, rfl⟩
      rw [hsh]
      go_wp2_with fail
      refine (Kind_any t w_0 E_0.out).mono ?_
      rintro e w_1 ⟨rfl, hb⟩
      have B_1 := Lib.hid (B_0.out.trans (hb.mono s_0))
      have E_1 := Lib.hid (E_0.out.below hb)
      have s_1 := B_1.out.size
      clear hb
      rw [HK.out]
      go_wp2_with fail
      refine (Arg_any t w_1 E_1.out).mono ?_
      rintro e w_2 ⟨rfl, hb⟩
      have B_2 := Lib.hid (B_1.out.trans (hb.mono s_1))
      have E_2 := Lib.hid (E_1.out.below hb)
      have s_2 := B_2.out.size
      clear hb
      rw [HA.out]
      go_wp2_with fail
      refine (Base_any t w_2 E_2.out).mono ?_
      rintro e w_3 ⟨rfl, hb⟩
      have B_3 := Lib.hid (B_2.out.trans (hb.mono s_2))
      have E_3 := Lib.hid (E_2.out.below hb)
      have s_3 := B_3.out.size
      clear hb
      rw [HB.out]
      go_wp2_with fail
      refine (Parts_any t w_3 E_3.out).mono ?_
      rintro e w_4 ⟨v, rfl, hv, hb⟩
      rw [HP.out] at hv ⊢
      obtain ⟨ap, cp, rfl⟩ := hv.slice
      have B_4 := Lib.hid (B_3.out.trans (hb.mono s_3))
      have E_4 := Lib.hid (E_3.out.below hb)
      have VP := Lib.hid hv
      have s_4 := B_4.out.size
      clear hb hv
      rcases VP.out with ⟨h0, _⟩ | ⟨gp, op, cp', hvp, hgp, hrow, _, _⟩
      · have h0 : l = [] := h0
        rw [h0] at hl0
        simp at hl0
      injection hvp with e1 _ e2
      subst e1 e2
      have HGP := Lib.hid hgp
      have HROW := Lib.hid hrow
      clear hrow hgp hl0 hl6
      go_wp2
      go_loopw [14, 15] (fun v14 v15 wr => ∃ k : Nat, k ≤ l.length ∧ v15 = .int .i64 k ∧ Hid (wr.ownsRow w_4.heap.size 42 2 v14 k (partVs (rotL l dn k))) ∧ Hid (Below w_4.heap.size w_4 wr)) (fun _ i _ => l.length - (intOf i).toNat)
      case atStart => exact ⟨0, Nat.zero_le _, rfl, Lib.hid (World.ownsRow_nil _ _ _ _), Lib.hid (Below.refl _ _)⟩
      case round =>
        obtain ⟨k, hk, rfl, hown, hb⟩ := hrel
        have hkb : (k : Int) ≤ 6 := by have := HL6.out; omega
        obtain ⟨av, cv, rfl⟩ := own_len hown.out
        by_cases hlt : k < l.length
        · have hnz : ¬ ((l.length : Nat) : Int) = 0 := by omega
          have hrem : ((k : Int) + (dn : Int)).tmod ((l.length : Nat) : Int) = (((k + dn) % l.length : Nat) : Int) := by
            rw [Int.tmod_eq_emod_of_nonneg (by omega)]
            push_cast
            rfl
          have hj : (k + dn) % l.length < l.length := Nat.mod_lt _ (by omega)
          have hpj : l[(k + dn) % l.length]? = some (l.getD ((k + dn) % l.length) ([], [])) := by rw [getD_lt hj]; exact List.getElem?_eq_getElem hj
          obtain ⟨r0, r1⟩ := (HROW.out.keep (hb.out.block gp HGP.out)) _ _ hpj
          have HSN : Hid (rotL l dn (k + 1) = rotL l dn k ++ [l.getD ((k + dn) % l.length) ([], [])]) := Lib.hid (rotL_snoc l dn k)
          generalize l.getD ((k + dn) % l.length) ([], []) = p at *
          generalize (k + dn) % l.length = j at *
          have hj0 : (0 : Int) ≤ (j : Int) := by omega
          have hj1 : (j : Int) < ((l.length : Nat) : Int) := by omega
          have hd2 : (dn : Int) ≤ 255 := by omega
          have HLT := Lib.hid hlt
          clear hpj hk hj hlt
          have HS := Lib.hid (hb.out.size)
          go_wp2_with (at_builtin; (refine wpList_append_own _ rfl _ _ 37 rfl w_4.heap.size 42 i0 _ 2 32 Tryz.underlying37 hi hz0 hz1 hz2 rfl (by decide) (.slice av k cv) k (partVs (rotL l dn k)) rfl (hown.out.alloc _) ⟨wr.heap.size, 0, none⟩ 1 1 [.string (bs p.1), .string (bs p.2)] rfl rfl (World.news_of_block (cs := #[.string (bs p.1), .string (bs p.2)]) (t := 42) (fr := (0, 0)) (heap_alloc_new wr _)) (by simp [Value.oneCell']) (by unfold maxLen; omega) (by omega) (by have := HS.out; simp; omega) ?_))
          intro v' w1 hown1 hgrow _
          have HB1 := Lib.hid ((hb.out.alloc HS.out (.cells #[.string (bs p.1), .string (bs p.2)] 42)).grown hgrow (by have := HS.out; simp; omega) (fun b e => (hown.out.lt b e).1))
          obtain ⟨av', cv', rfl⟩ := own_len hown1
          have HOWN1 := Lib.hid hown1
          clear hown1 hgrow
          go_wp2
          go_roundw
          case rel =>
            refine ⟨k + 1, HLT.out, by go_num, Lib.hid ?_, HB1⟩
            rw [HSN.out, partVs_snoc]
            exact HOWN1.out
          case measure => have := HLT.out; simp [intOf]; omega
        · have hkl : k = l.length := by omega
          subst hkl
          have VM := Lib.hid (ptv_own (l := rotL l dn l.length) (by rw [rotL_len]; exact hown.out) (by rw [rotL_len]; exact HL0.out))
          have B_9 := Lib.hid (B_4.out.trans (hb.out.mono s_4))
          have E_9 := Lib.hid (E_4.out.below hb.out)
          have s_9 := B_9.out.size
          have HLL : Hid ((rotL l dn l.length).length ≤ 1000) := Lib.hid (by rw [rotL_len]; have := HL6.out; omega)
          have HNL : Hid (∀ p ∈ rotL l dn l.length, p.1.length ≤ 1000) := Lib.hid fun p hp => HLN.out p ((rotL_mem dn HL0.out p).1 hp)
          have hpos : 0 < l.length := HL0.out
          have hpos2 : decide (0 < l.length) = true := decide_eq_true hpos
          clear hk hlt hown hb hkb
          go_wp2_with fail
          refine (Record_any (rotL l dn l.length) _ wr E_9.out HLL.out HNL.out VM.out).mono ?_
          rintro e w_10 ⟨rfl, hb⟩
          have B_10 := Lib.hid (B_9.out.trans (hb.mono s_9))
          have E_10 := Lib.hid (E_9.out.below hb)
          have s_10 := B_10.out.size
          clear hb
          rw [HM.out dn]
          go_wp2_with fail
          refine (kept_any w_10 E_10.out).mono ?_
          rintro e w_11 ⟨rfl, hb⟩
          have B_11 := Lib.hid (B_10.out.trans (hb.mono s_10))
          have E_11 := Lib.hid (E_10.out.below hb)
          have s_11 := B_11.out.size
          clear hb
          go_wp2
          go_ret
          exact ⟨rfl, B_11.out⟩
    · have hK : kindT t = (6, 0) := hK
      have HK := Lib.hid hK
      have HA := Lib.hid hA
      have HB := Lib.hid hB
      have HP := Lib.hid hP
      go_enter Tryz.func10, Tryz.ntmps10
      go_wp2_with fail
      generalize (w.alloc (.cells #[.string (bs t)] 9)) = w_0 at *
      have s_0 := B_0.out.size
      refine (short_any [t] _ 1 w_0 R_0.out (by simp)).mono ?_
      rintro e w9 ⟨rfl, rfl⟩
      rw [hsh]
      go_wp2_with fail
      refine (Kind_any t w_0 E_0.out).mono ?_
      rintro e w_1 ⟨rfl, hb⟩
      have B_1 := Lib.hid (B_0.out.trans (hb.mono s_0))
      have E_1 := Lib.hid (E_0.out.below hb)
      have s_1 := B_1.out.size
      clear hb
      rw [HK.out]
      go_wp2_with fail
      refine (Arg_any t w_1 E_1.out).mono ?_
      rintro e w_2 ⟨rfl, hb⟩
      have B_2 := Lib.hid (B_1.out.trans (hb.mono s_1))
      have E_2 := Lib.hid (E_1.out.below hb)
      have s_2 := B_2.out.size
      clear hb
      rw [HA.out]
      go_wp2_with fail
      refine (Base_any t w_2 E_2.out).mono ?_
      rintro e w_3 ⟨rfl, hb⟩
      have B_3 := Lib.hid (B_2.out.trans (hb.mono s_2))
      have E_3 := Lib.hid (E_2.out.below hb)
      have s_3 := B_3.out.size
      clear hb
      rw [HB.out]
      go_wp2_with fail
      refine (Parts_any t w_3 E_3.out).mono ?_
      rintro e w_4 ⟨v, rfl, hv, hb⟩
      rw [HP.out] at hv ⊢
      obtain ⟨ap, cp, rfl⟩ := hv.slice
      have B_4 := Lib.hid (B_3.out.trans (hb.mono s_3))
      have E_4 := Lib.hid (E_3.out.below hb)
      have VP := Lib.hid hv
      have s_4 := B_4.out.size
      clear hb hv
      rcases VP.out with ⟨h0, _⟩ | ⟨gp, op, cp', hvp, hgp, hrow, _, _⟩
      · have h0 : l = [] := h0
        rw [h0] at hl0
        simp at hl0
      injection hvp with e1 _ e2
      subst e1 e2
      have HGP := Lib.hid hgp
      have HROW := Lib.hid hrow
      clear hrow hgp hl0 hl6
      go_wp2
      go_loopw [14, 15] (fun v14 v15 wr => ∃ k : Nat, k ≤ l.length ∧ v15 = .int .i64 k ∧ Hid (wr.ownsRow w_4.heap.size 42 2 v14 k (partVs (rotL l dn k))) ∧ Hid (Below w_4.heap.size w_4 wr)) (fun _ i _ => l.length - (intOf i).toNat)
      case atStart => exact ⟨0, Nat.zero_le _, rfl, Lib.hid (World.ownsRow_nil _ _ _ _), Lib.hid (Below.refl _ _)⟩
      case round =>
        obtain ⟨k, hk, rfl, hown, hb⟩ := hrel
        have hkb : (k : Int) ≤ 6 := by have := HL6.out; omega
        obtain ⟨av, cv, rfl⟩ := own_len hown.out
        by_cases hlt : k < l.length
        · have hnz : ¬ ((l.length : Nat) : Int) = 0 := by omega
          have hrem : ((k : Int) + (dn : Int)).tmod ((l.length : Nat) : Int) = (((k + dn) % l.length : Nat) : Int) := by
            rw [Int.tmod_eq_emod_of_nonneg (by omega)]
            push_cast
            rfl
          have hj : (k + dn) % l.length < l.length := Nat.mod_lt _ (by omega)
          have hpj : l[(k + dn) % l.length]? = some (l.getD ((k + dn) % l.length) ([], [])) := by rw [getD_lt hj]; exact List.getElem?_eq_getElem hj
          obtain ⟨r0, r1⟩ := (HROW.out.keep (hb.out.block gp HGP.out)) _ _ hpj
          have HSN : Hid (rotL l dn (k + 1) = rotL l dn k ++ [l.getD ((k + dn) % l.length) ([], [])]) := Lib.hid (rotL_snoc l dn k)
          generalize l.getD ((k + dn) % l.length) ([], []) = p at *
          generalize (k + dn) % l.length = j at *
          have hj0 : (0 : Int) ≤ (j : Int) := by omega
          have hj1 : (j : Int) < ((l.length : Nat) : Int) := by omega
          have hd2 : (dn : Int) ≤ 255 := by omega
          have HLT := Lib.hid hlt
          clear hpj hk hj hlt
          have HS := Lib.hid (hb.out.size)
          go_wp2_with (at_builtin; (refine wpList_append_own _ rfl _ _ 37 rfl w_4.heap.size 42 i0 _ 2 32 Tryz.underlying37 hi hz0 hz1 hz2 rfl (by decide) (.slice av k cv) k (partVs (rotL l dn k)) rfl (hown.out.alloc _) ⟨wr.heap.size, 0, none⟩ 1 1 [.string (bs p.1), .string (bs p.2)] rfl rfl (World.news_of_block (cs := #[.string (bs p.1), .string (bs p.2)]) (t := 42) (fr := (0, 0)) (heap_alloc_new wr _)) (by simp [Value.oneCell']) (by unfold maxLen; omega) (by omega) (by have := HS.out; simp; omega) ?_))
          intro v' w1 hown1 hgrow _
          have HB1 := Lib.hid ((hb.out.alloc HS.out (.cells #[.string (bs p.1), .string (bs p.2)] 42)).grown hgrow (by have := HS.out; simp; omega) (fun b e => (hown.out.lt b e).1))
          obtain ⟨av', cv', rfl⟩ := own_len hown1
          have HOWN1 := Lib.hid hown1
          clear hown1 hgrow
          go_wp2
          go_roundw
          case rel =>
            refine ⟨k + 1, HLT.out, by go_num, Lib.hid ?_, HB1⟩
            rw [HSN.out, partVs_snoc]
            exact HOWN1.out
          case measure => have := HLT.out; simp [intOf]; omega
        · have hkl : k = l.length := by omega
          subst hkl
          have VM := Lib.hid (ptv_own (l := rotL l dn l.length) (by rw [rotL_len]; exact hown.out) (by rw [rotL_len]; exact HL0.out))
          have B_9 := Lib.hid (B_4.out.trans (hb.out.mono s_4))
          have E_9 := Lib.hid (E_4.out.below hb.out)
          have s_9 := B_9.out.size
          have HLL : Hid ((rotL l dn l.length).length ≤ 1000) := Lib.hid (by rw [rotL_len]; have := HL6.out; omega)
          have HNL : Hid (∀ p ∈ rotL l dn l.length, p.1.length ≤ 1000) := Lib.hid fun p hp => HLN.out p ((rotL_mem dn HL0.out p).1 hp)
          have hpos : 0 < l.length := HL0.out
          have hpos2 : decide (0 < l.length) = true := decide_eq_true hpos
          clear hk hlt hown hb hkb
          go_wp2_with fail
          refine (Oneof_any (rotL l dn l.length) _ wr E_9.out HLL.out HNL.out VM.out).mono ?_
          rintro e w_10 ⟨rfl, hb⟩
          have B_10 := Lib.hid (B_9.out.trans (hb.mono s_9))
          have E_10 := Lib.hid (E_9.out.below hb)
          have s_10 := B_10.out.size
          clear hb
          rw [HM.out dn]
          go_wp2_with fail
          refine (kept_any w_10 E_10.out).mono ?_
          rintro e w_11 ⟨rfl, hb⟩
          have B_11 := Lib.hid (B_10.out.trans (hb.mono s_10))
          have E_11 := Lib.hid (E_10.out.below hb)
          have s_11 := B_11.out.size
          clear hb
          go_wp2
          go_ret
          exact ⟨rfl, B_11.out⟩
end Go.Proofs.YthcoppfdffhjfaaGreatDoor
