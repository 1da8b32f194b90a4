/- The law KindMakes answers true: the walk. -/
import Derived.Test.YthcoppfdffhjfaaGreatDoorWc
import Derived.Test.YthcoppfdffhjfaaGreatDoorV5
import Derived.Deep.LoopGhost
import Derived.Deep.RegionHeld3
namespace Go.Proofs.YthcoppfdffhjfaaGreatDoor
open Go Go.RowKit

set_option maxRecDepth 100000 in
set_option maxHeartbeats 25600000 in
theorem KindMakes_true (t n : Bys) (l : List (Bys × Bys)) (v : Value) (w : World) (he : Env w) (hv : PtV w v l) :
    Calls Tryz.prog 5 #[.string (bs t), .string (bs n), v] w fun e w' => e = .returned (.bool true) ∧ Below w.heap.size w w' := by
  obtain ⟨ao, co, rfl⟩ := ptv_slice hv
  have hb0 := (Below.refl _ w).alloc (Nat.le_refl _) (.cells #[.string (bs t), .string (bs n)] 9)
  have B_0 := Lib.hid hb0
  have E_0 := Lib.hid (he.below hb0)
  have R_0 := Lib.hid (strRow_block (w := w.alloc (.cells #[.string (bs t), .string (bs n)] 9)) (l := [t, n]) (heap_alloc_new w _))
  have V_0 := Lib.hid (hv.keep hb0)
  clear hb0 he hv
  cases hsh : [t, n].all shortB
  · go_enter Tryz.func5, Tryz.ntmps5
    go_wp2_with fail
    generalize (w.alloc (.cells #[.string (bs t), .string (bs n)] 9)) = w_0 at *
    have s_0 := B_0.out.size
    refine (short_any [t, n] _ 2 w_0 R_0.out (by simp)).mono ?_
    rintro e w9 ⟨rfl, rfl⟩
    rw [hsh]
    go_wp2_with fail
    refine (kept_any w_0 E_0.out).mono ?_
    rintro e w_1 ⟨rfl, hb⟩
    have B_1 := Lib.hid (B_0.out.trans (hb.mono s_0))
    have E_1 := Lib.hid (E_0.out.below hb)
    have s_1 := B_1.out.size
    clear hb
    go_wp2
    go_ret
    exact ⟨rfl, B_1.out⟩
  have ht4 : t.length ≤ 1000 ∧ n.length ≤ 1000 := by
    simp [shortB] at hsh
    omega
  have HT4 := Lib.hid ht4
  clear ht4
  by_cases h10 : 10 < l.length
  · have z1 : (10 : Int) < (l.length : Int) := by omega
    clear h10
    go_enter Tryz.func5, Tryz.ntmps5
    go_wp2_with fail
    generalize (w.alloc (.cells #[.string (bs t), .string (bs n)] 9)) = w_0 at *
    have s_0 := B_0.out.size
    refine (short_any [t, n] _ 2 w_0 R_0.out (by simp)).mono ?_
    rintro e w9 ⟨rfl, rfl⟩
    rw [hsh]
    go_wp2_with fail
    refine (kept_any w_0 E_0.out).mono ?_
    rintro e w_1 ⟨rfl, hb⟩
    have B_1 := Lib.hid (B_0.out.trans (hb.mono s_0))
    have E_1 := Lib.hid (E_0.out.below hb)
    have s_1 := B_1.out.size
    clear hb
    go_wp2
    go_ret
    exact ⟨rfl, B_1.out⟩
  have z1 : ¬ (10 : Int) < (l.length : Int) := by omega
  have HL10 : Hid (l.length ≤ 10) := Lib.hid (by omega)
  obtain ⟨ar, har⟩ : ∃ x, arrayT t = x := ⟨_, rfl⟩
  clear h10 har
  go_enter Tryz.func5, Tryz.ntmps5
  go_wp2_with fail
  generalize (w.alloc (.cells #[.string (bs t), .string (bs n)] 9)) = w_0 at *
  have s_0 := B_0.out.size
  refine (short_any [t, n] _ 2 w_0 R_0.out (by simp)).mono ?_
  rintro e w9 ⟨rfl, rfl⟩
  rw [hsh]
  go_wp2
  go_loopg [7] l.length (fun q v7 wr => ∃ k : Nat, v7 = .int .i64 k ∧ Hid (k + q = l.length) ∧ Hid (∀ (j : Nat) (p : Bys × Bys), j < k → l[j]? = some p → p.1.length ≤ 400) ∧ Hid (Below w_0.heap.size w_0 wr))
  case atStart => exact ⟨0, rfl, Lib.hid (by omega), Lib.hid (fun j p hj => by omega), Lib.hid (Below.refl _ _)⟩
  case round =>
    obtain ⟨k, rfl, HK, HA, HB⟩ := hrel
    have hkb : (k : Int) ≤ 10 := by have := HK.out; have := HL10.out; omega
    have HER := Lib.hid (E_0.out.below HB.out)
    have HBW := Lib.hid (B_0.out.trans (HB.out.mono s_0))
    by_cases hlt : k < l.length
    · rcases (V_0.out.keep HB.out) with ⟨h0, _⟩ | ⟨gp, op, cp, hvp, hgp, hrow, _, _⟩
      · rw [h0] at hlt
        simp at hlt
      injection hvp with e1 _ e2
      subst e1 e2
      have hpk : l[k]? = some l[k] := List.getElem?_eq_getElem hlt
      obtain ⟨r0, r1⟩ := hrow k _ hpk
      have HPK := Lib.hid hpk
      have HLT := Lib.hid hlt
      have hlti : (k : Int) < (l.length : Int) := by omega
      have hk0 : (0 : Int) ≤ (k : Int) := by omega
      generalize l[k] = p at *
      have hsp : ∀ b, [p.1, p.2].all shortB = b → Hid ([p.1, p.2].all shortB = b) := fun b h => Lib.hid h
      have HSR : Hid (StrRow ((wr.alloc (.cells #[.string (bs p.1), .string (bs p.2)] 9)).drew) wr.heap.size 0 [p.1, p.2]) := Lib.hid (strRow_block (w := (wr.alloc (.cells #[.string (bs p.1), .string (bs p.2)] 9)).drew) (l := [p.1, p.2]) (heap_alloc_new wr _))
      have k0 := World.new_ne wr _ r0
      have k1 := World.new_ne wr _ r1
      cases hsb : [p.1, p.2].all shortB
      all_goals
        have HSB := Lib.hid hsb
        clear hsb hsp hpk hlt hrow
        go_wp2
        go_region_held3 (fun w' => w'.cell? ⟨gp, op + k * 2, none⟩ = some (.string (bs p.1)) ∧ w'.cell? ⟨gp, op + k * 2 + 1, none⟩ = some (.string (bs p.2))) (go_keep)
          (first | (go_at_call 13; refine (short_any [p.1, p.2] _ 2 _ HSR.out (by simp)).mono ?_; rintro e w' ⟨rfl, rfl⟩; rw [HSB.out]))
      · all_goals
          go_wp2_with fail
          refine (kept_any _ (by exact (HER.out.below (((Below.refl _ wr).alloc (Nat.le_refl _) _).drew)))).mono ?_
          rintro e w5 ⟨rfl, hb⟩
          have HB5 := Lib.hid (HBW.out.trans (((((Below.refl _ wr).alloc (Nat.le_refl _) (.cells #[.string (bs p.1), .string (bs p.2)] 9)).drew).mono HBW.out.size).trans (hb.mono (Nat.le_trans HBW.out.size (by simp)))))
          clear hb
          go_wp2
          go_ret
          exact ⟨rfl, HB5.out⟩
      · all_goals
          go_wp2
          go_roundg (gk - 1)
          case measure => have := HK.out; have := HLT.out; omega
          case rel =>
            refine ⟨k + 1, by go_num, Lib.hid (by have := HK.out; have := HLT.out; omega), Lib.hid fun j q hj hq => ?_, Lib.hid (HB.out.trans ((((Below.refl _ wr).alloc (Nat.le_refl _) _).drew).mono HB.out.size))⟩
            by_cases hjk : j = k
            · subst hjk
              rw [HPK.out] at hq
              injection hq with hq
              rw [← hq]
              have := HSB.out
              simp [shortB] at this
              omega
            · exact HA.out j q (by omega) hq
    · have HNL : Hid (∀ p ∈ l, p.1.length ≤ 1000) := Lib.hid fun p hp => by
        obtain ⟨j, hj⟩ := List.mem_iff_getElem?.1 hp
        have := HA.out j p (by have := (List.getElem?_eq_some_iff.1 hj).1; omega) hj
        omega
      have hlti : ¬ (k : Int) < (l.length : Int) := by omega
      have HV := Lib.hid (V_0.out.keep HB.out)
      have s_9 := HBW.out.size
      obtain ⟨a1, a2, ha⟩ : ∃ a b, arrayT t = (a, b) := ⟨_, _, rfl⟩
      obtain ⟨n1, n2, hn⟩ : ∃ a b, namedT n t = (a, b) := ⟨_, _, rfl⟩
      obtain ⟨r1, r2, hr⟩ : ∃ a b, madeT false l = (a, b) := ⟨_, _, rfl⟩
      obtain ⟨o1, o2, ho⟩ : ∃ a b, madeT true l = (a, b) := ⟨_, _, rfl⟩
      have H1 := Lib.hid ha
      have H2 := Lib.hid hn
      have H3 := Lib.hid hr
      have H4 := Lib.hid ho
      clear ha hn hr ho hlt
      go_wp2_with fail
      refine (Array_any t HT4.out.1 wr HER.out).mono ?_
      rintro e w_10 ⟨rfl, hb⟩
      have B_10 := Lib.hid (HBW.out.trans (hb.mono s_9))
      have E_10 := Lib.hid (HER.out.below hb)
      have V_10 := Lib.hid (HV.out.keep hb)
      have s_10 := B_10.out.size
      clear hb
      rw [H1.out]
      go_wp2_with fail
      refine (refArray_any t HT4.out.1 w_10).mono ?_
      rintro e w_11 ⟨rfl, hb⟩
      have B_11 := Lib.hid (B_10.out.trans (hb.mono s_10))
      have E_11 := Lib.hid (E_10.out.below hb)
      have V_11 := Lib.hid (V_10.out.keep hb)
      have s_11 := B_11.out.size
      clear hb
      rw [H1.out]
      go_wp2_with fail
      refine (Named_any n t HT4.out.2 HT4.out.1 w_11 E_11.out).mono ?_
      rintro e w_12 ⟨rfl, hb⟩
      have B_12 := Lib.hid (B_11.out.trans (hb.mono s_11))
      have E_12 := Lib.hid (E_11.out.below hb)
      have V_12 := Lib.hid (V_11.out.keep hb)
      have s_12 := B_12.out.size
      clear hb
      rw [H2.out]
      go_wp2_with fail
      refine (refNamed_any n t HT4.out.2 HT4.out.1 w_12).mono ?_
      rintro e w_13 ⟨rfl, hb⟩
      have B_13 := Lib.hid (B_12.out.trans (hb.mono s_12))
      have E_13 := Lib.hid (E_12.out.below hb)
      have V_13 := Lib.hid (V_12.out.keep hb)
      have s_13 := B_13.out.size
      clear hb
      rw [H2.out]
      go_wp2_with fail
      refine (Record_any l _ w_13 E_13.out (by have := HL10.out; omega) HNL.out V_13.out).mono ?_
      rintro e w_14 ⟨rfl, hb⟩
      have B_14 := Lib.hid (B_13.out.trans (hb.mono s_13))
      have E_14 := Lib.hid (E_13.out.below hb)
      have V_14 := Lib.hid (V_13.out.keep hb)
      have s_14 := B_14.out.size
      clear hb
      rw [H3.out]
      go_wp2_with fail
      refine (refRecord_any l _ w_14 HNL.out V_14.out (by have := HL10.out; omega)).mono ?_
      rintro e w_15 ⟨rfl, hb⟩
      have B_15 := Lib.hid (B_14.out.trans (hb.mono s_14))
      have E_15 := Lib.hid (E_14.out.below hb)
      have V_15 := Lib.hid (V_14.out.keep hb)
      have s_15 := B_15.out.size
      clear hb
      rw [H3.out]
      go_wp2_with fail
      refine (Oneof_any l _ w_15 E_15.out (by have := HL10.out; omega) HNL.out V_15.out).mono ?_
      rintro e w_16 ⟨rfl, hb⟩
      have B_16 := Lib.hid (B_15.out.trans (hb.mono s_15))
      have E_16 := Lib.hid (E_15.out.below hb)
      have V_16 := Lib.hid (V_15.out.keep hb)
      have s_16 := B_16.out.size
      clear hb
      rw [H4.out]
      go_wp2_with fail
      refine (refOneof_any l _ w_16 HNL.out V_16.out (by have := HL10.out; omega)).mono ?_
      rintro e w_17 ⟨rfl, hb⟩
      have B_17 := Lib.hid (B_16.out.trans (hb.mono s_16))
      have E_17 := Lib.hid (E_16.out.below hb)
      have V_17 := Lib.hid (V_16.out.keep hb)
      have s_17 := B_17.out.size
      clear hb
      rw [H4.out]
      go_wp2_with fail
      refine (kept_any w_17 E_17.out).mono ?_
      rintro e w_18 ⟨rfl, hb⟩
      have B_18 := Lib.hid (B_17.out.trans (hb.mono s_17))
      have E_18 := Lib.hid (E_17.out.below hb)
      have V_18 := Lib.hid (V_17.out.keep hb)
      have s_18 := B_18.out.size
      clear hb
      go_wp2
      go_ret
      exact ⟨rfl, B_18.out⟩
end Go.Proofs.YthcoppfdffhjfaaGreatDoor
