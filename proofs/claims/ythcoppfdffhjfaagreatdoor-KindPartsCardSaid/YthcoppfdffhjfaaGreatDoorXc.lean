/- The law KindParts answers true: the walk. -/
import Derived.Test.YthcoppfdffhjfaaGreatDoorWc
import Derived.Test.YthcoppfdffhjfaaGreatDoorV3
namespace Go.Proofs.YthcoppfdffhjfaaGreatDoor
open Go Go.RowKit

theorem parts_count (t : Bys) : (partsT t).1.length ≤ 6 := by
  by_cases hc : chk t = 0
  · obtain ⟨T, hT, rfl⟩ := chk_ok hc
    rw [show partsT T.pr = partsF T from ofT_good hT]
    cases T with
    | rcd o F =>
      have := hT.wf.2
      have : (partsF (.rcd o F)).1.length = F.count := by simp [partsF, Fs.list_len]
      omega
    | _ => simp [partsF]
  · rw [show partsT t = ([], chk t) from ofT_err hc]
    simp

set_option maxRecDepth 100000 in
set_option maxHeartbeats 12800000 in
theorem KindParts_true (t : Bys) (w : World) (he : Env w) :
    Calls Tryz.prog 4 #[.string (bs t)] w fun e w' => e = .returned (.bool true) ∧ Below w.heap.size w w' := by
  have hb0 := (Below.refl _ w).alloc (Nat.le_refl _) (.cells #[.string (bs t)] 9)
  have B_0 := Lib.hid hb0
  have E_0 := Lib.hid (he.below hb0)
  have R_0 := Lib.hid (strRow_block (w := w.alloc (.cells #[.string (bs t)] 9)) (l := [t]) (heap_alloc_new w _))
  clear hb0 he
  have hcnt := parts_count t
  obtain ⟨a1, a2, a3, ha⟩ : ∃ a b c, argT t = ((a, b), c) := ⟨_, _, _, rfl⟩
  obtain ⟨b1, b2, hb⟩ : ∃ a b, baseT t = (a, b) := ⟨_, _, rfl⟩
  obtain ⟨l, pe, hp⟩ : ∃ a b, partsT t = (a, b) := ⟨_, _, rfl⟩
  rw [hp] at hcnt
  have HA := Lib.hid ha
  have HB := Lib.hid hb
  have HP := Lib.hid hp
  have HN : Hid (l.length ≤ 6) := Lib.hid hcnt
  clear ha hb hp hcnt
  cases hsh : [t].all shortB
  · go_enter Tryz.func4, Tryz.ntmps4
    go_wp2_with fail
    generalize (w.alloc (.cells #[.string (bs t)] 9)) = w_0 at *
    have s_0 := B_0.out.size
    refine (short_any [t] _ 1 w_0 R_0.out (by simp)).mono ?_
    rintro e w9 ⟨rfl, rfl⟩
    rw [hsh]
    go_wp2_with fail
    refine (kept_any w_0 E_0.out).mono ?_
    rintro e w_1 ⟨rfl, hb⟩
    have B_1 := Lib.hid (B_0.out.trans (hb.mono s_0))
    have E_1 := Lib.hid (E_0.out.below hb)
    have s_1 := B_1.out.size
    clear hb
    go_wp2
    go_ret
    exact ⟨rfl, B_1.out⟩
  · go_enter Tryz.func4, Tryz.ntmps4
    go_wp2_with fail
    generalize (w.alloc (.cells #[.string (bs t)] 9)) = w_0 at *
    have s_0 := B_0.out.size
    refine (short_any [t] _ 1 w_0 R_0.out (by simp)).mono ?_
    rintro e w9 ⟨rfl, rfl⟩
    rw [hsh]
    go_wp2_with fail
    refine (Arg_any t w_0 E_0.out).mono ?_
    rintro e w_1 ⟨rfl, hb⟩
    have B_1 := Lib.hid (B_0.out.trans (hb.mono s_0))
    have E_1 := Lib.hid (E_0.out.below hb)
    have s_1 := B_1.out.size
    clear hb
    rw [HA.out]
    go_wp2_with fail
    refine (refArg_any t w_1).mono ?_
    rintro e w_2 ⟨rfl, hb⟩
    have B_2 := Lib.hid (B_1.out.trans (hb.mono s_1))
    have E_2 := Lib.hid (E_1.out.below hb)
    have s_2 := B_2.out.size
    clear hb
    rw [HA.out]
    go_wp2_with fail
    refine (Base_any t w_2 E_2.out).mono ?_
    rintro e w_3 ⟨rfl, hb⟩
    have B_3 := Lib.hid (B_2.out.trans (hb.mono s_2))
    have E_3 := Lib.hid (E_2.out.below hb)
    have s_3 := B_3.out.size
    clear hb
    rw [HB.out]
    go_wp2_with fail
    refine (refBase_any t w_3).mono ?_
    rintro e w_4 ⟨rfl, hb⟩
    have B_4 := Lib.hid (B_3.out.trans (hb.mono s_3))
    have E_4 := Lib.hid (E_3.out.below hb)
    have s_4 := B_4.out.size
    clear hb
    rw [HB.out]
    go_wp2_with fail
    refine (Parts_any t w_4 E_4.out).mono ?_
    rintro e w_5 ⟨v, rfl, hv, hb⟩
    rw [HP.out] at hv ⊢
    have hv : PtV w_5 v l := hv
    obtain ⟨aL, cL, rfl⟩ := ptv_slice hv
    have B_5 := Lib.hid (B_4.out.trans (hb.mono s_4))
    have E_5 := Lib.hid (E_4.out.below hb)
    have VL_5 := Lib.hid hv
    have s_5 := B_5.out.size
    clear hb hv
    go_wp2_with fail
    refine (refParts_any t w_5).mono ?_
    rintro e w_6 ⟨v, rfl, hv, hb⟩
    rw [HP.out] at hv ⊢
    have hv : PtV w_6 v l := hv
    obtain ⟨aM, cM, rfl⟩ := ptv_slice hv
    have B_6 := Lib.hid (B_5.out.trans (hb.mono s_5))
    have E_6 := Lib.hid (E_5.out.below hb)
    have VL_6 := Lib.hid (VL_5.out.keep hb)
    have VM_6 := Lib.hid hv
    have s_6 := B_6.out.size
    clear hb hv
    go_wp2_with fail
    refine (kept_any w_6 E_6.out).mono ?_
    rintro e w_7 ⟨rfl, hb⟩
    have B_7 := Lib.hid (B_6.out.trans (hb.mono s_6))
    have E_7 := Lib.hid (E_6.out.below hb)
    have VL_7 := Lib.hid (VL_6.out.keep hb)
    have VM_7 := Lib.hid (VM_6.out.keep hb)
    have s_7 := B_7.out.size
    clear hb
    go_wp2_with fail
    refine (sameParts_self l _ _ w_7 VL_7.out VM_7.out (by have := HN.out; omega)).mono ?_
    rintro e w9 ⟨rfl, n9, rfl⟩
    go_wp2
    go_ret
    exact ⟨rfl, B_7.out.os, B_7.out.tape, B_7.out.output, B_7.out.size, B_7.out.block⟩
end Go.Proofs.YthcoppfdffhjfaaGreatDoor
