/- The law KindChecks answers true: the walk. -/
import Derived.Test.YthcoppfdffhjfaaGreatDoorWc
import Derived.Test.YthcoppfdffhjfaaGreatDoorV2
namespace Go.Proofs.YthcoppfdffhjfaaGreatDoor
open Go Go.RowKit

set_option maxRecDepth 100000 in
set_option maxHeartbeats 12800000 in
theorem KindChecks_true (t : Bys) (w : World) (he : Env w) :
    Calls Tryz.prog 3 #[.string (bs t)] w fun e w' => e = .returned (.bool true) ∧ Below w.heap.size w w' := by
  have hb0 := (Below.refl _ w).alloc (Nat.le_refl _) (.cells #[.string (bs t)] 9)
  have B_0 := Lib.hid hb0
  have E_0 := Lib.hid (he.below hb0)
  have R_0 := Lib.hid (strRow_block (w := w.alloc (.cells #[.string (bs t)] 9)) (l := [t]) (heap_alloc_new w _))
  clear hb0 he
  obtain ⟨k1, k2, hk⟩ : ∃ a b, kindT t = (a, b) := ⟨_, _, rfl⟩
  obtain ⟨l1, l2, hl⟩ : ∃ a b, levT t = (a, b) := ⟨_, _, rfl⟩
  obtain ⟨o1, o2, ho⟩ : ∃ a b, openT t = (a, b) := ⟨_, _, rfl⟩
  obtain ⟨c, hc⟩ : ∃ c, chk t = c := ⟨_, rfl⟩
  have HK := Lib.hid hk
  have HL := Lib.hid hl
  have HO := Lib.hid ho
  have HC := Lib.hid hc
  clear hk hl ho hc
  cases hsh : [t].all shortB
  · go_enter Tryz.func3, Tryz.ntmps3
    go_wp2_with fail
    generalize (w.alloc (.cells #[.string (bs t)] 9)) = w_0 at *
    have s_0 := B_0.out.size
    refine (short_any [t] _ 1 w_0 R_0.out (by simp)).mono ?_
    rintro e w9 ⟨rfl, rfl⟩
    rw [hsh]
    go_wp2_with fail
    refine (kept_any w_0 E_0.out).mono ?_
    rintro e w_1 ⟨rfl, hb⟩
    have B_1 := Lib.hid (B_0.out.trans (hb.mono s_0))
    have E_1 := Lib.hid (E_0.out.below hb)
    have s_1 := B_1.out.size
    clear hb
    go_wp2
    go_ret
    exact ⟨rfl, B_1.out⟩
  · go_enter Tryz.func3, Tryz.ntmps3
    go_wp2_with fail
    generalize (w.alloc (.cells #[.string (bs t)] 9)) = w_0 at *
    have s_0 := B_0.out.size
    refine (short_any [t] _ 1 w_0 R_0.out (by simp)).mono ?_
    rintro e w9 ⟨rfl, rfl⟩
    rw [hsh]
    go_wp2_with fail
    refine (Kind_any t w_0 E_0.out).mono ?_
    rintro e w_1 ⟨rfl, hb⟩
    have B_1 := Lib.hid (B_0.out.trans (hb.mono s_0))
    have E_1 := Lib.hid (E_0.out.below hb)
    have s_1 := B_1.out.size
    clear hb
    rw [HK.out]
    go_wp2_with fail
    refine (refKindT_any t w_1).mono ?_
    rintro e w_2 ⟨rfl, hb⟩
    have B_2 := Lib.hid (B_1.out.trans (hb.mono s_1))
    have E_2 := Lib.hid (E_1.out.below hb)
    have s_2 := B_2.out.size
    clear hb
    rw [HK.out]
    go_wp2_with fail
    refine (Level_any t w_2 E_2.out).mono ?_
    rintro e w_3 ⟨rfl, hb⟩
    have B_3 := Lib.hid (B_2.out.trans (hb.mono s_2))
    have E_3 := Lib.hid (E_2.out.below hb)
    have s_3 := B_3.out.size
    clear hb
    rw [HL.out]
    go_wp2_with fail
    refine (refLevel_any t w_3).mono ?_
    rintro e w_4 ⟨rfl, hb⟩
    have B_4 := Lib.hid (B_3.out.trans (hb.mono s_3))
    have E_4 := Lib.hid (E_3.out.below hb)
    have s_4 := B_4.out.size
    clear hb
    rw [HL.out]
    go_wp2_with fail
    refine (Open_any t w_4 E_4.out).mono ?_
    rintro e w_5 ⟨rfl, hb⟩
    have B_5 := Lib.hid (B_4.out.trans (hb.mono s_4))
    have E_5 := Lib.hid (E_4.out.below hb)
    have s_5 := B_5.out.size
    clear hb
    rw [HO.out]
    go_wp2_with fail
    refine (refOpenT_any t w_5).mono ?_
    rintro e w_6 ⟨rfl, hb⟩
    have B_6 := Lib.hid (B_5.out.trans (hb.mono s_5))
    have E_6 := Lib.hid (E_5.out.below hb)
    have s_6 := B_6.out.size
    clear hb
    rw [HO.out]
    go_wp2_with fail
    refine (kept_any w_6 E_6.out).mono ?_
    rintro e w_7 ⟨rfl, hb⟩
    have B_7 := Lib.hid (B_6.out.trans (hb.mono s_6))
    have E_7 := Lib.hid (E_6.out.below hb)
    have s_7 := B_7.out.size
    clear hb
    go_wp2_with fail
    refine (Check_any t w_7 E_7.out).mono ?_
    rintro e w_8 ⟨rfl, hb⟩
    have B_8 := Lib.hid (B_7.out.trans (hb.mono s_7))
    have E_8 := Lib.hid (E_7.out.below hb)
    have s_8 := B_8.out.size
    clear hb
    rw [HC.out]
    go_wp2_with fail
    refine (refCheck_any t w_8).mono ?_
    rintro e w_9 ⟨rfl, hb⟩
    have B_9 := Lib.hid (B_8.out.trans (hb.mono s_8))
    have E_9 := Lib.hid (E_8.out.below hb)
    have s_9 := B_9.out.size
    clear hb
    rw [HC.out]
    go_wp2
    go_ret
    exact ⟨rfl, B_9.out⟩
end Go.Proofs.YthcoppfdffhjfaaGreatDoor
