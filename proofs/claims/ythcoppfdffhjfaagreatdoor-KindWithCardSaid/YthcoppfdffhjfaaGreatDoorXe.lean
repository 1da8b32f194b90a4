/- The law KindWith answers true: the walk. -/
import Derived.Test.YthcoppfdffhjfaaGreatDoorWc
import Derived.Test.YthcoppfdffhjfaaGreatDoorV4
namespace Go.Proofs.YthcoppfdffhjfaaGreatDoor
open Go Go.RowKit

set_option maxRecDepth 100000 in
set_option maxHeartbeats 12800000 in
theorem KindWith_true (t u : Bys) (w : World) (he : Env w) :
    Calls Tryz.prog 6 #[.string (bs t), .string (bs u)] w fun e w' => e = .returned (.bool true) ∧ Below w.heap.size w w' := by
  have hb0 := (Below.refl _ w).alloc (Nat.le_refl _) (.cells #[.string (bs t), .string (bs u)] 9)
  have B_0 := Lib.hid hb0
  have E_0 := Lib.hid (he.below hb0)
  have R_0 := Lib.hid (strRow_block (w := w.alloc (.cells #[.string (bs t), .string (bs u)] 9)) (l := [t, u]) (heap_alloc_new w _))
  clear hb0 he
  obtain ⟨k1, k2, hk⟩ : ∃ a b, withT t u = (a, b) := ⟨_, _, rfl⟩
  obtain ⟨l1, l2, l3, hl⟩ : ∃ a b c, matchT t u = (a, b, c) := ⟨_, _, _, rfl⟩
  have HK := Lib.hid hk
  have HL := Lib.hid hl
  clear hk hl
  cases hsh : [t, u].all shortB
  · go_enter Tryz.func6, Tryz.ntmps6
    go_wp2_with fail
    generalize (w.alloc (.cells #[.string (bs t), .string (bs u)] 9)) = w_0 at *
    have s_0 := B_0.out.size
    refine (short_any [t, u] _ 2 w_0 R_0.out (by simp)).mono ?_
    rintro e w9 ⟨rfl, rfl⟩
    rw [hsh]
    go_wp2_with fail
    refine (kept_any w_0 E_0.out).mono ?_
    rintro e w_1 ⟨rfl, hb⟩
    have B_1 := Lib.hid (B_0.out.trans (hb.mono s_0))
    have E_1 := Lib.hid (E_0.out.below hb)
    have s_1 := B_1.out.size
    clear hb
    go_wp2
    go_ret
    exact ⟨rfl, B_1.out⟩
  · go_enter Tryz.func6, Tryz.ntmps6
    go_wp2_with fail
    generalize (w.alloc (.cells #[.string (bs t), .string (bs u)] 9)) = w_0 at *
    have s_0 := B_0.out.size
    refine (short_any [t, u] _ 2 w_0 R_0.out (by simp)).mono ?_
    rintro e w9 ⟨rfl, rfl⟩
    rw [hsh]
    go_wp2_with fail
    refine (With_any t u w_0 E_0.out).mono ?_
    rintro e w_1 ⟨rfl, hb⟩
    have B_1 := Lib.hid (B_0.out.trans (hb.mono s_0))
    have E_1 := Lib.hid (E_0.out.below hb)
    have s_1 := B_1.out.size
    clear hb
    rw [HK.out]
    go_wp2_with fail
    refine (refWith_any t u w_1).mono ?_
    rintro e w_2 ⟨rfl, hb⟩
    have B_2 := Lib.hid (B_1.out.trans (hb.mono s_1))
    have E_2 := Lib.hid (E_1.out.below hb)
    have s_2 := B_2.out.size
    clear hb
    rw [HK.out]
    go_wp2_with fail
    refine (Match_any t u w_2 E_2.out).mono ?_
    rintro e w_3 ⟨rfl, hb⟩
    have B_3 := Lib.hid (B_2.out.trans (hb.mono s_2))
    have E_3 := Lib.hid (E_2.out.below hb)
    have s_3 := B_3.out.size
    clear hb
    rw [HL.out]
    go_wp2_with fail
    refine (refMatch_any t u w_3).mono ?_
    rintro e w_4 ⟨rfl, hb⟩
    have B_4 := Lib.hid (B_3.out.trans (hb.mono s_3))
    have E_4 := Lib.hid (E_3.out.below hb)
    have s_4 := B_4.out.size
    clear hb
    rw [HL.out]
    go_wp2_with fail
    refine (kept_any w_4 E_4.out).mono ?_
    rintro e w_5 ⟨rfl, hb⟩
    have B_5 := Lib.hid (B_4.out.trans (hb.mono s_4))
    have E_5 := Lib.hid (E_4.out.below hb)
    have s_5 := B_5.out.size
    clear hb
    go_wp2
    go_ret
    exact ⟨rfl, B_5.out⟩
end Go.Proofs.YthcoppfdffhjfaaGreatDoor
