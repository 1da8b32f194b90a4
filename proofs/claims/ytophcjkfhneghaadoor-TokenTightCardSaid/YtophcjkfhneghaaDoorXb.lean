/- The law TokenTight answers true: the walk. -/
import Derived.Test.YtophcjkfhneghaaDoorXa
namespace Go.Proofs.YtophcjkfhneghaaDoor
open Go Go.RowKit

set_option maxRecDepth 100000 in
set_option maxHeartbeats 12800000 in
theorem TokenTight_true (s : ByteArray) (w : World) (he : Env w) : Calls Tryd.prog 6 #[.string s] w fun e w' => e = .returned (.bool true) ∧ Below w.heap.size w w' := by
  have HE := Lib.hid he
  clear he
  cases hq : shortL s.data.toList
  · go_enter Tryd.func6, Tryd.ntmps6
    go_wp2_with fail
    refine (short_one s false hq w.heap.size _ (Blk.new w 9 #[.string s])).mono ?_
    rintro e w1 ⟨rfl, rfl⟩
    have be := (Below.refl _ w).alloc (Nat.le_refl _) (.cells #[Value.string s] 9)
    have B_0 := Lib.hid be
    have E_0 := Lib.hid (HE.out.below be)
    clear be
    generalize w.alloc (.cells #[Value.string s] 9) = w_0 at *
    have s_0 := B_0.out.size
    go_wp2_with fail
    refine (read_true w_0 E_0.out).mono ?_
    rintro e w_1 ⟨rfl, hb⟩
    have B_1 := Lib.hid (B_0.out.trans (hb.mono s_0))
    have E_1 := Lib.hid (E_0.out.below hb)
    have s_1 := B_1.out.size
    clear hb
    go_wp2
    go_ret
    exact ⟨rfl, B_1.out⟩
  · go_enter Tryd.func6, Tryd.ntmps6
    go_wp2_with fail
    refine (short_one s true hq w.heap.size _ (Blk.new w 9 #[.string s])).mono ?_
    rintro e w1 ⟨rfl, rfl⟩
    have be := (Below.refl _ w).alloc (Nat.le_refl _) (.cells #[Value.string s] 9)
    have B_0 := Lib.hid be
    have E_0 := Lib.hid (HE.out.below be)
    clear be
    generalize w.alloc (.cells #[Value.string s] 9) = w_0 at *
    have s_0 := B_0.out.size
    go_wp2_with fail
    refine (Tight_any s w_0 E_0.out).mono ?_
    rintro e w_1 ⟨rfl, hb⟩
    have B_1 := Lib.hid (B_0.out.trans (hb.mono s_0))
    have E_1 := Lib.hid (E_0.out.below hb)
    have s_1 := B_1.out.size
    clear hb
    go_wp2_with fail
    have hb := (Below.refl _ w_1).alloc (Nat.le_refl _) (.cells #[Value.int .i64 (tightR s).2.1, Value.int .i64 (tightR s).2.2] 31)
    have B_2 := Lib.hid (B_1.out.trans (hb.mono s_1))
    have E_2 := Lib.hid (E_1.out.below hb)
    have p_2 := Lib.hid (Blk.new w_1 31 #[Value.int .i64 (tightR s).2.1, Value.int .i64 (tightR s).2.2])
    have s_2 := B_2.out.size
    clear hb
    generalize w_1.alloc (.cells #[Value.int .i64 (tightR s).2.1, Value.int .i64 (tightR s).2.2] 31) = w_2 at *
    refine (refTight_any s w_2).mono ?_
    rintro e w_3 ⟨rfl, hb⟩
    have B_3 := Lib.hid (B_2.out.trans (hb.mono s_2))
    have E_3 := Lib.hid (E_2.out.below hb)
    have p_3 := Lib.hid (p_2.out.below hb p_2.out.lt)
    have s_3 := B_3.out.size
    clear hb
    go_wp2_with fail
    have hb := (Below.refl _ w_3).alloc (Nat.le_refl _) (.cells #[Value.int .i64 (tightR s).2.1, Value.int .i64 (tightR s).2.2] 31)
    have B_4 := Lib.hid (B_3.out.trans (hb.mono s_3))
    have E_4 := Lib.hid (E_3.out.below hb)
    have p_4 := Lib.hid (p_3.out.below hb p_3.out.lt)
    have q_4 := Lib.hid (Blk.new w_3 31 #[Value.int .i64 (tightR s).2.1, Value.int .i64 (tightR s).2.2])
    have s_4 := B_4.out.size
    clear hb
    generalize w_3.alloc (.cells #[Value.int .i64 (tightR s).2.1, Value.int .i64 (tightR s).2.2] 31) = w_4 at *
    refine (read_true w_4 E_4.out).mono ?_
    rintro e w_5 ⟨rfl, hb⟩
    have B_5 := Lib.hid (B_4.out.trans (hb.mono s_4))
    have E_5 := Lib.hid (E_4.out.below hb)
    have p_5 := Lib.hid (p_4.out.below hb p_4.out.lt)
    have q_5 := Lib.hid (q_4.out.below hb q_4.out.lt)
    have s_5 := B_5.out.size
    clear hb
    have c0 := p_5.out.cell 0
    have c1 := p_5.out.cell 1
    simp only [List.getElem?_toArray, List.getElem?_cons_zero, List.getElem?_cons_succ] at c0 c1
    have d0 := q_5.out.cell 0
    have d1 := q_5.out.cell 1
    simp only [List.getElem?_toArray, List.getElem?_cons_zero, List.getElem?_cons_succ] at d0 d1
    go_wp2
    go_ret
    exact ⟨rfl, B_5.out⟩
end Go.Proofs.YtophcjkfhneghaaDoor
