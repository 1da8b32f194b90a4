/- The contracts of package kind's Array, Named, With. -/
import Derived.Test.YthcoppfdffhjfaaGreatDoorP
import Derived.Lib.ReplaceLaws
namespace Go.Proofs.YthcoppfdffhjfaaGreatDoor
open Go Go.RowKit

theorem bs_app (a b : Bys) : bs a ++ bs b = bs (a ++ b) := by
  rw [← bs_toList (bs a ++ bs b)]
  congr 1
/-- A text that was made of types, unless it is too large for one. -/
def inL (x : Bys) : Bys × Int := if chk x ≠ 0 then ([], chk x) else (x, 0)
theorem inL_wf {T : Ty} (h : T.wf) : inL T.pr = limT T.pr := by
  unfold inL limT
  by_cases h0 : chk T.pr ≠ 0
  · rw [if_pos h0, if_pos h0, chk_wf_ne h h0]
  · rw [if_neg h0, if_neg h0]

set_option maxRecDepth 100000 in
set_option maxHeartbeats 3200000 in
theorem inLimits_any (x : Bys) (w : World) (he : Env w) : Calls Tryz.prog 64 #[.string (bs x)] w fun e w' => e = .returned (.tuple #[.string (bs (inL x).1), .int .i64 (inL x).2]) ∧ Below w.heap.size w w' := by
  have HE := Lib.hid he
  clear he
  by_cases hc : chk x = 0
  · have hi : inL x = (x, 0) := by unfold inL; rw [if_neg (by omega)]
    have HI := Lib.hid hi
    have HC := Lib.hid hc
    clear hi hc
    go_enter Tryz.func64, Tryz.ntmps64
    go_wp2_with fail
    refine (Check_any x w HE.out).mono ?_
    rintro e w1 ⟨rfl, hb⟩
    rw [HC.out]
    go_wp2
    go_ret2
    rw [HI.out]
    exact ⟨rfl, hb⟩
  · have hi : inL x = ([], chk x) := by unfold inL; rw [if_pos hc]
    have HI := Lib.hid hi
    have hc2 : (chk x != 0) = true := by simpa using hc
    clear hi hc
    go_enter Tryz.func64, Tryz.ntmps64
    go_wp2_with fail
    refine (Check_any x w HE.out).mono ?_
    rintro e w1 ⟨rfl, hb⟩
    go_wp2
    go_ret2
    rw [HI.out]
    exact ⟨rfl, hb⟩
theorem inLimits_q (s : ByteArray) (x : Bys) (hs : s = bs x) (w : World) (he : Env w) : Calls Tryz.prog 64 #[.string s] w fun e w' => e = .returned (.tuple #[.string (bs (inL x).1), .int .i64 (inL x).2]) ∧ Below w.heap.size w w' := by
  subst hs; exact inLimits_any x w he

/-- A front with an argument. -/
def argX (n a : Bys) : Bys × Int := if chk a ≠ 0 then ([], chk a) else inL (n ++ 91 :: (a ++ [93]))
set_option maxRecDepth 100000 in
set_option maxHeartbeats 3200000 in
theorem withArg_any (n a : Bys) (hn : n.length ≤ 1000) (ha : a.length ≤ 1000) (w : World) (he : Env w) : Calls Tryz.prog 58 #[.string (bs n), .string (bs a)] w fun e w' => e = .returned (.tuple #[.string (bs (argX n a).1), .int .i64 (argX n a).2]) ∧ Below w.heap.size w w' := by
  have HE := Lib.hid he
  have hz1 : (bs n).size ≤ 1000 := by rw [bs_size]; exact hn
  have hz2 : (bs a).size ≤ 1000 := by rw [bs_size]; exact ha
  clear he
  by_cases hc : chk a = 0
  · have hi : argX n a = inL (n ++ 91 :: (a ++ [93])) := by unfold argX; rw [if_neg (by omega)]
    have HI := Lib.hid hi
    have HC := Lib.hid hc
    clear hi hc
    go_enter Tryz.func58, Tryz.ntmps58
    go_wp2_with fail
    refine (Check_any a w HE.out).mono ?_
    rintro e w1 ⟨rfl, hb⟩
    rw [HC.out]
    have HB := Lib.hid hb
    have HE1 := Lib.hid (HE.out.below hb)
    clear hb
    go_wp2_with fail
    refine (inLimits_q _ (n ++ 91 :: (a ++ [93])) ?_ w1 HE1.out).mono ?_
    · show bs n ++ bs [91] ++ bs a ++ bs [93] = _
      simp [bs_app]
    rintro e w2 ⟨rfl, hb2⟩
    have HB2 := Lib.hid hb2
    clear hb2
    go_wp2
    go_ret2
    rw [HI.out]
    exact ⟨rfl, HB.out.trans (HB2.out.mono HB.out.size)⟩
  · have hi : argX n a = ([], chk a) := by unfold argX; rw [if_pos hc]
    have HI := Lib.hid hi
    have hc2 : (chk a != 0) = true := by simpa using hc
    clear hi hc
    go_enter Tryz.func58, Tryz.ntmps58
    go_wp2_with fail
    refine (Check_any a w HE.out).mono ?_
    rintro e w1 ⟨rfl, hb⟩
    go_wp2
    go_ret2
    rw [HI.out]
    exact ⟨rfl, hb⟩

theorem argX_array (a : Bys) : argX kArray a = arrayT a := by
  unfold argX arrayT
  by_cases hc : chk a ≠ 0
  · rw [if_pos hc, if_pos hc]
  · rw [if_neg hc, if_neg hc]
    obtain ⟨T, hG, rfl⟩ := chk_ok (by omega : chk a = 0)
    exact inL_wf (T := .arr T) hG.wf
theorem argX_named (n a : Bys) (hn : isNameL n = true) (ha : a ≠ []) : argX n a = namedT n a := by
  have h0 : ¬ (isNameL n = false) := by rw [hn]; decide
  unfold argX namedT
  rw [if_neg h0, if_neg ha]
  by_cases hc : chk a ≠ 0
  · rw [if_pos hc, if_pos hc]
  · rw [if_neg hc, if_neg hc]
    obtain ⟨T, hG, rfl⟩ := chk_ok (by omega : chk a = 0)
    exact inL_wf (T := .app n T) ⟨hn, hG.wf⟩

set_option maxRecDepth 100000 in
set_option maxHeartbeats 3200000 in
theorem Array_any (a : Bys) (ha : a.length ≤ 1000) (w : World) (he : Env w) : Calls Tryz.prog 30 #[.string (bs a)] w fun e w' => e = .returned (.tuple #[.string (bs (arrayT a).1), .int .i64 (arrayT a).2]) ∧ Below w.heap.size w w' := by
  have HE := Lib.hid he
  clear he
  go_enter Tryz.func30, Tryz.ntmps30
  go_wp2_with fail
  refine (withArg_any kArray a (by decide) ha w HE.out).mono ?_
  rintro e w1 ⟨rfl, hb⟩
  rw [argX_array]
  go_wp2
  go_ret2
  exact ⟨rfl, hb⟩

set_option maxRecDepth 100000 in
set_option maxHeartbeats 3200000 in
theorem Named_any (n a : Bys) (hn : n.length ≤ 1000) (ha : a.length ≤ 1000) (w : World) (he : Env w) : Calls Tryz.prog 32 #[.string (bs n), .string (bs a)] w fun e w' => e = .returned (.tuple #[.string (bs (namedT n a).1), .int .i64 (namedT n a).2]) ∧ Below w.heap.size w w' := by
  have HE := Lib.hid he
  clear he
  cases hnm : isNameL n
  · have hi : namedT n a = ([], 1) := by unfold namedT; rw [if_pos hnm]
    have HI := Lib.hid hi
    have HNM := Lib.hid hnm
    clear hi hnm
    go_enter Tryz.func32, Tryz.ntmps32
    go_wp2_with fail
    refine (IsName_v n false HNM.out w HE.out).mono ?_
    rintro e w1 ⟨rfl, rfl⟩
    go_wp2
    go_ret2
    rw [HI.out]
    exact ⟨rfl, Below.refl _ _⟩
  · have HNM := Lib.hid hnm
    by_cases ha0 : a = []
    · subst ha0
      have hi : namedT n [] = (n, 0) := by unfold namedT; rw [if_neg (by rw [hnm]; decide), if_pos rfl]
      have HI := Lib.hid hi
      have hl : (bs []).toList = [] := by rw [ByteArray.toList_eq, bs_data]
      clear hi hnm
      go_enter Tryz.func32, Tryz.ntmps32
      go_wp2_with fail
      refine (IsName_v n true HNM.out w HE.out).mono ?_
      rintro e w1 ⟨rfl, rfl⟩
      go_wp2
      go_ret2
      rw [HI.out]
      exact ⟨rfl, Below.refl _ _⟩
    · have hi := argX_named n a hnm ha0
      have HI := Lib.hid hi
      have hl : ¬ (bs a).toList = [] := by rw [ByteArray.toList_eq, bs_data]; exact ha0
      have hl2 : (bs a).toList.isEmpty = false := by simpa using hl
      clear hi hnm ha0
      go_enter Tryz.func32, Tryz.ntmps32
      go_wp2_with fail
      refine (IsName_v n true HNM.out w HE.out).mono ?_
      rintro e w1 ⟨rfl, rfl⟩
      go_wp2_with fail
      refine (withArg_any n a hn ha w HE.out).mono ?_
      rintro e w1 ⟨rfl, hb⟩
      rw [HI.out]
      go_wp2
      go_ret2
      exact ⟨rfl, hb⟩

theorem withT_code {t a : Bys} (ht : chk t = 0) (ha : chk a = 0) : inL (repl a t) = withT t a := by
  rw [withT_eq ht ha]
  obtain ⟨T, A, hT, hA, rfl, rfl, e1, w1⟩ := repl_good ht ha
  rw [e1]
  exact inL_wf w1

theorem replace_all {t a : Bys} (ht : chk t = 0) (ha : chk a = 0) (w : World) (he : Env w) : Calls Tryz.prog 65 #[.string (bs t), .string { data := #[63, 116] }, .string (bs a)] w fun e w' => e = .returned (.string (bs (repl a t))) ∧ Below w.heap.size w w' := by
  obtain ⟨T, hT, rfl⟩ := chk_ok ht
  obtain ⟨A, hA, rfl⟩ := chk_ok ha
  obtain ⟨m, hm⟩ := he.mx
  have hl := hT.len
  have hl2 := hA.len
  have hcb : Lib.countB (bs T.pr) (bs qt) ≤ 100 := by
    have := Lib.countB_mul_le (bs qt) (by decide) _ (bs T.pr) (Nat.le_refl _)
    rw [show (bs qt).size = 2 from rfl, bs_size] at this
    omega
  have h := Tryz.strings_ReplaceAll (bs T.pr) (bs qt) (bs A.pr) m w (by rw [bs_size]; omega) hm (by decide) (by
    rw [bs_size, bs_size]
    have := Nat.mul_le_mul hcb hl2
    omega)
  rw [bs_data, bs_data, bs_data, replaceAll_qt hT.wf] at h
  exact h

set_option maxRecDepth 100000 in
set_option maxHeartbeats 6400000 in
theorem With_any (t a : Bys) (w : World) (he : Env w) : Calls Tryz.prog 38 #[.string (bs t), .string (bs a)] w fun e w' => e = .returned (.tuple #[.string (bs (withT t a).1), .int .i64 (withT t a).2]) ∧ Below w.heap.size w w' := by
  have i0 : ∀ w, (Instr.index 70 (.agg #[.string (bs t), .string (bs a)]) (.int .i64 0)).run Tryz.prog w = .ok (.string (bs t)) w := fun _ => by kernel_rfl
  have i1 : ∀ w, (Instr.index 70 (.agg #[.string (bs t), .string (bs a)]) (.int .i64 1)).run Tryz.prog w = .ok (.string (bs a)) w := fun _ => by kernel_rfl
  have HE := Lib.hid he
  clear he
  by_cases ht : chk t = 0
  · have HT := Lib.hid ht
    by_cases ha : chk a = 0
    · have HA := Lib.hid ha
      have HW := Lib.hid (withT_code ht ha)
      clear ht ha
      go_enter Tryz.func38, Tryz.ntmps38
      go_wp2
      refine wp_loop_rounds 3 ?_
      rw [rounds_succ]
      go_wp2_with fail
      refine (Check_any t w HE.out).mono ?_
      rintro e w1 ⟨rfl, hb⟩
      rw [HT.out]
      have HB := Lib.hid hb
      have HE1 := Lib.hid (HE.out.below hb)
      clear hb
      go_wp2
      rw [rounds_succ]
      go_wp2_with fail
      refine (Check_any a w1 HE1.out).mono ?_
      rintro e w2 ⟨rfl, hb⟩
      rw [HA.out]
      have HB2 := Lib.hid (HB.out.trans (hb.mono HB.out.size))
      have HE2 := Lib.hid (HE1.out.below hb)
      clear hb
      go_wp2
      rw [rounds_succ]
      go_wp2_with fail
      refine (replace_all HT.out HA.out w2 HE2.out).mono ?_
      rintro e w3 ⟨rfl, hb⟩
      have HB3 := Lib.hid (HB2.out.trans (hb.mono HB2.out.size))
      have HE3 := Lib.hid (HE2.out.below hb)
      clear hb
      go_wp2_with fail
      refine (inLimits_any _ w3 HE3.out).mono ?_
      rintro e w4 ⟨rfl, hb⟩
      rw [HW.out]
      have HB4 := Lib.hid (HB3.out.trans (hb.mono HB3.out.size))
      clear hb
      go_wp2
      go_ret2
      exact ⟨rfl, HB4.out⟩
    · have hw : withT t a = ([], chk a) := by unfold withT; rw [if_neg (by omega), if_pos ha]
      have HW := Lib.hid hw
      have ha2 : (chk a != 0) = true := by simpa using ha
      clear ht ha hw
      go_enter Tryz.func38, Tryz.ntmps38
      go_wp2
      refine wp_loop_rounds 3 ?_
      rw [rounds_succ]
      go_wp2_with fail
      refine (Check_any t w HE.out).mono ?_
      rintro e w1 ⟨rfl, hb⟩
      rw [HT.out]
      have HB := Lib.hid hb
      have HE1 := Lib.hid (HE.out.below hb)
      clear hb
      go_wp2
      rw [rounds_succ]
      go_wp2_with fail
      refine (Check_any a w1 HE1.out).mono ?_
      rintro e w2 ⟨rfl, hb⟩
      have HB2 := Lib.hid (HB.out.trans (hb.mono HB.out.size))
      clear hb
      go_wp2
      go_ret2
      rw [HW.out]
      exact ⟨rfl, HB2.out⟩
  · have hw : withT t a = ([], chk t) := by unfold withT; rw [if_pos ht]
    have HW := Lib.hid hw
    have ht2 : (chk t != 0) = true := by simpa using ht
    clear ht hw
    go_enter Tryz.func38, Tryz.ntmps38
    go_wp2
    refine wp_loop_rounds 3 ?_
    rw [rounds_succ]
    go_wp2_with fail
    refine (Check_any t w HE.out).mono ?_
    rintro e w1 ⟨rfl, hb⟩
    go_wp2
    go_ret2
    rw [HW.out]
    exact ⟨rfl, hb⟩
end Go.Proofs.YthcoppfdffhjfaaGreatDoor
