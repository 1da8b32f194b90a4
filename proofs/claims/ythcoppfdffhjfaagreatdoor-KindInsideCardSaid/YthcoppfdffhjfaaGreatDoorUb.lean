/- The law KindInside answers true: the walk. -/
import Derived.Test.YthcoppfdffhjfaaGreatDoorWc
import Derived.Test.YthcoppfdffhjfaaGreatDoorV6
namespace Go.Proofs.YthcoppfdffhjfaaGreatDoor
open Go Go.RowKit

theorem stv_slice {w : World} {v : Value} {l : List Bys} (h : StV w v l) : ∃ a c, v = .slice a l.length c := by
  rcases h with ⟨rfl, a, c, rfl⟩ | ⟨g, o, c, rfl, _⟩
  · exact ⟨_, _, rfl⟩
  · exact ⟨_, _, rfl⟩
theorem insK_len2 {α : Type} (key : α → Bys) (x : α) (l : List α) : (insK key x l).length ≤ l.length + 1 := by
  have h : ((l.filter fun y => decide (key y < key x)).length + (l.filter fun y => decide (key x < key y)).length) ≤ l.length := by
    induction l with
    | nil => simp
    | cons y l ih =>
      simp only [List.filter_cons]
      by_cases h1 : key y < key x
      · rw [if_pos (by simpa using h1), if_neg (by simpa using bys_asym h1)]
        simp only [List.length_cons]
        omega
      · rw [if_neg (by simpa using h1)]
        by_cases h2 : key x < key y
        · rw [if_pos (by simpa using h2)]
          simp only [List.length_cons]
          omega
        · rw [if_neg (by simpa using h2)]
          simp only [List.length_cons]
          omega
  unfold insK
  simp only [List.length_append, List.length_cons]
  omega
theorem sortK_len2 {α : Type} (key : α → Bys) (l : List α) : (sortK key l).length ≤ l.length := by
  suffices ∀ n (l : List α), l.length = n → (sortK key l).length ≤ l.length from this _ l rfl
  intro n
  induction n with
  | zero => intro l hl; rw [List.length_eq_zero_iff.1 hl]; simp [sortK]
  | succ n ih =>
    intro l hl
    obtain ⟨m, x, rfl⟩ : ∃ m x, l = m ++ [x] := ⟨l.dropLast, l.getLast (by intro e; rw [e] at hl; simp at hl), (List.dropLast_concat_getLast _).symm⟩
    rw [sortK_snoc]
    have h1 := insK_len2 key x (sortK key m)
    have h2 := ih m (by simpa using hl)
    simp only [List.length_append, List.length_singleton]
    omega
theorem inside_len (t : Bys) : (insideT t).1.length ≤ 101 ∧ (namesT t).1.length ≤ 101 := by
  by_cases hc : chk t = 0
  · obtain ⟨T, hT, rfl⟩ := chk_ok hc
    have h2 := T.all_len
    have h3 := hT.len
    constructor
    · rw [insideT_good hT]
      have h1 := dedup_len (T.all.map Ty.pr)
      simp only [List.length_map] at h1
      simp only
      omega
    · rw [namesT_good hT]
      simp only
      have h0 := sortK_len2 id (dedup T.nms)
      have h1 := dedup_len T.nms
      have h4 : T.nms.length ≤ T.all.length := by rw [T.nms_all]; exact nmsL_len _
      have h5 : (ascOf T.nms).length ≤ (dedup T.nms).length := h0
      omega
  · rw [show insideT t = ([], chk t) by unfold insideT; rw [if_pos hc], show namesT t = ([], chk t) by unfold namesT; rw [if_pos hc]]
    simp

set_option maxRecDepth 100000 in
set_option maxHeartbeats 12800000 in
theorem KindInside_true (t : Bys) (w : World) (he : Env w) :
    Calls Tryz.prog 7 #[.string (bs t)] w fun e w' => e = .returned (.bool true) ∧ Below w.heap.size w w' := by
  have hb0 := (Below.refl _ w).alloc (Nat.le_refl _) (.cells #[.string (bs t)] 9)
  have B_0 := Lib.hid hb0
  have E_0 := Lib.hid (he.below hb0)
  have R_0 := Lib.hid (strRow_block (w := w.alloc (.cells #[.string (bs t)] 9)) (l := [t]) (heap_alloc_new w _))
  clear hb0 he
  have hcnt := inside_len t
  obtain ⟨l, ie, hi⟩ : ∃ a b, insideT t = (a, b) := ⟨_, _, rfl⟩
  obtain ⟨m, ne, hn⟩ : ∃ a b, namesT t = (a, b) := ⟨_, _, rfl⟩
  rw [hi, hn] at hcnt
  have HI := Lib.hid hi
  have HN := Lib.hid hn
  have HL : Hid (l.length ≤ 101) := Lib.hid hcnt.1
  have HM : Hid (m.length ≤ 101) := Lib.hid hcnt.2
  clear hi hn hcnt
  cases hsh : [t].all shortB
  · go_enter Tryz.func7, Tryz.ntmps7
    go_wp2_with fail
    generalize (w.alloc (.cells #[.string (bs t)] 9)) = w_0 at *
    have s_0 := B_0.out.size
    refine (short_any [t] _ 1 w_0 R_0.out (by simp)).mono ?_
    rintro e w9 ⟨rfl, rfl⟩
    rw [hsh]
    go_wp2_with fail
    refine (kept_any w_0 E_0.out).mono ?_
    rintro e w_1 ⟨rfl, hb⟩
    have B_1 := Lib.hid (B_0.out.trans (hb.mono s_0))
    have E_1 := Lib.hid (E_0.out.below hb)
    have s_1 := B_1.out.size
    clear hb
    go_wp2
    go_ret
    exact ⟨rfl, B_1.out⟩
  · go_enter Tryz.func7, Tryz.ntmps7
    go_wp2_with fail
    generalize (w.alloc (.cells #[.string (bs t)] 9)) = w_0 at *
    have s_0 := B_0.out.size
    refine (short_any [t] _ 1 w_0 R_0.out (by simp)).mono ?_
    rintro e w9 ⟨rfl, rfl⟩
    rw [hsh]
    go_wp2_with fail
    refine (Inside_any t w_0 E_0.out).mono ?_
    rintro e w_1 ⟨v, rfl, hv, hb⟩
    rw [HI.out] at hv ⊢
    replace hv : StV w_1 v l := stV_own hv
    obtain ⟨aA, cA, rfl⟩ := stv_slice hv
    have B_1 := Lib.hid (B_0.out.trans (hb.mono s_0))
    have E_1 := Lib.hid (E_0.out.below hb)
    have VA_1 := Lib.hid hv
    have s_1 := B_1.out.size
    clear hb hv
    go_wp2_with fail
    refine (refInside_any t w_1).mono ?_
    rintro e w_2 ⟨v, rfl, hv, hb⟩
    rw [HI.out] at hv ⊢
    have hv : StV w_2 v l := hv
    obtain ⟨aB, cB, rfl⟩ := stv_slice hv
    have B_2 := Lib.hid (B_1.out.trans (hb.mono s_1))
    have E_2 := Lib.hid (E_1.out.below hb)
    have VA_2 := Lib.hid (VA_1.out.keep hb)
    have VB_2 := Lib.hid hv
    have s_2 := B_2.out.size
    clear hb hv
    go_wp2_with fail
    refine (Names_any t w_2 E_2.out).mono ?_
    rintro e w_3 ⟨v, rfl, hv, hb⟩
    rw [HN.out] at hv ⊢
    have hv : StV w_3 v m := hv
    obtain ⟨aC, cC, rfl⟩ := stv_slice hv
    have B_3 := Lib.hid (B_2.out.trans (hb.mono s_2))
    have E_3 := Lib.hid (E_2.out.below hb)
    have VA_3 := Lib.hid (VA_2.out.keep hb)
    have VB_3 := Lib.hid (VB_2.out.keep hb)
    have VC_3 := Lib.hid hv
    have s_3 := B_3.out.size
    clear hb hv
    go_wp2_with fail
    refine (refNames_any t w_3).mono ?_
    rintro e w_4 ⟨v, rfl, hv, hb⟩
    rw [HN.out] at hv ⊢
    have hv : StV w_4 v m := hv
    obtain ⟨aD, cD, rfl⟩ := stv_slice hv
    have B_4 := Lib.hid (B_3.out.trans (hb.mono s_3))
    have E_4 := Lib.hid (E_3.out.below hb)
    have VA_4 := Lib.hid (VA_3.out.keep hb)
    have VB_4 := Lib.hid (VB_3.out.keep hb)
    have VC_4 := Lib.hid (VC_3.out.keep hb)
    have VD_4 := Lib.hid hv
    have s_4 := B_4.out.size
    clear hb hv
    go_wp2_with fail
    refine (kept_any w_4 E_4.out).mono ?_
    rintro e w_5 ⟨rfl, hb⟩
    have B_5 := Lib.hid (B_4.out.trans (hb.mono s_4))
    have E_5 := Lib.hid (E_4.out.below hb)
    have VA_5 := Lib.hid (VA_4.out.keep hb)
    have VB_5 := Lib.hid (VB_4.out.keep hb)
    have VC_5 := Lib.hid (VC_4.out.keep hb)
    have VD_5 := Lib.hid (VD_4.out.keep hb)
    have s_5 := B_5.out.size
    clear hb
    go_wp2_with fail
    refine (same_any l l _ _ w_5 VA_5.out VB_5.out (by have := HL.out; omega) (by have := HL.out; omega)).mono ?_
    rintro e w9 ⟨rfl, n9, rfl⟩
    rw [decide_eq_true (show l = l from rfl)]
    go_wp2_with fail
    have hbn : Below w_5.heap.size w_5 (w_5.drewN n9) := ⟨rfl, rfl, rfl, Nat.le_refl _, fun _ _ => rfl⟩
    have B9 := Lib.hid (B_5.out.trans (hbn.mono B_5.out.size))
    have VC9 := Lib.hid (VC_5.out.keep hbn)
    have VD9 := Lib.hid (VD_5.out.keep hbn)
    clear hbn
    generalize w_5.drewN n9 = w_f at *
    refine (same_any m m _ _ w_f VC9.out VD9.out (by have := HM.out; omega) (by have := HM.out; omega)).mono ?_
    rintro e w9 ⟨rfl, n8, rfl⟩
    rw [decide_eq_true (show m = m from rfl)]
    go_wp2
    go_ret
    exact ⟨rfl, B9.out.os, B9.out.tape, B9.out.output, B9.out.size, B9.out.block⟩
end Go.Proofs.YthcoppfdffhjfaaGreatDoor
