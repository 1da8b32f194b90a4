/- The law TokenApart answers true: the walk. -/
import Derived.Test.YtophcjkfhneghaaDoorYw
import Derived.Test.YtophcjkfhneghaaDoorYp
namespace Go.Proofs.YtophcjkfhneghaaDoor
open Go Go.RowKit

theorem check_two (t u : Tok) (ht : t.line = 1) (hu : u.line = 1) : (checkR [t, u]).2 = if rightB t.kind (bs t.text) = true ∧ rightB u.kind (bs u.text) = true then 0 else 1 := by
  unfold checkR
  rw [checkA, isTokB_right, ht]
  cases h1 : rightB t.kind (bs t.text)
  · simp
  · rw [if_neg (by decide), if_neg (by simp)]
    rw [checkA, isTokB_right, hu]
    cases h2 : rightB u.kind (bs u.text)
    · simp
    · simp [checkA]
theorem apart_flag (t u : Tok) : (apartR t u).2 = if rightB t.kind (bs t.text) = true ∧ rightB u.kind (bs u.text) = true then 0 else 1 := by
  unfold apartR
  rw [isTokB_right, isTokB_right]
  cases h1 : rightB t.kind (bs t.text) <;> cases h2 : rightB u.kind (bs u.text) <;> simp
theorem apart_no {t u : Tok} (h : ¬ (rightB t.kind (bs t.text) = true ∧ rightB u.kind (bs u.text) = true)) : apartR t u = (false, 1) := by
  unfold apartR
  rw [isTokB_right, isTokB_right]
  cases h1 : rightB t.kind (bs t.text) <;> cases h2 : rightB u.kind (bs u.text) <;> simp
  exact h ⟨h1, h2⟩

theorem stoks_ok {s : ByteArray} {toks : List Tok} {cs : List (List UInt8)} (h : scanT s = .ok (toks, cs)) : stoks s = toks := by simp [stoks, h]
theorem sflt_ok {s : ByteArray} {toks : List Tok} {cs : List (List UInt8)} (h : scanT s = .ok (toks, cs)) : sflt s = (0, 0) := by simp [sflt, h]
theorem scoms_ok {s : ByteArray} {toks : List Tok} {cs : List (List UInt8)} (h : scanT s = .ok (toks, cs)) : scoms s = cs := by simp [scoms, h]
theorem stoks_no {s : ByteArray} {f : Int × Int} (h : scanT s = .error f) : stoks s = [] := by simp [stoks, h]
theorem sflt_no {s : ByteArray} {f : Int × Int} (h : scanT s = .error f) : sflt s = f := by simp [sflt, h]

theorem Scan_is {s : ByteArray} {toks : List Tok} {cs : List (List UInt8)} (h : scanT s = .ok (toks, cs)) (w : World) (he : Env w) :
    Calls Tryd.prog 23 #[.string s] w fun e w' => Below w.heap.size w w' ∧ ∃ ao cap, e = .returned (.tuple #[.slice ao toks.length cap, .agg #[.int .i64 0, .int .i64 0]]) ∧ TokSl w' (.slice ao toks.length cap) toks := by
  have h0 := Scan_out s w he
  unfold ScanOut at h0
  rw [stoks_ok h, sflt_ok h] at h0
  exact h0
theorem Scan_bad {s : ByteArray} {c ln : Int} (h : scanT s = .error (c, ln)) (w : World) (he : Env w) :
    Calls Tryd.prog 23 #[.string s] w fun e w' => Below w.heap.size w w' ∧ ∃ ao cap, e = .returned (.tuple #[.slice ao 0 cap, .agg #[.int .i64 c, .int .i64 ln]]) ∧ TokSl w' (.slice ao 0 cap) [] := by
  have h0 := Scan_out s w he
  unfold ScanOut at h0
  rw [stoks_no h, sflt_no h] at h0
  exact h0
theorem same_no (a b : List Tok) (v1 v2 : Value) (w : World) (h1 : TokSl w v1 a) (h2 : TokSl w v2 b) (hn : a.length ≤ 100000) (hm : b.length ≤ 100000) (hne : ¬ a = b) :
    Calls Tryd.prog 27 #[v1, v2] w fun e w' => e = .returned (.bool false) ∧ ∃ n, w' = w.drewN n := by
  have h := same_any a b v1 v2 w h1 h2 hn hm
  rw [decide_eq_false hne] at h
  exact h

set_option maxRecDepth 100000 in
set_option maxHeartbeats 12800000 in
theorem TokenApart_true (k1 k2 n1 n2 : Int) (x1 x2 : List UInt8) (w : World) (he : Env w) :
    Calls Tryd.prog 9 #[.agg #[.int .u8 k1, .string (bs x1), .int .i64 n1], .agg #[.int .u8 k2, .string (bs x2), .int .i64 n2]] w fun e w' => e = .returned (.bool true) ∧ Below w.heap.size w w' := by
  have hb0 := (Below.refl _ w).alloc (Nat.le_refl _) (.cells #[.int .u8 k1, .string (bs x1), .int .i64 1] 38)
  have hb1 := (Below.refl _ (w.alloc (.cells #[.int .u8 k1, .string (bs x1), .int .i64 1] 38))).alloc (Nat.le_refl _) (.cells #[.int .u8 k2, .string (bs x2), .int .i64 1] 38)
  have hb2 := (Below.refl _ ((w.alloc (.cells #[.int .u8 k1, .string (bs x1), .int .i64 1] 38)).alloc (.cells #[.int .u8 k2, .string (bs x2), .int .i64 1] 38))).alloc (Nat.le_refl _) (.cells #[.int .u8 k1, .string (bs x1), .int .i64 1, .int .u8 k2, .string (bs x2), .int .i64 1] 38)
  have B_0 := Lib.hid ((hb0.trans (hb1.mono hb0.size)).trans (hb2.mono (hb0.trans (hb1.mono hb0.size)).size))
  have E_0 := Lib.hid (he.below B_0.out)
  have p_0 := Lib.hid (((Blk.new w 38 #[.int .u8 k1, .string (bs x1), .int .i64 1]).below hb1 (by simp)).below hb2 (by simp <;> omega))
  have q_0 : Hid (Blk (((w.alloc (.cells #[.int .u8 k1, .string (bs x1), .int .i64 1] 38)).alloc (.cells #[.int .u8 k2, .string (bs x2), .int .i64 1] 38)).alloc (.cells #[.int .u8 k1, .string (bs x1), .int .i64 1, .int .u8 k2, .string (bs x2), .int .i64 1] 38)) (w.heap.size + 1) 38 #[.int .u8 k2, .string (bs x2), .int .i64 1]) := Lib.hid (by
    have := (Blk.new (w.alloc (.cells #[.int .u8 k1, .string (bs x1), .int .i64 1] 38)) 38 #[.int .u8 k2, .string (bs x2), .int .i64 1]).below hb2 (by simp)
    rwa [World.size_alloc] at this)
  have z_0 : Hid (Blk (((w.alloc (.cells #[.int .u8 k1, .string (bs x1), .int .i64 1] 38)).alloc (.cells #[.int .u8 k2, .string (bs x2), .int .i64 1] 38)).alloc (.cells #[.int .u8 k1, .string (bs x1), .int .i64 1, .int .u8 k2, .string (bs x2), .int .i64 1] 38)) (w.heap.size + 1 + 1) 38 #[.int .u8 k1, .string (bs x1), .int .i64 1, .int .u8 k2, .string (bs x2), .int .i64 1]) := Lib.hid (by
    have := Blk.new ((w.alloc (.cells #[.int .u8 k1, .string (bs x1), .int .i64 1] 38)).alloc (.cells #[.int .u8 k2, .string (bs x2), .int .i64 1] 38)) 38 #[.int .u8 k1, .string (bs x1), .int .i64 1, .int .u8 k2, .string (bs x2), .int .i64 1]
    rwa [World.size_alloc, World.size_alloc] at this)
  clear hb0 hb1 hb2 he
  cases hf : fewL [(⟨k1, x1, 1⟩ : Tok), (⟨k2, x2, 1⟩ : Tok)]
  · go_enter Tryd.func9, Tryd.ntmps9
    go_wp2_with fail
    generalize (((w.alloc (.cells #[.int .u8 k1, .string (bs x1), .int .i64 1] 38)).alloc (.cells #[.int .u8 k2, .string (bs x2), .int .i64 1] 38)).alloc (.cells #[.int .u8 k1, .string (bs x1), .int .i64 1, .int .u8 k2, .string (bs x2), .int .i64 1] 38)) = w_0 at *
    have s_0 := B_0.out.size
    refine (few_any [(⟨k1, x1, 1⟩ : Tok), (⟨k2, x2, 1⟩ : Tok)] _ w_0 (tokSl_two (t := (⟨k1, x1, 1⟩ : Tok)) (u := (⟨k2, x2, 1⟩ : Tok)) z_0.out)).mono ?_
    rintro e w1 ⟨rfl, rfl⟩
    rw [hf]
    go_wp2_with fail
    refine (read_true w_0 E_0.out).mono ?_
    rintro e w_1 ⟨rfl, hb⟩
    have B_1 := Lib.hid (B_0.out.trans (hb.mono s_0))
    have E_1 := Lib.hid (E_0.out.below hb)
    have p_1 := Lib.hid (p_0.out.below hb p_0.out.lt)
    have q_1 := Lib.hid (q_0.out.below hb q_0.out.lt)
    have z_1 := Lib.hid (z_0.out.below hb z_0.out.lt)
    have s_1 := B_1.out.size
    clear hb
    go_wp2
    go_ret
    exact ⟨rfl, B_1.out⟩
  obtain ⟨_, ht4⟩ := few_is hf
  have z1 := ht4 (⟨k1, x1, 1⟩ : Tok) (by simp)
  have z2 := ht4 (⟨k2, x2, 1⟩ : Tok) (by simp)
  simp only at z1 z2
  have Z1 := Lib.hid (show (bs x1).size ≤ 40 by rw [bs_size]; exact z1)
  have Z2 := Lib.hid (show (bs x2).size ≤ 40 by rw [bs_size]; exact z2)
  have g1 : ¬ 9223372036854775807 < (bs x1).size + (bs x2).size := by have := Z1.out; have := Z2.out; omega
  have g2 : ¬ 9223372036854775807 < (bs x1).size + 1 := by have := Z1.out; omega
  have g3 : ¬ 9223372036854775807 < (bs x1).size + 1 + (bs x2).size := by have := Z1.out; have := Z2.out; omega
  clear ht4 z1 z2
  by_cases hr : rightB k1 (bs x1) = true ∧ rightB k2 (bs x2) = true
  rotate_left
  · have HA := Lib.hid (apart_no (t := (⟨k1, x1, 1⟩ : Tok)) (u := (⟨k2, x2, 1⟩ : Tok)) hr)
    have HC := Lib.hid (show (checkR [(⟨k1, x1, 1⟩ : Tok), (⟨k2, x2, 1⟩ : Tok)]).2 = 1 by rw [check_two _ _ rfl rfl]; exact if_neg hr)
    clear hr
    go_enter Tryd.func9, Tryd.ntmps9
    go_wp2_with fail
    generalize (((w.alloc (.cells #[.int .u8 k1, .string (bs x1), .int .i64 1] 38)).alloc (.cells #[.int .u8 k2, .string (bs x2), .int .i64 1] 38)).alloc (.cells #[.int .u8 k1, .string (bs x1), .int .i64 1, .int .u8 k2, .string (bs x2), .int .i64 1] 38)) = w_0 at *
    have s_0 := B_0.out.size
    refine (few_any [(⟨k1, x1, 1⟩ : Tok), (⟨k2, x2, 1⟩ : Tok)] _ w_0 (tokSl_two (t := (⟨k1, x1, 1⟩ : Tok)) (u := (⟨k2, x2, 1⟩ : Tok)) z_0.out)).mono ?_
    rintro e w1 ⟨rfl, rfl⟩
    rw [hf]
    have a0 := p_0.out.cell 0
    have a1 := p_0.out.cell 1
    have a2 := p_0.out.cell 2
    simp only [List.getElem?_toArray, List.getElem?_cons_zero, List.getElem?_cons_succ] at a0 a1 a2
    have b0 := q_0.out.cell 0
    have b1 := q_0.out.cell 1
    have b2 := q_0.out.cell 2
    simp only [List.getElem?_toArray, List.getElem?_cons_zero, List.getElem?_cons_succ] at b0 b1 b2
    go_wp2_with fail
    refine (Apart_any (⟨k1, x1, 1⟩ : Tok) (⟨k2, x2, 1⟩ : Tok) w_0 E_0.out (by have := Z1.out; have := Z2.out; show (bs x1).size + (bs x2).size ≤ _; omega)).mono ?_
    rintro e w_1 ⟨rfl, hb⟩
    have B_1 := Lib.hid (B_0.out.trans (hb.mono s_0))
    have E_1 := Lib.hid (E_0.out.below hb)
    have p_1 := Lib.hid (p_0.out.below hb p_0.out.lt)
    have q_1 := Lib.hid (q_0.out.below hb q_0.out.lt)
    have z_1 := Lib.hid (z_0.out.below hb z_0.out.lt)
    have s_1 := B_1.out.size
    clear hb a0 a1 a2 b0 b1 b2
    rw [HA.out]
    go_wp2_with fail
    refine (Check_sl [(⟨k1, x1, 1⟩ : Tok), (⟨k2, x2, 1⟩ : Tok)] _ w_1 E_1.out (tokSl_two (t := (⟨k1, x1, 1⟩ : Tok)) (u := (⟨k2, x2, 1⟩ : Tok)) z_1.out) (by simp)).mono ?_
    rintro e w_2 ⟨rfl, hb⟩
    have B_2 := Lib.hid (B_1.out.trans (hb.mono s_1))
    have E_2 := Lib.hid (E_1.out.below hb)
    have p_2 := Lib.hid (p_1.out.below hb p_1.out.lt)
    have q_2 := Lib.hid (q_1.out.below hb q_1.out.lt)
    have z_2 := Lib.hid (z_1.out.below hb z_1.out.lt)
    have s_2 := B_2.out.size
    clear hb
    rw [HC.out]
    go_wp2_with fail
    refine (read_true w_2 E_2.out).mono ?_
    rintro e w_3 ⟨rfl, hb⟩
    have B_3 := Lib.hid (B_2.out.trans (hb.mono s_2))
    have E_3 := Lib.hid (E_2.out.below hb)
    have p_3 := Lib.hid (p_2.out.below hb p_2.out.lt)
    have q_3 := Lib.hid (q_2.out.below hb q_2.out.lt)
    have z_3 := Lib.hid (z_2.out.below hb z_2.out.lt)
    have s_3 := B_3.out.size
    clear hb
    go_wp2
    go_ret
    exact ⟨rfl, B_3.out⟩
  have HS2 := Lib.hid (show scanT (bs x1 ++ bs [32] ++ bs x2) = .ok ([(⟨k1, x1, 1⟩ : Tok), (⟨k2, x2, 1⟩ : Tok)], []) from scan_blank (t := (⟨k1, x1, 1⟩ : Tok)) (u := (⟨k2, x2, 1⟩ : Tok)) hr.1 hr.2)
  have HC := Lib.hid (show (checkR [(⟨k1, x1, 1⟩ : Tok), (⟨k2, x2, 1⟩ : Tok)]).2 = 0 by rw [check_two _ _ rfl rfl]; exact if_pos hr)
  have hap : ∀ b, apartB (⟨k1, x1, 1⟩ : Tok) (⟨k2, x2, 1⟩ : Tok) = b → apartR (⟨k1, x1, 1⟩ : Tok) (⟨k2, x2, 1⟩ : Tok) = (b, 0) := fun b hb => by rw [← hb]; simp [apartR, isTokB_right, hr.1, hr.2]
  cases hs : scanT (bs x1 ++ bs x2) with
  | error f =>
    obtain ⟨c, ln⟩ := f
    have HA := Lib.hid (hap true (by
      unfold apartB
      show (!readsB (bs x1 ++ bs x2) _) = true
      rw [readsB_no hs]
      rfl))
    have hcz : ¬ c = 0 := by rcases scanT_err hs with h | h | h | h <;> omega
    have HS1 := Lib.hid hs
    clear hs hr hap
    go_enter Tryd.func9, Tryd.ntmps9
    go_wp2_with fail
    generalize (((w.alloc (.cells #[.int .u8 k1, .string (bs x1), .int .i64 1] 38)).alloc (.cells #[.int .u8 k2, .string (bs x2), .int .i64 1] 38)).alloc (.cells #[.int .u8 k1, .string (bs x1), .int .i64 1, .int .u8 k2, .string (bs x2), .int .i64 1] 38)) = w_0 at *
    have s_0 := B_0.out.size
    refine (few_any [(⟨k1, x1, 1⟩ : Tok), (⟨k2, x2, 1⟩ : Tok)] _ w_0 (tokSl_two (t := (⟨k1, x1, 1⟩ : Tok)) (u := (⟨k2, x2, 1⟩ : Tok)) z_0.out)).mono ?_
    rintro e w1 ⟨rfl, rfl⟩
    rw [hf]
    have a0 := p_0.out.cell 0
    have a1 := p_0.out.cell 1
    have a2 := p_0.out.cell 2
    simp only [List.getElem?_toArray, List.getElem?_cons_zero, List.getElem?_cons_succ] at a0 a1 a2
    have b0 := q_0.out.cell 0
    have b1 := q_0.out.cell 1
    have b2 := q_0.out.cell 2
    simp only [List.getElem?_toArray, List.getElem?_cons_zero, List.getElem?_cons_succ] at b0 b1 b2
    go_wp2_with fail
    refine (Apart_any (⟨k1, x1, 1⟩ : Tok) (⟨k2, x2, 1⟩ : Tok) w_0 E_0.out (by have := Z1.out; have := Z2.out; show (bs x1).size + (bs x2).size ≤ _; omega)).mono ?_
    rintro e w_1 ⟨rfl, hb⟩
    have B_1 := Lib.hid (B_0.out.trans (hb.mono s_0))
    have E_1 := Lib.hid (E_0.out.below hb)
    have p_1 := Lib.hid (p_0.out.below hb p_0.out.lt)
    have q_1 := Lib.hid (q_0.out.below hb q_0.out.lt)
    have z_1 := Lib.hid (z_0.out.below hb z_0.out.lt)
    have s_1 := B_1.out.size
    clear hb a0 a1 a2 b0 b1 b2
    rw [HA.out]
    go_wp2_with fail
    refine (Check_sl [(⟨k1, x1, 1⟩ : Tok), (⟨k2, x2, 1⟩ : Tok)] _ w_1 E_1.out (tokSl_two (t := (⟨k1, x1, 1⟩ : Tok)) (u := (⟨k2, x2, 1⟩ : Tok)) z_1.out) (by simp)).mono ?_
    rintro e w_2 ⟨rfl, hb⟩
    have B_2 := Lib.hid (B_1.out.trans (hb.mono s_1))
    have E_2 := Lib.hid (E_1.out.below hb)
    have p_2 := Lib.hid (p_1.out.below hb p_1.out.lt)
    have q_2 := Lib.hid (q_1.out.below hb q_1.out.lt)
    have z_2 := Lib.hid (z_1.out.below hb z_1.out.lt)
    have s_2 := B_2.out.size
    clear hb
    rw [HC.out]
    have a0 := p_2.out.cell 0
    have a1 := p_2.out.cell 1
    have a2 := p_2.out.cell 2
    simp only [List.getElem?_toArray, List.getElem?_cons_zero, List.getElem?_cons_succ] at a0 a1 a2
    have b0 := q_2.out.cell 0
    have b1 := q_2.out.cell 1
    have b2 := q_2.out.cell 2
    simp only [List.getElem?_toArray, List.getElem?_cons_zero, List.getElem?_cons_succ] at b0 b1 b2
    go_wp2_with fail
    refine (Scan_bad HS1.out w_2 E_2.out).mono ?_
    rintro e w_3 ⟨hb, ao1, cp1, rfl, ht1⟩
    have B_3 := Lib.hid (B_2.out.trans (hb.mono s_2))
    have E_3 := Lib.hid (E_2.out.below hb)
    have p_3 := Lib.hid (p_2.out.below hb p_2.out.lt)
    have q_3 := Lib.hid (q_2.out.below hb q_2.out.lt)
    have z_3 := Lib.hid (z_2.out.below hb z_2.out.lt)
    have T_3 := Lib.hid (ht1)
    have s_3 := B_3.out.size
    clear hb ht1 a0 a1 a2 b0 b1 b2
    have hb := (Below.refl _ w_3).alloc (Nat.le_refl _) (.cells #[Value.int .i64 c, Value.int .i64 ln] 31)
    have B_4 := Lib.hid (B_3.out.trans (hb.mono s_3))
    have E_4 := Lib.hid (E_3.out.below hb)
    have p_4 := Lib.hid (p_3.out.below hb p_3.out.lt)
    have q_4 := Lib.hid (q_3.out.below hb q_3.out.lt)
    have z_4 := Lib.hid (z_3.out.below hb z_3.out.lt)
    have T_4 := Lib.hid (T_3.out.below hb)
    have f_4 := Lib.hid (Blk.new w_3 31 #[Value.int .i64 c, Value.int .i64 ln])
    have s_4 := B_4.out.size
    clear hb
    have a0 := p_4.out.cell 0
    have a1 := p_4.out.cell 1
    have a2 := p_4.out.cell 2
    simp only [List.getElem?_toArray, List.getElem?_cons_zero, List.getElem?_cons_succ] at a0 a1 a2
    have b0 := q_4.out.cell 0
    have b1 := q_4.out.cell 1
    have b2 := q_4.out.cell 2
    simp only [List.getElem?_toArray, List.getElem?_cons_zero, List.getElem?_cons_succ] at b0 b1 b2
    go_wp2_with fail
    generalize w_3.alloc (.cells #[Value.int .i64 c, Value.int .i64 ln] 31) = w_4 at *
    refine (Scan_is HS2.out w_4 E_4.out).mono ?_
    rintro e w_5 ⟨hb, ao2, cp2, rfl, ht1⟩
    have B_5 := Lib.hid (B_4.out.trans (hb.mono s_4))
    have E_5 := Lib.hid (E_4.out.below hb)
    have p_5 := Lib.hid (p_4.out.below hb p_4.out.lt)
    have q_5 := Lib.hid (q_4.out.below hb q_4.out.lt)
    have z_5 := Lib.hid (z_4.out.below hb z_4.out.lt)
    have T_5 := Lib.hid (T_4.out.below hb)
    have f_5 := Lib.hid (f_4.out.below hb f_4.out.lt)
    have U_5 := Lib.hid (ht1)
    have s_5 := B_5.out.size
    clear hb ht1 a0 a1 a2 b0 b1 b2
    go_wp2_with fail
    have hb := (Below.refl _ w_5).alloc (Nat.le_refl _) (.cells #[Value.int .i64 0, Value.int .i64 0] 31)
    have B_6 := Lib.hid (B_5.out.trans (hb.mono s_5))
    have E_6 := Lib.hid (E_5.out.below hb)
    have p_6 := Lib.hid (p_5.out.below hb p_5.out.lt)
    have q_6 := Lib.hid (q_5.out.below hb q_5.out.lt)
    have z_6 := Lib.hid (z_5.out.below hb z_5.out.lt)
    have T_6 := Lib.hid (T_5.out.below hb)
    have f_6 := Lib.hid (f_5.out.below hb f_5.out.lt)
    have U_6 := Lib.hid (U_5.out.below hb)
    have g_6 := Lib.hid (Blk.new w_5 31 #[Value.int .i64 0, Value.int .i64 0])
    have s_6 := B_6.out.size
    clear hb
    generalize w_5.alloc (.cells #[Value.int .i64 0, Value.int .i64 0] 31) = w_6 at *
    refine (read_true w_6 E_6.out).mono ?_
    rintro e w_7 ⟨rfl, hb⟩
    have B_7 := Lib.hid (B_6.out.trans (hb.mono s_6))
    have E_7 := Lib.hid (E_6.out.below hb)
    have p_7 := Lib.hid (p_6.out.below hb p_6.out.lt)
    have q_7 := Lib.hid (q_6.out.below hb q_6.out.lt)
    have z_7 := Lib.hid (z_6.out.below hb z_6.out.lt)
    have T_7 := Lib.hid (T_6.out.below hb)
    have f_7 := Lib.hid (f_6.out.below hb f_6.out.lt)
    have U_7 := Lib.hid (U_6.out.below hb)
    have g_7 := Lib.hid (g_6.out.below hb g_6.out.lt)
    have s_7 := B_7.out.size
    clear hb
    have c0 := f_7.out.cell 0
    have c1 := f_7.out.cell 1
    simp only [List.getElem?_toArray, List.getElem?_cons_zero, List.getElem?_cons_succ] at c0 c1
    have d0 := g_7.out.cell 0
    have d1 := g_7.out.cell 1
    simp only [List.getElem?_toArray, List.getElem?_cons_zero, List.getElem?_cons_succ] at d0 d1
    go_wp2_with fail
    refine (same_refl [(⟨k1, x1, 1⟩ : Tok), (⟨k2, x2, 1⟩ : Tok)] _ _ w_7 (show TokSl w_7 _ _ from U_7.out) (show TokSl w_7 _ _ from tokSl_two (t := (⟨k1, x1, 1⟩ : Tok)) (u := (⟨k2, x2, 1⟩ : Tok)) z_7.out) (by simp)).mono ?_
    rintro e w9 ⟨rfl, m2, rfl⟩
    go_wp2
    go_ret
    exact ⟨rfl, B_7.out.trans ⟨rfl, rfl, rfl, Nat.le_refl _, fun _ _ => rfl⟩⟩
  | ok pr =>
    obtain ⟨toks, cs⟩ := pr
    by_cases hx : toks = [(⟨k1, x1, 1⟩ : Tok), (⟨k2, x2, 1⟩ : Tok)]
    · subst hx
      have HS1 := Lib.hid hs
      have HA := Lib.hid (hap false (by
        unfold apartB
        show (!readsB (bs x1 ++ bs x2) _) = false
        rw [readsB_ok hs]
        simp [Tok.one]))
      clear hs hr hap
      go_enter Tryd.func9, Tryd.ntmps9
      go_wp2_with fail
      generalize (((w.alloc (.cells #[.int .u8 k1, .string (bs x1), .int .i64 1] 38)).alloc (.cells #[.int .u8 k2, .string (bs x2), .int .i64 1] 38)).alloc (.cells #[.int .u8 k1, .string (bs x1), .int .i64 1, .int .u8 k2, .string (bs x2), .int .i64 1] 38)) = w_0 at *
      have s_0 := B_0.out.size
      refine (few_any [(⟨k1, x1, 1⟩ : Tok), (⟨k2, x2, 1⟩ : Tok)] _ w_0 (tokSl_two (t := (⟨k1, x1, 1⟩ : Tok)) (u := (⟨k2, x2, 1⟩ : Tok)) z_0.out)).mono ?_
      rintro e w1 ⟨rfl, rfl⟩
      rw [hf]
      have a0 := p_0.out.cell 0
      have a1 := p_0.out.cell 1
      have a2 := p_0.out.cell 2
      simp only [List.getElem?_toArray, List.getElem?_cons_zero, List.getElem?_cons_succ] at a0 a1 a2
      have b0 := q_0.out.cell 0
      have b1 := q_0.out.cell 1
      have b2 := q_0.out.cell 2
      simp only [List.getElem?_toArray, List.getElem?_cons_zero, List.getElem?_cons_succ] at b0 b1 b2
      go_wp2_with fail
      refine (Apart_any (⟨k1, x1, 1⟩ : Tok) (⟨k2, x2, 1⟩ : Tok) w_0 E_0.out (by have := Z1.out; have := Z2.out; show (bs x1).size + (bs x2).size ≤ _; omega)).mono ?_
      rintro e w_1 ⟨rfl, hb⟩
      have B_1 := Lib.hid (B_0.out.trans (hb.mono s_0))
      have E_1 := Lib.hid (E_0.out.below hb)
      have p_1 := Lib.hid (p_0.out.below hb p_0.out.lt)
      have q_1 := Lib.hid (q_0.out.below hb q_0.out.lt)
      have z_1 := Lib.hid (z_0.out.below hb z_0.out.lt)
      have s_1 := B_1.out.size
      clear hb a0 a1 a2 b0 b1 b2
      rw [HA.out]
      go_wp2_with fail
      refine (Check_sl [(⟨k1, x1, 1⟩ : Tok), (⟨k2, x2, 1⟩ : Tok)] _ w_1 E_1.out (tokSl_two (t := (⟨k1, x1, 1⟩ : Tok)) (u := (⟨k2, x2, 1⟩ : Tok)) z_1.out) (by simp)).mono ?_
      rintro e w_2 ⟨rfl, hb⟩
      have B_2 := Lib.hid (B_1.out.trans (hb.mono s_1))
      have E_2 := Lib.hid (E_1.out.below hb)
      have p_2 := Lib.hid (p_1.out.below hb p_1.out.lt)
      have q_2 := Lib.hid (q_1.out.below hb q_1.out.lt)
      have z_2 := Lib.hid (z_1.out.below hb z_1.out.lt)
      have s_2 := B_2.out.size
      clear hb
      rw [HC.out]
      have a0 := p_2.out.cell 0
      have a1 := p_2.out.cell 1
      have a2 := p_2.out.cell 2
      simp only [List.getElem?_toArray, List.getElem?_cons_zero, List.getElem?_cons_succ] at a0 a1 a2
      have b0 := q_2.out.cell 0
      have b1 := q_2.out.cell 1
      have b2 := q_2.out.cell 2
      simp only [List.getElem?_toArray, List.getElem?_cons_zero, List.getElem?_cons_succ] at b0 b1 b2
      go_wp2_with fail
      refine (Scan_is HS1.out w_2 E_2.out).mono ?_
      rintro e w_3 ⟨hb, ao1, cp1, rfl, ht1⟩
      have B_3 := Lib.hid (B_2.out.trans (hb.mono s_2))
      have E_3 := Lib.hid (E_2.out.below hb)
      have p_3 := Lib.hid (p_2.out.below hb p_2.out.lt)
      have q_3 := Lib.hid (q_2.out.below hb q_2.out.lt)
      have z_3 := Lib.hid (z_2.out.below hb z_2.out.lt)
      have T_3 := Lib.hid (ht1)
      have s_3 := B_3.out.size
      clear hb ht1 a0 a1 a2 b0 b1 b2
      have hb := (Below.refl _ w_3).alloc (Nat.le_refl _) (.cells #[Value.int .i64 0, Value.int .i64 0] 31)
      have B_4 := Lib.hid (B_3.out.trans (hb.mono s_3))
      have E_4 := Lib.hid (E_3.out.below hb)
      have p_4 := Lib.hid (p_3.out.below hb p_3.out.lt)
      have q_4 := Lib.hid (q_3.out.below hb q_3.out.lt)
      have z_4 := Lib.hid (z_3.out.below hb z_3.out.lt)
      have T_4 := Lib.hid (T_3.out.below hb)
      have f_4 := Lib.hid (Blk.new w_3 31 #[Value.int .i64 0, Value.int .i64 0])
      have s_4 := B_4.out.size
      clear hb
      have a0 := p_4.out.cell 0
      have a1 := p_4.out.cell 1
      have a2 := p_4.out.cell 2
      simp only [List.getElem?_toArray, List.getElem?_cons_zero, List.getElem?_cons_succ] at a0 a1 a2
      have b0 := q_4.out.cell 0
      have b1 := q_4.out.cell 1
      have b2 := q_4.out.cell 2
      simp only [List.getElem?_toArray, List.getElem?_cons_zero, List.getElem?_cons_succ] at b0 b1 b2
      go_wp2_with fail
      generalize w_3.alloc (.cells #[Value.int .i64 0, Value.int .i64 0] 31) = w_4 at *
      refine (Scan_is HS2.out w_4 E_4.out).mono ?_
      rintro e w_5 ⟨hb, ao2, cp2, rfl, ht1⟩
      have B_5 := Lib.hid (B_4.out.trans (hb.mono s_4))
      have E_5 := Lib.hid (E_4.out.below hb)
      have p_5 := Lib.hid (p_4.out.below hb p_4.out.lt)
      have q_5 := Lib.hid (q_4.out.below hb q_4.out.lt)
      have z_5 := Lib.hid (z_4.out.below hb z_4.out.lt)
      have T_5 := Lib.hid (T_4.out.below hb)
      have f_5 := Lib.hid (f_4.out.below hb f_4.out.lt)
      have U_5 := Lib.hid (ht1)
      have s_5 := B_5.out.size
      clear hb ht1 a0 a1 a2 b0 b1 b2
      go_wp2_with fail
      have hb := (Below.refl _ w_5).alloc (Nat.le_refl _) (.cells #[Value.int .i64 0, Value.int .i64 0] 31)
      have B_6 := Lib.hid (B_5.out.trans (hb.mono s_5))
      have E_6 := Lib.hid (E_5.out.below hb)
      have p_6 := Lib.hid (p_5.out.below hb p_5.out.lt)
      have q_6 := Lib.hid (q_5.out.below hb q_5.out.lt)
      have z_6 := Lib.hid (z_5.out.below hb z_5.out.lt)
      have T_6 := Lib.hid (T_5.out.below hb)
      have f_6 := Lib.hid (f_5.out.below hb f_5.out.lt)
      have U_6 := Lib.hid (U_5.out.below hb)
      have g_6 := Lib.hid (Blk.new w_5 31 #[Value.int .i64 0, Value.int .i64 0])
      have s_6 := B_6.out.size
      clear hb
      generalize w_5.alloc (.cells #[Value.int .i64 0, Value.int .i64 0] 31) = w_6 at *
      refine (read_true w_6 E_6.out).mono ?_
      rintro e w_7 ⟨rfl, hb⟩
      have B_7 := Lib.hid (B_6.out.trans (hb.mono s_6))
      have E_7 := Lib.hid (E_6.out.below hb)
      have p_7 := Lib.hid (p_6.out.below hb p_6.out.lt)
      have q_7 := Lib.hid (q_6.out.below hb q_6.out.lt)
      have z_7 := Lib.hid (z_6.out.below hb z_6.out.lt)
      have T_7 := Lib.hid (T_6.out.below hb)
      have f_7 := Lib.hid (f_6.out.below hb f_6.out.lt)
      have U_7 := Lib.hid (U_6.out.below hb)
      have g_7 := Lib.hid (g_6.out.below hb g_6.out.lt)
      have s_7 := B_7.out.size
      clear hb
      have c0 := f_7.out.cell 0
      have c1 := f_7.out.cell 1
      simp only [List.getElem?_toArray, List.getElem?_cons_zero, List.getElem?_cons_succ] at c0 c1
      have d0 := g_7.out.cell 0
      have d1 := g_7.out.cell 1
      simp only [List.getElem?_toArray, List.getElem?_cons_zero, List.getElem?_cons_succ] at d0 d1
      go_wp2_with fail
      refine (same_refl [(⟨k1, x1, 1⟩ : Tok), (⟨k2, x2, 1⟩ : Tok)] _ _ w_7 T_7.out (tokSl_two (t := (⟨k1, x1, 1⟩ : Tok)) (u := (⟨k2, x2, 1⟩ : Tok)) z_7.out) (by simp)).mono ?_
      rintro e w9 ⟨rfl, m1, rfl⟩
      clear d0 d1
      have d0 := (g_7.out.drewN m1).cell 0
      have d1 := (g_7.out.drewN m1).cell 1
      simp only [List.getElem?_toArray, List.getElem?_cons_zero, List.getElem?_cons_succ] at d0 d1
      go_wp2_with fail
      refine (same_refl [(⟨k1, x1, 1⟩ : Tok), (⟨k2, x2, 1⟩ : Tok)] _ _ (w_7.drewN m1) (show TokSl (w_7.drewN m1) _ _ from U_7.out) (show TokSl (w_7.drewN m1) _ _ from tokSl_two (t := (⟨k1, x1, 1⟩ : Tok)) (u := (⟨k2, x2, 1⟩ : Tok)) z_7.out) (by simp)).mono ?_
      rintro e w9 ⟨rfl, m2, rfl⟩
      go_wp2
      go_ret
      exact ⟨rfl, B_7.out.trans ⟨rfl, rfl, rfl, Nat.le_refl _, fun _ _ => rfl⟩⟩
    · have HS1 := Lib.hid hs
      have HX := Lib.hid hx
      have HL := Lib.hid (show toks.length ≤ 100000 by have := scanT_small hs; omega)
      have HA := Lib.hid (hap true (by
        unfold apartB
        show (!readsB (bs x1 ++ bs x2) _) = true
        rw [readsB_ok hs, Bool.not_eq_true', decide_eq_false_iff_not]
        exact hx))
      clear hs hr hap hx
      go_enter Tryd.func9, Tryd.ntmps9
      go_wp2_with fail
      generalize (((w.alloc (.cells #[.int .u8 k1, .string (bs x1), .int .i64 1] 38)).alloc (.cells #[.int .u8 k2, .string (bs x2), .int .i64 1] 38)).alloc (.cells #[.int .u8 k1, .string (bs x1), .int .i64 1, .int .u8 k2, .string (bs x2), .int .i64 1] 38)) = w_0 at *
      have s_0 := B_0.out.size
      refine (few_any [(⟨k1, x1, 1⟩ : Tok), (⟨k2, x2, 1⟩ : Tok)] _ w_0 (tokSl_two (t := (⟨k1, x1, 1⟩ : Tok)) (u := (⟨k2, x2, 1⟩ : Tok)) z_0.out)).mono ?_
      rintro e w1 ⟨rfl, rfl⟩
      rw [hf]
      have a0 := p_0.out.cell 0
      have a1 := p_0.out.cell 1
      have a2 := p_0.out.cell 2
      simp only [List.getElem?_toArray, List.getElem?_cons_zero, List.getElem?_cons_succ] at a0 a1 a2
      have b0 := q_0.out.cell 0
      have b1 := q_0.out.cell 1
      have b2 := q_0.out.cell 2
      simp only [List.getElem?_toArray, List.getElem?_cons_zero, List.getElem?_cons_succ] at b0 b1 b2
      go_wp2_with fail
      refine (Apart_any (⟨k1, x1, 1⟩ : Tok) (⟨k2, x2, 1⟩ : Tok) w_0 E_0.out (by have := Z1.out; have := Z2.out; show (bs x1).size + (bs x2).size ≤ _; omega)).mono ?_
      rintro e w_1 ⟨rfl, hb⟩
      have B_1 := Lib.hid (B_0.out.trans (hb.mono s_0))
      have E_1 := Lib.hid (E_0.out.below hb)
      have p_1 := Lib.hid (p_0.out.below hb p_0.out.lt)
      have q_1 := Lib.hid (q_0.out.below hb q_0.out.lt)
      have z_1 := Lib.hid (z_0.out.below hb z_0.out.lt)
      have s_1 := B_1.out.size
      clear hb a0 a1 a2 b0 b1 b2
      rw [HA.out]
      go_wp2_with fail
      refine (Check_sl [(⟨k1, x1, 1⟩ : Tok), (⟨k2, x2, 1⟩ : Tok)] _ w_1 E_1.out (tokSl_two (t := (⟨k1, x1, 1⟩ : Tok)) (u := (⟨k2, x2, 1⟩ : Tok)) z_1.out) (by simp)).mono ?_
      rintro e w_2 ⟨rfl, hb⟩
      have B_2 := Lib.hid (B_1.out.trans (hb.mono s_1))
      have E_2 := Lib.hid (E_1.out.below hb)
      have p_2 := Lib.hid (p_1.out.below hb p_1.out.lt)
      have q_2 := Lib.hid (q_1.out.below hb q_1.out.lt)
      have z_2 := Lib.hid (z_1.out.below hb z_1.out.lt)
      have s_2 := B_2.out.size
      clear hb
      rw [HC.out]
      have a0 := p_2.out.cell 0
      have a1 := p_2.out.cell 1
      have a2 := p_2.out.cell 2
      simp only [List.getElem?_toArray, List.getElem?_cons_zero, List.getElem?_cons_succ] at a0 a1 a2
      have b0 := q_2.out.cell 0
      have b1 := q_2.out.cell 1
      have b2 := q_2.out.cell 2
      simp only [List.getElem?_toArray, List.getElem?_cons_zero, List.getElem?_cons_succ] at b0 b1 b2
      go_wp2_with fail
      refine (Scan_is HS1.out w_2 E_2.out).mono ?_
      rintro e w_3 ⟨hb, ao1, cp1, rfl, ht1⟩
      have B_3 := Lib.hid (B_2.out.trans (hb.mono s_2))
      have E_3 := Lib.hid (E_2.out.below hb)
      have p_3 := Lib.hid (p_2.out.below hb p_2.out.lt)
      have q_3 := Lib.hid (q_2.out.below hb q_2.out.lt)
      have z_3 := Lib.hid (z_2.out.below hb z_2.out.lt)
      have T_3 := Lib.hid (ht1)
      have s_3 := B_3.out.size
      clear hb ht1 a0 a1 a2 b0 b1 b2
      have hb := (Below.refl _ w_3).alloc (Nat.le_refl _) (.cells #[Value.int .i64 0, Value.int .i64 0] 31)
      have B_4 := Lib.hid (B_3.out.trans (hb.mono s_3))
      have E_4 := Lib.hid (E_3.out.below hb)
      have p_4 := Lib.hid (p_3.out.below hb p_3.out.lt)
      have q_4 := Lib.hid (q_3.out.below hb q_3.out.lt)
      have z_4 := Lib.hid (z_3.out.below hb z_3.out.lt)
      have T_4 := Lib.hid (T_3.out.below hb)
      have f_4 := Lib.hid (Blk.new w_3 31 #[Value.int .i64 0, Value.int .i64 0])
      have s_4 := B_4.out.size
      clear hb
      have a0 := p_4.out.cell 0
      have a1 := p_4.out.cell 1
      have a2 := p_4.out.cell 2
      simp only [List.getElem?_toArray, List.getElem?_cons_zero, List.getElem?_cons_succ] at a0 a1 a2
      have b0 := q_4.out.cell 0
      have b1 := q_4.out.cell 1
      have b2 := q_4.out.cell 2
      simp only [List.getElem?_toArray, List.getElem?_cons_zero, List.getElem?_cons_succ] at b0 b1 b2
      go_wp2_with fail
      generalize w_3.alloc (.cells #[Value.int .i64 0, Value.int .i64 0] 31) = w_4 at *
      refine (Scan_is HS2.out w_4 E_4.out).mono ?_
      rintro e w_5 ⟨hb, ao2, cp2, rfl, ht1⟩
      have B_5 := Lib.hid (B_4.out.trans (hb.mono s_4))
      have E_5 := Lib.hid (E_4.out.below hb)
      have p_5 := Lib.hid (p_4.out.below hb p_4.out.lt)
      have q_5 := Lib.hid (q_4.out.below hb q_4.out.lt)
      have z_5 := Lib.hid (z_4.out.below hb z_4.out.lt)
      have T_5 := Lib.hid (T_4.out.below hb)
      have f_5 := Lib.hid (f_4.out.below hb f_4.out.lt)
      have U_5 := Lib.hid (ht1)
      have s_5 := B_5.out.size
      clear hb ht1 a0 a1 a2 b0 b1 b2
      go_wp2_with fail
      have hb := (Below.refl _ w_5).alloc (Nat.le_refl _) (.cells #[Value.int .i64 0, Value.int .i64 0] 31)
      have B_6 := Lib.hid (B_5.out.trans (hb.mono s_5))
      have E_6 := Lib.hid (E_5.out.below hb)
      have p_6 := Lib.hid (p_5.out.below hb p_5.out.lt)
      have q_6 := Lib.hid (q_5.out.below hb q_5.out.lt)
      have z_6 := Lib.hid (z_5.out.below hb z_5.out.lt)
      have T_6 := Lib.hid (T_5.out.below hb)
      have f_6 := Lib.hid (f_5.out.below hb f_5.out.lt)
      have U_6 := Lib.hid (U_5.out.below hb)
      have g_6 := Lib.hid (Blk.new w_5 31 #[Value.int .i64 0, Value.int .i64 0])
      have s_6 := B_6.out.size
      clear hb
      generalize w_5.alloc (.cells #[Value.int .i64 0, Value.int .i64 0] 31) = w_6 at *
      refine (read_true w_6 E_6.out).mono ?_
      rintro e w_7 ⟨rfl, hb⟩
      have B_7 := Lib.hid (B_6.out.trans (hb.mono s_6))
      have E_7 := Lib.hid (E_6.out.below hb)
      have p_7 := Lib.hid (p_6.out.below hb p_6.out.lt)
      have q_7 := Lib.hid (q_6.out.below hb q_6.out.lt)
      have z_7 := Lib.hid (z_6.out.below hb z_6.out.lt)
      have T_7 := Lib.hid (T_6.out.below hb)
      have f_7 := Lib.hid (f_6.out.below hb f_6.out.lt)
      have U_7 := Lib.hid (U_6.out.below hb)
      have g_7 := Lib.hid (g_6.out.below hb g_6.out.lt)
      have s_7 := B_7.out.size
      clear hb
      have c0 := f_7.out.cell 0
      have c1 := f_7.out.cell 1
      simp only [List.getElem?_toArray, List.getElem?_cons_zero, List.getElem?_cons_succ] at c0 c1
      have d0 := g_7.out.cell 0
      have d1 := g_7.out.cell 1
      simp only [List.getElem?_toArray, List.getElem?_cons_zero, List.getElem?_cons_succ] at d0 d1
      go_wp2_with fail
      refine (same_no toks [(⟨k1, x1, 1⟩ : Tok), (⟨k2, x2, 1⟩ : Tok)] _ _ w_7 T_7.out (tokSl_two (t := (⟨k1, x1, 1⟩ : Tok)) (u := (⟨k2, x2, 1⟩ : Tok)) z_7.out) HL.out (by simp) HX.out).mono ?_
      rintro e w9 ⟨rfl, m1, rfl⟩
      clear d0 d1
      have d0 := (g_7.out.drewN m1).cell 0
      have d1 := (g_7.out.drewN m1).cell 1
      simp only [List.getElem?_toArray, List.getElem?_cons_zero, List.getElem?_cons_succ] at d0 d1
      go_wp2_with fail
      refine (same_refl [(⟨k1, x1, 1⟩ : Tok), (⟨k2, x2, 1⟩ : Tok)] _ _ (w_7.drewN m1) (show TokSl (w_7.drewN m1) _ _ from U_7.out) (show TokSl (w_7.drewN m1) _ _ from tokSl_two (t := (⟨k1, x1, 1⟩ : Tok)) (u := (⟨k2, x2, 1⟩ : Tok)) z_7.out) (by simp)).mono ?_
      rintro e w9 ⟨rfl, m2, rfl⟩
      go_wp2
      go_ret
      exact ⟨rfl, B_7.out.trans ⟨rfl, rfl, rfl, Nat.le_refl _, fun _ _ => rfl⟩⟩
end Go.Proofs.YtophcjkfhneghaaDoor
