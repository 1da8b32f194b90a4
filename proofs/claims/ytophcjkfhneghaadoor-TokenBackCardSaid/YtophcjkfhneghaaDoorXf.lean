/- The law TokenBack answers true: the walk. -/
import Derived.Test.YtophcjkfhneghaaDoorXd
namespace Go.Proofs.YtophcjkfhneghaaDoor
open Go Go.RowKit

theorem short_scan {s : ByteArray} {toks : List Tok} {cs : List (List UInt8)} (h : shortL s.data.toList = true) (hs : scanT s = .ok (toks, cs)) : s.size ≤ 1500 ∧ toks.length ≤ 1501 ∧ ∀ t ∈ toks, t.text.length ≤ 1500 := by
  obtain ⟨h1, h2, _, h4⟩ := scanT_small hs
  have hz : s.size ≤ 1500 := by
    simp only [shortL, data_length, Bool.not_eq_true', Bool.or_eq_false_iff, Bool.and_eq_false_iff, decide_eq_false_iff_not] at h
    omega
  exact ⟨hz, by omega, fun t ht => by have := h4 t ht; omega⟩

set_option maxRecDepth 100000 in
set_option maxHeartbeats 25600000 in
theorem TokenBack_true (l : List Tok) (v : Value) (s : ByteArray) (w : World) (he : Env w) (h : TokSl w v l) :
    Calls Tryd.prog 7 #[v, .string s] w fun e w' => e = .returned (.bool true) ∧ Below w.heap.size w w' := by
  obtain ⟨ao, cap, rfl, h'⟩ := h
  have h : TokSl w (.slice ao l.length cap) l := ⟨ao, cap, rfl, h'⟩
  clear h'
  have B_0 := Lib.hid (Below.refl w.heap.size w)
  have E_0 := Lib.hid he
  have T_0 := Lib.hid h
  clear he h
  cases hf : fewL l
  · go_enter Tryd.func7, Tryd.ntmps7
    go_wp2_with fail
    have s_0 := B_0.out.size
    refine (few_any l _ w T_0.out).mono ?_
    rintro e w1 ⟨rfl, rfl⟩
    rw [hf]
    go_wp2_with fail
    refine (read_true w E_0.out).mono ?_
    rintro e w_1 ⟨rfl, hb⟩
    have B_1 := Lib.hid (B_0.out.trans (hb.mono s_0))
    have E_1 := Lib.hid (E_0.out.below hb)
    have T_1 := Lib.hid (T_0.out.below hb)
    have s_1 := B_1.out.size
    clear hb
    go_wp2
    go_ret
    exact ⟨rfl, B_1.out⟩
  obtain ⟨hl3, hl4⟩ := few_is hf
  have HL := Lib.hid hl3
  have HX := Lib.hid hl4
  clear hl3 hl4
  cases hq : shortL s.data.toList
  · go_enter Tryd.func7, Tryd.ntmps7
    go_wp2_with fail
    have s_0 := B_0.out.size
    refine (few_any l _ w T_0.out).mono ?_
    rintro e w1 ⟨rfl, rfl⟩
    rw [hf]
    go_wp2_with fail
    have hb := (Below.refl _ w).alloc (Nat.le_refl _) (.cells #[Value.string s] 9)
    have B_1 := Lib.hid (B_0.out.trans (hb.mono s_0))
    have E_1 := Lib.hid (E_0.out.below hb)
    have T_1 := Lib.hid (T_0.out.below hb)
    have m_1 := Lib.hid (Blk.new w 9 #[Value.string s])
    have s_1 := B_1.out.size
    clear hb
    generalize w.alloc (.cells #[Value.string s] 9) = w_1 at *
    refine (short_one s false hq _ _ m_1.out).mono ?_
    rintro e w9 ⟨rfl, rfl⟩
    go_wp2_with fail
    refine (read_true w_1 E_1.out).mono ?_
    rintro e w_2 ⟨rfl, hb⟩
    have B_2 := Lib.hid (B_1.out.trans (hb.mono s_1))
    have E_2 := Lib.hid (E_1.out.below hb)
    have T_2 := Lib.hid (T_1.out.below hb)
    have s_2 := B_2.out.size
    clear hb
    go_wp2
    go_ret
    exact ⟨rfl, B_2.out⟩
  cases hs : scanT s with
  | error f =>
    obtain ⟨c, ln⟩ := f
    have hcz : ¬ c = 0 := by rcases scanT_err hs with h | h | h | h <;> omega
    have HQ := Lib.hid hs
    clear hs
    by_cases hp : (printR l).2 = 0
    · have HS := Lib.hid (scan_print hp)
      have HP := Lib.hid hp
      clear hp
      go_enter Tryd.func7, Tryd.ntmps7
      go_wp2_with fail
      have s_0 := B_0.out.size
      refine (few_any l _ w T_0.out).mono ?_
      rintro e w1 ⟨rfl, rfl⟩
      rw [hf]
      go_wp2_with fail
      have hb := (Below.refl _ w).alloc (Nat.le_refl _) (.cells #[Value.string s] 9)
      have B_1 := Lib.hid (B_0.out.trans (hb.mono s_0))
      have E_1 := Lib.hid (E_0.out.below hb)
      have T_1 := Lib.hid (T_0.out.below hb)
      have m_1 := Lib.hid (Blk.new w 9 #[Value.string s])
      have s_1 := B_1.out.size
      clear hb
      generalize w.alloc (.cells #[Value.string s] 9) = w_1 at *
      refine (short_one s true hq _ _ m_1.out).mono ?_
      rintro e w9 ⟨rfl, rfl⟩
      go_wp2_with fail
      refine (Print_sl l _ w_1 E_1.out T_1.out (by have := HL.out; omega) (fun x hx => by have := HX.out x hx; omega)).mono ?_
      rintro e w_2 ⟨rfl, hb⟩
      have B_2 := Lib.hid (B_1.out.trans (hb.mono s_1))
      have E_2 := Lib.hid (E_1.out.below hb)
      have T_2 := Lib.hid (T_1.out.below hb)
      have s_2 := B_2.out.size
      clear hb
      rw [HP.out]
      go_wp2_with fail
      refine (Scan_is HS.out w_2 E_2.out).mono ?_
      rintro e w_3 ⟨hb, ao0, cp0, rfl, ht1⟩
      have B_3 := Lib.hid (B_2.out.trans (hb.mono s_2))
      have E_3 := Lib.hid (E_2.out.below hb)
      have T_3 := Lib.hid (T_2.out.below hb)
      have K_3 := Lib.hid (ht1)
      have s_3 := B_3.out.size
      clear hb ht1
      go_wp2_with fail
      have hb := (Below.refl _ w_3).alloc (Nat.le_refl _) (.cells #[Value.int .i64 0, Value.int .i64 0] 31)
      have B_4 := Lib.hid (B_3.out.trans (hb.mono s_3))
      have E_4 := Lib.hid (E_3.out.below hb)
      have T_4 := Lib.hid (T_3.out.below hb)
      have K_4 := Lib.hid (K_3.out.below hb)
      have f_4 := Lib.hid (Blk.new w_3 31 #[Value.int .i64 0, Value.int .i64 0])
      have s_4 := B_4.out.size
      clear hb
      generalize w_3.alloc (.cells #[Value.int .i64 0, Value.int .i64 0] 31) = w_4 at *
      have c0 := f_4.out.cell 0
      have c1 := f_4.out.cell 1
      simp only [List.getElem?_toArray, List.getElem?_cons_zero, List.getElem?_cons_succ] at c0 c1
      go_wp2_with fail
      refine (same_refl l _ _ w_4 K_4.out T_4.out (by have := HL.out; omega)).mono ?_
      rintro e w9 ⟨rfl, m0, rfl⟩
      clear c0 c1
      have hb : Below w_4.heap.size w_4 (w_4.drewN m0) := ⟨rfl, rfl, rfl, Nat.le_refl _, fun _ _ => rfl⟩
      have B_5 := Lib.hid (B_4.out.trans (hb.mono s_4))
      have E_5 := Lib.hid (E_4.out.below hb)
      have T_5 := Lib.hid (T_4.out.below hb)
      have s_5 := B_5.out.size
      clear hb
      generalize w_4.drewN m0 = w_5 at *
      go_wp2_with fail
      refine (Scan_bad HQ.out w_5 E_5.out).mono ?_
      rintro e w_6 ⟨hb, ao1, cp1, rfl, ht1⟩
      have B_6 := Lib.hid (B_5.out.trans (hb.mono s_5))
      have E_6 := Lib.hid (E_5.out.below hb)
      have s_6 := B_6.out.size
      clear hb ht1
      go_wp2_with fail
      have hb := (Below.refl _ w_6).alloc (Nat.le_refl _) (.cells #[Value.int .i64 c, Value.int .i64 ln] 31)
      have B_7 := Lib.hid (B_6.out.trans (hb.mono s_6))
      have E_7 := Lib.hid (E_6.out.below hb)
      have g_7 := Lib.hid (Blk.new w_6 31 #[Value.int .i64 c, Value.int .i64 ln])
      have s_7 := B_7.out.size
      clear hb
      generalize w_6.alloc (.cells #[Value.int .i64 c, Value.int .i64 ln] 31) = w_7 at *
      have d0 := g_7.out.cell 0
      have d1 := g_7.out.cell 1
      simp only [List.getElem?_toArray, List.getElem?_cons_zero, List.getElem?_cons_succ] at d0 d1
      go_wp2_with fail
      refine (read_true w_7 E_7.out).mono ?_
      rintro e w_8 ⟨rfl, hb⟩
      have B_8 := Lib.hid (B_7.out.trans (hb.mono s_7))
      have E_8 := Lib.hid (E_7.out.below hb)
      have g_8 := Lib.hid (g_7.out.below hb g_7.out.lt)
      have s_8 := B_8.out.size
      clear hb
      go_wp2
      go_ret
      exact ⟨rfl, B_8.out⟩
    · have HP := Lib.hid (show (printR l).2 = (printR l).2 from rfl)
      have hpz : ((printR l).2 == 0) = false := by simp [hp]
      clear hp
      go_enter Tryd.func7, Tryd.ntmps7
      go_wp2_with fail
      have s_0 := B_0.out.size
      refine (few_any l _ w T_0.out).mono ?_
      rintro e w1 ⟨rfl, rfl⟩
      rw [hf]
      go_wp2_with fail
      have hb := (Below.refl _ w).alloc (Nat.le_refl _) (.cells #[Value.string s] 9)
      have B_1 := Lib.hid (B_0.out.trans (hb.mono s_0))
      have E_1 := Lib.hid (E_0.out.below hb)
      have T_1 := Lib.hid (T_0.out.below hb)
      have m_1 := Lib.hid (Blk.new w 9 #[Value.string s])
      have s_1 := B_1.out.size
      clear hb
      generalize w.alloc (.cells #[Value.string s] 9) = w_1 at *
      refine (short_one s true hq _ _ m_1.out).mono ?_
      rintro e w9 ⟨rfl, rfl⟩
      go_wp2_with fail
      refine (Print_sl l _ w_1 E_1.out T_1.out (by have := HL.out; omega) (fun x hx => by have := HX.out x hx; omega)).mono ?_
      rintro e w_2 ⟨rfl, hb⟩
      have B_2 := Lib.hid (B_1.out.trans (hb.mono s_1))
      have E_2 := Lib.hid (E_1.out.below hb)
      have T_2 := Lib.hid (T_1.out.below hb)
      have s_2 := B_2.out.size
      clear hb
      go_wp2_with fail
      refine (Scan_bad HQ.out w_2 E_2.out).mono ?_
      rintro e w_3 ⟨hb, ao1, cp1, rfl, ht1⟩
      have B_3 := Lib.hid (B_2.out.trans (hb.mono s_2))
      have E_3 := Lib.hid (E_2.out.below hb)
      have s_3 := B_3.out.size
      clear hb ht1
      go_wp2_with fail
      have hb := (Below.refl _ w_3).alloc (Nat.le_refl _) (.cells #[Value.int .i64 c, Value.int .i64 ln] 31)
      have B_4 := Lib.hid (B_3.out.trans (hb.mono s_3))
      have E_4 := Lib.hid (E_3.out.below hb)
      have g_4 := Lib.hid (Blk.new w_3 31 #[Value.int .i64 c, Value.int .i64 ln])
      have s_4 := B_4.out.size
      clear hb
      generalize w_3.alloc (.cells #[Value.int .i64 c, Value.int .i64 ln] 31) = w_4 at *
      have d0 := g_4.out.cell 0
      have d1 := g_4.out.cell 1
      simp only [List.getElem?_toArray, List.getElem?_cons_zero, List.getElem?_cons_succ] at d0 d1
      go_wp2_with fail
      refine (read_true w_4 E_4.out).mono ?_
      rintro e w_5 ⟨rfl, hb⟩
      have B_5 := Lib.hid (B_4.out.trans (hb.mono s_4))
      have E_5 := Lib.hid (E_4.out.below hb)
      have g_5 := Lib.hid (g_4.out.below hb g_4.out.lt)
      have s_5 := B_5.out.size
      clear hb
      go_wp2
      go_ret
      exact ⟨rfl, B_5.out⟩
  | ok pr =>
    obtain ⟨toks, cs⟩ := pr
    obtain ⟨_, t1, t2⟩ := short_scan hq hs
    have HT := Lib.hid t1
    have HU := Lib.hid t2
    have hpp := scan_print_scan hs
    have HQ := Lib.hid hs
    clear hs t1 t2
    by_cases hr : (printR toks).2 = 0
    · have HV := Lib.hid (scan_print hr)
      have HR := Lib.hid hr
      clear hr hpp
      by_cases hp : (printR l).2 = 0
      · have HS := Lib.hid (scan_print hp)
        have HP := Lib.hid hp
        clear hp
        go_enter Tryd.func7, Tryd.ntmps7
        go_wp2_with fail
        have s_0 := B_0.out.size
        refine (few_any l _ w T_0.out).mono ?_
        rintro e w1 ⟨rfl, rfl⟩
        rw [hf]
        go_wp2_with fail
        have hb := (Below.refl _ w).alloc (Nat.le_refl _) (.cells #[Value.string s] 9)
        have B_1 := Lib.hid (B_0.out.trans (hb.mono s_0))
        have E_1 := Lib.hid (E_0.out.below hb)
        have T_1 := Lib.hid (T_0.out.below hb)
        have m_1 := Lib.hid (Blk.new w 9 #[Value.string s])
        have s_1 := B_1.out.size
        clear hb
        generalize w.alloc (.cells #[Value.string s] 9) = w_1 at *
        refine (short_one s true hq _ _ m_1.out).mono ?_
        rintro e w9 ⟨rfl, rfl⟩
        go_wp2_with fail
        refine (Print_sl l _ w_1 E_1.out T_1.out (by have := HL.out; omega) (fun x hx => by have := HX.out x hx; omega)).mono ?_
        rintro e w_2 ⟨rfl, hb⟩
        have B_2 := Lib.hid (B_1.out.trans (hb.mono s_1))
        have E_2 := Lib.hid (E_1.out.below hb)
        have T_2 := Lib.hid (T_1.out.below hb)
        have s_2 := B_2.out.size
        clear hb
        rw [HP.out]
        go_wp2_with fail
        refine (Scan_is HS.out w_2 E_2.out).mono ?_
        rintro e w_3 ⟨hb, ao0, cp0, rfl, ht1⟩
        have B_3 := Lib.hid (B_2.out.trans (hb.mono s_2))
        have E_3 := Lib.hid (E_2.out.below hb)
        have T_3 := Lib.hid (T_2.out.below hb)
        have K_3 := Lib.hid (ht1)
        have s_3 := B_3.out.size
        clear hb ht1
        go_wp2_with fail
        have hb := (Below.refl _ w_3).alloc (Nat.le_refl _) (.cells #[Value.int .i64 0, Value.int .i64 0] 31)
        have B_4 := Lib.hid (B_3.out.trans (hb.mono s_3))
        have E_4 := Lib.hid (E_3.out.below hb)
        have T_4 := Lib.hid (T_3.out.below hb)
        have K_4 := Lib.hid (K_3.out.below hb)
        have f_4 := Lib.hid (Blk.new w_3 31 #[Value.int .i64 0, Value.int .i64 0])
        have s_4 := B_4.out.size
        clear hb
        generalize w_3.alloc (.cells #[Value.int .i64 0, Value.int .i64 0] 31) = w_4 at *
        have c0 := f_4.out.cell 0
        have c1 := f_4.out.cell 1
        simp only [List.getElem?_toArray, List.getElem?_cons_zero, List.getElem?_cons_succ] at c0 c1
        go_wp2_with fail
        refine (same_refl l _ _ w_4 K_4.out T_4.out (by have := HL.out; omega)).mono ?_
        rintro e w9 ⟨rfl, m0, rfl⟩
        clear c0 c1
        have hb : Below w_4.heap.size w_4 (w_4.drewN m0) := ⟨rfl, rfl, rfl, Nat.le_refl _, fun _ _ => rfl⟩
        have B_5 := Lib.hid (B_4.out.trans (hb.mono s_4))
        have E_5 := Lib.hid (E_4.out.below hb)
        have T_5 := Lib.hid (T_4.out.below hb)
        have s_5 := B_5.out.size
        clear hb
        generalize w_4.drewN m0 = w_5 at *
        go_wp2_with fail
        refine (Scan_is HQ.out w_5 E_5.out).mono ?_
        rintro e w_6 ⟨hb, ao1, cp1, rfl, ht1⟩
        have B_6 := Lib.hid (B_5.out.trans (hb.mono s_5))
        have E_6 := Lib.hid (E_5.out.below hb)
        have A_6 := Lib.hid (ht1)
        have s_6 := B_6.out.size
        clear hb ht1
        go_wp2_with fail
        have hb := (Below.refl _ w_6).alloc (Nat.le_refl _) (.cells #[Value.int .i64 0, Value.int .i64 0] 31)
        have B_7 := Lib.hid (B_6.out.trans (hb.mono s_6))
        have E_7 := Lib.hid (E_6.out.below hb)
        have A_7 := Lib.hid (A_6.out.below hb)
        have g_7 := Lib.hid (Blk.new w_6 31 #[Value.int .i64 0, Value.int .i64 0])
        have s_7 := B_7.out.size
        clear hb
        generalize w_6.alloc (.cells #[Value.int .i64 0, Value.int .i64 0] 31) = w_7 at *
        have d0 := g_7.out.cell 0
        have d1 := g_7.out.cell 1
        simp only [List.getElem?_toArray, List.getElem?_cons_zero, List.getElem?_cons_succ] at d0 d1
        go_wp2_with fail
        refine (Print_sl toks _ w_7 E_7.out A_7.out (by have := HT.out; omega) (fun x hx => by have := HU.out x hx; omega)).mono ?_
        rintro e w_8 ⟨rfl, hb⟩
        have B_8 := Lib.hid (B_7.out.trans (hb.mono s_7))
        have E_8 := Lib.hid (E_7.out.below hb)
        have A_8 := Lib.hid (A_7.out.below hb)
        have g_8 := Lib.hid (g_7.out.below hb g_7.out.lt)
        have s_8 := B_8.out.size
        clear hb d0 d1
        rw [HR.out]
        go_wp2_with fail
        refine (Scan_is HV.out w_8 E_8.out).mono ?_
        rintro e w_9 ⟨hb, ao2, cp2, rfl, ht1⟩
        have B_9 := Lib.hid (B_8.out.trans (hb.mono s_8))
        have E_9 := Lib.hid (E_8.out.below hb)
        have A_9 := Lib.hid (A_8.out.below hb)
        have g_9 := Lib.hid (g_8.out.below hb g_8.out.lt)
        have D_9 := Lib.hid (ht1)
        have s_9 := B_9.out.size
        clear hb ht1
        go_wp2_with fail
        have hb := (Below.refl _ w_9).alloc (Nat.le_refl _) (.cells #[Value.int .i64 0, Value.int .i64 0] 31)
        have B_10 := Lib.hid (B_9.out.trans (hb.mono s_9))
        have E_10 := Lib.hid (E_9.out.below hb)
        have A_10 := Lib.hid (A_9.out.below hb)
        have g_10 := Lib.hid (g_9.out.below hb g_9.out.lt)
        have D_10 := Lib.hid (D_9.out.below hb)
        have i_10 := Lib.hid (Blk.new w_9 31 #[Value.int .i64 0, Value.int .i64 0])
        have s_10 := B_10.out.size
        clear hb
        generalize w_9.alloc (.cells #[Value.int .i64 0, Value.int .i64 0] 31) = w_10 at *
        refine (Print_sl toks _ w_10 E_10.out D_10.out (by have := HT.out; omega) (fun x hx => by have := HU.out x hx; omega)).mono ?_
        rintro e w_11 ⟨rfl, hb⟩
        have B_11 := Lib.hid (B_10.out.trans (hb.mono s_10))
        have E_11 := Lib.hid (E_10.out.below hb)
        have A_11 := Lib.hid (A_10.out.below hb)
        have g_11 := Lib.hid (g_10.out.below hb g_10.out.lt)
        have D_11 := Lib.hid (D_10.out.below hb)
        have i_11 := Lib.hid (i_10.out.below hb i_10.out.lt)
        have s_11 := B_11.out.size
        clear hb
        rw [HR.out]
        go_wp2_with fail
        refine (read_true w_11 E_11.out).mono ?_
        rintro e w_12 ⟨rfl, hb⟩
        have B_12 := Lib.hid (B_11.out.trans (hb.mono s_11))
        have E_12 := Lib.hid (E_11.out.below hb)
        have A_12 := Lib.hid (A_11.out.below hb)
        have g_12 := Lib.hid (g_11.out.below hb g_11.out.lt)
        have D_12 := Lib.hid (D_11.out.below hb)
        have i_12 := Lib.hid (i_11.out.below hb i_11.out.lt)
        have s_12 := B_12.out.size
        clear hb
        have d0 := i_12.out.cell 0
        have d1 := i_12.out.cell 1
        simp only [List.getElem?_toArray, List.getElem?_cons_zero, List.getElem?_cons_succ] at d0 d1
        go_wp2_with fail
        refine (same_refl toks _ _ w_12 A_12.out D_12.out (by have := HT.out; omega)).mono ?_
        rintro e w9 ⟨rfl, m1, rfl⟩
        go_wp2
        go_ret
        exact ⟨rfl, B_12.out.trans ⟨rfl, rfl, rfl, Nat.le_refl _, fun _ _ => rfl⟩⟩
      · have HP := Lib.hid (show (printR l).2 = (printR l).2 from rfl)
        have hpz : ((printR l).2 == 0) = false := by simp [hp]
        clear hp
        go_enter Tryd.func7, Tryd.ntmps7
        go_wp2_with fail
        have s_0 := B_0.out.size
        refine (few_any l _ w T_0.out).mono ?_
        rintro e w1 ⟨rfl, rfl⟩
        rw [hf]
        go_wp2_with fail
        have hb := (Below.refl _ w).alloc (Nat.le_refl _) (.cells #[Value.string s] 9)
        have B_1 := Lib.hid (B_0.out.trans (hb.mono s_0))
        have E_1 := Lib.hid (E_0.out.below hb)
        have T_1 := Lib.hid (T_0.out.below hb)
        have m_1 := Lib.hid (Blk.new w 9 #[Value.string s])
        have s_1 := B_1.out.size
        clear hb
        generalize w.alloc (.cells #[Value.string s] 9) = w_1 at *
        refine (short_one s true hq _ _ m_1.out).mono ?_
        rintro e w9 ⟨rfl, rfl⟩
        go_wp2_with fail
        refine (Print_sl l _ w_1 E_1.out T_1.out (by have := HL.out; omega) (fun x hx => by have := HX.out x hx; omega)).mono ?_
        rintro e w_2 ⟨rfl, hb⟩
        have B_2 := Lib.hid (B_1.out.trans (hb.mono s_1))
        have E_2 := Lib.hid (E_1.out.below hb)
        have T_2 := Lib.hid (T_1.out.below hb)
        have s_2 := B_2.out.size
        clear hb
        go_wp2_with fail
        refine (Scan_is HQ.out w_2 E_2.out).mono ?_
        rintro e w_3 ⟨hb, ao1, cp1, rfl, ht1⟩
        have B_3 := Lib.hid (B_2.out.trans (hb.mono s_2))
        have E_3 := Lib.hid (E_2.out.below hb)
        have A_3 := Lib.hid (ht1)
        have s_3 := B_3.out.size
        clear hb ht1
        go_wp2_with fail
        have hb := (Below.refl _ w_3).alloc (Nat.le_refl _) (.cells #[Value.int .i64 0, Value.int .i64 0] 31)
        have B_4 := Lib.hid (B_3.out.trans (hb.mono s_3))
        have E_4 := Lib.hid (E_3.out.below hb)
        have A_4 := Lib.hid (A_3.out.below hb)
        have g_4 := Lib.hid (Blk.new w_3 31 #[Value.int .i64 0, Value.int .i64 0])
        have s_4 := B_4.out.size
        clear hb
        generalize w_3.alloc (.cells #[Value.int .i64 0, Value.int .i64 0] 31) = w_4 at *
        have d0 := g_4.out.cell 0
        have d1 := g_4.out.cell 1
        simp only [List.getElem?_toArray, List.getElem?_cons_zero, List.getElem?_cons_succ] at d0 d1
        go_wp2_with fail
        refine (Print_sl toks _ w_4 E_4.out A_4.out (by have := HT.out; omega) (fun x hx => by have := HU.out x hx; omega)).mono ?_
        rintro e w_5 ⟨rfl, hb⟩
        have B_5 := Lib.hid (B_4.out.trans (hb.mono s_4))
        have E_5 := Lib.hid (E_4.out.below hb)
        have A_5 := Lib.hid (A_4.out.below hb)
        have g_5 := Lib.hid (g_4.out.below hb g_4.out.lt)
        have s_5 := B_5.out.size
        clear hb d0 d1
        rw [HR.out]
        go_wp2_with fail
        refine (Scan_is HV.out w_5 E_5.out).mono ?_
        rintro e w_6 ⟨hb, ao2, cp2, rfl, ht1⟩
        have B_6 := Lib.hid (B_5.out.trans (hb.mono s_5))
        have E_6 := Lib.hid (E_5.out.below hb)
        have A_6 := Lib.hid (A_5.out.below hb)
        have g_6 := Lib.hid (g_5.out.below hb g_5.out.lt)
        have D_6 := Lib.hid (ht1)
        have s_6 := B_6.out.size
        clear hb ht1
        go_wp2_with fail
        have hb := (Below.refl _ w_6).alloc (Nat.le_refl _) (.cells #[Value.int .i64 0, Value.int .i64 0] 31)
        have B_7 := Lib.hid (B_6.out.trans (hb.mono s_6))
        have E_7 := Lib.hid (E_6.out.below hb)
        have A_7 := Lib.hid (A_6.out.below hb)
        have g_7 := Lib.hid (g_6.out.below hb g_6.out.lt)
        have D_7 := Lib.hid (D_6.out.below hb)
        have i_7 := Lib.hid (Blk.new w_6 31 #[Value.int .i64 0, Value.int .i64 0])
        have s_7 := B_7.out.size
        clear hb
        generalize w_6.alloc (.cells #[Value.int .i64 0, Value.int .i64 0] 31) = w_7 at *
        refine (Print_sl toks _ w_7 E_7.out D_7.out (by have := HT.out; omega) (fun x hx => by have := HU.out x hx; omega)).mono ?_
        rintro e w_8 ⟨rfl, hb⟩
        have B_8 := Lib.hid (B_7.out.trans (hb.mono s_7))
        have E_8 := Lib.hid (E_7.out.below hb)
        have A_8 := Lib.hid (A_7.out.below hb)
        have g_8 := Lib.hid (g_7.out.below hb g_7.out.lt)
        have D_8 := Lib.hid (D_7.out.below hb)
        have i_8 := Lib.hid (i_7.out.below hb i_7.out.lt)
        have s_8 := B_8.out.size
        clear hb
        rw [HR.out]
        go_wp2_with fail
        refine (read_true w_8 E_8.out).mono ?_
        rintro e w_9 ⟨rfl, hb⟩
        have B_9 := Lib.hid (B_8.out.trans (hb.mono s_8))
        have E_9 := Lib.hid (E_8.out.below hb)
        have A_9 := Lib.hid (A_8.out.below hb)
        have g_9 := Lib.hid (g_8.out.below hb g_8.out.lt)
        have D_9 := Lib.hid (D_8.out.below hb)
        have i_9 := Lib.hid (i_8.out.below hb i_8.out.lt)
        have s_9 := B_9.out.size
        clear hb
        have d0 := i_9.out.cell 0
        have d1 := i_9.out.cell 1
        simp only [List.getElem?_toArray, List.getElem?_cons_zero, List.getElem?_cons_succ] at d0 d1
        go_wp2_with fail
        refine (same_refl toks _ _ w_9 A_9.out D_9.out (by have := HT.out; omega)).mono ?_
        rintro e w9 ⟨rfl, m1, rfl⟩
        go_wp2
        go_ret
        exact ⟨rfl, B_9.out.trans ⟨rfl, rfl, rfl, Nat.le_refl _, fun _ _ => rfl⟩⟩
    · have HR := Lib.hid (hpp.resolve_left hr)
      clear hr hpp
      by_cases hp : (printR l).2 = 0
      · have HS := Lib.hid (scan_print hp)
        have HP := Lib.hid hp
        clear hp
        go_enter Tryd.func7, Tryd.ntmps7
        go_wp2_with fail
        have s_0 := B_0.out.size
        refine (few_any l _ w T_0.out).mono ?_
        rintro e w1 ⟨rfl, rfl⟩
        rw [hf]
        go_wp2_with fail
        have hb := (Below.refl _ w).alloc (Nat.le_refl _) (.cells #[Value.string s] 9)
        have B_1 := Lib.hid (B_0.out.trans (hb.mono s_0))
        have E_1 := Lib.hid (E_0.out.below hb)
        have T_1 := Lib.hid (T_0.out.below hb)
        have m_1 := Lib.hid (Blk.new w 9 #[Value.string s])
        have s_1 := B_1.out.size
        clear hb
        generalize w.alloc (.cells #[Value.string s] 9) = w_1 at *
        refine (short_one s true hq _ _ m_1.out).mono ?_
        rintro e w9 ⟨rfl, rfl⟩
        go_wp2_with fail
        refine (Print_sl l _ w_1 E_1.out T_1.out (by have := HL.out; omega) (fun x hx => by have := HX.out x hx; omega)).mono ?_
        rintro e w_2 ⟨rfl, hb⟩
        have B_2 := Lib.hid (B_1.out.trans (hb.mono s_1))
        have E_2 := Lib.hid (E_1.out.below hb)
        have T_2 := Lib.hid (T_1.out.below hb)
        have s_2 := B_2.out.size
        clear hb
        rw [HP.out]
        go_wp2_with fail
        refine (Scan_is HS.out w_2 E_2.out).mono ?_
        rintro e w_3 ⟨hb, ao0, cp0, rfl, ht1⟩
        have B_3 := Lib.hid (B_2.out.trans (hb.mono s_2))
        have E_3 := Lib.hid (E_2.out.below hb)
        have T_3 := Lib.hid (T_2.out.below hb)
        have K_3 := Lib.hid (ht1)
        have s_3 := B_3.out.size
        clear hb ht1
        go_wp2_with fail
        have hb := (Below.refl _ w_3).alloc (Nat.le_refl _) (.cells #[Value.int .i64 0, Value.int .i64 0] 31)
        have B_4 := Lib.hid (B_3.out.trans (hb.mono s_3))
        have E_4 := Lib.hid (E_3.out.below hb)
        have T_4 := Lib.hid (T_3.out.below hb)
        have K_4 := Lib.hid (K_3.out.below hb)
        have f_4 := Lib.hid (Blk.new w_3 31 #[Value.int .i64 0, Value.int .i64 0])
        have s_4 := B_4.out.size
        clear hb
        generalize w_3.alloc (.cells #[Value.int .i64 0, Value.int .i64 0] 31) = w_4 at *
        have c0 := f_4.out.cell 0
        have c1 := f_4.out.cell 1
        simp only [List.getElem?_toArray, List.getElem?_cons_zero, List.getElem?_cons_succ] at c0 c1
        go_wp2_with fail
        refine (same_refl l _ _ w_4 K_4.out T_4.out (by have := HL.out; omega)).mono ?_
        rintro e w9 ⟨rfl, m0, rfl⟩
        clear c0 c1
        have hb : Below w_4.heap.size w_4 (w_4.drewN m0) := ⟨rfl, rfl, rfl, Nat.le_refl _, fun _ _ => rfl⟩
        have B_5 := Lib.hid (B_4.out.trans (hb.mono s_4))
        have E_5 := Lib.hid (E_4.out.below hb)
        have T_5 := Lib.hid (T_4.out.below hb)
        have s_5 := B_5.out.size
        clear hb
        generalize w_4.drewN m0 = w_5 at *
        go_wp2_with fail
        refine (Scan_is HQ.out w_5 E_5.out).mono ?_
        rintro e w_6 ⟨hb, ao1, cp1, rfl, ht1⟩
        have B_6 := Lib.hid (B_5.out.trans (hb.mono s_5))
        have E_6 := Lib.hid (E_5.out.below hb)
        have A_6 := Lib.hid (ht1)
        have s_6 := B_6.out.size
        clear hb ht1
        go_wp2_with fail
        have hb := (Below.refl _ w_6).alloc (Nat.le_refl _) (.cells #[Value.int .i64 0, Value.int .i64 0] 31)
        have B_7 := Lib.hid (B_6.out.trans (hb.mono s_6))
        have E_7 := Lib.hid (E_6.out.below hb)
        have A_7 := Lib.hid (A_6.out.below hb)
        have g_7 := Lib.hid (Blk.new w_6 31 #[Value.int .i64 0, Value.int .i64 0])
        have s_7 := B_7.out.size
        clear hb
        generalize w_6.alloc (.cells #[Value.int .i64 0, Value.int .i64 0] 31) = w_7 at *
        have d0 := g_7.out.cell 0
        have d1 := g_7.out.cell 1
        simp only [List.getElem?_toArray, List.getElem?_cons_zero, List.getElem?_cons_succ] at d0 d1
        go_wp2_with fail
        refine (Print_sl toks _ w_7 E_7.out A_7.out (by have := HT.out; omega) (fun x hx => by have := HU.out x hx; omega)).mono ?_
        rintro e w_8 ⟨rfl, hb⟩
        have B_8 := Lib.hid (B_7.out.trans (hb.mono s_7))
        have E_8 := Lib.hid (E_7.out.below hb)
        have A_8 := Lib.hid (A_7.out.below hb)
        have g_8 := Lib.hid (g_7.out.below hb g_7.out.lt)
        have s_8 := B_8.out.size
        clear hb d0 d1
        rw [HR.out]
        go_wp2_with fail
        refine (read_true w_8 E_8.out).mono ?_
        rintro e w_9 ⟨rfl, hb⟩
        have B_9 := Lib.hid (B_8.out.trans (hb.mono s_8))
        have E_9 := Lib.hid (E_8.out.below hb)
        have A_9 := Lib.hid (A_8.out.below hb)
        have g_9 := Lib.hid (g_8.out.below hb g_8.out.lt)
        have s_9 := B_9.out.size
        clear hb
        go_wp2
        go_ret
        exact ⟨rfl, B_9.out⟩
      · have HP := Lib.hid (show (printR l).2 = (printR l).2 from rfl)
        have hpz : ((printR l).2 == 0) = false := by simp [hp]
        clear hp
        go_enter Tryd.func7, Tryd.ntmps7
        go_wp2_with fail
        have s_0 := B_0.out.size
        refine (few_any l _ w T_0.out).mono ?_
        rintro e w1 ⟨rfl, rfl⟩
        rw [hf]
        go_wp2_with fail
        have hb := (Below.refl _ w).alloc (Nat.le_refl _) (.cells #[Value.string s] 9)
        have B_1 := Lib.hid (B_0.out.trans (hb.mono s_0))
        have E_1 := Lib.hid (E_0.out.below hb)
        have T_1 := Lib.hid (T_0.out.below hb)
        have m_1 := Lib.hid (Blk.new w 9 #[Value.string s])
        have s_1 := B_1.out.size
        clear hb
        generalize w.alloc (.cells #[Value.string s] 9) = w_1 at *
        refine (short_one s true hq _ _ m_1.out).mono ?_
        rintro e w9 ⟨rfl, rfl⟩
        go_wp2_with fail
        refine (Print_sl l _ w_1 E_1.out T_1.out (by have := HL.out; omega) (fun x hx => by have := HX.out x hx; omega)).mono ?_
        rintro e w_2 ⟨rfl, hb⟩
        have B_2 := Lib.hid (B_1.out.trans (hb.mono s_1))
        have E_2 := Lib.hid (E_1.out.below hb)
        have T_2 := Lib.hid (T_1.out.below hb)
        have s_2 := B_2.out.size
        clear hb
        go_wp2_with fail
        refine (Scan_is HQ.out w_2 E_2.out).mono ?_
        rintro e w_3 ⟨hb, ao1, cp1, rfl, ht1⟩
        have B_3 := Lib.hid (B_2.out.trans (hb.mono s_2))
        have E_3 := Lib.hid (E_2.out.below hb)
        have A_3 := Lib.hid (ht1)
        have s_3 := B_3.out.size
        clear hb ht1
        go_wp2_with fail
        have hb := (Below.refl _ w_3).alloc (Nat.le_refl _) (.cells #[Value.int .i64 0, Value.int .i64 0] 31)
        have B_4 := Lib.hid (B_3.out.trans (hb.mono s_3))
        have E_4 := Lib.hid (E_3.out.below hb)
        have A_4 := Lib.hid (A_3.out.below hb)
        have g_4 := Lib.hid (Blk.new w_3 31 #[Value.int .i64 0, Value.int .i64 0])
        have s_4 := B_4.out.size
        clear hb
        generalize w_3.alloc (.cells #[Value.int .i64 0, Value.int .i64 0] 31) = w_4 at *
        have d0 := g_4.out.cell 0
        have d1 := g_4.out.cell 1
        simp only [List.getElem?_toArray, List.getElem?_cons_zero, List.getElem?_cons_succ] at d0 d1
        go_wp2_with fail
        refine (Print_sl toks _ w_4 E_4.out A_4.out (by have := HT.out; omega) (fun x hx => by have := HU.out x hx; omega)).mono ?_
        rintro e w_5 ⟨rfl, hb⟩
        have B_5 := Lib.hid (B_4.out.trans (hb.mono s_4))
        have E_5 := Lib.hid (E_4.out.below hb)
        have A_5 := Lib.hid (A_4.out.below hb)
        have g_5 := Lib.hid (g_4.out.below hb g_4.out.lt)
        have s_5 := B_5.out.size
        clear hb d0 d1
        rw [HR.out]
        go_wp2_with fail
        refine (read_true w_5 E_5.out).mono ?_
        rintro e w_6 ⟨rfl, hb⟩
        have B_6 := Lib.hid (B_5.out.trans (hb.mono s_5))
        have E_6 := Lib.hid (E_5.out.below hb)
        have A_6 := Lib.hid (A_5.out.below hb)
        have g_6 := Lib.hid (g_5.out.below hb g_5.out.lt)
        have s_6 := B_6.out.size
        clear hb
        go_wp2
        go_ret
        exact ⟨rfl, B_6.out⟩
end Go.Proofs.YtophcjkfhneghaaDoor
