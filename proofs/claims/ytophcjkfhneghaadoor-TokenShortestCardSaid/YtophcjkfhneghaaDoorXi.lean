/- The law TokenShortest answers true: the walk. -/
import Derived.Test.YtophcjkfhneghaaDoorXf
import Derived.Test.YtophcjkfhneghaaDoorXh
import Derived.Test.YtophcjkfhneghaaDoorYt
namespace Go.Proofs.YtophcjkfhneghaaDoor
open Go Go.RowKit

theorem Tight_is {s : ByteArray} {x : List UInt8} {f : Int × Int} (h : tightR s = (x, f)) (w : World) (he : Env w) :
    Calls Tryd.prog 35 #[.string s] w fun e w' => e = .returned (.tuple #[.string (bs x), .agg #[.int .i64 f.1, .int .i64 f.2]]) ∧ Below w.heap.size w w' := by
  have h0 := Tight_any s w he
  rw [h] at h0
  exact h0
theorem alike_yes (a b : List Tok) (v1 v2 : Value) (w : World) (h1 : TokSl w v1 a) (h2 : TokSl w v2 b) (hn : a.length ≤ 100000) (hm : b.length ≤ 100000) {r : Bool} (h : decide (a.map Tok.one = b.map Tok.one) = r) :
    Calls Tryd.prog 37 #[v1, v2] w fun e w' => e = .returned (.bool r) ∧ ∃ n, w' = w.drewN n := by
  subst h
  exact alike_any a b v1 v2 w h1 h2 hn hm
theorem one_all (toks : List Tok) : toks.map Tok.one = (toks.map Tok.one).map Tok.one := by
  simp [List.map_map, Function.comp_def, one_one]

set_option maxRecDepth 100000 in
set_option maxHeartbeats 25600000 in
theorem TokenShortest_true (s o : ByteArray) (w : World) (he : Env w) :
    Calls Tryd.prog 8 #[.string s, .string o] w fun e w' => e = .returned (.bool true) ∧ Below w.heap.size w w' := by
  have HE := Lib.hid he
  clear he
  cases hq : (shortL s.data.toList && shortL o.data.toList)
  · go_enter Tryd.func8, Tryd.ntmps8
    go_wp2_with fail
    refine (short_two s o false hq w.heap.size _ (Blk.new w 9 #[.string s, .string o])).mono ?_
    rintro e w1 ⟨rfl, rfl⟩
    have be := (Below.refl _ w).alloc (Nat.le_refl _) (.cells #[Value.string s, Value.string o] 9)
    have B_0 := Lib.hid be
    have E_0 := Lib.hid (HE.out.below be)
    clear be
    generalize w.alloc (.cells #[Value.string s, Value.string o] 9) = w_0 at *
    have s_0 := B_0.out.size
    go_wp2_with fail
    refine (read_true w_0 E_0.out).mono ?_
    rintro e w_1 ⟨rfl, hb⟩
    have B_1 := Lib.hid (B_0.out.trans (hb.mono s_0))
    have E_1 := Lib.hid (E_0.out.below hb)
    have s_1 := B_1.out.size
    clear hb
    go_wp2
    go_ret
    exact ⟨rfl, B_1.out⟩
  obtain ⟨hq1, hq2⟩ : shortL s.data.toList = true ∧ shortL o.data.toList = true := by simpa using hq
  cases hs : scanT s with
  | error f =>
    obtain ⟨c, ln⟩ := f
    have hcz : ¬ c = 0 := by rcases scanT_err hs with h | h | h | h <;> omega
    have HT := Lib.hid (tightR_no hs)
    have HS := Lib.hid hs
    clear hs hq1 hq2
    have hbe : (bs ([] : List UInt8)).toList.isEmpty = true := by simp [bs]
    go_enter Tryd.func8, Tryd.ntmps8
    go_wp2_with fail
    refine (short_two s o true hq w.heap.size _ (Blk.new w 9 #[.string s, .string o])).mono ?_
    rintro e w1 ⟨rfl, rfl⟩
    have be := (Below.refl _ w).alloc (Nat.le_refl _) (.cells #[Value.string s, Value.string o] 9)
    have B_0 := Lib.hid be
    have E_0 := Lib.hid (HE.out.below be)
    clear be
    generalize w.alloc (.cells #[Value.string s, Value.string o] 9) = w_0 at *
    have s_0 := B_0.out.size
    go_wp2_with fail
    refine (Scan_bad HS.out w_0 E_0.out).mono ?_
    rintro e w_1 ⟨hb, ao1, cp1, rfl, ht1⟩
    have B_1 := Lib.hid (B_0.out.trans (hb.mono s_0))
    have E_1 := Lib.hid (E_0.out.below hb)
    have s_1 := B_1.out.size
    clear hb ht1
    go_wp2_with fail
    have hb := (Below.refl _ w_1).alloc (Nat.le_refl _) (.cells #[Value.int .i64 c, Value.int .i64 ln] 31)
    have B_2 := Lib.hid (B_1.out.trans (hb.mono s_1))
    have E_2 := Lib.hid (E_1.out.below hb)
    have f_2 := Lib.hid (Blk.new w_1 31 #[Value.int .i64 c, Value.int .i64 ln])
    have s_2 := B_2.out.size
    clear hb
    generalize w_1.alloc (.cells #[Value.int .i64 c, Value.int .i64 ln] 31) = w_2 at *
    refine (Tight_is HT.out w_2 E_2.out).mono ?_
    rintro e w_3 ⟨rfl, hb⟩
    have B_3 := Lib.hid (B_2.out.trans (hb.mono s_2))
    have E_3 := Lib.hid (E_2.out.below hb)
    have f_3 := Lib.hid (f_2.out.below hb f_2.out.lt)
    have s_3 := B_3.out.size
    clear hb
    have c0 := f_3.out.cell 0
    have c1 := f_3.out.cell 1
    simp only [List.getElem?_toArray, List.getElem?_cons_zero, List.getElem?_cons_succ] at c0 c1
    have hb := (Below.refl _ w_3).alloc (Nat.le_refl _) (.cells #[Value.int .i64 c, Value.int .i64 ln] 31)
    have B_4 := Lib.hid (B_3.out.trans (hb.mono s_3))
    have E_4 := Lib.hid (E_3.out.below hb)
    have f_4 := Lib.hid (f_3.out.below hb f_3.out.lt)
    have g_4 := Lib.hid (Blk.new w_3 31 #[Value.int .i64 c, Value.int .i64 ln])
    have s_4 := B_4.out.size
    clear hb
    have d0 := f_4.out.cell 0
    have d1 := f_4.out.cell 1
    simp only [List.getElem?_toArray, List.getElem?_cons_zero, List.getElem?_cons_succ] at d0 d1
    have e0 := g_4.out.cell 0
    have e1 := g_4.out.cell 1
    simp only [List.getElem?_toArray, List.getElem?_cons_zero, List.getElem?_cons_succ] at e0 e1
    go_wp2_with fail
    generalize w_3.alloc (.cells #[Value.int .i64 c, Value.int .i64 ln] 31) = w_4 at *
    refine (read_true w_4 E_4.out).mono ?_
    rintro e w_5 ⟨rfl, hb⟩
    have B_5 := Lib.hid (B_4.out.trans (hb.mono s_4))
    have E_5 := Lib.hid (E_4.out.below hb)
    have f_5 := Lib.hid (f_4.out.below hb f_4.out.lt)
    have g_5 := Lib.hid (g_4.out.below hb g_4.out.lt)
    have s_5 := B_5.out.size
    clear hb
    go_wp2
    go_ret
    exact ⟨rfl, B_5.out⟩
  | ok pr =>
    obtain ⟨toks, cs⟩ := pr
    obtain ⟨f1, f2, f3, f4⟩ := tight_scan hs
    obtain ⟨_, t1, _⟩ := short_scan hq1 hs
    have hlo := fun toks' cs' (h : scanT o = .ok (toks', cs')) (ha : toks.map Tok.one = toks'.map Tok.one) => tight_other hs h ha
    obtain ⟨X, hX⟩ : ∃ X : List UInt8, X = (tightR s).1 := ⟨_, rfl⟩
    rw [← hX] at f2 f3 f4 hlo
    have HTI := Lib.hid (show tightR s = (X, (0, 0)) by rw [hX, ← f1])
    have HTX := Lib.hid (show tightR (bs X) = (X, (0, 0)) by rw [f3]; exact HTI.out)
    obtain ⟨M, hM⟩ : ∃ M : List Tok, M = toks.map Tok.one := ⟨_, rfl⟩
    rw [← hM] at f2
    have HSX := Lib.hid f2
    have HM1 := Lib.hid (show ∀ t ∈ M, t.line = 1 by
      rw [hM]
      intro t ht
      obtain ⟨u, _, rfl⟩ := List.mem_map.1 ht
      rfl)
    have HMO := Lib.hid (show decide (toks.map Tok.one = M.map Tok.one) = true by rw [hM]; exact decide_eq_true (one_all toks))
    have HS := Lib.hid hs
    have HT := Lib.hid (show toks.length ≤ 100000 by omega)
    have HTM := Lib.hid (show M.length ≤ 100000 by rw [hM, List.length_map]; omega)
    have hle : ¬ ((s.size : Int) < ((bs X).size : Int)) := by have := bs_size X; omega
    have HLO := Lib.hid hlo
    clear f1 f2 f3 f4 t1 hlo hX hs hM
    cases ho : scanT o with
    | error f =>
      obtain ⟨c, ln⟩ := f
      have hcz : ¬ c = 0 := by rcases scanT_err ho with h | h | h | h <;> omega
      have HO := Lib.hid ho
      clear ho hq1 hq2 HLO
      go_enter Tryd.func8, Tryd.ntmps8
      go_wp2_with fail
      refine (short_two s o true hq w.heap.size _ (Blk.new w 9 #[.string s, .string o])).mono ?_
      rintro e w1 ⟨rfl, rfl⟩
      have be := (Below.refl _ w).alloc (Nat.le_refl _) (.cells #[Value.string s, Value.string o] 9)
      have B_0 := Lib.hid be
      have E_0 := Lib.hid (HE.out.below be)
      clear be
      generalize w.alloc (.cells #[Value.string s, Value.string o] 9) = w_0 at *
      have s_0 := B_0.out.size
      go_wp2_with fail
      refine (Scan_is HS.out w_0 E_0.out).mono ?_
      rintro e w_1 ⟨hb, ao1, cp1, rfl, ht1⟩
      have B_1 := Lib.hid (B_0.out.trans (hb.mono s_0))
      have E_1 := Lib.hid (E_0.out.below hb)
      have A_1 := Lib.hid (ht1)
      have s_1 := B_1.out.size
      clear hb ht1
      go_wp2_with fail
      have hb := (Below.refl _ w_1).alloc (Nat.le_refl _) (.cells #[Value.int .i64 0, Value.int .i64 0] 31)
      have B_2 := Lib.hid (B_1.out.trans (hb.mono s_1))
      have E_2 := Lib.hid (E_1.out.below hb)
      have A_2 := Lib.hid (A_1.out.below hb)
      have f_2 := Lib.hid (Blk.new w_1 31 #[Value.int .i64 0, Value.int .i64 0])
      have s_2 := B_2.out.size
      clear hb
      generalize w_1.alloc (.cells #[Value.int .i64 0, Value.int .i64 0] 31) = w_2 at *
      refine (Tight_is HTI.out w_2 E_2.out).mono ?_
      rintro e w_3 ⟨rfl, hb⟩
      have B_3 := Lib.hid (B_2.out.trans (hb.mono s_2))
      have E_3 := Lib.hid (E_2.out.below hb)
      have A_3 := Lib.hid (A_2.out.below hb)
      have f_3 := Lib.hid (f_2.out.below hb f_2.out.lt)
      have s_3 := B_3.out.size
      clear hb
      have hb := (Below.refl _ w_3).alloc (Nat.le_refl _) (.cells #[Value.int .i64 0, Value.int .i64 0] 31)
      have B_4 := Lib.hid (B_3.out.trans (hb.mono s_3))
      have E_4 := Lib.hid (E_3.out.below hb)
      have A_4 := Lib.hid (A_3.out.below hb)
      have f_4 := Lib.hid (f_3.out.below hb f_3.out.lt)
      have g_4 := Lib.hid (Blk.new w_3 31 #[Value.int .i64 0, Value.int .i64 0])
      have s_4 := B_4.out.size
      clear hb
      have d0 := f_4.out.cell 0
      have d1 := f_4.out.cell 1
      simp only [List.getElem?_toArray, List.getElem?_cons_zero, List.getElem?_cons_succ] at d0 d1
      have e0 := g_4.out.cell 0
      have e1 := g_4.out.cell 1
      simp only [List.getElem?_toArray, List.getElem?_cons_zero, List.getElem?_cons_succ] at e0 e1
      go_wp2_with fail
      generalize w_3.alloc (.cells #[Value.int .i64 0, Value.int .i64 0] 31) = w_4 at *
      refine (Scan_is HSX.out w_4 E_4.out).mono ?_
      rintro e w_5 ⟨hb, ao2, cp2, rfl, ht1⟩
      have B_5 := Lib.hid (B_4.out.trans (hb.mono s_4))
      have E_5 := Lib.hid (E_4.out.below hb)
      have A_5 := Lib.hid (A_4.out.below hb)
      have f_5 := Lib.hid (f_4.out.below hb f_4.out.lt)
      have g_5 := Lib.hid (g_4.out.below hb g_4.out.lt)
      have D_5 := Lib.hid (ht1)
      have s_5 := B_5.out.size
      clear hb ht1 d0 d1 e0 e1
      go_wp2_with fail
      have hb := (Below.refl _ w_5).alloc (Nat.le_refl _) (.cells #[Value.int .i64 0, Value.int .i64 0] 31)
      have B_6 := Lib.hid (B_5.out.trans (hb.mono s_5))
      have E_6 := Lib.hid (E_5.out.below hb)
      have A_6 := Lib.hid (A_5.out.below hb)
      have f_6 := Lib.hid (f_5.out.below hb f_5.out.lt)
      have g_6 := Lib.hid (g_5.out.below hb g_5.out.lt)
      have D_6 := Lib.hid (D_5.out.below hb)
      have h_6 := Lib.hid (Blk.new w_5 31 #[Value.int .i64 0, Value.int .i64 0])
      have s_6 := B_6.out.size
      clear hb
      generalize w_5.alloc (.cells #[Value.int .i64 0, Value.int .i64 0] 31) = w_6 at *
      refine (Tight_is HTX.out w_6 E_6.out).mono ?_
      rintro e w_7 ⟨rfl, hb⟩
      have B_7 := Lib.hid (B_6.out.trans (hb.mono s_6))
      have E_7 := Lib.hid (E_6.out.below hb)
      have A_7 := Lib.hid (A_6.out.below hb)
      have f_7 := Lib.hid (f_6.out.below hb f_6.out.lt)
      have g_7 := Lib.hid (g_6.out.below hb g_6.out.lt)
      have D_7 := Lib.hid (D_6.out.below hb)
      have h_7 := Lib.hid (h_6.out.below hb h_6.out.lt)
      have s_7 := B_7.out.size
      clear hb
      have hb := (Below.refl _ w_7).alloc (Nat.le_refl _) (.cells #[Value.int .i64 0, Value.int .i64 0] 31)
      have B_8 := Lib.hid (B_7.out.trans (hb.mono s_7))
      have E_8 := Lib.hid (E_7.out.below hb)
      have A_8 := Lib.hid (A_7.out.below hb)
      have f_8 := Lib.hid (f_7.out.below hb f_7.out.lt)
      have g_8 := Lib.hid (g_7.out.below hb g_7.out.lt)
      have D_8 := Lib.hid (D_7.out.below hb)
      have h_8 := Lib.hid (h_7.out.below hb h_7.out.lt)
      have i_8 := Lib.hid (Blk.new w_7 31 #[Value.int .i64 0, Value.int .i64 0])
      have s_8 := B_8.out.size
      clear hb
      have d0 := h_8.out.cell 0
      have d1 := h_8.out.cell 1
      simp only [List.getElem?_toArray, List.getElem?_cons_zero, List.getElem?_cons_succ] at d0 d1
      have e0 := i_8.out.cell 0
      have e1 := i_8.out.cell 1
      simp only [List.getElem?_toArray, List.getElem?_cons_zero, List.getElem?_cons_succ] at e0 e1
      go_wp2_with fail
      generalize w_7.alloc (.cells #[Value.int .i64 0, Value.int .i64 0] 31) = w_8 at *
      refine (alike_yes toks M _ _ w_8 A_8.out D_8.out HT.out HTM.out HMO.out).mono ?_
      rintro e w9 ⟨rfl, m0, rfl⟩
      clear d0 d1 e0 e1
      have hb : Below w_8.heap.size w_8 (w_8.drewN m0) := ⟨rfl, rfl, rfl, Nat.le_refl _, fun _ _ => rfl⟩
      have B_9 := Lib.hid (B_8.out.trans (hb.mono s_8))
      have E_9 := Lib.hid (E_8.out.below hb)
      have A_9 := Lib.hid (A_8.out.below hb)
      have D_9 := Lib.hid (D_8.out.below hb)
      have s_9 := B_9.out.size
      clear hb
      generalize w_8.drewN m0 = w_9 at *
      go_wp2
      go_loopw [13] (fun i wr => ∃ k : Nat, k ≤ M.length ∧ i = .int .i64 k ∧ w_9 = wr) (fun i _ => M.length - (intOf i).toNat)
      case atStart => exact ⟨0, Nat.zero_le _, rfl, rfl⟩
      case round =>
        obtain ⟨k, hk, rfl, rfl⟩ := hrel
        have hMl := HTM.out
        by_cases hlt : k < M.length
        · obtain ⟨aoD, cpD, hvD, hD⟩ := D_9.out
          injection hvD with e1 e2 e3
          subst e1 e3
          rcases hD with hnil | ⟨gD, oD, rfl, _, hrD⟩
          · rw [hnil] at hlt; simp at hlt
          · obtain ⟨_, _, d2⟩ := hrD k M[k] (List.getElem?_eq_getElem hlt)
            have hone : M[k].line = 1 := HM1.out _ (List.getElem_mem hlt)
            rw [hone] at d2
            clear hrD hone
            go_wp2
            go_roundw
            case rel => exact ⟨k + 1, hlt, by go_num, (by first | trivial | rfl)⟩
            case measure => simp [intOf]; omega
        · clear hk
          go_wp2_with fail
          refine (Scan_bad HO.out w_9 E_9.out).mono ?_
          rintro e w_10 ⟨hb, ao3, cp3, rfl, ht1⟩
          have B_10 := Lib.hid (B_9.out.trans (hb.mono s_9))
          have E_10 := Lib.hid (E_9.out.below hb)
          have A_10 := Lib.hid (A_9.out.below hb)
          have D_10 := Lib.hid (D_9.out.below hb)
          have s_10 := B_10.out.size
          clear hb ht1
          go_wp2_with fail
          have hb := (Below.refl _ w_10).alloc (Nat.le_refl _) (.cells #[Value.int .i64 c, Value.int .i64 ln] 31)
          have B_11 := Lib.hid (B_10.out.trans (hb.mono s_10))
          have E_11 := Lib.hid (E_10.out.below hb)
          have A_11 := Lib.hid (A_10.out.below hb)
          have D_11 := Lib.hid (D_10.out.below hb)
          have j_11 := Lib.hid (Blk.new w_10 31 #[Value.int .i64 c, Value.int .i64 ln])
          have s_11 := B_11.out.size
          clear hb
          generalize w_10.alloc (.cells #[Value.int .i64 c, Value.int .i64 ln] 31) = w_11 at *
          refine (read_true w_11 E_11.out).mono ?_
          rintro e w_12 ⟨rfl, hb⟩
          have B_12 := Lib.hid (B_11.out.trans (hb.mono s_11))
          have E_12 := Lib.hid (E_11.out.below hb)
          have A_12 := Lib.hid (A_11.out.below hb)
          have D_12 := Lib.hid (D_11.out.below hb)
          have j_12 := Lib.hid (j_11.out.below hb j_11.out.lt)
          have s_12 := B_12.out.size
          clear hb
          have d0 := j_12.out.cell 0
          have d1 := j_12.out.cell 1
          simp only [List.getElem?_toArray, List.getElem?_cons_zero, List.getElem?_cons_succ] at d0 d1
          go_wp2
          go_ret
          exact ⟨rfl, B_12.out⟩
    | ok pr =>
      obtain ⟨toks', cs'⟩ := pr
      obtain ⟨_, t3, _⟩ := short_scan hq2 ho
      have HT2 := Lib.hid (show toks'.length ≤ 100000 by omega)
      by_cases ha : toks.map Tok.one = toks'.map Tok.one
      · have hge : ((bs X).size : Int) ≤ (o.size : Int) := by have := HLO.out toks' cs' ho ha; have := bs_size X; omega
        have HAL := Lib.hid (decide_eq_true ha)
        have HO := Lib.hid ho
        clear ho hq1 hq2 HLO t3 ha
        go_enter Tryd.func8, Tryd.ntmps8
        go_wp2_with fail
        refine (short_two s o true hq w.heap.size _ (Blk.new w 9 #[.string s, .string o])).mono ?_
        rintro e w1 ⟨rfl, rfl⟩
        have be := (Below.refl _ w).alloc (Nat.le_refl _) (.cells #[Value.string s, Value.string o] 9)
        have B_0 := Lib.hid be
        have E_0 := Lib.hid (HE.out.below be)
        clear be
        generalize w.alloc (.cells #[Value.string s, Value.string o] 9) = w_0 at *
        have s_0 := B_0.out.size
        go_wp2_with fail
        refine (Scan_is HS.out w_0 E_0.out).mono ?_
        rintro e w_1 ⟨hb, ao1, cp1, rfl, ht1⟩
        have B_1 := Lib.hid (B_0.out.trans (hb.mono s_0))
        have E_1 := Lib.hid (E_0.out.below hb)
        have A_1 := Lib.hid (ht1)
        have s_1 := B_1.out.size
        clear hb ht1
        go_wp2_with fail
        have hb := (Below.refl _ w_1).alloc (Nat.le_refl _) (.cells #[Value.int .i64 0, Value.int .i64 0] 31)
        have B_2 := Lib.hid (B_1.out.trans (hb.mono s_1))
        have E_2 := Lib.hid (E_1.out.below hb)
        have A_2 := Lib.hid (A_1.out.below hb)
        have f_2 := Lib.hid (Blk.new w_1 31 #[Value.int .i64 0, Value.int .i64 0])
        have s_2 := B_2.out.size
        clear hb
        generalize w_1.alloc (.cells #[Value.int .i64 0, Value.int .i64 0] 31) = w_2 at *
        refine (Tight_is HTI.out w_2 E_2.out).mono ?_
        rintro e w_3 ⟨rfl, hb⟩
        have B_3 := Lib.hid (B_2.out.trans (hb.mono s_2))
        have E_3 := Lib.hid (E_2.out.below hb)
        have A_3 := Lib.hid (A_2.out.below hb)
        have f_3 := Lib.hid (f_2.out.below hb f_2.out.lt)
        have s_3 := B_3.out.size
        clear hb
        have hb := (Below.refl _ w_3).alloc (Nat.le_refl _) (.cells #[Value.int .i64 0, Value.int .i64 0] 31)
        have B_4 := Lib.hid (B_3.out.trans (hb.mono s_3))
        have E_4 := Lib.hid (E_3.out.below hb)
        have A_4 := Lib.hid (A_3.out.below hb)
        have f_4 := Lib.hid (f_3.out.below hb f_3.out.lt)
        have g_4 := Lib.hid (Blk.new w_3 31 #[Value.int .i64 0, Value.int .i64 0])
        have s_4 := B_4.out.size
        clear hb
        have d0 := f_4.out.cell 0
        have d1 := f_4.out.cell 1
        simp only [List.getElem?_toArray, List.getElem?_cons_zero, List.getElem?_cons_succ] at d0 d1
        have e0 := g_4.out.cell 0
        have e1 := g_4.out.cell 1
        simp only [List.getElem?_toArray, List.getElem?_cons_zero, List.getElem?_cons_succ] at e0 e1
        go_wp2_with fail
        generalize w_3.alloc (.cells #[Value.int .i64 0, Value.int .i64 0] 31) = w_4 at *
        refine (Scan_is HSX.out w_4 E_4.out).mono ?_
        rintro e w_5 ⟨hb, ao2, cp2, rfl, ht1⟩
        have B_5 := Lib.hid (B_4.out.trans (hb.mono s_4))
        have E_5 := Lib.hid (E_4.out.below hb)
        have A_5 := Lib.hid (A_4.out.below hb)
        have f_5 := Lib.hid (f_4.out.below hb f_4.out.lt)
        have g_5 := Lib.hid (g_4.out.below hb g_4.out.lt)
        have D_5 := Lib.hid (ht1)
        have s_5 := B_5.out.size
        clear hb ht1 d0 d1 e0 e1
        go_wp2_with fail
        have hb := (Below.refl _ w_5).alloc (Nat.le_refl _) (.cells #[Value.int .i64 0, Value.int .i64 0] 31)
        have B_6 := Lib.hid (B_5.out.trans (hb.mono s_5))
        have E_6 := Lib.hid (E_5.out.below hb)
        have A_6 := Lib.hid (A_5.out.below hb)
        have f_6 := Lib.hid (f_5.out.below hb f_5.out.lt)
        have g_6 := Lib.hid (g_5.out.below hb g_5.out.lt)
        have D_6 := Lib.hid (D_5.out.below hb)
        have h_6 := Lib.hid (Blk.new w_5 31 #[Value.int .i64 0, Value.int .i64 0])
        have s_6 := B_6.out.size
        clear hb
        generalize w_5.alloc (.cells #[Value.int .i64 0, Value.int .i64 0] 31) = w_6 at *
        refine (Tight_is HTX.out w_6 E_6.out).mono ?_
        rintro e w_7 ⟨rfl, hb⟩
        have B_7 := Lib.hid (B_6.out.trans (hb.mono s_6))
        have E_7 := Lib.hid (E_6.out.below hb)
        have A_7 := Lib.hid (A_6.out.below hb)
        have f_7 := Lib.hid (f_6.out.below hb f_6.out.lt)
        have g_7 := Lib.hid (g_6.out.below hb g_6.out.lt)
        have D_7 := Lib.hid (D_6.out.below hb)
        have h_7 := Lib.hid (h_6.out.below hb h_6.out.lt)
        have s_7 := B_7.out.size
        clear hb
        have hb := (Below.refl _ w_7).alloc (Nat.le_refl _) (.cells #[Value.int .i64 0, Value.int .i64 0] 31)
        have B_8 := Lib.hid (B_7.out.trans (hb.mono s_7))
        have E_8 := Lib.hid (E_7.out.below hb)
        have A_8 := Lib.hid (A_7.out.below hb)
        have f_8 := Lib.hid (f_7.out.below hb f_7.out.lt)
        have g_8 := Lib.hid (g_7.out.below hb g_7.out.lt)
        have D_8 := Lib.hid (D_7.out.below hb)
        have h_8 := Lib.hid (h_7.out.below hb h_7.out.lt)
        have i_8 := Lib.hid (Blk.new w_7 31 #[Value.int .i64 0, Value.int .i64 0])
        have s_8 := B_8.out.size
        clear hb
        have d0 := h_8.out.cell 0
        have d1 := h_8.out.cell 1
        simp only [List.getElem?_toArray, List.getElem?_cons_zero, List.getElem?_cons_succ] at d0 d1
        have e0 := i_8.out.cell 0
        have e1 := i_8.out.cell 1
        simp only [List.getElem?_toArray, List.getElem?_cons_zero, List.getElem?_cons_succ] at e0 e1
        go_wp2_with fail
        generalize w_7.alloc (.cells #[Value.int .i64 0, Value.int .i64 0] 31) = w_8 at *
        refine (alike_yes toks M _ _ w_8 A_8.out D_8.out HT.out HTM.out HMO.out).mono ?_
        rintro e w9 ⟨rfl, m0, rfl⟩
        clear d0 d1 e0 e1
        have hb : Below w_8.heap.size w_8 (w_8.drewN m0) := ⟨rfl, rfl, rfl, Nat.le_refl _, fun _ _ => rfl⟩
        have B_9 := Lib.hid (B_8.out.trans (hb.mono s_8))
        have E_9 := Lib.hid (E_8.out.below hb)
        have A_9 := Lib.hid (A_8.out.below hb)
        have D_9 := Lib.hid (D_8.out.below hb)
        have s_9 := B_9.out.size
        clear hb
        generalize w_8.drewN m0 = w_9 at *
        go_wp2
        go_loopw [13] (fun i wr => ∃ k : Nat, k ≤ M.length ∧ i = .int .i64 k ∧ w_9 = wr) (fun i _ => M.length - (intOf i).toNat)
        case atStart => exact ⟨0, Nat.zero_le _, rfl, rfl⟩
        case round =>
          obtain ⟨k, hk, rfl, rfl⟩ := hrel
          have hMl := HTM.out
          by_cases hlt : k < M.length
          · obtain ⟨aoD, cpD, hvD, hD⟩ := D_9.out
            injection hvD with e1 e2 e3
            subst e1 e3
            rcases hD with hnil | ⟨gD, oD, rfl, _, hrD⟩
            · rw [hnil] at hlt; simp at hlt
            · obtain ⟨_, _, d2⟩ := hrD k M[k] (List.getElem?_eq_getElem hlt)
              have hone : M[k].line = 1 := HM1.out _ (List.getElem_mem hlt)
              rw [hone] at d2
              clear hrD hone
              go_wp2
              go_roundw
              case rel => exact ⟨k + 1, hlt, by go_num, (by first | trivial | rfl)⟩
              case measure => simp [intOf]; omega
          · clear hk
            go_wp2_with fail
            refine (Scan_is HO.out w_9 E_9.out).mono ?_
            rintro e w_10 ⟨hb, ao3, cp3, rfl, ht1⟩
            have B_10 := Lib.hid (B_9.out.trans (hb.mono s_9))
            have E_10 := Lib.hid (E_9.out.below hb)
            have A_10 := Lib.hid (A_9.out.below hb)
            have D_10 := Lib.hid (D_9.out.below hb)
            have C_10 := Lib.hid (ht1)
            have s_10 := B_10.out.size
            clear hb ht1
            go_wp2_with fail
            have hb := (Below.refl _ w_10).alloc (Nat.le_refl _) (.cells #[Value.int .i64 0, Value.int .i64 0] 31)
            have B_11 := Lib.hid (B_10.out.trans (hb.mono s_10))
            have E_11 := Lib.hid (E_10.out.below hb)
            have A_11 := Lib.hid (A_10.out.below hb)
            have D_11 := Lib.hid (D_10.out.below hb)
            have C_11 := Lib.hid (C_10.out.below hb)
            have j_11 := Lib.hid (Blk.new w_10 31 #[Value.int .i64 0, Value.int .i64 0])
            have s_11 := B_11.out.size
            clear hb
            generalize w_10.alloc (.cells #[Value.int .i64 0, Value.int .i64 0] 31) = w_11 at *
            refine (read_true w_11 E_11.out).mono ?_
            rintro e w_12 ⟨rfl, hb⟩
            have B_12 := Lib.hid (B_11.out.trans (hb.mono s_11))
            have E_12 := Lib.hid (E_11.out.below hb)
            have A_12 := Lib.hid (A_11.out.below hb)
            have D_12 := Lib.hid (D_11.out.below hb)
            have C_12 := Lib.hid (C_11.out.below hb)
            have j_12 := Lib.hid (j_11.out.below hb j_11.out.lt)
            have s_12 := B_12.out.size
            clear hb
            have d0 := j_12.out.cell 0
            have d1 := j_12.out.cell 1
            simp only [List.getElem?_toArray, List.getElem?_cons_zero, List.getElem?_cons_succ] at d0 d1
            go_wp2_with fail
            refine (alike_yes toks toks' _ _ w_12 A_12.out C_12.out HT.out HT2.out HAL.out).mono ?_
            rintro e w9 ⟨rfl, m1, rfl⟩
            go_wp2
            go_ret
            exact ⟨rfl, B_12.out.trans ⟨rfl, rfl, rfl, Nat.le_refl _, fun _ _ => rfl⟩⟩
      · have HAL := Lib.hid (decide_eq_false ha)
        have HO := Lib.hid ho
        clear ho hq1 hq2 HLO t3 ha
        go_enter Tryd.func8, Tryd.ntmps8
        go_wp2_with fail
        refine (short_two s o true hq w.heap.size _ (Blk.new w 9 #[.string s, .string o])).mono ?_
        rintro e w1 ⟨rfl, rfl⟩
        have be := (Below.refl _ w).alloc (Nat.le_refl _) (.cells #[Value.string s, Value.string o] 9)
        have B_0 := Lib.hid be
        have E_0 := Lib.hid (HE.out.below be)
        clear be
        generalize w.alloc (.cells #[Value.string s, Value.string o] 9) = w_0 at *
        have s_0 := B_0.out.size
        go_wp2_with fail
        refine (Scan_is HS.out w_0 E_0.out).mono ?_
        rintro e w_1 ⟨hb, ao1, cp1, rfl, ht1⟩
        have B_1 := Lib.hid (B_0.out.trans (hb.mono s_0))
        have E_1 := Lib.hid (E_0.out.below hb)
        have A_1 := Lib.hid (ht1)
        have s_1 := B_1.out.size
        clear hb ht1
        go_wp2_with fail
        have hb := (Below.refl _ w_1).alloc (Nat.le_refl _) (.cells #[Value.int .i64 0, Value.int .i64 0] 31)
        have B_2 := Lib.hid (B_1.out.trans (hb.mono s_1))
        have E_2 := Lib.hid (E_1.out.below hb)
        have A_2 := Lib.hid (A_1.out.below hb)
        have f_2 := Lib.hid (Blk.new w_1 31 #[Value.int .i64 0, Value.int .i64 0])
        have s_2 := B_2.out.size
        clear hb
        generalize w_1.alloc (.cells #[Value.int .i64 0, Value.int .i64 0] 31) = w_2 at *
        refine (Tight_is HTI.out w_2 E_2.out).mono ?_
        rintro e w_3 ⟨rfl, hb⟩
        have B_3 := Lib.hid (B_2.out.trans (hb.mono s_2))
        have E_3 := Lib.hid (E_2.out.below hb)
        have A_3 := Lib.hid (A_2.out.below hb)
        have f_3 := Lib.hid (f_2.out.below hb f_2.out.lt)
        have s_3 := B_3.out.size
        clear hb
        have hb := (Below.refl _ w_3).alloc (Nat.le_refl _) (.cells #[Value.int .i64 0, Value.int .i64 0] 31)
        have B_4 := Lib.hid (B_3.out.trans (hb.mono s_3))
        have E_4 := Lib.hid (E_3.out.below hb)
        have A_4 := Lib.hid (A_3.out.below hb)
        have f_4 := Lib.hid (f_3.out.below hb f_3.out.lt)
        have g_4 := Lib.hid (Blk.new w_3 31 #[Value.int .i64 0, Value.int .i64 0])
        have s_4 := B_4.out.size
        clear hb
        have d0 := f_4.out.cell 0
        have d1 := f_4.out.cell 1
        simp only [List.getElem?_toArray, List.getElem?_cons_zero, List.getElem?_cons_succ] at d0 d1
        have e0 := g_4.out.cell 0
        have e1 := g_4.out.cell 1
        simp only [List.getElem?_toArray, List.getElem?_cons_zero, List.getElem?_cons_succ] at e0 e1
        go_wp2_with fail
        generalize w_3.alloc (.cells #[Value.int .i64 0, Value.int .i64 0] 31) = w_4 at *
        refine (Scan_is HSX.out w_4 E_4.out).mono ?_
        rintro e w_5 ⟨hb, ao2, cp2, rfl, ht1⟩
        have B_5 := Lib.hid (B_4.out.trans (hb.mono s_4))
        have E_5 := Lib.hid (E_4.out.below hb)
        have A_5 := Lib.hid (A_4.out.below hb)
        have f_5 := Lib.hid (f_4.out.below hb f_4.out.lt)
        have g_5 := Lib.hid (g_4.out.below hb g_4.out.lt)
        have D_5 := Lib.hid (ht1)
        have s_5 := B_5.out.size
        clear hb ht1 d0 d1 e0 e1
        go_wp2_with fail
        have hb := (Below.refl _ w_5).alloc (Nat.le_refl _) (.cells #[Value.int .i64 0, Value.int .i64 0] 31)
        have B_6 := Lib.hid (B_5.out.trans (hb.mono s_5))
        have E_6 := Lib.hid (E_5.out.below hb)
        have A_6 := Lib.hid (A_5.out.below hb)
        have f_6 := Lib.hid (f_5.out.below hb f_5.out.lt)
        have g_6 := Lib.hid (g_5.out.below hb g_5.out.lt)
        have D_6 := Lib.hid (D_5.out.below hb)
        have h_6 := Lib.hid (Blk.new w_5 31 #[Value.int .i64 0, Value.int .i64 0])
        have s_6 := B_6.out.size
        clear hb
        generalize w_5.alloc (.cells #[Value.int .i64 0, Value.int .i64 0] 31) = w_6 at *
        refine (Tight_is HTX.out w_6 E_6.out).mono ?_
        rintro e w_7 ⟨rfl, hb⟩
        have B_7 := Lib.hid (B_6.out.trans (hb.mono s_6))
        have E_7 := Lib.hid (E_6.out.below hb)
        have A_7 := Lib.hid (A_6.out.below hb)
        have f_7 := Lib.hid (f_6.out.below hb f_6.out.lt)
        have g_7 := Lib.hid (g_6.out.below hb g_6.out.lt)
        have D_7 := Lib.hid (D_6.out.below hb)
        have h_7 := Lib.hid (h_6.out.below hb h_6.out.lt)
        have s_7 := B_7.out.size
        clear hb
        have hb := (Below.refl _ w_7).alloc (Nat.le_refl _) (.cells #[Value.int .i64 0, Value.int .i64 0] 31)
        have B_8 := Lib.hid (B_7.out.trans (hb.mono s_7))
        have E_8 := Lib.hid (E_7.out.below hb)
        have A_8 := Lib.hid (A_7.out.below hb)
        have f_8 := Lib.hid (f_7.out.below hb f_7.out.lt)
        have g_8 := Lib.hid (g_7.out.below hb g_7.out.lt)
        have D_8 := Lib.hid (D_7.out.below hb)
        have h_8 := Lib.hid (h_7.out.below hb h_7.out.lt)
        have i_8 := Lib.hid (Blk.new w_7 31 #[Value.int .i64 0, Value.int .i64 0])
        have s_8 := B_8.out.size
        clear hb
        have d0 := h_8.out.cell 0
        have d1 := h_8.out.cell 1
        simp only [List.getElem?_toArray, List.getElem?_cons_zero, List.getElem?_cons_succ] at d0 d1
        have e0 := i_8.out.cell 0
        have e1 := i_8.out.cell 1
        simp only [List.getElem?_toArray, List.getElem?_cons_zero, List.getElem?_cons_succ] at e0 e1
        go_wp2_with fail
        generalize w_7.alloc (.cells #[Value.int .i64 0, Value.int .i64 0] 31) = w_8 at *
        refine (alike_yes toks M _ _ w_8 A_8.out D_8.out HT.out HTM.out HMO.out).mono ?_
        rintro e w9 ⟨rfl, m0, rfl⟩
        clear d0 d1 e0 e1
        have hb : Below w_8.heap.size w_8 (w_8.drewN m0) := ⟨rfl, rfl, rfl, Nat.le_refl _, fun _ _ => rfl⟩
        have B_9 := Lib.hid (B_8.out.trans (hb.mono s_8))
        have E_9 := Lib.hid (E_8.out.below hb)
        have A_9 := Lib.hid (A_8.out.below hb)
        have D_9 := Lib.hid (D_8.out.below hb)
        have s_9 := B_9.out.size
        clear hb
        generalize w_8.drewN m0 = w_9 at *
        go_wp2
        go_loopw [13] (fun i wr => ∃ k : Nat, k ≤ M.length ∧ i = .int .i64 k ∧ w_9 = wr) (fun i _ => M.length - (intOf i).toNat)
        case atStart => exact ⟨0, Nat.zero_le _, rfl, rfl⟩
        case round =>
          obtain ⟨k, hk, rfl, rfl⟩ := hrel
          have hMl := HTM.out
          by_cases hlt : k < M.length
          · obtain ⟨aoD, cpD, hvD, hD⟩ := D_9.out
            injection hvD with e1 e2 e3
            subst e1 e3
            rcases hD with hnil | ⟨gD, oD, rfl, _, hrD⟩
            · rw [hnil] at hlt; simp at hlt
            · obtain ⟨_, _, d2⟩ := hrD k M[k] (List.getElem?_eq_getElem hlt)
              have hone : M[k].line = 1 := HM1.out _ (List.getElem_mem hlt)
              rw [hone] at d2
              clear hrD hone
              go_wp2
              go_roundw
              case rel => exact ⟨k + 1, hlt, by go_num, (by first | trivial | rfl)⟩
              case measure => simp [intOf]; omega
          · clear hk
            go_wp2_with fail
            refine (Scan_is HO.out w_9 E_9.out).mono ?_
            rintro e w_10 ⟨hb, ao3, cp3, rfl, ht1⟩
            have B_10 := Lib.hid (B_9.out.trans (hb.mono s_9))
            have E_10 := Lib.hid (E_9.out.below hb)
            have A_10 := Lib.hid (A_9.out.below hb)
            have D_10 := Lib.hid (D_9.out.below hb)
            have C_10 := Lib.hid (ht1)
            have s_10 := B_10.out.size
            clear hb ht1
            go_wp2_with fail
            have hb := (Below.refl _ w_10).alloc (Nat.le_refl _) (.cells #[Value.int .i64 0, Value.int .i64 0] 31)
            have B_11 := Lib.hid (B_10.out.trans (hb.mono s_10))
            have E_11 := Lib.hid (E_10.out.below hb)
            have A_11 := Lib.hid (A_10.out.below hb)
            have D_11 := Lib.hid (D_10.out.below hb)
            have C_11 := Lib.hid (C_10.out.below hb)
            have j_11 := Lib.hid (Blk.new w_10 31 #[Value.int .i64 0, Value.int .i64 0])
            have s_11 := B_11.out.size
            clear hb
            generalize w_10.alloc (.cells #[Value.int .i64 0, Value.int .i64 0] 31) = w_11 at *
            refine (read_true w_11 E_11.out).mono ?_
            rintro e w_12 ⟨rfl, hb⟩
            have B_12 := Lib.hid (B_11.out.trans (hb.mono s_11))
            have E_12 := Lib.hid (E_11.out.below hb)
            have A_12 := Lib.hid (A_11.out.below hb)
            have D_12 := Lib.hid (D_11.out.below hb)
            have C_12 := Lib.hid (C_11.out.below hb)
            have j_12 := Lib.hid (j_11.out.below hb j_11.out.lt)
            have s_12 := B_12.out.size
            clear hb
            have d0 := j_12.out.cell 0
            have d1 := j_12.out.cell 1
            simp only [List.getElem?_toArray, List.getElem?_cons_zero, List.getElem?_cons_succ] at d0 d1
            go_wp2_with fail
            refine (alike_yes toks toks' _ _ w_12 A_12.out C_12.out HT.out HT2.out HAL.out).mono ?_
            rintro e w9 ⟨rfl, m1, rfl⟩
            go_wp2
            go_ret
            exact ⟨rfl, B_12.out.trans ⟨rfl, rfl, rfl, Nat.le_refl _, fun _ _ => rfl⟩⟩
end Go.Proofs.YtophcjkfhneghaaDoor
