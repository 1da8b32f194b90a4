/- The law TokenComments answers true: plain lemmas, contracts, the walk. -/
import Derived.Test.YtophcjkfhneghaaDoorXf
import Derived.Test.YtophcjkfhneghaaDoorYu
namespace Go.Proofs.YtophcjkfhneghaaDoor
open Go Go.RowKit

/-- Scan of a text that can be read: where its tokens lie. -/
theorem Scan_cap {s : ByteArray} {toks : List Tok} {cs : List (List UInt8)} (h : scanT s = .ok (toks, cs)) (w : World) (he : Env w) :
    Calls Tryd.prog 23 #[.string s] w fun e w' => Below w.heap.size w w' ∧
      ((toks = [] ∧ e = .returned (.tuple #[.slice none 0 0, .agg #[.int .i64 0, .int .i64 0]])) ∨
       ∃ g cap, e = .returned (.tuple #[.slice (some ⟨g, 0, none⟩) toks.length cap, .agg #[.int .i64 0, .int .i64 0]]) ∧ toks.length ≤ cap ∧ TokSl w' (.slice (some ⟨g, 0, none⟩) toks.length cap) toks) := by
  refine (Scan_any s w he).mono ?_
  rintro e w' ⟨hb, (⟨toks', cs', vt, hs, rfl, ho⟩ | ⟨c, ln, hs, rfl⟩)⟩
  · rw [h] at hs
    injection hs with hs
    injection hs with e1 e2
    subst e1
    refine ⟨hb, ?_⟩
    have hsl := tokSl_own ho
    obtain ⟨_, ⟨rfl, h0⟩ | ⟨g, cap, cur, rfl, _, _, hc, _⟩⟩ := ho
    · exact .inl ⟨List.eq_nil_of_length_eq_zero h0, rfl⟩
    · exact .inr ⟨g, cap, rfl, hc, hsl⟩
  · rw [h] at hs
    cases hs

theorem Coms_none {s : ByteArray} {toks : List Tok} (h : scanT s = .ok (toks, [])) (w : World) (he : Env w) :
    Calls Tryd.prog 25 #[.string s] w fun e w' => Below w.heap.size w w' ∧ ∃ ao cap, e = .returned (.tuple #[.slice ao 0 cap, .agg #[.int .i64 0, .int .i64 0]]) := by
  have h0 := Comments_out s w he
  unfold ComsOut at h0
  rw [scoms_ok h, sflt_ok h] at h0
  refine h0.mono ?_
  rintro e w' ⟨hb, ao, cap, rfl, _⟩
  exact ⟨hb, ao, cap, rfl⟩

theorem rds_err {line : Nat} {T : List UInt8} {r : Res} (h : Rds line T r) : ∀ c ln, r = .error (c, ln) → (line : Int) ≤ ln ∧ ln ≤ (line : Int) + T.length := by
  induction h with
  | nil => intro c ln e; cases e
  | @skip line c l r _ _ ih =>
    intro c' ln e
    have := ih c' ln e
    simp only [List.length_cons]
    unfold lineUp at this
    split at this <;> omega
  | @com line x l r _ _ _ ih =>
    intro c' ln e
    cases r with
    | ok p => cases e
    | error e' =>
      have := ih c' ln e
      simp only [List.length_append]
      omega
  | @tok line k x l r _ _ _ ih =>
    intro c' ln e
    cases r with
    | ok p => cases e
    | error e' =>
      have := ih c' ln e
      simp only [List.length_append]
      omega
  | @bad line c l e hp =>
    intro c' ln e
    injection e with e
    injection e with e1 e2
    subst e2
    simp only [List.length_cons]
    omega
theorem err_line {s : ByteArray} {c ln : Int} (h : scanT s = .error (c, ln)) (hz : s.size ≤ 1500) : 1 ≤ ln ∧ ln ≤ 1501 := by
  have hr := rds_of_scan (l := s.data.toList) (by rw [data_length]; omega)
  rw [bs_toList, h] at hr
  have := rds_err hr c ln rfl
  rw [data_length] at this
  omega
theorem check_lines : ∀ (l : List Tok) (k : Nat) (line : Int), (checkA k line l).2 = 0 → ∀ t ∈ l, line ≤ t.line ∧ t.line ≤ 20000
  | [], _, _, _, t, ht => by cases ht
  | u :: l, k, line, h, t, ht => by
    obtain ⟨h1, h2, _, h4⟩ := check_cons h
    rcases List.mem_cons.1 ht with rfl | ht
    · exact ⟨h1, h2⟩
    · have := check_lines l (k + 1) u.line h4 t ht
      omega
theorem tok_lines {s : ByteArray} {toks : List Tok} {cs : List (List UInt8)} (h : scanT s = .ok (toks, cs)) : ∀ t ∈ toks, 1 ≤ t.line ∧ t.line ≤ 20000 := check_lines toks 0 1 (scan_check h)

theorem drop_byte {s : ByteArray} {k : Nat} (h : k < s.size) : ∃ c, s.data.toList.drop k = c :: s.data.toList.drop (k + 1) ∧ byteAt s k = (c.toNat : Int) ∧ s.extract k (k + 1) = bs [c] := by
  have hl : k < s.data.toList.length := by rw [data_length]; exact h
  have hd := List.drop_eq_getElem_cons hl
  refine ⟨s.data.toList[k], hd, byteAt_some (List.getElem?_eq_getElem hl), ?_⟩
  rw [extract_bs, show k + 1 - k = 1 by omega, hd]
  rfl
theorem bare_ten {p : Bool} {b l X : List UInt8} (h : b ++ bareL p (10 :: l) = X) : (b ++ [10]) ++ bareL false l = X := by
  rw [← h, bareL, if_pos rfl, List.append_assoc]
  rfl
theorem bare_skip {c : UInt8} {b l X : List UInt8} (h : b ++ bareL true (c :: l) = X) (hc : ¬ c = 10) : b ++ bareL true l = X := by
  rw [← h, bareL, if_neg hc, if_pos (.inl rfl)]
theorem bare_pct {b l X : List UInt8} (h : b ++ bareL false (37 :: l) = X) : b ++ bareL true l = X := by
  rw [← h, bareL, if_neg (by decide), if_pos (.inr rfl)]
theorem bare_keep {c : UInt8} {b l X : List UInt8} (h : b ++ bareL false (c :: l) = X) (hc : ¬ c = 10) (h37 : ¬ c = 37) : (b ++ [c]) ++ bareL false l = X := by
  rw [← h, bareL, if_neg hc, if_neg (by rintro (h | h); · cases h
                                        · exact h37 h), List.append_assoc]
  rfl
theorem bare_end {p : Bool} {b X : List UInt8} (h : b ++ bareL p [] = X) : b = X := by
  rw [← h]; cases p <;> simp [bareL]
theorem bare_short : ∀ (p : Bool) (l : List UInt8), (bareL p l).length ≤ l.length
  | _, [] => by simp [bareL]
  | p, c :: l => by
    rw [bareL]
    split
    · have := bare_short false l; simp; omega
    split
    · have := bare_short true l; simp; omega
    · have := bare_short false l; simp; omega
theorem feeds_short : ∀ (l : List UInt8), feedsL l ≤ l.length
  | [] => by simp [feedsL]
  | c :: l => by
    have := feeds_short l
    rw [feedsL]
    split <;> simp <;> omega
theorem int_eq {c : UInt8} (n : Nat) (hn : n < 256) : ((c.toNat : Int) == (n : Int)) = decide (c = UInt8.ofNat n) := by
  rw [Bool.eq_iff_iff]
  simp only [beq_iff_eq, decide_eq_true_eq]
  constructor
  · exact u8_of_int hn
  · rintro rfl
    simp
    omega

theorem cat_bad {one two : ByteArray} {toks : List Tok} {cs : List (List UInt8)} {c ln : Int} (h : scanT one = .ok (toks, cs)) (h1 : one.size ≤ 1500) (h2 : two.size ≤ 1500) (h' : scanT two = .error (c, ln)) :
    scanT (one ++ bs [10] ++ two) = .error (c, ln + (feedsL one.data.toList : Int) + 1) := by
  rw [scan_cat h h1 h2, h']
  simp [front, shiftR, Int.add_assoc]
theorem cat_ok {one two : ByteArray} {toks d : List Tok} {cs cs' : List (List UInt8)} (h : scanT one = .ok (toks, cs)) (h1 : one.size ≤ 1500) (h2 : two.size ≤ 1500) (h' : scanT two = .ok (d, cs')) :
    scanT (one ++ bs [10] ++ two) = .ok (toks ++ d.map (Tok.down (feedsL one.data.toList + 1)), cs ++ cs') := by
  rw [scan_cat h h1 h2, h']
  rfl
theorem tok_pre {w : World} {g cap cap' : Nat} {toks d ALL : List Tok} (h : ALL = toks ++ d) (hs : TokSl w (.slice (some ⟨g, 0, none⟩) ALL.length cap) ALL) : TokSl w (.slice (some ⟨g, 0, none⟩) toks.length cap') toks := by
  obtain ⟨ao, cp, hv, hs⟩ := hs
  injection hv with e1 e2 e3
  subst e1
  rcases hs with hn | ⟨g', o', hg, hlt, hr⟩
  · refine ⟨_, cap', rfl, .inl ?_⟩
    rw [hn] at h
    exact (List.append_eq_nil_iff.1 h.symm).1
  · refine ⟨_, cap', rfl, .inr ⟨g', o', hg, hlt, fun i t hi => hr i t ?_⟩⟩
    rw [h, List.getElem?_append_left (List.getElem?_eq_some_iff.1 hi).1]
    exact hi

set_option maxRecDepth 100000 in
set_option maxHeartbeats 25600000 in
theorem TokenComments_true (one two : ByteArray) (w : World) (he : Env w) :
    Calls Tryd.prog 10 #[.string one, .string two] w fun e w' => e = .returned (.bool true) ∧ Below w.heap.size w w' := by
  have B_0 := Lib.hid (Below.refl w.heap.size w)
  have E_0 := Lib.hid he
  clear he
  by_cases z1 : 1500 < one.size
  · have z1' : (1500 : Int) < (one.size : Int) := by omega
    go_enter Tryd.func10, Tryd.ntmps10
    have s_0 := B_0.out.size
    go_wp2_with fail
    refine (read_true w E_0.out).mono ?_
    rintro e w_1 ⟨rfl, hb⟩
    have B_1 := Lib.hid (B_0.out.trans (hb.mono s_0))
    have E_1 := Lib.hid (E_0.out.below hb)
    have s_1 := B_1.out.size
    clear hb
    go_wp2
    go_ret
    exact ⟨rfl, B_1.out⟩
  have z1' : ¬ (1500 : Int) < (one.size : Int) := by omega
  by_cases z2 : 1500 < two.size
  · have z2' : (1500 : Int) < (two.size : Int) := by omega
    go_enter Tryd.func10, Tryd.ntmps10
    have s_0 := B_0.out.size
    go_wp2_with fail
    refine (read_true w E_0.out).mono ?_
    rintro e w_1 ⟨rfl, hb⟩
    have B_1 := Lib.hid (B_0.out.trans (hb.mono s_0))
    have E_1 := Lib.hid (E_0.out.below hb)
    have s_1 := B_1.out.size
    clear hb
    go_wp2
    go_ret
    exact ⟨rfl, B_1.out⟩
  have z2' : ¬ (1500 : Int) < (two.size : Int) := by omega
  cases hs : scanT one with
  | error f =>
    obtain ⟨c, ln⟩ := f
    have hcz : ¬ c = 0 := by rcases scanT_err hs with h | h | h | h <;> omega
    have HS := Lib.hid hs
    clear hs
    go_enter Tryd.func10, Tryd.ntmps10
    have s_0 := B_0.out.size
    go_wp2_with fail
    refine (Scan_bad HS.out w E_0.out).mono ?_
    rintro e w_1 ⟨hb, ao1, cp1, rfl, ht1⟩
    have B_1 := Lib.hid (B_0.out.trans (hb.mono s_0))
    have E_1 := Lib.hid (E_0.out.below hb)
    have s_1 := B_1.out.size
    clear hb ht1
    go_wp2_with fail
    have hb := (Below.refl _ w_1).alloc (Nat.le_refl _) (.cells #[Value.int .i64 c, Value.int .i64 ln] 31)
    have B_2 := Lib.hid (B_1.out.trans (hb.mono s_1))
    have E_2 := Lib.hid (E_1.out.below hb)
    have f_2 := Lib.hid (Blk.new w_1 31 #[Value.int .i64 c, Value.int .i64 ln])
    have s_2 := B_2.out.size
    clear hb
    generalize w_1.alloc (.cells #[Value.int .i64 c, Value.int .i64 ln] 31) = w_2 at *
    refine (read_true w_2 E_2.out).mono ?_
    rintro e w_3 ⟨rfl, hb⟩
    have B_3 := Lib.hid (B_2.out.trans (hb.mono s_2))
    have E_3 := Lib.hid (E_2.out.below hb)
    have f_3 := Lib.hid (f_2.out.below hb f_2.out.lt)
    have s_3 := B_3.out.size
    clear hb
    go_wp2
    go_ret
    exact ⟨rfl, B_3.out⟩
  | ok pr =>
    obtain ⟨toks, cs⟩ := pr
    obtain ⟨X, hX⟩ : ∃ X : List UInt8, X = bareL false one.data.toList := ⟨_, rfl⟩
    obtain ⟨N, hN⟩ : ∃ N : Nat, N = feedsL one.data.toList := ⟨_, rfl⟩
    have hxl : X.length ≤ 1500 := by have := bare_short false one.data.toList; rw [← hX, data_length] at this; omega
    have hnl : N ≤ 1500 := by have := feeds_short one.data.toList; rw [← hN, data_length] at this; omega
    have hbare : scanT (bs X) = .ok (toks, []) := by rw [hX]; exact scan_bare hs (by rw [← hX]; omega)
    have HB := Lib.hid hbare
    have HX := Lib.hid hX
    have HN := Lib.hid hN
    have HS := Lib.hid hs
    have HT := Lib.hid (show toks.length ≤ 1501 by have := scanT_small hs; omega)
    have g1 : ¬ 9223372036854775807 < one.size + 1 := by omega
    have g2 : ¬ 9223372036854775807 < one.size + 1 + two.size := by omega
    cases ho : scanT two with
    | error f =>
      obtain ⟨c2, ln2⟩ := f
      have hcz : ¬ c2 = 0 := by rcases scanT_err ho with h | h | h | h <;> omega
      obtain ⟨l1, l2⟩ := err_line ho (by omega)
      have HC := Lib.hid (show scanT (one ++ bs [10] ++ two) = .error (c2, ln2 + (N : Int) + 1) by rw [hN]; exact cat_bad hs (by omega) (by omega) ho)
      have HO := Lib.hid ho
      have hw1 : IntKind.i64.wrap (ln2 + (N : Int)) = ln2 + (N : Int) := by rw [IntKind.wrap_i64]; omega
      have hw2 : IntKind.i64.wrap (ln2 + (N : Int) + 1) = ln2 + (N : Int) + 1 := by rw [IntKind.wrap_i64]; omega
      clear hs ho hX hN hbare l1 l2 hxl
      go_enter Tryd.func10, Tryd.ntmps10
      have s_0 := B_0.out.size
      go_wp2_with fail
      refine (Scan_is HS.out w E_0.out).mono ?_
      rintro e w_1 ⟨hb, ao1, cp1, rfl, ht1⟩
      have B_1 := Lib.hid (B_0.out.trans (hb.mono s_0))
      have E_1 := Lib.hid (E_0.out.below hb)
      have A_1 := Lib.hid (ht1)
      have s_1 := B_1.out.size
      clear hb ht1
      go_wp2_with fail
      have hb := (Below.refl _ w_1).alloc (Nat.le_refl _) (.cells #[Value.int .i64 0, Value.int .i64 0] 31)
      have B_2 := Lib.hid (B_1.out.trans (hb.mono s_1))
      have E_2 := Lib.hid (E_1.out.below hb)
      have A_2 := Lib.hid (A_1.out.below hb)
      have f_2 := Lib.hid (Blk.new w_1 31 #[Value.int .i64 0, Value.int .i64 0])
      have s_2 := B_2.out.size
      clear hb
      generalize w_1.alloc (.cells #[Value.int .i64 0, Value.int .i64 0] 31) = w_2 at *
      go_loopw [7, 8, 9, 10] (fun ln v o i wr => ∃ (b : List UInt8) (n k : Nat) (p : Bool), k ≤ one.size ∧ ln = .int .i64 n ∧ v = .string (bs b) ∧ o = .bool p ∧ i = .int .i64 k ∧ w_2 = wr ∧ b ++ bareL p (one.data.toList.drop k) = X ∧ n + feedsL (one.data.toList.drop k) = N ∧ b.length ≤ k ∧ n ≤ k) (fun _ _ _ i _ => one.size - (intOf i).toNat)
      case atStart => exact ⟨[], 0, 0, false, by omega, rfl, rfl, rfl, rfl, rfl, by rw [HX.out]; rfl, by rw [HN.out]; simp, by simp, by omega⟩
      case round =>
        obtain ⟨b, n, k, p, hk, rfl, rfl, rfl, rfl, rfl, hba, hfe, hbl, hnk⟩ := hrel
        have HBA := Lib.hid hba
        have HFE := Lib.hid hfe
        have HBL := Lib.hid hbl
        have HNK := Lib.hid hnk
        clear hba hfe hbl hnk
        by_cases hlt : k < one.size
        · have hbk : (one[k].toNat : Int) = byteAt one k := by simp [byteAt, hlt]; rfl
          obtain ⟨c, hd, hbc, hex⟩ := drop_byte hlt
          obtain ⟨E, hE⟩ : ∃ E, k + 1 = E := ⟨_, rfl⟩
          rw [hE] at hd hex
          have hwE : IntKind.i64.wrap ((k : Int) + 1) = (E : Int) := by rw [IntKind.wrap_i64]; omega
          have e1 : (k : Int) ≤ (E : Int) := by omega
          have e2 : (E : Int) ≤ (one.size : Int) := by omega
          have hwn : IntKind.i64.wrap ((n : Int) + 1) = ((n + 1 : Nat) : Int) := by have := HNK.out; rw [IntKind.wrap_i64]; omega
          have y1 : ¬ 9223372036854775807 < (bs b).size + (bs [c]).size := by have := HBL.out; rw [bs_size, bs_size]; simp; omega
          have HD := Lib.hid hd
          have HBC := Lib.hid hbc
          have HE := Lib.hid hE
          have HBA2 : Hid (b ++ bareL p (c :: one.data.toList.drop E) = X) := Lib.hid (by rw [← HD.out]; exact HBA.out)
          have HFE2 : Hid (n + feedsL (c :: one.data.toList.drop E) = N) := Lib.hid (by rw [← HD.out]; exact HFE.out)
          have q1 : (byteAt one k == 10) = decide (c = 10) := by rw [hbc]; exact int_eq 10 (by decide)
          have q2 : (byteAt one k == 37) = decide (c = 37) := by rw [hbc]; exact int_eq 37 (by decide)
          clear hd hbc HBA HFE hE
          by_cases q10 : c = 10
          · rw [decide_eq_true q10] at q1
            rw [decide_eq_false (by rw [q10]; decide)] at q2
            have HB3 := Lib.hid (show b ++ bareL p (10 :: one.data.toList.drop E) = X by have := HBA2.out; rw [q10] at this; exact this)
            have HF3 := Lib.hid (show n + 1 + feedsL (one.data.toList.drop E) = N by have := HFE2.out; rw [q10, feedsL, if_pos rfl] at this; omega)
            have H10 := Lib.hid q10
            clear q10
            go_wp2
            go_roundw
            case rel =>
              refine ⟨b ++ [c], n + 1, E, false, by omega, rfl, by rw [← bs_append], rfl, by go_num, (by first | trivial | rfl), by rw [H10.out]; exact bare_ten HB3.out, HF3.out, ?_, ?_⟩
              · have := HBL.out; have := HE.out; simp; omega
              · have := HNK.out; have := HE.out; omega
            case measure => have := HE.out; simp [intOf]; omega
          · rw [decide_eq_false q10] at q1
            have HF3 := Lib.hid (show n + feedsL (one.data.toList.drop E) = N by have := HFE2.out; rw [feedsL, if_neg q10] at this; exact this)
            have H10 := Lib.hid q10
            clear q10
            cases p
            · by_cases q37 : c = 37
              · rw [decide_eq_true q37] at q2
                have HB3 := Lib.hid (show b ++ bareL false (37 :: one.data.toList.drop E) = X by have := HBA2.out; rw [q37] at this; exact this)
                clear q37
                go_wp2
                go_roundw
                case rel =>
                  refine ⟨b, n, E, true, by omega, rfl, rfl, rfl, by go_num, (by first | trivial | rfl), bare_pct HB3.out, HF3.out, ?_, ?_⟩
                  · have := HBL.out; have := HE.out; omega
                  · have := HNK.out; have := HE.out; omega
                case measure => have := HE.out; simp [intOf]; omega
              · rw [decide_eq_false q37] at q2
                have H37 := Lib.hid q37
                clear q37
                go_wp2
                go_roundw
                case rel =>
                  refine ⟨b ++ [c], n, E, false, by omega, rfl, by rw [← bs_append], rfl, by go_num, (by first | trivial | rfl), bare_keep HBA2.out H10.out H37.out, HF3.out, ?_, ?_⟩
                  · have := HBL.out; have := HE.out; simp; omega
                  · have := HNK.out; have := HE.out; omega
                case measure => have := HE.out; simp [intOf]; omega
            · go_wp2
              go_roundw
              case rel =>
                refine ⟨b, n, E, true, by omega, rfl, rfl, rfl, by go_num, (by first | trivial | rfl), bare_skip HBA2.out H10.out, HF3.out, ?_, ?_⟩
                · have := HBL.out; have := HE.out; omega
                · have := HNK.out; have := HE.out; omega
              case measure => have := HE.out; simp [intOf]; omega
        · obtain rfl : k = one.size := by omega
          have hba := HBA.out
          have hfe := HFE.out
          rw [← data_length one, List.drop_length] at hba hfe
          obtain rfl : X = b := (bare_end hba).symm
          obtain rfl : N = n := by simpa [feedsL] using hfe.symm
          clear HBA HFE HBL HNK hba hfe
          go_wp2_with fail
          refine (Scan_is HB.out w_2 E_2.out).mono ?_
          rintro e w_3 ⟨hb, ao2, cp2, rfl, ht1⟩
          have B_3 := Lib.hid (B_2.out.trans (hb.mono s_2))
          have E_3 := Lib.hid (E_2.out.below hb)
          have A_3 := Lib.hid (A_2.out.below hb)
          have f_3 := Lib.hid (f_2.out.below hb f_2.out.lt)
          have D_3 := Lib.hid (ht1)
          have s_3 := B_3.out.size
          clear hb ht1
          go_wp2_with fail
          have hb := (Below.refl _ w_3).alloc (Nat.le_refl _) (.cells #[Value.int .i64 0, Value.int .i64 0] 31)
          have B_4 := Lib.hid (B_3.out.trans (hb.mono s_3))
          have E_4 := Lib.hid (E_3.out.below hb)
          have A_4 := Lib.hid (A_3.out.below hb)
          have f_4 := Lib.hid (f_3.out.below hb f_3.out.lt)
          have D_4 := Lib.hid (D_3.out.below hb)
          have g_4 := Lib.hid (Blk.new w_3 31 #[Value.int .i64 0, Value.int .i64 0])
          have s_4 := B_4.out.size
          clear hb
          generalize w_3.alloc (.cells #[Value.int .i64 0, Value.int .i64 0] 31) = w_4 at *
          refine (Coms_none HB.out w_4 E_4.out).mono ?_
          rintro e w_5 ⟨hb, ao3, cp3, rfl⟩
          have B_5 := Lib.hid (B_4.out.trans (hb.mono s_4))
          have E_5 := Lib.hid (E_4.out.below hb)
          have A_5 := Lib.hid (A_4.out.below hb)
          have f_5 := Lib.hid (f_4.out.below hb f_4.out.lt)
          have D_5 := Lib.hid (D_4.out.below hb)
          have g_5 := Lib.hid (g_4.out.below hb g_4.out.lt)
          have s_5 := B_5.out.size
          clear hb
          have hb := (Below.refl _ w_5).alloc (Nat.le_refl _) (.cells #[Value.int .i64 0, Value.int .i64 0] 31)
          have B_6 := Lib.hid (B_5.out.trans (hb.mono s_5))
          have E_6 := Lib.hid (E_5.out.below hb)
          have A_6 := Lib.hid (A_5.out.below hb)
          have f_6 := Lib.hid (f_5.out.below hb f_5.out.lt)
          have D_6 := Lib.hid (D_5.out.below hb)
          have g_6 := Lib.hid (g_5.out.below hb g_5.out.lt)
          have h_6 := Lib.hid (Blk.new w_5 31 #[Value.int .i64 0, Value.int .i64 0])
          have s_6 := B_6.out.size
          clear hb
          have c0 := f_6.out.cell 0
          have c1 := f_6.out.cell 1
          simp only [List.getElem?_toArray, List.getElem?_cons_zero, List.getElem?_cons_succ] at c0 c1
          have d0 := g_6.out.cell 0
          have d1 := g_6.out.cell 1
          simp only [List.getElem?_toArray, List.getElem?_cons_zero, List.getElem?_cons_succ] at d0 d1
          have e0 := h_6.out.cell 0
          have e1 := h_6.out.cell 1
          simp only [List.getElem?_toArray, List.getElem?_cons_zero, List.getElem?_cons_succ] at e0 e1
          go_wp2_with fail
          generalize w_5.alloc (.cells #[Value.int .i64 0, Value.int .i64 0] 31) = w_6 at *
          refine (same_refl toks _ _ w_6 A_6.out D_6.out (by have := HT.out; omega)).mono ?_
          rintro e w9 ⟨rfl, m0, rfl⟩
          clear c0 c1 d0 d1 e0 e1
          have hb : Below w_6.heap.size w_6 (w_6.drewN m0) := ⟨rfl, rfl, rfl, Nat.le_refl _, fun _ _ => rfl⟩
          have B_7 := Lib.hid (B_6.out.trans (hb.mono s_6))
          have E_7 := Lib.hid (E_6.out.below hb)
          have A_7 := Lib.hid (A_6.out.below hb)
          have s_7 := B_7.out.size
          clear hb
          generalize w_6.drewN m0 = w_7 at *
          go_wp2_with fail
          refine (Scan_bad HC.out w_7 E_7.out).mono ?_
          rintro e w_8 ⟨hb, ao4, cp4, rfl, ht1⟩
          have B_8 := Lib.hid (B_7.out.trans (hb.mono s_7))
          have E_8 := Lib.hid (E_7.out.below hb)
          have A_8 := Lib.hid (A_7.out.below hb)
          have s_8 := B_8.out.size
          clear hb ht1
          go_wp2_with fail
          have hb := (Below.refl _ w_8).alloc (Nat.le_refl _) (.cells #[Value.int .i64 c2, Value.int .i64 (ln2 + (N : Int) + 1)] 31)
          have B_9 := Lib.hid (B_8.out.trans (hb.mono s_8))
          have E_9 := Lib.hid (E_8.out.below hb)
          have A_9 := Lib.hid (A_8.out.below hb)
          have i_9 := Lib.hid (Blk.new w_8 31 #[Value.int .i64 c2, Value.int .i64 (ln2 + (N : Int) + 1)])
          have s_9 := B_9.out.size
          clear hb
          generalize w_8.alloc (.cells #[Value.int .i64 c2, Value.int .i64 (ln2 + (N : Int) + 1)] 31) = w_9 at *
          refine (Scan_bad HO.out w_9 E_9.out).mono ?_
          rintro e w_10 ⟨hb, ao5, cp5, rfl, ht1⟩
          have B_10 := Lib.hid (B_9.out.trans (hb.mono s_9))
          have E_10 := Lib.hid (E_9.out.below hb)
          have A_10 := Lib.hid (A_9.out.below hb)
          have i_10 := Lib.hid (i_9.out.below hb i_9.out.lt)
          have s_10 := B_10.out.size
          clear hb ht1
          go_wp2_with fail
          have hb := (Below.refl _ w_10).alloc (Nat.le_refl _) (.cells #[Value.int .i64 c2, Value.int .i64 ln2] 31)
          have B_11 := Lib.hid (B_10.out.trans (hb.mono s_10))
          have E_11 := Lib.hid (E_10.out.below hb)
          have A_11 := Lib.hid (A_10.out.below hb)
          have i_11 := Lib.hid (i_10.out.below hb i_10.out.lt)
          have j_11 := Lib.hid (Blk.new w_10 31 #[Value.int .i64 c2, Value.int .i64 ln2])
          have s_11 := B_11.out.size
          clear hb
          generalize w_10.alloc (.cells #[Value.int .i64 c2, Value.int .i64 ln2] 31) = w_11 at *
          refine (read_true w_11 E_11.out).mono ?_
          rintro e w_12 ⟨rfl, hb⟩
          have B_12 := Lib.hid (B_11.out.trans (hb.mono s_11))
          have E_12 := Lib.hid (E_11.out.below hb)
          have A_12 := Lib.hid (A_11.out.below hb)
          have i_12 := Lib.hid (i_11.out.below hb i_11.out.lt)
          have j_12 := Lib.hid (j_11.out.below hb j_11.out.lt)
          have s_12 := B_12.out.size
          clear hb
          have c0 := i_12.out.cell 0
          have c1 := i_12.out.cell 1
          simp only [List.getElem?_toArray, List.getElem?_cons_zero, List.getElem?_cons_succ] at c0 c1
          have d0 := j_12.out.cell 0
          have d1 := j_12.out.cell 1
          simp only [List.getElem?_toArray, List.getElem?_cons_zero, List.getElem?_cons_succ] at d0 d1
          go_wp2
          go_ret
          exact ⟨rfl, B_12.out⟩
    | ok pr =>
      obtain ⟨d, cs'⟩ := pr
      obtain ⟨ALL, hALL⟩ : ∃ L : List Tok, L = toks ++ d.map (Tok.down (N + 1)) := ⟨_, rfl⟩
      have HC := Lib.hid (show scanT (one ++ bs [10] ++ two) = .ok (ALL, cs ++ cs') by rw [hALL, hN]; exact cat_ok hs (by omega) (by omega) ho)
      have HO := Lib.hid ho
      have HDL := Lib.hid (tok_lines ho)
      have hlen : ALL.length = toks.length + d.length := by rw [hALL]; simp
      have hdl : d.length ≤ 1501 := by have := scanT_small ho; omega
      have hwl : IntKind.i64.wrap ((toks.length : Int) + (d.length : Int)) = (ALL.length : Int) := by have := HT.out; rw [IntKind.wrap_i64]; omega
      have HLEN := Lib.hid hlen
      have HDN := Lib.hid hdl
      have HAL := Lib.hid hALL
      have htle : (toks.length : Int) ≤ (ALL.length : Int) := by omega
      have ht0 : (0 : Int) ≤ (toks.length : Int) := by omega
      clear hs ho hX hN hbare hxl hlen hdl hALL
      go_enter Tryd.func10, Tryd.ntmps10
      have s_0 := B_0.out.size
      go_wp2_with fail
      refine (Scan_is HS.out w E_0.out).mono ?_
      rintro e w_1 ⟨hb, ao1, cp1, rfl, ht1⟩
      have B_1 := Lib.hid (B_0.out.trans (hb.mono s_0))
      have E_1 := Lib.hid (E_0.out.below hb)
      have A_1 := Lib.hid (ht1)
      have s_1 := B_1.out.size
      clear hb ht1
      go_wp2_with fail
      have hb := (Below.refl _ w_1).alloc (Nat.le_refl _) (.cells #[Value.int .i64 0, Value.int .i64 0] 31)
      have B_2 := Lib.hid (B_1.out.trans (hb.mono s_1))
      have E_2 := Lib.hid (E_1.out.below hb)
      have A_2 := Lib.hid (A_1.out.below hb)
      have f_2 := Lib.hid (Blk.new w_1 31 #[Value.int .i64 0, Value.int .i64 0])
      have s_2 := B_2.out.size
      clear hb
      generalize w_1.alloc (.cells #[Value.int .i64 0, Value.int .i64 0] 31) = w_2 at *
      go_loopw [7, 8, 9, 10] (fun ln v o i wr => ∃ (b : List UInt8) (n k : Nat) (p : Bool), k ≤ one.size ∧ ln = .int .i64 n ∧ v = .string (bs b) ∧ o = .bool p ∧ i = .int .i64 k ∧ w_2 = wr ∧ b ++ bareL p (one.data.toList.drop k) = X ∧ n + feedsL (one.data.toList.drop k) = N ∧ b.length ≤ k ∧ n ≤ k) (fun _ _ _ i _ => one.size - (intOf i).toNat)
      case atStart => exact ⟨[], 0, 0, false, by omega, rfl, rfl, rfl, rfl, rfl, by rw [HX.out]; rfl, by rw [HN.out]; simp, by simp, by omega⟩
      case round =>
        obtain ⟨b, n, k, p, hk, rfl, rfl, rfl, rfl, rfl, hba, hfe, hbl, hnk⟩ := hrel
        have HBA := Lib.hid hba
        have HFE := Lib.hid hfe
        have HBL := Lib.hid hbl
        have HNK := Lib.hid hnk
        clear hba hfe hbl hnk
        by_cases hlt : k < one.size
        · have hbk : (one[k].toNat : Int) = byteAt one k := by simp [byteAt, hlt]; rfl
          obtain ⟨c, hd, hbc, hex⟩ := drop_byte hlt
          obtain ⟨E, hE⟩ : ∃ E, k + 1 = E := ⟨_, rfl⟩
          rw [hE] at hd hex
          have hwE : IntKind.i64.wrap ((k : Int) + 1) = (E : Int) := by rw [IntKind.wrap_i64]; omega
          have e1 : (k : Int) ≤ (E : Int) := by omega
          have e2 : (E : Int) ≤ (one.size : Int) := by omega
          have hwn : IntKind.i64.wrap ((n : Int) + 1) = ((n + 1 : Nat) : Int) := by have := HNK.out; rw [IntKind.wrap_i64]; omega
          have y1 : ¬ 9223372036854775807 < (bs b).size + (bs [c]).size := by have := HBL.out; rw [bs_size, bs_size]; simp; omega
          have HD := Lib.hid hd
          have HBC := Lib.hid hbc
          have HE := Lib.hid hE
          have HBA2 : Hid (b ++ bareL p (c :: one.data.toList.drop E) = X) := Lib.hid (by rw [← HD.out]; exact HBA.out)
          have HFE2 : Hid (n + feedsL (c :: one.data.toList.drop E) = N) := Lib.hid (by rw [← HD.out]; exact HFE.out)
          have q1 : (byteAt one k == 10) = decide (c = 10) := by rw [hbc]; exact int_eq 10 (by decide)
          have q2 : (byteAt one k == 37) = decide (c = 37) := by rw [hbc]; exact int_eq 37 (by decide)
          clear hd hbc HBA HFE hE
          by_cases q10 : c = 10
          · rw [decide_eq_true q10] at q1
            rw [decide_eq_false (by rw [q10]; decide)] at q2
            have HB3 := Lib.hid (show b ++ bareL p (10 :: one.data.toList.drop E) = X by have := HBA2.out; rw [q10] at this; exact this)
            have HF3 := Lib.hid (show n + 1 + feedsL (one.data.toList.drop E) = N by have := HFE2.out; rw [q10, feedsL, if_pos rfl] at this; omega)
            have H10 := Lib.hid q10
            clear q10
            go_wp2
            go_roundw
            case rel =>
              refine ⟨b ++ [c], n + 1, E, false, by omega, rfl, by rw [← bs_append], rfl, by go_num, (by first | trivial | rfl), by rw [H10.out]; exact bare_ten HB3.out, HF3.out, ?_, ?_⟩
              · have := HBL.out; have := HE.out; simp; omega
              · have := HNK.out; have := HE.out; omega
            case measure => have := HE.out; simp [intOf]; omega
          · rw [decide_eq_false q10] at q1
            have HF3 := Lib.hid (show n + feedsL (one.data.toList.drop E) = N by have := HFE2.out; rw [feedsL, if_neg q10] at this; exact this)
            have H10 := Lib.hid q10
            clear q10
            cases p
            · by_cases q37 : c = 37
              · rw [decide_eq_true q37] at q2
                have HB3 := Lib.hid (show b ++ bareL false (37 :: one.data.toList.drop E) = X by have := HBA2.out; rw [q37] at this; exact this)
                clear q37
                go_wp2
                go_roundw
                case rel =>
                  refine ⟨b, n, E, true, by omega, rfl, rfl, rfl, by go_num, (by first | trivial | rfl), bare_pct HB3.out, HF3.out, ?_, ?_⟩
                  · have := HBL.out; have := HE.out; omega
                  · have := HNK.out; have := HE.out; omega
                case measure => have := HE.out; simp [intOf]; omega
              · rw [decide_eq_false q37] at q2
                have H37 := Lib.hid q37
                clear q37
                go_wp2
                go_roundw
                case rel =>
                  refine ⟨b ++ [c], n, E, false, by omega, rfl, by rw [← bs_append], rfl, by go_num, (by first | trivial | rfl), bare_keep HBA2.out H10.out H37.out, HF3.out, ?_, ?_⟩
                  · have := HBL.out; have := HE.out; simp; omega
                  · have := HNK.out; have := HE.out; omega
                case measure => have := HE.out; simp [intOf]; omega
            · go_wp2
              go_roundw
              case rel =>
                refine ⟨b, n, E, true, by omega, rfl, rfl, rfl, by go_num, (by first | trivial | rfl), bare_skip HBA2.out H10.out, HF3.out, ?_, ?_⟩
                · have := HBL.out; have := HE.out; omega
                · have := HNK.out; have := HE.out; omega
              case measure => have := HE.out; simp [intOf]; omega
        · obtain rfl : k = one.size := by omega
          have hba := HBA.out
          have hfe := HFE.out
          rw [← data_length one, List.drop_length] at hba hfe
          obtain rfl : X = b := (bare_end hba).symm
          obtain rfl : N = n := by simpa [feedsL] using hfe.symm
          clear HBA HFE HBL HNK hba hfe
          go_wp2_with fail
          refine (Scan_is HB.out w_2 E_2.out).mono ?_
          rintro e w_3 ⟨hb, ao2, cp2, rfl, ht1⟩
          have B_3 := Lib.hid (B_2.out.trans (hb.mono s_2))
          have E_3 := Lib.hid (E_2.out.below hb)
          have A_3 := Lib.hid (A_2.out.below hb)
          have f_3 := Lib.hid (f_2.out.below hb f_2.out.lt)
          have D_3 := Lib.hid (ht1)
          have s_3 := B_3.out.size
          clear hb ht1
          go_wp2_with fail
          have hb := (Below.refl _ w_3).alloc (Nat.le_refl _) (.cells #[Value.int .i64 0, Value.int .i64 0] 31)
          have B_4 := Lib.hid (B_3.out.trans (hb.mono s_3))
          have E_4 := Lib.hid (E_3.out.below hb)
          have A_4 := Lib.hid (A_3.out.below hb)
          have f_4 := Lib.hid (f_3.out.below hb f_3.out.lt)
          have D_4 := Lib.hid (D_3.out.below hb)
          have g_4 := Lib.hid (Blk.new w_3 31 #[Value.int .i64 0, Value.int .i64 0])
          have s_4 := B_4.out.size
          clear hb
          generalize w_3.alloc (.cells #[Value.int .i64 0, Value.int .i64 0] 31) = w_4 at *
          refine (Coms_none HB.out w_4 E_4.out).mono ?_
          rintro e w_5 ⟨hb, ao3, cp3, rfl⟩
          have B_5 := Lib.hid (B_4.out.trans (hb.mono s_4))
          have E_5 := Lib.hid (E_4.out.below hb)
          have A_5 := Lib.hid (A_4.out.below hb)
          have f_5 := Lib.hid (f_4.out.below hb f_4.out.lt)
          have D_5 := Lib.hid (D_4.out.below hb)
          have g_5 := Lib.hid (g_4.out.below hb g_4.out.lt)
          have s_5 := B_5.out.size
          clear hb
          have hb := (Below.refl _ w_5).alloc (Nat.le_refl _) (.cells #[Value.int .i64 0, Value.int .i64 0] 31)
          have B_6 := Lib.hid (B_5.out.trans (hb.mono s_5))
          have E_6 := Lib.hid (E_5.out.below hb)
          have A_6 := Lib.hid (A_5.out.below hb)
          have f_6 := Lib.hid (f_5.out.below hb f_5.out.lt)
          have D_6 := Lib.hid (D_5.out.below hb)
          have g_6 := Lib.hid (g_5.out.below hb g_5.out.lt)
          have h_6 := Lib.hid (Blk.new w_5 31 #[Value.int .i64 0, Value.int .i64 0])
          have s_6 := B_6.out.size
          clear hb
          have c0 := f_6.out.cell 0
          have c1 := f_6.out.cell 1
          simp only [List.getElem?_toArray, List.getElem?_cons_zero, List.getElem?_cons_succ] at c0 c1
          have d0 := g_6.out.cell 0
          have d1 := g_6.out.cell 1
          simp only [List.getElem?_toArray, List.getElem?_cons_zero, List.getElem?_cons_succ] at d0 d1
          have e0 := h_6.out.cell 0
          have e1 := h_6.out.cell 1
          simp only [List.getElem?_toArray, List.getElem?_cons_zero, List.getElem?_cons_succ] at e0 e1
          go_wp2_with fail
          generalize w_5.alloc (.cells #[Value.int .i64 0, Value.int .i64 0] 31) = w_6 at *
          refine (same_refl toks _ _ w_6 A_6.out D_6.out (by have := HT.out; omega)).mono ?_
          rintro e w9 ⟨rfl, m0, rfl⟩
          clear c0 c1 d0 d1 e0 e1
          have hb : Below w_6.heap.size w_6 (w_6.drewN m0) := ⟨rfl, rfl, rfl, Nat.le_refl _, fun _ _ => rfl⟩
          have B_7 := Lib.hid (B_6.out.trans (hb.mono s_6))
          have E_7 := Lib.hid (E_6.out.below hb)
          have A_7 := Lib.hid (A_6.out.below hb)
          have s_7 := B_7.out.size
          clear hb
          generalize w_6.drewN m0 = w_7 at *
          go_wp2_with fail
          refine (Scan_cap HC.out w_7 E_7.out).mono ?_
          rintro e w_8 ⟨hb, (⟨hnil, rfl⟩ | ⟨gA, cpA, rfl, hcp, ht1⟩)⟩
          · have B_8 := Lib.hid (B_7.out.trans (hb.mono s_7))
            have E_8 := Lib.hid (E_7.out.below hb)
            have A_8 := Lib.hid (A_7.out.below hb)
            have s_8 := B_8.out.size
            clear hb
            have hz := HLEN.out
            rw [hnil, List.length_nil] at hz
            obtain rfl : toks = [] := List.eq_nil_of_length_eq_zero (by omega)
            obtain rfl : d = [] := List.eq_nil_of_length_eq_zero (by omega)
            clear hz hwl htle ht0
            have hw0 : IntKind.i64.wrap (0 + 0) = 0 := by decide
            subst hnil
            try simp only [List.length_nil] at *
            go_wp2_with fail
            have hb := (Below.refl _ w_8).alloc (Nat.le_refl _) (.cells #[Value.int .i64 0, Value.int .i64 0] 31)
            have B_9 := Lib.hid (B_8.out.trans (hb.mono s_8))
            have E_9 := Lib.hid (E_8.out.below hb)
            have A_9 := Lib.hid (A_8.out.below hb)
            have i_9 := Lib.hid (Blk.new w_8 31 #[Value.int .i64 0, Value.int .i64 0])
            have s_9 := B_9.out.size
            clear hb
            generalize w_8.alloc (.cells #[Value.int .i64 0, Value.int .i64 0] 31) = w_9 at *
            refine (Scan_is HO.out w_9 E_9.out).mono ?_
            rintro e w_10 ⟨hb, ao5, cp5, rfl, ht1⟩
            have B_10 := Lib.hid (B_9.out.trans (hb.mono s_9))
            have E_10 := Lib.hid (E_9.out.below hb)
            have A_10 := Lib.hid (A_9.out.below hb)
            have i_10 := Lib.hid (i_9.out.below hb i_9.out.lt)
            have V_10 := Lib.hid (ht1)
            have s_10 := B_10.out.size
            clear hb ht1
            have hb := (Below.refl _ w_10).alloc (Nat.le_refl _) (.cells #[Value.int .i64 0, Value.int .i64 0] 31)
            have B_11 := Lib.hid (B_10.out.trans (hb.mono s_10))
            have E_11 := Lib.hid (E_10.out.below hb)
            have A_11 := Lib.hid (A_10.out.below hb)
            have i_11 := Lib.hid (i_10.out.below hb i_10.out.lt)
            have V_11 := Lib.hid (V_10.out.below hb)
            have j_11 := Lib.hid (Blk.new w_10 31 #[Value.int .i64 0, Value.int .i64 0])
            have s_11 := B_11.out.size
            clear hb
            have c0 := i_11.out.cell 0
            have c1 := i_11.out.cell 1
            simp only [List.getElem?_toArray, List.getElem?_cons_zero, List.getElem?_cons_succ] at c0 c1
            have d0 := j_11.out.cell 0
            have d1 := j_11.out.cell 1
            simp only [List.getElem?_toArray, List.getElem?_cons_zero, List.getElem?_cons_succ] at d0 d1
            go_wp2_with fail
            generalize w_10.alloc (.cells #[Value.int .i64 0, Value.int .i64 0] 31) = w_11 at *
            refine (same_refl [] _ _ w_11 (tokSl_nil _) A_11.out (by simp)).mono ?_
            rintro e w9 ⟨rfl, m1, rfl⟩
            clear c0 c1 d0 d1
            have hb : Below w_11.heap.size w_11 (w_11.drewN m1) := ⟨rfl, rfl, rfl, Nat.le_refl _, fun _ _ => rfl⟩
            have B_12 := Lib.hid (B_11.out.trans (hb.mono s_11))
            have E_12 := Lib.hid (E_11.out.below hb)
            have A_12 := Lib.hid (A_11.out.below hb)
            have V_12 := Lib.hid (V_11.out.below hb)
            have s_12 := B_12.out.size
            clear hb
            generalize w_11.drewN m1 = w_12 at *
            go_wp2
            go_loopw [19] (fun i wr => i = .int .i64 0 ∧ w_12 = wr) (fun _ _ => 0)
            case atStart => exact ⟨rfl, rfl⟩
            case round =>
              obtain ⟨rfl, rfl⟩ := hrel
              go_wp2_with fail
              refine (read_true w_12 E_12.out).mono ?_
              rintro e w_13 ⟨rfl, hb⟩
              have B_13 := Lib.hid (B_12.out.trans (hb.mono s_12))
              have E_13 := Lib.hid (E_12.out.below hb)
              have A_13 := Lib.hid (A_12.out.below hb)
              have V_13 := Lib.hid (V_12.out.below hb)
              have s_13 := B_13.out.size
              clear hb
              go_wp2
              go_ret
              exact ⟨rfl, B_13.out⟩
          · have B_8 := Lib.hid (B_7.out.trans (hb.mono s_7))
            have E_8 := Lib.hid (E_7.out.below hb)
            have A_8 := Lib.hid (A_7.out.below hb)
            have L_8 := Lib.hid ht1
            have hcpi : (ALL.length : Int) ≤ (cpA : Int) := by omega
            have hcp2 : (toks.length : Int) ≤ (cpA : Int) := by omega
            have s_8 := B_8.out.size
            clear hb ht1 hcp
            go_wp2_with fail
            have hb := (Below.refl _ w_8).alloc (Nat.le_refl _) (.cells #[Value.int .i64 0, Value.int .i64 0] 31)
            have B_9 := Lib.hid (B_8.out.trans (hb.mono s_8))
            have E_9 := Lib.hid (E_8.out.below hb)
            have A_9 := Lib.hid (A_8.out.below hb)
            have L_9 := Lib.hid (L_8.out.below hb)
            have i_9 := Lib.hid (Blk.new w_8 31 #[Value.int .i64 0, Value.int .i64 0])
            have s_9 := B_9.out.size
            clear hb
            generalize w_8.alloc (.cells #[Value.int .i64 0, Value.int .i64 0] 31) = w_9 at *
            refine (Scan_is HO.out w_9 E_9.out).mono ?_
            rintro e w_10 ⟨hb, ao5, cp5, rfl, ht1⟩
            have B_10 := Lib.hid (B_9.out.trans (hb.mono s_9))
            have E_10 := Lib.hid (E_9.out.below hb)
            have A_10 := Lib.hid (A_9.out.below hb)
            have L_10 := Lib.hid (L_9.out.below hb)
            have i_10 := Lib.hid (i_9.out.below hb i_9.out.lt)
            have V_10 := Lib.hid (ht1)
            have s_10 := B_10.out.size
            clear hb ht1
            have hb := (Below.refl _ w_10).alloc (Nat.le_refl _) (.cells #[Value.int .i64 0, Value.int .i64 0] 31)
            have B_11 := Lib.hid (B_10.out.trans (hb.mono s_10))
            have E_11 := Lib.hid (E_10.out.below hb)
            have A_11 := Lib.hid (A_10.out.below hb)
            have L_11 := Lib.hid (L_10.out.below hb)
            have i_11 := Lib.hid (i_10.out.below hb i_10.out.lt)
            have V_11 := Lib.hid (V_10.out.below hb)
            have j_11 := Lib.hid (Blk.new w_10 31 #[Value.int .i64 0, Value.int .i64 0])
            have s_11 := B_11.out.size
            clear hb
            have c0 := i_11.out.cell 0
            have c1 := i_11.out.cell 1
            simp only [List.getElem?_toArray, List.getElem?_cons_zero, List.getElem?_cons_succ] at c0 c1
            have d0 := j_11.out.cell 0
            have d1 := j_11.out.cell 1
            simp only [List.getElem?_toArray, List.getElem?_cons_zero, List.getElem?_cons_succ] at d0 d1
            go_wp2_with fail
            generalize w_10.alloc (.cells #[Value.int .i64 0, Value.int .i64 0] 31) = w_11 at *
            have hpre : TokSl w_11 (.slice (some ⟨gA, 0, none⟩) toks.length cpA) toks := tok_pre HAL.out L_11.out
            refine (same_refl toks _ _ w_11 hpre A_11.out (by have := HT.out; omega)).mono ?_
            rintro e w9 ⟨rfl, m1, rfl⟩
            clear c0 c1 d0 d1 hpre
            have hb : Below w_11.heap.size w_11 (w_11.drewN m1) := ⟨rfl, rfl, rfl, Nat.le_refl _, fun _ _ => rfl⟩
            have B_12 := Lib.hid (B_11.out.trans (hb.mono s_11))
            have E_12 := Lib.hid (E_11.out.below hb)
            have A_12 := Lib.hid (A_11.out.below hb)
            have L_12 := Lib.hid (L_11.out.below hb)
            have V_12 := Lib.hid (V_11.out.below hb)
            have s_12 := B_12.out.size
            clear hb
            generalize w_11.drewN m1 = w_12 at *
            go_wp2
            go_loopw [19] (fun i wr => ∃ k : Nat, k ≤ d.length ∧ i = .int .i64 k ∧ Below w_12.heap.size w_12 wr) (fun i _ => d.length - (intOf i).toNat)
            case atStart => exact ⟨0, Nat.zero_le _, rfl, Below.refl _ _⟩
            case round =>
              obtain ⟨k, hk, rfl, hbw⟩ := hrel
              have HBW := Lib.hid hbw
              clear hbw
              have sz : w_12.heap.size ≤ wr.heap.size := HBW.out.size
              have hdn := HDN.out
              by_cases hlt : k < d.length
              · obtain ⟨aoV, cpV, hvV, hV⟩ := (V_12.out.below HBW.out)
                injection hvV with e1 e2 e3
                subst e1 e3
                rcases hV with hnil | ⟨gV, oV, rfl, _, hrV⟩
                · rw [hnil] at hlt; simp at hlt
                · obtain ⟨v0, v1, v2⟩ := hrV k d[k] (List.getElem?_eq_getElem hlt)
                  obtain ⟨J, hJ⟩ : ∃ J, toks.length + k = J := ⟨_, rfl⟩
                  have hJl : J < ALL.length := by have := HLEN.out; omega
                  obtain ⟨aoL, cpL, hvL, hL⟩ := (L_12.out.below HBW.out)
                  injection hvL with e1 e2 e3
                  subst e1 e3
                  rcases hL with hnil | ⟨gL, oL, hgo, _, hrL⟩
                  · rw [hnil] at hJl; simp at hJl
                  · injection hgo with hgo
                    injection hgo with hg1 hg2
                    subst hg1 hg2
                    obtain ⟨u0, u1, u2⟩ := hrL J (d[k].down (N + 1)) (by rw [HAL.out, ← hJ, List.getElem?_append_right (by omega), show toks.length + k - toks.length = k by omega, List.getElem?_map, List.getElem?_eq_getElem hlt]; rfl)
                    have hline : (d[k].down (N + 1)).line = d[k].line + (N : Int) + 1 := by simp [Tok.down, Int.add_assoc]
                    rw [hline] at u2
                    have hkd : (d[k].down (N + 1)).kind = d[k].kind := rfl
                    have hxt : (d[k].down (N + 1)).text = d[k].text := rfl
                    rw [hkd] at u0
                    rw [hxt] at u1
                    simp only [Nat.zero_add] at u0 u1 u2
                    obtain ⟨l1, l2⟩ := HDL.out d[k] (List.getElem_mem hlt)
                    have hw1 : IntKind.i64.wrap (d[k].line + (N : Int)) = d[k].line + (N : Int) := by rw [IntKind.wrap_i64]; omega
                    have hw2 : IntKind.i64.wrap (d[k].line + (N : Int) + 1) = d[k].line + (N : Int) + 1 := by rw [IntKind.wrap_i64]; omega
                    have hwJ : IntKind.i64.wrap ((toks.length : Int) + (k : Int)) = (J : Int) := by rw [IntKind.wrap_i64]; have := HT.out; omega
                    have j0 : (0 : Int) ≤ (J : Int) := by omega
                    have j1 : (J : Int) < (ALL.length : Int) := by omega
                    have hwk : IntKind.i64.wrap ((k : Int) + 1) = (k : Int) + 1 := by rw [IntKind.wrap_i64]; omega
                    clear hrV hrL hline hkd hxt l1 l2 hJ hJl
                    go_wp2
                    go_quiet (fail)
                    go_wp2
                    go_roundw
                    case rel => exact ⟨k + 1, hlt, by go_num, (HBW.out.alloc sz _).trans ⟨rfl, rfl, rfl, Nat.le_refl _, fun _ _ => rfl⟩⟩
                    case measure => simp [intOf]; omega
              · clear hk
                go_wp2_with fail
                refine (read_true wr (E_12.out.below HBW.out)).mono ?_
                rintro e w9 ⟨rfl, hb⟩
                have BZ := Lib.hid ((B_12.out.trans (HBW.out.mono s_12)).trans (hb.mono (by omega)))
                clear hb
                go_wp2
                go_ret
                exact ⟨rfl, BZ.out⟩
end Go.Proofs.YtophcjkfhneghaaDoor
