/- The law TokenMemory answers true: the walk. -/
import Derived.Test.YtophcjkfhneghaaDoorYi
namespace Go.Proofs.YtophcjkfhneghaaDoor
open Go Go.RowKit

/-- A slice's own row of tokens can be written. -/
theorem own_block {w : World} {base n size : Nat} {e : TypeId} {v : Value} {xs : List Value} (h : w.ownsRow base e size v n xs) (hn : 0 < n) (hx : xs.length = n * size) : ∃ g cap cs, v = .slice (some ⟨g, 0, none⟩) n cap ∧ base ≤ g ∧ Blk w g e cs ∧ n * size ≤ cs.size := by
  rcases h with ⟨h1, ⟨_, h0⟩ | ⟨g, cap, cur, hv, hg, hh, hc, _, hcs, ht⟩⟩
  · omega
  · refine ⟨g, cap, cur, hv, hg, hh, ?_⟩
    have := congrArg List.length ht
    rw [List.length_take, hx] at this
    simp at this
    omega

theorem cell_at {w : World} {g : Nat} {t : TypeId} {cs : Array Value} (h : Blk w g t cs) (i : Nat) (hi : i < cs.size) : ∃ x, w.cell? ⟨g, i, none⟩ = some x :=
  ⟨cs[i], by rw [h.cell i]; exact Array.getElem?_eq_getElem hi⟩

theorem below_some {w w' W : World} {B g : Nat} (h : Below B W w) (hB : B ≤ w.heap.size) (hg : w.grownBy w' (some g)) (hBg : B ≤ g) : Below B W w' :=
  h.grown hg hB fun k hk => by injection hk with hk; omega

set_option maxRecDepth 100000 in
set_option maxHeartbeats 12800000 in
theorem TokenMemory_true (s : ByteArray) (w : World) (he : Env w) : Calls Tryd.prog 11 #[.string s] w fun e w' => e = .returned (.bool true) ∧ Below w.heap.size w w' := by
  have HE := Lib.hid he
  have w7 : 7 ≤ w.heap.size := he.size
  clear he
  cases hq : shortL s.data.toList
  · go_enter Tryd.func11, Tryd.ntmps11
    go_wp2_with fail
    refine (short_one s false hq w.heap.size _ (Blk.new w 9 #[.string s])).mono ?_
    rintro e w1 ⟨rfl, rfl⟩
    have be := (Below.refl _ w).alloc (Nat.le_refl _) (.cells #[Value.string s] 9)
    have B1 := Lib.hid be
    have E1 := Lib.hid (HE.out.below be)
    clear be
    generalize w.alloc (.cells #[Value.string s] 9) = w1 at *
    have s1 := B1.out.size
    go_wp2_with fail
    refine (read_true _ E1.out).mono ?_
    rintro e w2 ⟨rfl, hb⟩
    have HB := Lib.hid hb
    clear hb
    go_wp2
    go_ret
    exact ⟨rfl, B1.out.trans (HB.out.mono s1)⟩
  · go_enter Tryd.func11, Tryd.ntmps11
    go_wp2_with fail
    refine (short_one s true hq w.heap.size _ (Blk.new w 9 #[.string s])).mono ?_
    rintro e w1 ⟨rfl, rfl⟩
    have be := (Below.refl _ w).alloc (Nat.le_refl _) (.cells #[Value.string s] 9)
    have B1 := Lib.hid be
    have E1 := Lib.hid (HE.out.below be)
    clear be
    generalize w.alloc (.cells #[Value.string s] 9) = w1 at *
    have s1 := B1.out.size
    go_wp2_with fail
    refine (Words_any w1 E1.out).mono ?_
    rintro e w2 ⟨rfl, hk, hb⟩
    have B2 := Lib.hid (B1.out.trans (hb.mono s1))
    have E2 := Lib.hid (E1.out.below hb)
    have P2 := Lib.hid hk
    have l2 := hk.lt
    have s2 := hb.size
    clear hb hk
    go_wp2_with fail
    refine (Signs_any w2 E2.out).mono ?_
    rintro e w3 ⟨rfl, hk, hb⟩
    have B3 := Lib.hid (B2.out.trans (hb.mono (by omega)))
    have E3 := Lib.hid (E2.out.below hb)
    have P3 := Lib.hid (P2.out.below hb l2)
    have Q3 := Lib.hid hk
    have l3 := hk.lt
    have s3 := hb.size
    clear hb hk
    go_wp2_with fail
    refine (Scan_any s w3 E3.out).mono ?_
    rintro e w4 ⟨hb, h4⟩
    have B4 := Lib.hid (B3.out.trans (hb.mono (by omega)))
    have E4 := Lib.hid (E3.out.below hb)
    have P4 := Lib.hid (P3.out.below hb (by omega))
    have Q4 := Lib.hid (Q3.out.below hb l3)
    have s4 := hb.size
    clear hb
    have h4' : ∃ (n : Nat) (ao : Option Addr) (cap : Nat) (c ln : Int), n ≤ 100000 ∧ e = .returned (.tuple #[.slice ao n cap, .agg #[.int .i64 c, .int .i64 ln]]) ∧ (n = 0 ∨ ∃ g cs, ao = some ⟨g, 0, none⟩ ∧ w3.heap.size ≤ g ∧ Blk w4 g 38 cs ∧ n * 3 ≤ cs.size) := by
      rcases h4 with ⟨toks, cs, vt, hs, rfl, ho⟩ | ⟨c, ln, hs, rfl⟩
      · obtain ⟨f1, _⟩ := scanT_small hs
        by_cases hn : 0 < toks.length
        · obtain ⟨g, cap, cs, rfl, hg, hb, hz⟩ := own_block ho hn (tokVs_length _)
          exact ⟨toks.length, _, cap, 0, 0, by omega, rfl, .inr ⟨g, cs, rfl, hg, hb, hz⟩⟩
        · obtain ⟨ao, cap, rfl⟩ := own_len ho
          exact ⟨toks.length, ao, cap, 0, 0, by omega, rfl, .inl (by omega)⟩
      · exact ⟨0, none, 0, c, ln, by omega, rfl, .inl rfl⟩
    clear h4
    obtain ⟨n, ao, cp, c, ln, hn, rfl, h4⟩ := h4'
    have H4 := Lib.hid h4
    clear h4
    go_wp2_with fail
    have be := (Below.refl _ w4).alloc (Nat.le_refl _) (.cells #[Value.int .i64 c, Value.int .i64 ln] 31)
    have B5 := Lib.hid (B4.out.trans (be.mono (by omega)))
    have E5 := Lib.hid (E4.out.below be)
    have P5 := Lib.hid (P4.out.below be (by omega))
    have Q5 := Lib.hid (Q4.out.below be (by omega))
    have H5 : Hid (n = 0 ∨ ∃ g cs, ao = some ⟨g, 0, none⟩ ∧ w3.heap.size ≤ g ∧ Blk (w4.alloc (.cells #[Value.int .i64 c, Value.int .i64 ln] 31)) g 38 cs ∧ n * 3 ≤ cs.size) := by
      refine Lib.hid ?_
      rcases H4.out with h | ⟨g, cs, h1, h2, h3, h4⟩
      · exact .inl h
      · exact .inr ⟨g, cs, h1, h2, h3.below be h3.lt, h4⟩
    have s5 := be.size
    clear be
    generalize w4.alloc (.cells #[Value.int .i64 c, Value.int .i64 ln] 31) = w5 at *
    go_loopw [7] (fun i wr => ∃ (k : Nat) (cs : Array Value), k ≤ 46 ∧ i = .int .i64 k ∧ Blk wr w1.heap.size 54 cs ∧ cs.size = 46 ∧ w5.grownBy wr (some w1.heap.size)) (fun i _ => 46 - (intOf i).toNat)
    case atStart => exact ⟨0, strsV wordL, by omega, rfl, P5.out, by rw [strsV_size]; rfl, grown_refl _ _⟩
    case round =>
      obtain ⟨k, cs, hk, rfl, hbk, hcs, hgr⟩ := hrel
      have HGR := Lib.hid hgr
      have HBK := Lib.hid hbk
      have HCS := Lib.hid hcs
      clear hgr hbk hcs
      by_cases hlt : k < 46
      · obtain ⟨x0, a0⟩ := cell_at HBK.out k (by have := HCS.out; omega)
        have f0 := HBK.out.frozen k
        go_wp2
        go_roundw
        case rel => exact ⟨k + 1, _, by omega, by go_num, HBK.out.set_ k _, by rw [Array.size_setIfInBounds]; exact HCS.out, grown_set HGR.out _⟩
        case measure => simp [intOf]; omega
      · have B6 := Lib.hid (below_some B5.out (by omega) HGR.out s1)
        have E6 := Lib.hid (E5.out.grown HGR.out (by omega))
        have Q6 := Lib.hid (Q5.out.grown HGR.out (by intro e; injection e with e; omega))
        have H6 : Hid (n = 0 ∨ ∃ g cs, ao = some ⟨g, 0, none⟩ ∧ w3.heap.size ≤ g ∧ Blk wr g 38 cs ∧ n * 3 ≤ cs.size) := by
          refine Lib.hid ?_
          rcases H5.out with h | ⟨g, cs, h1, h2, h3, h4⟩
          · exact .inl h
          · exact .inr ⟨g, cs, h1, h2, h3.grown HGR.out (by intro e; injection e with e; omega), h4⟩
        have s6 := HGR.out.size
        clear HGR HBK HCS
        obtain ⟨w6, hw6⟩ : ∃ w6, w6 = wr := ⟨_, rfl⟩
        subst hw6
        go_wp2_with fail
        go_loopw [8] (fun i wr => ∃ (k : Nat) (cs : Array Value), k ≤ 21 ∧ i = .int .i64 k ∧ Blk wr w2.heap.size 56 cs ∧ cs.size = 21 ∧ w6.grownBy wr (some w2.heap.size)) (fun i _ => 21 - (intOf i).toNat)
        case atStart => exact ⟨0, strsV signL, by omega, rfl, Q6.out, by rw [strsV_size]; rfl, grown_refl _ _⟩
        case round =>
          obtain ⟨k2, cs2, hk2, rfl, hbk, hcs, hgr⟩ := hrel
          have HGR := Lib.hid hgr
          have HBK := Lib.hid hbk
          have HCS := Lib.hid hcs
          clear hgr hbk hcs
          by_cases hlt2 : k2 < 21
          · obtain ⟨x0, a0⟩ := cell_at HBK.out k2 (by have := HCS.out; omega)
            have f0 := HBK.out.frozen k2
            go_wp2
            go_roundw
            case rel => exact ⟨k2 + 1, _, by omega, by go_num, HBK.out.set_ k2 _, by rw [Array.size_setIfInBounds]; exact HCS.out, grown_set HGR.out _⟩
            case measure => simp [intOf]; omega
          · have B7 := Lib.hid (below_some B6.out (by omega) HGR.out (by omega))
            have E7 := Lib.hid (E6.out.grown HGR.out (by omega))
            have H7 : Hid (n = 0 ∨ ∃ g cs, ao = some ⟨g, 0, none⟩ ∧ w3.heap.size ≤ g ∧ Blk wr g 38 cs ∧ n * 3 ≤ cs.size) := by
              refine Lib.hid ?_
              rcases H6.out with h | ⟨g, cs, h1, h2, h3, h4⟩
              · exact .inl h
              · exact .inr ⟨g, cs, h1, h2, h3.grown HGR.out (by intro e; injection e with e; omega), h4⟩
            have s7 := HGR.out.size
            clear HGR HBK HCS
            obtain ⟨w7', hw7⟩ : ∃ w7, w7 = wr := ⟨_, rfl⟩
            subst hw7
            go_wp2_with fail
            go_loopw [9] (fun i wr => ∃ (k : Nat), k ≤ n ∧ i = .int .i64 k ∧ Below w.heap.size w wr ∧ Env wr ∧ w7'.heap.size ≤ wr.heap.size ∧ (n = 0 ∨ ∃ g cs, ao = some ⟨g, 0, none⟩ ∧ w3.heap.size ≤ g ∧ Blk wr g 38 cs ∧ n * 3 ≤ cs.size)) (fun i _ => n - (intOf i).toNat)
            case atStart => exact ⟨0, by omega, rfl, B7.out, E7.out, Nat.le_refl _, H7.out⟩
            case round =>
              obtain ⟨k3, hk3, rfl, hbw, hew, hsw, hrow⟩ := hrel
              have HBW := Lib.hid hbw
              have HEW := Lib.hid hew
              have HRW := Lib.hid hrow
              clear hbw hew hrow
              by_cases hlt3 : k3 < n
              · obtain ⟨g, cs3, hao, hg, hbk, hcs⟩ := HRW.out.resolve_left (by omega)
                subst hao
                have HBK := Lib.hid hbk
                have HCS := Lib.hid hcs
                clear hbk hcs
                obtain ⟨x0, a0⟩ := cell_at HBK.out (k3 * 3) (by have := HCS.out; omega)
                obtain ⟨x1, a1⟩ := cell_at HBK.out (k3 * 3 + 1) (by have := HCS.out; omega)
                obtain ⟨x2, a2⟩ := cell_at HBK.out (k3 * 3 + 2) (by have := HCS.out; omega)
                have f0 := HBK.out.frozen (k3 * 3)
                have f1 := HBK.out.frozen (k3 * 3 + 1)
                have f2 := HBK.out.frozen (k3 * 3 + 2)
                go_wp2
                go_roundw
                case rel =>
                  have hgw : w.heap.size ≤ g := by omega
                  refine ⟨k3 + 1, by omega, by go_num, ((HBW.out.setCell (show w.heap.size ≤ (⟨g, k3 * 3, none⟩ : Addr).block from hgw) _).setCell (show w.heap.size ≤ (⟨g, k3 * 3 + 1, none⟩ : Addr).block from hgw) _).setCell (show w.heap.size ≤ (⟨g, k3 * 3 + 2, none⟩ : Addr).block from hgw) _,
                    HEW.out.grown (grown_set (grown_set (grown_set (grown_refl wr (some g)) _) _) _) (by omega), by simpa using hsw, .inr ⟨g, _, rfl, hg, ((HBK.out.set_ _ _).set_ _ _).set_ _ _, by simpa using HCS.out⟩⟩
                case measure => simp [intOf]; omega
              · clear HRW H4 H5 H6 H7
                obtain ⟨w8, hw8⟩ : ∃ w8, w8 = wr := ⟨_, rfl⟩
                subst hw8
                have s8 := HBW.out.size
                go_wp2_with fail
                refine (Scan_out s w8 HEW.out).mono ?_
                rintro e w9 ⟨hb, a1, c1, rfl, ht1⟩
                have B9 := Lib.hid (HBW.out.trans (hb.mono s8))
                have E9 := Lib.hid (HEW.out.below hb)
                have T9 := Lib.hid ht1
                have s9 := hb.size
                clear hb ht1
                go_wp2_with fail
                have be := (Below.refl _ w9).alloc (Nat.le_refl _) (.cells #[Value.int .i64 (sflt s).1, Value.int .i64 (sflt s).2] 31)
                have B10 := Lib.hid (B9.out.trans (be.mono (by omega)))
                have E10 := Lib.hid (E9.out.below be)
                have T10 := Lib.hid (T9.out.below be)
                have s10 := be.size
                clear be
                generalize w9.alloc (.cells #[Value.int .i64 (sflt s).1, Value.int .i64 (sflt s).2] 31) = w10 at *
                refine (refScan_out s w10).mono ?_
                rintro e w11 ⟨hb, a2, c2, rfl, ht1⟩
                have B11 := Lib.hid (B10.out.trans (hb.mono (by omega)))
                have E11 := Lib.hid (E10.out.below hb)
                have T11 := Lib.hid (T10.out.below hb)
                have U11 := Lib.hid ht1
                have s11 := hb.size
                clear hb ht1
                go_wp2_with fail
                have be := (Below.refl _ w11).alloc (Nat.le_refl _) (.cells #[Value.int .i64 (sflt s).1, Value.int .i64 (sflt s).2] 31)
                have B12 := Lib.hid (B11.out.trans (be.mono (by omega)))
                have E12 := Lib.hid (E11.out.below be)
                have T12 := Lib.hid (T11.out.below be)
                have U12 := Lib.hid (U11.out.below be)
                have s12 := be.size
                clear be
                generalize w11.alloc (.cells #[Value.int .i64 (sflt s).1, Value.int .i64 (sflt s).2] 31) = w12 at *
                refine (read_true w12 E12.out).mono ?_
                rintro e w13 ⟨rfl, hb⟩
                have B13 := Lib.hid (B12.out.trans (hb.mono (by omega)))
                have E13 := Lib.hid (E12.out.below hb)
                have T13 := Lib.hid (T12.out.below hb)
                have U13 := Lib.hid (U12.out.below hb)
                have s13 := hb.size
                clear hb
                go_wp2_with fail
                refine (Words_any w13 E13.out).mono ?_
                rintro e w14 ⟨rfl, hk, hb⟩
                have B14 := Lib.hid (B13.out.trans (hb.mono (by omega)))
                have E14 := Lib.hid (E13.out.below hb)
                have T14 := Lib.hid (T13.out.below hb)
                have U14 := Lib.hid (U13.out.below hb)
                have K14 := Lib.hid (strRow_of_block hk)
                have l14 := hk.lt
                have s14 := hb.size
                clear hb hk
                go_wp2_with fail
                refine (refWords_any w14).mono ?_
                rintro e w15 ⟨rfl, hk, hb⟩
                have B15 := Lib.hid (B14.out.trans (hb.mono (by omega)))
                have E15 := Lib.hid (E14.out.below hb)
                have T15 := Lib.hid (T14.out.below hb)
                have U15 := Lib.hid (U14.out.below hb)
                have K15 := Lib.hid (K14.out.below hb l14)
                have L15 := Lib.hid (strRow_of_block hk)
                have s15 := hb.size
                clear hb hk
                go_wp2_with fail
                refine (same_words _ _ w15 K15.out L15.out).mono ?_
                rintro e w16 ⟨rfl, n1, rfl⟩
                go_wp2_with fail
                have be : Below w15.heap.size w15 (w15.drewN n1) := ⟨rfl, rfl, rfl, Nat.le_refl _, fun _ _ => rfl⟩
                have B16 := Lib.hid (B15.out.trans (be.mono (by omega)))
                have E16 := Lib.hid (E15.out.below be)
                have T16 := Lib.hid (T15.out.below be)
                have U16 := Lib.hid (U15.out.below be)
                have s16 := be.size
                clear be
                generalize w15.drewN n1 = w16 at *
                refine (Signs_any w16 E16.out).mono ?_
                rintro e w17 ⟨rfl, hk, hb⟩
                have B17 := Lib.hid (B16.out.trans (hb.mono (by omega)))
                have T17 := Lib.hid (T16.out.below hb)
                have U17 := Lib.hid (U16.out.below hb)
                have K17 := Lib.hid (strRow_of_block hk)
                have l17 := hk.lt
                have s17 := hb.size
                clear hb hk
                go_wp2_with fail
                refine (refSigns_any w17).mono ?_
                rintro e w18 ⟨rfl, hk, hb⟩
                have B18 := Lib.hid (B17.out.trans (hb.mono (by omega)))
                have T18 := Lib.hid (T17.out.below hb)
                have U18 := Lib.hid (U17.out.below hb)
                have K18 := Lib.hid (K17.out.below hb l17)
                have L18 := Lib.hid (strRow_of_block hk)
                have s18 := hb.size
                clear hb hk
                go_wp2_with fail
                refine (same_signs _ _ w18 K18.out L18.out).mono ?_
                rintro e w19 ⟨rfl, n2, rfl⟩
                go_wp2_with fail
                have be : Below w18.heap.size w18 (w18.drewN n2) := ⟨rfl, rfl, rfl, Nat.le_refl _, fun _ _ => rfl⟩
                have B19 := Lib.hid (B18.out.trans (be.mono (by omega)))
                have T19 := Lib.hid (T18.out.below be)
                have U19 := Lib.hid (U18.out.below be)
                clear be
                generalize w18.drewN n2 = w19 at *
                refine (same_refl (stoks s) _ _ w19 T19.out U19.out (stoks_few s)).mono ?_
                rintro e w20 ⟨rfl, n3, rfl⟩
                go_wp2
                go_ret
                exact ⟨rfl, B19.out.trans ⟨rfl, rfl, rfl, Nat.le_refl _, fun _ _ => rfl⟩⟩
end Go.Proofs.YtophcjkfhneghaaDoor
