/- The contract of the cursor's parts. -/
import Derived.Test.YthcoppfdffhjfaaGreatDoorJ
namespace Go.Proofs.YthcoppfdffhjfaaGreatDoor
open Go Go.RowKit

theorem mayStand_v (l : List Bys) (g cap : Nat) (v : Bool) (hv : (mayL l && decide (l.length ≤ 6)) = v) (w : World) (he : Env w) (hr : StrRow w g 0 l) (hn : l.length ≤ 1000) :
    Calls Tryz.prog 104 #[.slice (some ⟨g, 0, none⟩) l.length cap] w fun e w' => e = .returned (.bool v) ∧ ∃ n, w' = w.drewN n := by
  subst hv; exact mayStand_any l g cap w he hr hn

/-- What holds at the head of the loop over parts. -/
def PRel (f cb : Nat) (s : Bys) (a1 : Nat) (w1 : World) (n : Nat) (v4 v5 v6 : Value) (wx : World) : Prop :=
  ∃ l kss a', Rows2 wx w1.heap.size v4 v5 l kss ∧ Cur wx cb s a' ∧ a1 ≤ a' ∧ a' ≤ s.length ∧ l.length ≤ a' ∧ w1.grownBy wx (some cb) ∧
    ((v6 = .bool true ∧ s.length - a' < n ∧ nxP (nx f) f (s.drop a1) = (nxP (nx f) n (s.drop a')).map fun p => (l ++ p.1, p.2)) ∨
     (v6 = .bool false ∧ l ≠ [] ∧ nxP (nx f) f (s.drop a1) = if seeB s a' 93 = true then some (l, s.drop (a' + 1)) else none))

theorem seeB_of {s : Bys} {a : Nat} {c : UInt8} {l : Bys} (h : s.drop a = c :: l) : seeB s a c = true := by
  unfold seeB; rw [h]; simp

theorem grown_row {a b d : World} {c : Nat} {row : Option Nat} (h : a.grownBy b (some c)) (k : b.grownBy d row) (hr : ∀ i, row = some i → a.heap.size ≤ i) : a.grownBy d (some c) :=
  ⟨k.os.trans h.os, k.tape.trans h.tape, k.output.trans h.output, Nat.le_trans h.size k.size, fun i hi hne => (k.block i (Nat.lt_of_lt_of_le hi h.size) (fun e => by have := hr i e.symm; omega)).trans (h.block i hi hne)⟩

set_option maxRecDepth 100000 in
set_option maxHeartbeats 25600000 in
theorem parts_any (f b1 b4 b5 b6 cb m a : Nat) (s : Bys) (hs : s.length ≤ 1000) (H : NextC f b1 b4 b5 b6 cb m s) (w : World) (hE : NxE w b1 b4 b5 b6 cb m s) (hC : Cur w cb s a) (ha : a ≤ s.length) (hf : s.length - a ≤ f) :
    Calls Tryz.prog 79 #[.pointer (some ⟨cb, 0, none⟩), nextF b1 b4 b5 b6] w (PartsPost f cb s a w) := by
  have HN := Lib.hid H
  have HE := Lib.hid hE
  have HC := Lib.hid hC
  clear H hE hC
  cases hb : seeB s a 91
  · have hno := Lib.hid (nxB_none (f := f) (seeB_false hb))
    have HB := Lib.hid hb
    clear hb
    unfold nextF
    go_enter Tryz.func79, Tryz.ntmps79
    go_wp2_with fail
    refine (take_no cb a s 91 HB.out _ HC.out ha).mono ?_
    rintro e w' ⟨rfl, hg⟩
    exact ⟨rfl, .inr ⟨hno.out, rfl, hg⟩⟩
  · obtain ⟨hd, hlt⟩ := seeB_true hb
    have HD := Lib.hid hd
    have HB := Lib.hid hb
    clear hd hb
    unfold nextF
    go_enter Tryz.func79, Tryz.ntmps79
    go_wp2_with fail
    refine (take_yes cb a s 91 HB.out _ HC.out hs).mono ?_
    rintro e w1 ⟨rfl, hC1, hG1⟩
    have HC1 := Lib.hid hC1
    have HG1 := Lib.hid hG1
    have HE1 := Lib.hid (HE.out.grown hG1)
    have hw1 : w.heap.size ≤ w1.heap.size := hG1.size
    have hcw := HC1.out.lt
    clear hC1 hG1
    go_wp2
    go_loopg [4, 5, 6] f (fun n v4 v5 v6 wx => PRel f cb s (a + 1) w1 n v4 v5 v6 wx)
    case atStart =>
      refine ⟨[], [], a + 1, ⟨World.ownsRow_nil _ _ _ _, World.ownsRow_nil _ _ _ _, rfl, (fun x hx => by cases hx), (fun i T vs hT => by simp at hT)⟩, HC1.out, Nat.le_refl _, by omega, by simp, grown_refl _ _, .inl ⟨rfl, by omega, ?_⟩⟩
      cases nxP (nx f) f (s.drop (a + 1)) <;> simp
    case round =>
      obtain ⟨l, kss, a', hR, hCx, ha1, ha2, hll, hGx, hcase⟩ := hrel
      have HR := Lib.hid hR
      have HCx := Lib.hid hCx
      have HGx := Lib.hid hGx
      have HEx := Lib.hid (HE1.out.grown hGx)
      clear hR hCx hGx
      rcases hcase with ⟨rfl, hn, heq⟩ | ⟨rfl, hne, heq⟩
      · have HEQ := Lib.hid heq
        clear heq
        go_wp2_with fail
        refine (word_any cb a' s _ HCx.out ha2 hs).mono ?_
        rintro e w2 ⟨rfl, hC2, hG2⟩
        have HC2 := Lib.hid hC2
        have HG2 := Lib.hid hG2
        have HE2 := Lib.hid (HEx.out.grown hG2)
        have HR2 := Lib.hid (HR.out.keep hG2 hcw)
        have hwl := wd_len s a'
        have hwr := wr_at s a'
        obtain ⟨n, rfl⟩ : ∃ n, gk = n + 1 := ⟨gk - 1, by omega⟩
        generalize hnm : wd (s.drop a') = nm at *
        generalize ha'' : a' + nm.length = a2 at *
        have HWR := Lib.hid hwr
        have HNM := Lib.hid hnm
        clear hC2 hG2 hwr hnm
        cases hb2 : seeB s a2 58
        · have hno := nxP_none (one := nx f) (n := n) (s := s.drop a') (by rw [HWR.out]; exact seeB_false hb2)
          have HNO := Lib.hid hno
          have HB2 := Lib.hid hb2
          clear hno hb2
          go_wp2_with fail
          refine (take_no cb a2 s 58 HB2.out _ HC2.out (by omega)).mono ?_
          rintro e w3 ⟨rfl, hg⟩
          refine ⟨rfl, .inr ⟨?_, rfl, grown_trans HG1.out (grown_trans HGx.out (grown_trans HG2.out hg))⟩⟩
          rw [HD.out]
          simp only [nxB]
          rw [HEQ.out, HNO.out]
          rfl
        · obtain ⟨hd2, hlt2⟩ := seeB_true hb2
          have HD2 := Lib.hid hd2
          have HB2 := Lib.hid hb2
          clear hd2 hb2
          go_wp2_with fail
          refine (take_yes cb a2 s 58 HB2.out _ HC2.out hs).mono ?_
          rintro e w3 ⟨rfl, hC3, hG3⟩
          have HC3 := Lib.hid hC3
          have HG3 := Lib.hid hG3
          have HE3 := Lib.hid (HE2.out.grown hG3)
          have HR3 := Lib.hid (HR2.out.keep hG3 hcw)
          clear hC3 hG3
          go_wp2_with fail
          refine (HN.out w3 (a2 + 1) HE3.out HC3.out (by omega) (by omega)).mono ?_
          rintro e w4 (⟨T, r, vs, hnx, rfl, hT, hC4, hG4⟩ | ⟨hnx, rfl, hG4⟩)
          · obtain ⟨an, nn, cn, ak, nk, ck, rfl⟩ := hT.four
            have hc3 := HC3.out.lt
            obtain ⟨hs1, _⟩ := nx_sound _ _ _ _ hnx
            have hsf := suffix_drop (a2 + 1) hs1
            have HRS := Lib.hid hsf.1
            have hrl := hsf.2
            have HNX := Lib.hid hnx
            have HT := Lib.hid hT
            have HC4 := Lib.hid hC4
            have HG4 := Lib.hid hG4
            have HE4 := Lib.hid (HE3.out.grown hG4)
            have HR4 := Lib.hid (HR3.out.keep hG4 hcw)
            have hz3 : w1.heap.size ≤ w3.heap.size := Nat.le_trans HGx.out.size (Nat.le_trans HG2.out.size HG3.out.size)
            have hz4 : w3.heap.size ≤ w4.heap.size := hG4.size
            have HT4 : Hid (TyV w4 (fun g => w1.heap.size ≤ g ∧ some g ≠ u4.ownBlock ∧ some g ≠ u5.ownBlock) T [.string (bs T.pr), .int .u8 T.kind, .slice an nn cn, .slice ak nk ck]) := Lib.hid (hT.mono fun g hg _ =>
              ⟨by omega, fun e => by have := (HR3.out.o4.lt g e.symm).2; omega, fun e => by have := (HR3.out.o5.lt g e.symm).2; omega⟩)
            have HGw : Hid (w1.grownBy w4 (some cb)) := Lib.hid (grown_trans HGx.out (grown_trans HG2.out (grown_trans HG3.out hG4)))
            have l4 := fun k (hk : u4.ownBlock = some k) => HR4.out.o4.lt k hk
            have l5 := fun k (hk : u5.ownBlock = some k) => HR4.out.o5.lt k hk
            have L4 := Lib.hid l4
            have L5 := Lib.hid l5
            clear hnx hT hC4 hG4 hs1 hsf l4 l5
            obtain ⟨i9, hi9, hz90, hz91, hz92⟩ := info_parts info9
            go_wp2_with (at_builtin; (refine wpList_append_lies _ rfl _ _ 48 rfl w1.heap.size 9 i9 _ 1 16 Tryz.underlying48 hi9 hz90 hz91 hz92 rfl (by decide) u4 l.length (strVs (l.map Prod.fst)) rfl ((HR4.out.o4.alloc _).alloc _) _ 1 1 [.string (bs nm)] rfl rfl ?c1 ?c2 (by omega) ?c3 ?c4 ?c5 (w4.heap.size + 1 + 1) ?c6 ?_))
            case c1 =>
              have h := heap_alloc_new (w4.alloc (.cells #[Value.string (bs T.pr), Value.int IntKind.u8 T.kind, Value.slice an nn cn, Value.slice ak nk ck] 58)) (.cells #[Value.string (bs nm)] 9)
              rw [World.size_alloc] at h
              exact World.news_of_block (cs := #[.string (bs nm)]) (t := 9) (fr := (0, 0)) h
            case c2 => simp [Value.oneCell']
            case c3 => unfold maxLen; omega
            case c4 => omega
            case c5 => simp; omega
            case c6 => simp
            intro g4 cap4 w5 ho4 hg4 hat4 hlt4
            have hA : Below w4.heap.size w4 (w4.alloc (.cells #[Value.string (bs T.pr), Value.int IntKind.u8 T.kind, Value.slice an nn cn, Value.slice ak nk ck] 58)) := (Below.refl _ _).alloc (Nat.le_refl _) _
            have hAB : Below w4.heap.size w4 ((w4.alloc (.cells #[Value.string (bs T.pr), Value.int IntKind.u8 T.kind, Value.slice an nn cn, Value.slice ak nk ck] 58)).alloc (.cells #[Value.string (bs nm)] 9)) := hA.alloc (by simp) _
            have hK : Blk ((w4.alloc (.cells #[Value.string (bs T.pr), Value.int IntKind.u8 T.kind, Value.slice an nn cn, Value.slice ak nk ck] 58)).alloc (.cells #[Value.string (bs nm)] 9)) w4.heap.size 58 #[Value.string (bs T.pr), Value.int IntKind.u8 T.kind, Value.slice an nn cn, Value.slice ak nk ck] := (Blk.new w4 58 _).alloc _
            have hszAB : ((w4.alloc (.cells #[Value.string (bs T.pr), Value.int IntKind.u8 T.kind, Value.slice an nn cn, Value.slice ak nk ck] 58)).alloc (.cells #[Value.string (bs nm)] 9)).heap.size = w4.heap.size + 1 + 1 := by simp
            generalize (w4.alloc (.cells #[Value.string (bs T.pr), Value.int IntKind.u8 T.kind, Value.slice an nn cn, Value.slice ak nk ck] 58)).alloc (.cells #[Value.string (bs nm)] 9) = wA at *
            have hK5 := hK.grown hg4 (fun e => by have := (L4.out _ e.symm).2; omega)
            have hC5 : Cur w5 cb s (s.length - r.length) := (HC4.out.below hAB HC4.out.lt).grown hg4 (fun e => by have := (L4.out _ e.symm).1; omega)
            have ho5 : w5.ownsRow w1.heap.size 58 4 u5 l.length kss.flatten := (HR4.out.o5.kept (grown_none hAB) (by cases u5.ownBlock <;> simp)).kept hg4 (by
              rcases own_apart HR4.out.o5 HR4.out.o4 (by decide) with q | q
              · exact .inl q
              · exact .inr q)
            have hGw5 : w1.grownBy w5 (some cb) := grown_row (grown_below HGw.out hAB) hg4 fun i hi => (L4.out i hi).1
            have hw5 : wA.heap.size ≤ w5.heap.size := hg4.size
            have q0 := Blk.cell hK5 0
            have q1 := Blk.cell hK5 1
            have q2 := Blk.cell hK5 2
            have q3 := Blk.cell hK5 3
            simp only [List.getElem?_toArray, List.getElem?_cons_zero, List.getElem?_cons_succ] at q0 q1 q2 q3
            have HO4 := Lib.hid ho4
            have HG5 := Lib.hid hg4
            have HAT4 := Lib.hid hat4
            have HAB := Lib.hid hAB
            have HSZ := Lib.hid hszAB
            have HC5 := Lib.hid hC5
            have HO5 := Lib.hid ho5
            have HGw5 := Lib.hid hGw5
            clear ho4 hg4 hat4 hAB hA hK hszAB hC5 ho5 hGw5 hK5
            obtain ⟨i58, hi58, hz580, hz581, hz582⟩ := info_parts info58
            go_wp2_with (at_builtin; (refine wpList_append_lies _ rfl _ _ 56 rfl w1.heap.size 58 i58 _ 4 72 Tryz.underlying56 hi58 hz580 hz581 hz582 rfl (by decide) u5 l.length kss.flatten rfl (HO5.out.alloc _) _ 1 1 [.string (bs T.pr), .int .u8 T.kind, .slice an nn cn, .slice ak nk ck] rfl rfl ?d1 ?d2 (by omega) ?d3 ?d4 ?d5 (w5.heap.size + 1) ?d6 ?_))
            case d1 => exact World.news_of_block (cs := #[.string (bs T.pr), .int .u8 T.kind, .slice an nn cn, .slice ak nk ck]) (t := 58) (fr := (0, 0)) (heap_alloc_new w5 _)
            case d2 => simp [Value.oneCell']
            case d3 => unfold maxLen; omega
            case d4 => omega
            case d5 => have := HSZ.out; simp; omega
            case d6 => simp
            intro g5 cap5 w6 ho5 hg5 hat5 hlt5
            have hB5 : Below w5.heap.size w5 (w5.alloc (.cells #[Value.string (bs T.pr), Value.int IntKind.u8 T.kind, Value.slice an nn cn, Value.slice ak nk ck] 58)) := (Below.refl _ _).alloc (Nat.le_refl _) _
            have hs6 : (w5.alloc (.cells #[Value.string (bs T.pr), Value.int IntKind.u8 T.kind, Value.slice an nn cn, Value.slice ak nk ck] 58)).heap.size = w5.heap.size + 1 := by simp
            have hz45 : w4.heap.size + 2 ≤ w5.heap.size := by have := HSZ.out; omega
            generalize w5.alloc (.cells #[Value.string (bs T.pr), Value.int IntKind.u8 T.kind, Value.slice an nn cn, Value.slice ak nk ck] 58) = wB at *
            have hR6 : Rows2 w6 w1.heap.size (.slice (some ⟨g4, 0, none⟩) (l.length + 1) cap4) (.slice (some ⟨g5, 0, none⟩) (l.length + 1) cap5) (l ++ [(nm, T)]) (kss ++ [[.string (bs T.pr), .int .u8 T.kind, .slice an nn cn, .slice ak nk ck]]) :=
              HR4.out.more (by omega) HT4.out HAB.out HG5.out HO4.out (fun k hk => by
                have hk : g4 = k := by simpa [Value.ownBlock] using hk
                subst hk
                rcases HAT4.out with q | q
                · exact .inl q
                · exact .inr (by have := HSZ.out; omega)) hB5 hg5 ho5 (fun k hk => by
                have hk : g5 = k := by simpa [Value.ownBlock] using hk
                subst hk
                rcases hat5 with q | q
                · exact .inl q
                · exact .inr (by omega))
            have hC6 : Cur w6 cb s (s.length - r.length) := (HC5.out.below hB5 HC5.out.lt).grown hg5 (fun e => by have := (L5.out _ e.symm).1; omega)
            have hGw6 : w1.grownBy w6 (some cb) := grown_row (grown_below HGw5.out hB5) hg5 fun i hi => (L5.out i hi).1
            have HR6 := Lib.hid hR6
            have HC6 := Lib.hid hC6
            have HGw6 := Lib.hid hGw6
            have hll6 : (l ++ [(nm, T)]).length = l.length + 1 := by simp
            have hnm1 : a' ≤ a2 := by omega
            clear hR6 hC6 hGw6 ho5 hg5 hat5 hB5 hs6 q0 q1 q2 q3
            cases hb3 : seeB s (s.length - r.length) 44
            · have hno := seeB_false hb3
              rw [← HRS.out] at hno
              have HNO := Lib.hid hno
              have HB3 := Lib.hid hb3
              clear hno hb3
              go_wp2_with fail
              refine (have_no cb _ s 44 HB3.out _ HC6.out (by omega)).mono ?_
              rintro e w7 ⟨rfl, hC7, hG7⟩
              have HC7 := Lib.hid hC7
              have HG7 := Lib.hid hG7
              clear hC7 hG7
              go_wp2
              go_roundg n
              case measure => omega
              case rel =>
                refine ⟨l ++ [(nm, T)], _, s.length - r.length, HR6.out.keep HG7.out hcw, HC7.out, by omega, by omega, by omega, grown_trans HGw6.out HG7.out, .inr ⟨rfl, by simp, ?_⟩⟩
                rw [HEQ.out]
                cases hb4 : seeB s (s.length - r.length) 93
                · have hno2 := seeB_false hb4
                  rw [← HRS.out] at hno2
                  rw [nxP_stop (HWR.out.trans HD2.out) HNX.out HNO.out hno2]
                  rfl
                · have hd4 := (seeB_true hb4).1
                  have e := HNX.out
                  rw [HRS.out, hd4] at e
                  rw [nxP_last (HWR.out.trans HD2.out) e, HNM.out]
                  rfl
            · obtain ⟨hd3, hlt3⟩ := seeB_true hb3
              have HD3 := Lib.hid hd3
              have HB3 := Lib.hid hb3
              clear hd3 hb3
              go_wp2_with fail
              refine (have_yes cb _ s 44 HB3.out _ HC6.out hs).mono ?_
              rintro e w7 ⟨rfl, hC7, hG7⟩
              have HC7 := Lib.hid hC7
              have HG7 := Lib.hid hG7
              clear hC7 hG7
              go_wp2
              go_roundg n
              case measure => omega
              case rel =>
                refine ⟨l ++ [(nm, T)], _, s.length - r.length + 1, HR6.out.keep HG7.out hcw, HC7.out, by omega, by omega, by omega, grown_trans HGw6.out HG7.out, .inl ⟨rfl, by omega, ?_⟩⟩
                have e := HNX.out
                rw [HRS.out, HD3.out] at e
                rw [HEQ.out, nxP_more (HWR.out.trans HD2.out) e, HNM.out, Option.map_map]
                congr 1
                funext p
                simp
          · refine ⟨rfl, .inr ⟨?_, rfl, grown_trans HG1.out (grown_trans HGx.out (grown_trans HG2.out (grown_trans HG3.out hG4)))⟩⟩
            rw [HD.out]
            simp only [nxB]
            rw [HEQ.out, nxP_fail (HWR.out.trans HD2.out) hnx]
            rfl
      · have HEQ := Lib.hid heq
        clear heq
        cases hb4 : seeB s a' 93
        · have HB4 := Lib.hid hb4
          clear hb4
          go_wp2_with fail
          refine (take_no cb a' s 93 HB4.out _ HCx.out ha2).mono ?_
          rintro e w3 ⟨rfl, hg⟩
          refine ⟨rfl, .inr ⟨?_, rfl, grown_trans HG1.out (grown_trans HGx.out hg)⟩⟩
          rw [HD.out]
          simp only [nxB]
          rw [HEQ.out, HB4.out]
          rfl
        · have HB4 := Lib.hid hb4
          have hlt4 := (seeB_true hb4).2
          clear hb4
          have hpos : 0 < l.length := List.length_pos_iff.2 hne
          obtain ⟨ns, hns⟩ : ∃ ns, l.map Prod.fst = ns := ⟨_, rfl⟩
          have hlm : ns.length = l.length := by rw [← hns, List.length_map]
          have HNS := Lib.hid hns
          have HLM := Lib.hid hlm
          have hlm2 : ns.length ≤ 1000 := by omega
          obtain ⟨g4, cap4, rfl, hg4, hl4, hr4⟩ := own_strs (l := ns) (by rw [← hns, List.length_map]; exact HR.out.o4) (by omega)
          obtain ⟨g5, cap5, rfl, hg5, hl5, hr5⟩ := own_kids (kss := kss) (by rw [HR.out.len]; exact HR.out.o5) HR.out.four (by rw [HR.out.len]; exact hpos)
          have HN4 : Hid (NmV wr (fun g => w1.heap.size ≤ g) (.slice (some ⟨g4, 0, none⟩) ns.length cap4) ns) := Lib.hid (.inr ⟨g4, cap4, rfl, hg4, hl4, hr4, by rintro rfl; simp at hlm; omega⟩)
          have HK5 : Hid (KdV wr (fun g => w1.heap.size ≤ g) (.slice (some ⟨g5, 0, none⟩) kss.length cap5) kss) := Lib.hid (.inr ⟨g5, cap5, rfl, hg5, hl5, hr5, by rintro rfl; have := HR.out.len; simp at this; omega⟩)
          have HR4 := Lib.hid hr4
          clear hr4 hr5 hns hlm
          go_wp2_with fail
          refine (take_yes cb a' s 93 HB4.out _ HCx.out hs).mono ?_
          rintro e w3 ⟨rfl, hC3, hG3⟩
          have HC3 := Lib.hid hC3
          have HG3 := Lib.hid hG3
          have HE3 := Lib.hid (HEx.out.grown hG3)
          have hr4' : StrRow w3 g4 0 ns := HR4.out.keep (hG3.block g4 hl4 (by simp; omega))
          have HR4' := Lib.hid hr4'
          have hw3 : wr.heap.size ≤ w3.heap.size := hG3.size
          clear hC3 hG3 hr4'
          cases hmay : (mayL ns && decide (ns.length ≤ 6))
          · have HM := Lib.hid hmay
            clear hmay
            go_wp2_with fail
            refine (mayStand_v ns g4 cap4 false HM.out w3 HE3.out.env HR4'.out hlm2).mono ?_
            rintro e w4 ⟨rfl, nq, rfl⟩
            go_wp2
            refine ⟨rfl, .inr ⟨?_, rfl, grown_drewN (grown_trans HG1.out (grown_trans HGx.out HG3.out)) _⟩⟩
            rw [HD.out]
            simp only [nxB]
            rw [HEQ.out, HB4.out]
            simp only [if_true]
            rw [if_neg]
            have := HM.out
            rw [HLM.out] at this
            rw [HNS.out]
            simpa using this
          · have HM := Lib.hid hmay
            clear hmay
            go_wp2_with fail
            refine (mayStand_v ns g4 cap4 true HM.out w3 HE3.out.env HR4'.out hlm2).mono ?_
            rintro e w4 ⟨rfl, nq, rfl⟩
            go_wp2
            go_ret2
            have kp : ∀ g, w1.heap.size ≤ g → g < wr.heap.size → (w3.drewN nq).heap[g]? = wr.heap[g]? := fun g h1 h2 => HG3.out.block g h2 (by simp; omega)
            refine .inl ⟨l, s.drop (a' + 1), .slice (some ⟨g4, 0, none⟩) ns.length cap4, _, kss, ?_, rfl, by have h : NmV (w3.drewN nq) (fun g => w.heap.size ≤ g) (.slice (some ⟨g4, 0, none⟩) ns.length cap4) ns := (HN4.out.keep (w' := w3.drewN nq) hw3 kp).mono (fun g hg _ => by omega); rw [HNS.out]; exact h, (HK5.out.keep (w' := w3.drewN nq) hw3 kp).mono (fun g hg _ => by omega), HR.out.len, hne, fun i T vs hT hvs => ((HR.out.tys i T vs hT hvs).keep (w' := w3.drewN nq) hw3 fun g hg h2 => kp g hg.1 h2).mono fun g hg _ => by have := hg.1; omega, ?_, grown_drewN (grown_trans HG1.out (grown_trans HGx.out HG3.out)) _⟩
            · rw [HD.out]
              simp only [nxB]
              rw [HEQ.out, HB4.out]
              simp only [if_true]
              rw [if_pos]
              have := HM.out
              rw [HLM.out] at this
              rw [HNS.out]
              simpa using this
            · have e : s.length - (s.drop (a' + 1)).length = a' + 1 := by rw [List.length_drop]; omega
              rw [e]
              exact HC3.out.drewN nq
end Go.Proofs.YthcoppfdffhjfaaGreatDoor
