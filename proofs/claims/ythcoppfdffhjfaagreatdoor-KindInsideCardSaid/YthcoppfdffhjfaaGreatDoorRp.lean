/- Match of package kind. -/
import Derived.Test.YthcoppfdffhjfaaGreatDoorRo
namespace Go.Proofs.YthcoppfdffhjfaaGreatDoor
open Go Go.RowKit

theorem matchT_err1 {p t : Bys} (h : chk p ≠ 0) : matchT p t = ([], false, chk p) := by
  unfold matchT
  rw [if_pos h]
theorem matchT_err2 {p t : Bys} (hp : chk p = 0) (h : chk t ≠ 0) : matchT p t = ([], false, chk t) := by
  unfold matchT
  rw [if_neg (by omega), if_pos h]
theorem matchT_open {p t : Bys} (hp : chk p = 0) (ho : p.contains 63 = true) (ht : chk t = 0) : matchT p t = ((matchT p t).1, !(matchT p t).1.isEmpty, 0) := by
  rcases matchT_cases hp ho ht with ⟨a, ha, _, h⟩ | ⟨_, h⟩
  · rw [h]
    obtain ⟨A, hA, rfl⟩ := chk_ok ha
    have := pr_ne A hA.wf
    cases hq : A.pr with
    | nil => exact absurd hq this
    | cons c l => rfl
  · rw [h]; rfl
theorem ret_match {a a' : Bys} {b b' : Bool} {e e' : Int} (h : (a, b, e) = (a', b', e')) : Ending.returned (.tuple #[.string (bs a), .bool b, .int .i64 e]) = .returned (.tuple #[.string (bs a'), .bool b', .int .i64 e']) := by
  injection h with h1 h2
  injection h2 with h2 h3
  rw [h1, h2, h3]

set_option maxRecDepth 100000 in
set_option maxHeartbeats 6400000 in
theorem Match_any (p t : Bys) (w : World) (he : Env w) : Calls Tryz.prog 40 #[.string (bs p), .string (bs t)] w fun e w' =>
    e = .returned (.tuple #[.string (bs (matchT p t).1), .bool (matchT p t).2.1, .int .i64 (matchT p t).2.2]) ∧ Below w.heap.size w w' := by
  have HE := Lib.hid he
  clear he
  go_enter Tryz.func40, Tryz.ntmps40
  go_wp2_with fail
  refine (read_any p w HE.out).mono ?_
  rintro e w1 ⟨hb, ⟨T, vs, hG, rfl, rfl, hT⟩ | ⟨hne, rfl⟩⟩
  · have HG := Lib.hid hG
    have HTY := Lib.hid hT
    obtain ⟨an, nn, cn, ak, nk, ck, rfl⟩ := hT.four
    have HB := Lib.hid hb
    clear hb hG hT
    have hb1 : Below w1.heap.size w1 (w1.alloc (.cells #[.string (bs T.pr), .int .u8 T.kind, .slice an nn cn, .slice ak nk ck] 58)) := (Below.refl _ _).alloc (Nat.le_refl _) _
    have hbk : Hid (Blk (w1.alloc (.cells #[.string (bs T.pr), .int .u8 T.kind, .slice an nn cn, .slice ak nk ck] 58)) w1.heap.size 58 #[.string (bs T.pr), .int .u8 T.kind, .slice an nn cn, .slice ak nk ck]) := Lib.hid (Blk.new _ _ _)
    have HB1 := Lib.hid (HB.out.trans (hb1.mono HB.out.size))
    have HE1 := Lib.hid (HE.out.below HB1.out)
    have HT1 := Lib.hid (HTY.out.keep hb1.size fun g _ h => hb1.block g h)
    have hsz : w1.heap.size < (w1.alloc (.cells #[.string (bs T.pr), .int .u8 T.kind, .slice an nn cn, .slice ak nk ck] 58)).heap.size := by simp
    have HSZ := Lib.hid hsz
    clear hsz hb1
    go_wp2_with fail
    generalize w1.alloc (.cells #[.string (bs T.pr), .int .u8 T.kind, .slice an nn cn, .slice ak nk ck] 58) = w2 at *
    generalize w1.heap.size = g1 at *
    refine (read_any t w2 HE1.out).mono ?_
    rintro e w3 ⟨hb, ⟨U, us, hG, rfl, rfl, hU⟩ | ⟨hne, rfl⟩⟩
    · have HGU := Lib.hid hG
      have HU := Lib.hid hU
      obtain ⟨an2, nn2, cn2, ak2, nk2, ck2, rfl⟩ := hU.four
      have HB2 := Lib.hid hb
      clear hb hG hU
      have hb3 : Below w3.heap.size w3 (w3.alloc (.cells #[.string (bs U.pr), .int .u8 U.kind, .slice an2 nn2 cn2, .slice ak2 nk2 ck2] 58)) := (Below.refl _ _).alloc (Nat.le_refl _) _
      have hbk2 : Hid (Blk (w3.alloc (.cells #[.string (bs U.pr), .int .u8 U.kind, .slice an2 nn2 cn2, .slice ak2 nk2 ck2] 58)) w3.heap.size 58 #[.string (bs U.pr), .int .u8 U.kind, .slice an2 nn2 cn2, .slice ak2 nk2 ck2]) := Lib.hid (Blk.new _ _ _)
      have hbb : Below w2.heap.size w2 (w3.alloc (.cells #[.string (bs U.pr), .int .u8 U.kind, .slice an2 nn2 cn2, .slice ak2 nk2 ck2] 58)) := HB2.out.trans (hb3.mono HB2.out.size)
      have hbk1 : Hid (Blk (w3.alloc (.cells #[.string (bs U.pr), .int .u8 U.kind, .slice an2 nn2 cn2, .slice ak2 nk2 ck2] 58)) g1 58 #[.string (bs T.pr), .int .u8 T.kind, .slice an nn cn, .slice ak nk ck]) := Lib.hid ((hbb.block g1 HSZ.out).trans hbk.out)
      have HB4 := Lib.hid (HB1.out.trans (hbb.mono HB1.out.size))
      have HE4 := Lib.hid (HE1.out.below hbb)
      have HT4 := Lib.hid (HT1.out.keep hbb.size fun g _ h => hbb.block g h)
      have HU4 := Lib.hid (HU.out.keep hb3.size fun g _ h => hb3.block g h)
      clear hb3 hbb
      have hcn : Lib.contains T.pr qt = openB T.pr := contains_qt (qOK_ty HG.out.wf)
      have HCN := Lib.hid hcn
      clear hcn
      have a0 := hbk1.out.cell 0
      have a1 := hbk1.out.cell 1
      have a2 := hbk1.out.cell 2
      have a3 := hbk1.out.cell 3
      have b0 := hbk2.out.cell 0
      have b1 := hbk2.out.cell 1
      have b2 := hbk2.out.cell 2
      have b3 := hbk2.out.cell 3
      simp only [List.getElem?_toArray, List.getElem?_cons_zero, List.getElem?_cons_succ] at a0 a1 a2 a3 b0 b1 b2 b3
      go_wp2_with fail
      generalize w3.alloc (.cells #[.string (bs U.pr), .int .u8 U.kind, .slice an2 nn2 cn2, .slice ak2 nk2 ck2] 58) = w4 at *
      generalize w3.heap.size = g3 at *
      refine (isOpen_v T.pr _ HCN.out (by have := HG.out.len; omega) _ HE4.out).mono ?_
      rintro e w5 ⟨rfl, rfl⟩
      cases ho : openB T.pr with
      | false =>
        have HR := Lib.hid (matchT_closed HG.out.chk ho HGU.out.chk)
        clear ho
        go_wp2
        go_ret3
        refine ⟨ret_match ?_, HB4.out⟩
        rw [HR.out]
        simp only [ByteArray.toList_eq, bs_data]
      | true =>
        have HR := Lib.hid (matchT_open HG.out.chk ho HGU.out.chk)
        have HO := Lib.hid ho
        clear ho
        go_wp2_with fail
        refine (match_any T U _ _ _ _ HE4.out (HT4.out.mono (S' := fun _ => True) fun _ _ _ => trivial) (HU4.out.mono (S' := fun _ => True) fun _ _ _ => trivial) HG.out HGU.out HO.out).mono ?_
        rintro e w6 ⟨rfl, hb6⟩
        have HB6 := Lib.hid hb6
        clear hb6
        go_wp2
        go_ret3
        refine ⟨ret_match ?_, HB4.out.trans (HB6.out.mono HB4.out.size)⟩
        rw [HR.out]
        simp only [ByteArray.toList_eq, bs_data]
    · have HN := Lib.hid hne
      have hn2 : (chk t != 0) = true := by simpa using hne
      have HB2 := Lib.hid (HB1.out.trans (hb.mono HB1.out.size))
      clear hb hne
      unfold zero4
      go_wp2
      go_ret3
      refine ⟨?_, HB2.out.alloc HB2.out.size _⟩
      rw [matchT_err2 HG.out.chk HN.out]
      rfl
  · have HB := Lib.hid hb
    have HN := Lib.hid hne
    have hn2 : (chk p != 0) = true := by simpa using hne
    clear hb hne
    unfold zero4
    go_wp2
    go_ret3
    refine ⟨?_, HB.out.alloc HB.out.size _⟩
    rw [matchT_err1 HN.out]
    rfl
end Go.Proofs.YthcoppfdffhjfaaGreatDoor
