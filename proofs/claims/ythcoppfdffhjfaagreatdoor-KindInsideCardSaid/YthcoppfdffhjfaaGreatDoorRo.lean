/- match. -/
import Derived.Test.YthcoppfdffhjfaaGreatDoorRn
import Derived.Deep.LoopGhost
import Derived.Deep.CutRange
import Derived.Deep.RegionHeld3
namespace Go.Proofs.YthcoppfdffhjfaaGreatDoor
open Go Go.RowKit

/-- What holds at the head of match's loop. -/
def MRel (P X : Ty) (w : World) (k : Nat) (v5 v6 : Value) (wr : World) : Prop :=
  ∃ arg q vs, v5 = .string (bs arg) ∧ Below w.heap.size w wr ∧ QRow wr w.heap.size v6 q.length vs ∧ Prs w (fun g => g < w.heap.size) q vs ∧ MInv P X arg q ∧ (allL (q.map Prod.fst)).length ≤ k ∧ k ≤ 101

/-- What the append leaves as it was. -/
theorem turns_cells {base : Nat} {w w' : World} {ob : Obj} (h : Turns (QT base) (w.alloc ob).drew w') (g o : Nat) (hg : g < w.heap.size) (hn : g < base ∨ ∃ cs, Blk w g 58 cs) : w'.cell? ⟨g, o, none⟩ = w.cell? ⟨g, o, none⟩ := by
  refine World.cell?_of_block (a := ⟨g, o, none⟩) ?_
  have e : (w.alloc ob).drew.heap[g]? = w.heap[g]? := Below.heap_alloc w ob g hg
  have hs : w.heap[g]? = some (w.heap[g]'hg) := Array.getElem?_eq_getElem hg
  rw [hs]
  refine h.same g _ (e.trans hs) ?_
  rintro ⟨h1, cs, fr, h2⟩
  rcases hn with hn | ⟨cs', hb⟩
  · omega
  · have : some (w.heap[g]'hg) = some (Obj.cells cs' 58 (0, 0)) := hs.symm.trans hb
    rw [h2] at this
    cases this
theorem turns_blk {base : Nat} {w w' : World} {ob : Obj} (h : Turns (QT base) (w.alloc ob).drew w') {g : Nat} {cs : Array Value} (hb : Blk w g 58 cs) : Blk w' g 58 cs := by
  refine h.same g _ ((Below.heap_alloc w ob g hb.lt).trans hb) ?_
  rintro ⟨_, cs', fr, h2⟩
  cases h2
theorem turns_below {base : Nat} {w w' : World} {ob : Obj} (h : Turns (QT base) (w.alloc ob).drew w') (hb : base ≤ w.heap.size) : Below base w w' := by
  refine ⟨h.os, h.tape, h.output, Nat.le_trans (by simp) h.size, fun k hk => ?_⟩
  have hg : k < w.heap.size := by omega
  have hs : w.heap[k]? = some (w.heap[k]'hg) := Array.getElem?_eq_getElem hg
  rw [hs]
  refine h.same k _ ((Below.heap_alloc w ob k hg).trans hs) ?_
  rintro ⟨h1, _⟩
  omega

theorem ret_string {a b : Bys} (h : a = b) : Ending.returned (.string (bs a)) = .returned (.string (bs b)) := by rw [h]

set_option maxRecDepth 100000 in
set_option maxHeartbeats 12800000 in
theorem match_any (P X : Ty) (ps xs : List Value) (S : Nat → Prop) (w : World) (he : Env w) (hp : TyV w S P ps) (hx : TyV w S X xs) (hP : Good P) (hX : Good X) (ho : P.pr.contains 63 = true) :
    Calls Tryz.prog 66 #[.agg ps.toArray, .agg xs.toArray] w fun e w' => e = .returned (.string (bs (matchT P.pr X.pr).1)) ∧ Below w.heap.size w w' := by
  have HE := Lib.hid he
  have HPS := Lib.hid (hp.mono (S' := fun g => g < w.heap.size) fun g _ h => h)
  have HXS := Lib.hid (hx.mono (S' := fun g => g < w.heap.size) fun g _ h => h)
  obtain ⟨an, nn, cn, ak, nk, ck, rfl⟩ := hp.four
  obtain ⟨an2, nn2, cn2, ak2, nk2, ck2, rfl⟩ := hx.four
  have HP := Lib.hid hP
  have HX := Lib.hid hX
  have HO := Lib.hid ho
  have HS0 := Lib.hid he.size
  clear he hp hx hP hX ho
  have hb1 := (Below.refl w.heap.size w).alloc (Nat.le_refl _) (.cells #[.string (bs P.pr), .int .u8 P.kind, .slice an nn cn, .slice ak nk ck] 58)
  have hb2 := hb1.alloc hb1.size (.cells #[.string (bs X.pr), .int .u8 X.kind, .slice an2 nn2 cn2, .slice ak2 nk2 ck2] 58)
  have hb3 := hb2.alloc hb2.size (.cells #[.string (bs P.pr), .int .u8 P.kind, .slice an nn cn, .slice ak nk ck, .string (bs X.pr), .int .u8 X.kind, .slice an2 nn2 cn2, .slice ak2 nk2 ck2] 96)
  have hq : QRow (((w.alloc (.cells #[.string (bs P.pr), .int .u8 P.kind, .slice an nn cn, .slice ak nk ck] 58)).alloc (.cells #[.string (bs X.pr), .int .u8 X.kind, .slice an2 nn2 cn2, .slice ak2 nk2 ck2] 58)).alloc (.cells #[.string (bs P.pr), .int .u8 P.kind, .slice an nn cn, .slice ak nk ck, .string (bs X.pr), .int .u8 X.kind, .slice an2 nn2 cn2, .slice ak2 nk2 ck2] 96)) w.heap.size (.slice (some ⟨w.heap.size + 1 + 1, 0, none⟩) 1 1) [(P, X)].length ([.string (bs P.pr), .int .u8 P.kind, .slice an nn cn, .slice ak nk ck] ++ ([.string (bs X.pr), .int .u8 X.kind, .slice an2 nn2 cn2, .slice ak2 nk2 ck2] ++ [])) := by
    refine ⟨rfl, _, 0, 1, #[.string (bs P.pr), .int .u8 P.kind, .slice an nn cn, .slice ak nk ck, .string (bs X.pr), .int .u8 X.kind, .slice an2 nn2 cn2, .slice ak2 nk2 ck2], rfl, by omega, ?_, by simp, by simp, rfl⟩
    have := heap_alloc_new ((w.alloc (.cells #[.string (bs P.pr), .int .u8 P.kind, .slice an nn cn, .slice ak nk ck] 58)).alloc (.cells #[.string (bs X.pr), .int .u8 X.kind, .slice an2 nn2 cn2, .slice ak2 nk2 ck2] 58)) (.cells #[.string (bs P.pr), .int .u8 P.kind, .slice an nn cn, .slice ak nk ck, .string (bs X.pr), .int .u8 X.kind, .slice an2 nn2 cn2, .slice ak2 nk2 ck2] 96)
    rwa [World.size_alloc, World.size_alloc] at this
  have HQ0 := Lib.hid hq
  have HB0 := Lib.hid hb3
  have HR0 := Lib.hid (Prs.cons P X _ _ _ _ HPS.out HXS.out .nil)
  clear hb1 hb2 hb3 hq
  go_enter Tryz.func66, Tryz.ntmps66
  go_wp2
  go_step3
  go_wp2
  go_step3
  go_wp2
  generalize (((w.alloc (.cells #[.string (bs P.pr), .int .u8 P.kind, .slice an nn cn, .slice ak nk ck] 58)).alloc (.cells #[.string (bs X.pr), .int .u8 X.kind, .slice an2 nn2 cn2, .slice ak2 nk2 ck2] 58)).alloc (.cells #[.string (bs P.pr), .int .u8 P.kind, .slice an nn cn, .slice ak nk ck, .string (bs X.pr), .int .u8 X.kind, .slice an2 nn2 cn2, .slice ak2 nk2 ck2] 96)) = w0 at *
  go_loopg [5, 6] 101 (fun k v5 v6 wr => MRel P X w k v5 v6 wr)
  case atStart =>
    refine ⟨[], [(P, X)], _, rfl, HB0.out, HQ0.out, HR0.out, minv_start P X HP.out HX.out, ?_, Nat.le_refl _⟩
    have := P.all_len
    have := HP.out.len
    simp [allL]
    omega
  case round =>
    obtain ⟨arg, q, vs, rfl, hb, hq, hr, hm, hk, hk2⟩ := hrel
    have HB := Lib.hid hb
    have HM := Lib.hid hm
    cases q with
    | nil =>
      obtain ⟨g, o, cap, rfl⟩ := hq.shape
      clear hq hb hr hm
      go_wp2
      try rw [Exit.noGoto_ret]
      go_ret
      refine ⟨ret_string ?_, HB.out⟩
      rw [match_end_some HP.out HX.out HO.out HM.out]
    | cons c q =>
      obtain ⟨p, x⟩ := c
      obtain ⟨ps, xs, vs, rfl, hps, hxs, hr⟩ := hr.head
      have HPV := Lib.hid hps
      have HXV := Lib.hid hxs
      have HRV := Lib.hid hr
      obtain ⟨vn, vk, kss, rfl, hN, hK, hlen, hkid⟩ := hps.inv
      obtain ⟨vn2, vk2, kss2, rfl, hN2, hK2, hlen2, hkid2⟩ := hxs.inv
      obtain ⟨a1, n1, c1, rfl⟩ := hN.shape
      obtain ⟨a3, n3, c3, rfl⟩ := hN2.shape
      have hkl : ∃ a c, vk = .slice a kss.length c := by
        rcases hK with ⟨h0, h⟩ | ⟨g, cap, h, _⟩
        · exact ⟨_, _, by rw [h, h0]; rfl⟩
        · exact ⟨_, _, h⟩
      have hkl2 : ∃ a c, vk2 = .slice a kss2.length c := by
        rcases hK2 with ⟨h0, h⟩ | ⟨g, cap, h, _⟩
        · exact ⟨_, _, by rw [h, h0]; rfl⟩
        · exact ⟨_, _, h⟩
      obtain ⟨a2, c2, rfl⟩ := hkl
      obtain ⟨a4, c4, rfl⟩ := hkl2
      have HK := Lib.hid hK
      have HK2 := Lib.hid hK2
      have HLEN := Lib.hid hlen
      have HLEN2 := Lib.hid hlen2
      have HKID := Lib.hid hkid
      have HKID2 := Lib.hid hkid2
      generalize hn2 : kss.length = n2 at *
      generalize hn4 : kss2.length = n4 at *
      have HN2 := Lib.hid hn2
      have HN4 := Lib.hid hn4
      clear hN hN2 hK hK2 hlen hlen2 hkid hkid2 hn2 hn4
      obtain ⟨g, o, cap, rfl, hgl, hcap, h0, h1, h2, h3, h4, h5, h6, h7, hq⟩ := hq.head
      have HQ := Lib.hid hq
      have HKK : Hid ((allL (q.map Prod.fst)).length + (allL (kidsOf p)).length + 1 ≤ gk) := by
        refine Lib.hid ?_
        have := hk
        simp only [List.map_cons, allL_cons, List.length_cons] at this
        unfold allL at this ⊢
        rw [List.flatMap_append, List.length_append] at this
        omega
      have hql : q.length ≤ 101 := by
        have h1 := allL_len (q.map Prod.fst)
        have := HKK.out
        simp at h1
        omega
      have HQL := Lib.hid hql
      have HHK2 := Lib.hid hk2
      clear hq hb hr hm hps hxs hql hk hk2
      have hpos : (0 : Int) < ((q.length + 1 : Nat) : Int) := by omega
      go_wp2
      go_cut [7, 8] from 16 to 73 (fun v7 v8 w' => ∃ ga gb, v7 = .pointer (some ⟨ga, 0, none⟩) ∧ v8 = .pointer (some ⟨gb, 0, none⟩) ∧ Hid (Blk w' ga 58 #[.string (bs p.pr), .int .u8 p.kind, .slice a1 n1 c1, .slice a2 n2 c2]) ∧ Hid (Blk w' gb 58 #[.string (bs x.pr), .int .u8 x.kind, .slice a3 n3 c3, .slice a4 n4 c4]) ∧ Hid (Below wr.heap.size wr w'))
      case first =>
        have k0 := World.new_ne wr _ h0
        have k1 := World.new_ne wr _ h1
        have k2 := World.new_ne wr _ h2
        have k3 := World.new_ne wr _ h3
        have k4 := World.new_ne wr _ h4
        have k5 := World.new_ne wr _ h5
        have k6 := World.new_ne wr _ h6
        have k7 := World.new_ne wr _ h7
        go_region_held3 (fun w' => w'.cell? ⟨g, o, none⟩ = some (.string (bs p.pr)) ∧ w'.cell? ⟨g, o + 1, none⟩ = some (.int .u8 p.kind) ∧ w'.cell? ⟨g, o + 2, none⟩ = some (.slice a1 n1 c1) ∧ w'.cell? ⟨g, o + 3, none⟩ = some (.slice a2 n2 c2) ∧ w'.cell? ⟨g, o + 4, none⟩ = some (.string (bs x.pr)) ∧ w'.cell? ⟨g, o + 5, none⟩ = some (.int .u8 x.kind) ∧ w'.cell? ⟨g, o + 6, none⟩ = some (.slice a3 n3 c3) ∧ w'.cell? ⟨g, o + 7, none⟩ = some (.slice a4 n4 c4)) (go_keep) (first | fail)
        all_goals
          go_wp2
          go_meet
          refine ⟨_, _, rfl, rfl, Lib.hid ?_, Lib.hid ?_, Lib.hid ?_⟩
          · first
              | exact (Blk.new wr 58 _).alloc _
              | exact (by rw [← World.size_alloc wr]; exact Blk.new _ 58 _)
          · first
              | exact (Blk.new wr 58 _).alloc _
              | exact (by rw [← World.size_alloc wr]; exact Blk.new _ 58 _)
          · exact (((Below.refl wr.heap.size wr).alloc (Nat.le_refl _) _).alloc (by simp) _).drew
      case rest =>
        obtain ⟨ga, gb, rfl, rfl, hbp, hbx, hbw⟩ := hcut
        have HBC := Lib.hid (HB.out.trans (hbw.out.mono HB.out.size))
        have a0 := hbp.out.cell 0
        have a1' := hbp.out.cell 1
        have a2' := hbp.out.cell 2
        have a3' := hbp.out.cell 3
        have b0 := hbx.out.cell 0
        have b1 := hbx.out.cell 1
        have b2 := hbx.out.cell 2
        have b3 := hbx.out.cell 3
        simp only [List.getElem?_toArray, List.getElem?_cons_zero, List.getElem?_cons_succ] at a0 a1' a2' a3' b0 b1 b2 b3
        have hs := slice_q g o q.length cap hcap
        have HQC := Lib.hid (HQ.out.below hbw.out)
        clear h0 h1 h2 h3 h4 h5 h6 h7 hcap
        generalize hv6 : Value.slice (some ⟨g, if cap = 1 then o else o + 8, none⟩) q.length (cap - 1) = v6 at *
        by_cases hpar : p = .par
        · subst hpar
          have hk8 : ((Ty.par.kind : Int) == 8) = true := by decide
          have hn0 : n2 = 0 := HLEN.out
          subst hn0
          by_cases ha : arg = []
          · subst ha
            have t1 : (bs []).toList.isEmpty = true := by rw [ByteArray.toList_eq]; rfl
            go_wp2
            refine wp_loop_rounds 1 ?_
            rw [rounds_succ]
            go_wp2
            go_roundg (gk - 1)
            case measure => have := HKK.out; omega
            case rel => exact ⟨x.pr, q, vs, rfl, HBC.out, HQC.out, HRV.out, HM.out.par (.inl rfl), by have := HKK.out; omega, by have := HHK2.out; omega⟩
          · have t1 : (bs arg).toList.isEmpty = false := by
              rw [ByteArray.toList_eq, bs_data]
              cases arg with
              | nil => exact absurd rfl ha
              | cons c l => rfl
            by_cases ha2 : arg = x.pr
            · subst ha2
              have t2 : ((bs x.pr).toList == (bs x.pr).toList) = true := by simp
              clear ha
              go_wp2
              refine wp_loop_rounds 1 ?_
              rw [rounds_succ]
              go_wp2
              go_roundg (gk - 1)
              case measure => have := HKK.out; omega
              case rel => exact ⟨x.pr, q, vs, rfl, HBC.out, HQC.out, HRV.out, HM.out.par (.inr rfl), by have := HKK.out; omega, by have := HHK2.out; omega⟩
            · have t2 : ((bs arg).toList == (bs x.pr).toList) = false := by
                rw [beq_eq_false_iff_ne, ByteArray.toList_eq, ByteArray.toList_eq, bs_data, bs_data]
                exact ha2
              have HNO := Lib.hid (HM.out.par_no ha ha2)
              have HBQ := HBC
              clear ha ha2
              go_wp2
              try rw [Exit.noGoto_ret]
              go_ret
              refine ⟨ret_string ?_, HBQ.out⟩
              rw [match_end_none HP.out HX.out HO.out HNO.out]
        · have hk8 : ((p.kind : Int) == 8) = false := by
            rw [beq_eq_false_iff_ne]
            intro e
            apply hpar
            cases p with
            | par => rfl
            | rcd o F => cases o <;> simp [Ty.kind] at e
            | _ => simp [Ty.kind] at e
          have HPAR := Lib.hid hpar
          clear hpar
          have HEC := Lib.hid (HE.out.below HBC.out)
          have HWF := Lib.hid (HM.out.wf _ (List.mem_cons_self ..))
          have HPC := Lib.hid (HPV.out.keep HBC.out.size fun g hg _ => HBC.out.block g hg)
          have HXC := Lib.hid (HXV.out.keep HBC.out.size fun g hg _ => HBC.out.block g hg)
          go_wp2_with fail
          refine (isLike_any p x _ _ _ wc HEC.out HPC.out HXC.out HWF.out.1 HWF.out.2.1 HWF.out.2.2.1 HWF.out.2.2.2).mono ?_
          rintro e w5 ⟨rfl, hb5⟩
          have hbp5 := Lib.hid (hbp.out.below hb5 hbp.out.lt)
          have hbx5 := Lib.hid (hbx.out.below hb5 hbx.out.lt)
          have HB5 := Lib.hid (HBC.out.trans (hb5.mono HBC.out.size))
          have HQ5 := Lib.hid (HQC.out.below hb5)
          clear hb5 a0 a1' a2' a3' b0 b1 b2 b3
          have a0 := hbp5.out.cell 0
          have a1' := hbp5.out.cell 1
          have a2' := hbp5.out.cell 2
          have a3' := hbp5.out.cell 3
          have b0 := hbx5.out.cell 0
          have b1 := hbx5.out.cell 1
          have b2 := hbx5.out.cell 2
          have b3 := hbx5.out.cell 3
          simp only [List.getElem?_toArray, List.getElem?_cons_zero, List.getElem?_cons_succ] at a0 a1' a2' a3' b0 b1 b2 b3
          cases hlk : likeB p x with
          | false =>
            have HNO := Lib.hid (HM.out.unlike HPAR.out hlk)
            have HBQ := HB5
            clear hlk
            go_wp2
            try rw [Exit.noGoto_ret]
            go_ret
            refine ⟨ret_string ?_, HBQ.out⟩
            rw [match_end_none HP.out HX.out HO.out HNO.out]
          | true =>
            have HML := Lib.hid (HM.out.like HPAR.out hlk)
            have HNN : Hid ((kidsOf p).length = (kidsOf x).length) := by
              refine Lib.hid ?_
              unfold likeB at hlk
              simp only [Bool.and_eq_true, decide_eq_true_eq] at hlk
              exact hlk.2.1
            clear hlk
            rcases HK.out with ⟨h0, hv⟩ | ⟨gk', capk, hv, _, hgk, hrow, hne⟩
            · have hn0 : n2 = 0 := by rw [← HN2.out, h0]; rfl
              subst hn0
              have HKP : Hid (q ++ kidPairs p x = q) := by
                refine Lib.hid ?_
                have : kidsOf p = [] := List.length_eq_zero_iff.1 HLEN.out.symm
                rw [kidPairs, this]
                simp
              clear h0 hv
              go_wp2
              refine wp_loop_rounds 1 ?_
              rw [rounds_succ]
              go_wp2
              go_roundg (gk - 1)
              case measure => have := HKK.out; omega
              case rel => exact ⟨arg, q, vs, rfl, HB5.out, HQ5.out, HRV.out, by have := HML.out; rwa [HKP.out] at this, by have := HKK.out; omega, by have := HHK2.out; omega⟩
            · obtain rfl : a2 = some ⟨gk', 0, none⟩ := by injection hv
              obtain rfl : n4 = n2 := by have := HLEN.out; have := HLEN2.out; have := HNN.out; omega
              have hpos4 : 0 < n4 := by rw [← HN2.out]; exact List.length_pos_iff.2 hne
              rcases HK2.out with ⟨h0, _⟩ | ⟨gx', capx, hv2, _, hgx, hrowx, hnex⟩
              · have := HN4.out
                rw [h0] at this
                simp at this
                omega
              · obtain rfl : a4 = some ⟨gx', 0, none⟩ := by injection hv2
                have HROW := Lib.hid hrow
                have HROWX := Lib.hid hrowx
                have HGK := Lib.hid hgk
                have HGX := Lib.hid hgx
                clear hv hv2 hne hnex hrow hrowx hgk hgx hpos4
                obtain ⟨z, HZ⟩ : ∃ z, Hid (gk - 1 = z) := ⟨_, Lib.hid rfl⟩
                go_wp2
                go_loopg [6, 58] n4 (fun k2 v6' v58 wr2 => ∃ (j : Nat) (vs' : List Value), v58 = .int .i64 j ∧ j + k2 = n4 ∧ Hid (Below w.heap.size w wr2) ∧ Hid (QRow wr2 w.heap.size v6' (q.length + j) vs') ∧ Hid (Prs w (fun g => g < w.heap.size) (q ++ (kidPairs p x).take j) vs') ∧
                  Hid (Blk wr2 ga 58 #[.string (bs p.pr), .int .u8 p.kind, .slice a1 n1 c1, .slice (some ⟨gk', 0, none⟩) n4 c2]) ∧ Hid (Blk wr2 gb 58 #[.string (bs x.pr), .int .u8 x.kind, .slice a3 n3 c3, .slice (some ⟨gx', 0, none⟩) n4 c4]))
                case atStart => exact ⟨0, vs, rfl, by omega, HB5, HQ5, Lib.hid (by simpa using HRV.out), hbp5, hbx5⟩
                case round =>
                  clear a0 a1' a2' a3' b0 b1 b2 b3
                  obtain ⟨j, vs', rfl, hj, HBj, HQj, HRj, HPj, HXj⟩ := hrel
                  have HJ := Lib.hid hj
                  by_cases hlt : j < n4
                  · have HLT := Lib.hid hlt
                    have hlk : j < (kidsOf p).length := by have := HLEN.out; omega
                    have hlx : j < (kidsOf x).length := by have := HLEN2.out; omega
                    have hTk : (kidsOf p)[j]? = some (kidsOf p)[j] := List.getElem?_eq_getElem hlk
                    have hTx : (kidsOf x)[j]? = some (kidsOf x)[j] := List.getElem?_eq_getElem hlx
                    have hjk : j < kss.length := by have := HN2.out; omega
                    have hjx : j < kss2.length := by have := HN4.out; omega
                    have hvk : kss[j]? = some kss[j] := List.getElem?_eq_getElem hjk
                    have hvx : kss2[j]? = some kss2[j] := List.getElem?_eq_getElem hjx
                    have htk := HKID.out j _ _ hTk hvk
                    have htx := HKID2.out j _ _ hTx hvx
                    obtain ⟨d1, m1, e1, d2, m2, e2, hf1⟩ := htk.four
                    obtain ⟨d3, m3, e3, d4, m4, e4, hf2⟩ := htx.four
                    rw [hf1] at hvk htk
                    rw [hf2] at hvx htx
                    have HTAKE : Hid ((kidPairs p x).take (j + 1) = (kidPairs p x).take j ++ [((kidsOf p)[j], (kidsOf x)[j])]) := by
                      refine Lib.hid ?_
                      have hl : j < (kidPairs p x).length := by unfold kidPairs; rw [List.length_zip]; omega
                      rw [← List.take_append_getElem hl]
                      simp [kidPairs]
                    generalize (kidsOf p)[j] = U at *
                    generalize (kidsOf x)[j] = V at *
                    obtain ⟨q0, q1, q2, q3⟩ := (HROW.out.keep (HBj.out.block gk' HGK.out)).four hvk
                    obtain ⟨r0, r1, r2, r3⟩ := (HROWX.out.keep (HBj.out.block gx' HGX.out)).four hvx
                    have HTK := Lib.hid htk
                    have HTX := Lib.hid htx
                    have b3 := HXj.out.cell 3
                    simp only [List.getElem?_toArray, List.getElem?_cons_zero, List.getElem?_cons_succ] at b3
                    clear hTk hTx hvk hvx htk htx hf1 hf2 hjk hjx hlk hlx
                    go_wp2
                    have hb7 : Below wr.heap.size wr (wr.alloc (.cells #[.string (bs U.pr), .int .u8 U.kind, .slice d1 m1 e1, .slice d2 m2 e2] 58)) := (Below.refl _ _).alloc (Nat.le_refl _) _
                    have HB7 := Lib.hid (HBj.out.trans (hb7.mono HBj.out.size))
                    have HQ7 := Lib.hid (HQj.out.below hb7)
                    have HP7 := Lib.hid (HPj.out.below hb7 HPj.out.lt)
                    have HX7 := Lib.hid (HXj.out.below hb7 HXj.out.lt)
                    have hnw : Blk (wr.alloc (.cells #[.string (bs U.pr), .int .u8 U.kind, .slice d1 m1 e1, .slice d2 m2 e2] 58)) wr.heap.size 58 #[.string (bs U.pr), .int .u8 U.kind, .slice d1 m1 e1, .slice d2 m2 e2] := Blk.new _ _ _
                    have n0 := hnw.cell 0
                    have n1 := hnw.cell 1
                    have n2 := hnw.cell 2
                    have n3 := hnw.cell 3
                    have b3 := HX7.out.cell 3
                    simp only [List.getElem?_toArray, List.getElem?_cons_zero, List.getElem?_cons_succ] at n0 n1 n2 n3 b3
                    have HROW7 := HROWX.out.keep (HB7.out.block gx' HGX.out)
                    have r0 := (hb7.cell (p := ⟨gx', j * 4, none⟩) (Nat.lt_of_lt_of_le HGX.out HBj.out.size)).trans r0
                    have r1 := (hb7.cell (p := ⟨gx', j * 4 + 1, none⟩) (Nat.lt_of_lt_of_le HGX.out HBj.out.size)).trans r1
                    have r2 := (hb7.cell (p := ⟨gx', j * 4 + 2, none⟩) (Nat.lt_of_lt_of_le HGX.out HBj.out.size)).trans r2
                    have r3 := (hb7.cell (p := ⟨gx', j * 4 + 3, none⟩) (Nat.lt_of_lt_of_le HGX.out HBj.out.size)).trans r3
                    have HP7n := Lib.hid hnw
                    have HQJ : Hid (q.length + j ≤ 100000) := by
                      refine Lib.hid ?_
                      have h1 := kids_count p
                      have h2 : p.pr.length ≤ 900 := HWF.out.2.2.1
                      have := HLEN.out
                      have := HQL.out
                      omega
                    clear q0 q1 q2 q3 hb7 hnw HROW7
                    generalize wr.alloc (.cells #[.string (bs U.pr), .int .u8 U.kind, .slice d1 m1 e1, .slice d2 m2 e2] 58) = w7 at *
                    generalize wr.heap.size = gn at *
                    have hij : (0 : Int) ≤ (j : Int) := by omega
                    have hijn : (j : Int) < (n4 : Int) := by omega
                    have hbs : w.heap.size ≤ w7.heap.size := HB7.out.size
                    have HBS := Lib.hid hbs
                    go_region_held3 (fun w' => w'.cell? ⟨gn, 0, none⟩ = some (.string (bs U.pr)) ∧ w'.cell? ⟨gn, 1, none⟩ = some (.int .u8 U.kind) ∧ w'.cell? ⟨gn, 2, none⟩ = some (.slice d1 m1 e1) ∧ w'.cell? ⟨gn, 3, none⟩ = some (.slice d2 m2 e2) ∧ w'.cell? ⟨gb, 3, none⟩ = some (.slice (some ⟨gx', 0, none⟩) n4 c4) ∧
                      w'.cell? ⟨gx', j * 4, none⟩ = some (.string (bs V.pr)) ∧ w'.cell? ⟨gx', j * 4 + 1, none⟩ = some (.int .u8 V.kind) ∧ w'.cell? ⟨gx', j * 4 + 2, none⟩ = some (.slice d3 m3 e3) ∧ w'.cell? ⟨gx', j * 4 + 3, none⟩ = some (.slice d4 m4 e4)) (go_keep)
                      (first | (refine step_append_q rfl (.tmp 63) (.tmp 71) rfl w.heap.size (q.length + j) u6 vs' rfl (HQ7.out.below ((Below.refl _ w7).alloc (Nat.le_refl _) _).drew) HQJ.out (Nat.le_trans HBS.out (by simp)) ⟨w7.heap.size, 0, none⟩ 1 [.string (bs U.pr), .int .u8 U.kind, .slice d1 m1 e1, .slice d2 m2 e2, .string (bs V.pr), .int .u8 V.kind, .slice d3 m3 e3, .slice d4 m4 e4] rfl rfl (World.news_of_block (cs := #[.string (bs U.pr), .int .u8 U.kind, .slice d1 m1 e1, .slice d2 m2 e2, .string (bs V.pr), .int .u8 V.kind, .slice d3 m3 e3, .slice d4 m4 e4]) (t := 96) (fr := (0, 0)) (heap_alloc_new w7 _)) (by simp [Value.oneCell']) ?_; intro v' w8 hq8 ht8; have m0 := (turns_cells ht8 gn 0 HP7n.out.lt (.inr ⟨_, HP7n.out⟩)).trans n0; have m1 := (turns_cells ht8 gn 1 HP7n.out.lt (.inr ⟨_, HP7n.out⟩)).trans n1; have m2 := (turns_cells ht8 gn 2 HP7n.out.lt (.inr ⟨_, HP7n.out⟩)).trans n2; have m3 := (turns_cells ht8 gn 3 HP7n.out.lt (.inr ⟨_, HP7n.out⟩)).trans n3; have m4 := (turns_cells ht8 gb 3 HX7.out.lt (.inr ⟨_, HX7.out⟩)).trans b3; have o0 := (turns_cells ht8 gx' (j * 4) (Nat.lt_of_lt_of_le HGX.out HBS.out) (.inl HGX.out)).trans r0; have o1 := (turns_cells ht8 gx' (j * 4 + 1) (Nat.lt_of_lt_of_le HGX.out HBS.out) (.inl HGX.out)).trans r1; have o2 := (turns_cells ht8 gx' (j * 4 + 2) (Nat.lt_of_lt_of_le HGX.out HBS.out) (.inl HGX.out)).trans r2; have o3 := (turns_cells ht8 gx' (j * 4 + 3) (Nat.lt_of_lt_of_le HGX.out HBS.out) (.inl HGX.out)).trans r3; have HP8 := Lib.hid (turns_blk ht8 HP7.out); have HX8 := Lib.hid (turns_blk ht8 HX7.out); have HB8 := Lib.hid (HB7.out.trans (turns_below ht8 HBS.out)); have HQ8 := Lib.hid hq8; clear hq8 ht8))
                    all_goals
                      have hj9 : (j : Int) ≤ 100000 := by have := HQJ.out; omega
                      go_wp2
                      go_roundg (gk - 1)
                      case measure => have := HJ.out; have := HLT.out; omega
                      case rel =>
                        refine ⟨j + 1, _, by go_num, by have := HJ.out; have := HLT.out; omega, HB8, HQ8, Lib.hid ?_, HP8, HX8⟩
                        rw [HTAKE.out, ← List.append_assoc]
                        exact Prs.snoc HRj.out HTK.out HTX.out
                  · have HJN : Hid (j = n4) := Lib.hid (by omega)
                    have HKP : Hid ((kidPairs p x).take j = kidPairs p x) := by
                      refine Lib.hid (List.take_of_length_le ?_)
                      unfold kidPairs
                      rw [List.length_zip]
                      have := HLEN.out
                      have := HJN.out
                      omega
                    go_wp2
                    go_roundg z
                    case measure => have := HZ.out; have := HKK.out; omega
                    case rel =>
                      refine ⟨arg, q ++ kidPairs p x, vs', rfl, HBj.out, ?_, ?_, HML.out, ?_, ?_⟩
                      · have h := HQj.out
                        have hl : (q ++ kidPairs p x).length = q.length + j := by
                          rw [List.length_append]
                          unfold kidPairs
                          rw [List.length_zip]
                          have := HLEN.out; have := HLEN2.out; have := HJN.out
                          omega
                        rw [hl]
                        exact h
                      · have h := HRj.out
                        rwa [HKP.out] at h
                      · have h : (q ++ kidPairs p x).map Prod.fst = q.map Prod.fst ++ kidsOf p := by
                          rw [List.map_append]
                          unfold kidPairs
                          rw [List.map_fst_zip (by have := HNN.out; omega)]
                        rw [h]
                        have := HKK.out
                        have := HZ.out
                        unfold allL at *
                        rw [List.flatMap_append, List.length_append]
                        omega
                      · have := HHK2.out
                        have := HZ.out
                        omega
end Go.Proofs.YthcoppfdffhjfaaGreatDoor
