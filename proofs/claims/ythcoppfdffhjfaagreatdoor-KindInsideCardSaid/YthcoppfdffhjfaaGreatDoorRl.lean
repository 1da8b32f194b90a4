/- Whether two types are the same but for their kids. -/
import Derived.Test.YthcoppfdffhjfaaGreatDoorRk
namespace Go.Proofs.YthcoppfdffhjfaaGreatDoor
open Go Go.RowKit

theorem equal_names {w : World} {S : Nat → Prop} {v1 v2 : Value} {l1 l2 : List Bys} (h1 : NmV w S v1 l1) (h2 : NmV w S v2 l2) (b1 : l1.length ≤ 1000) (b2 : l2.length ≤ 1000) :
    Calls Tryz.prog 118 #[v1, v2] w fun e w' => e = .returned (.bool (decide (l1 = l2))) ∧ ∃ q, w' = w.drewN q := by
  have hinj : ∀ l m : List Bys, l.map bs = m.map bs ↔ l = m := fun l m => ⟨fun h => by
    have := congrArg (List.map fun s : ByteArray => s.data.toList) h
    simpa [List.map_map, Function.comp_def, bs_data] using this, fun h => by rw [h]⟩
  rcases h1 with ⟨rfl, rfl⟩ | ⟨g1, c1, rfl, _, _, r1, n1⟩
  · rcases h2 with ⟨rfl, rfl⟩ | ⟨g2, c2, rfl, _, _, r2, n2⟩
    · refine (Tryz.slices_Equal_string_empty none none 0 0 0 w (by omega)).mono ?_
      rintro e w' ⟨rfl, rfl⟩
      exact ⟨rfl, 0, rfl⟩
    · refine (Tryz.slices_Equal_string_empty none _ 0 l2.length c2 w (by omega)).mono ?_
      rintro e w' ⟨rfl, rfl⟩
      have : l2.length ≠ 0 := fun h => n2 (List.length_eq_zero_iff.1 h)
      refine ⟨ret_bool ?_, 0, rfl⟩
      rw [decide_eq_false this, decide_eq_false (fun h => n2 h.symm)]
  · rcases h2 with ⟨rfl, rfl⟩ | ⟨g2, c2, rfl, _, _, r2, n2⟩
    · have : l1.length ≠ 0 := fun h => n1 (List.length_eq_zero_iff.1 h)
      refine (Tryz.slices_Equal_string_lens _ none l1.length c1 0 0 w this).mono ?_
      rintro e w' ⟨rfl, rfl⟩
      refine ⟨ret_bool ?_, 0, rfl⟩
      rw [decide_eq_false n1]
    · refine (Tryz.slices_Equal_string g1 0 l1.length c1 g2 0 l2.length c2 (l1.map bs) (l2.map bs) w (by simp) (by simp) (by omega) (by omega) (fun j hj => ?_) (fun j hj => ?_)).mono ?_
      · have hj' : j < l1.length := by simpa using hj
        rw [r1 j _ (List.getElem?_eq_getElem hj')]
        simp [List.getD, hj']
      · have hj' : j < l2.length := by simpa using hj
        rw [r2 j _ (List.getElem?_eq_getElem hj')]
        simp [List.getD, hj']
      · rintro e w' ⟨rfl, q, rfl⟩
        refine ⟨ret_bool ?_, q, rfl⟩
        rw [List.take_of_length_le (by simp), List.take_of_length_le (by simp)]
        rw [Bool.eq_iff_iff, decide_eq_true_iff, decide_eq_true_iff]
        exact hinj l1 l2

theorem names_count (T : Ty) : (namesOf T).length ≤ T.pr.length := by
  have := kids_count T
  cases T with
  | rcd o F => simpa [namesOf, kidsOf] using this
  | _ => simp [namesOf]

set_option maxRecDepth 100000 in
set_option maxHeartbeats 12800000 in
theorem isLike_any (p x : Ty) (ps xs : List Value) (S : Nat → Prop) (w : World) (he : Env w) (hp : TyV w S p ps) (hx : TyV w S x xs) (hpw : p.wf) (hxw : x.wf) (hpl : p.pr.length ≤ 900) (hxl : x.pr.length ≤ 900) :
    Calls Tryz.prog 94 #[.agg ps.toArray, .agg xs.toArray] w fun e w' => e = .returned (.bool (likeB p x)) ∧ Below w.heap.size w w' := by
  obtain ⟨vn, vk, kss, rfl, hN, hK, hlen, _⟩ := hp.inv
  obtain ⟨vn2, vk2, kss2, rfl, hN2, hK2, hlen2, _⟩ := hx.inv
  have hkl : ∃ a c, vk = .slice a (kidsOf p).length c := by
    rcases hK with ⟨h0, h⟩ | ⟨g, cap, h, _⟩
    · exact ⟨_, _, by rw [h, ← hlen, h0]; rfl⟩
    · exact ⟨_, _, by rw [h, hlen]⟩
  have hkl2 : ∃ a c, vk2 = .slice a (kidsOf x).length c := by
    rcases hK2 with ⟨h0, h⟩ | ⟨g, cap, h, _⟩
    · exact ⟨_, _, by rw [h, ← hlen2, h0]; rfl⟩
    · exact ⟨_, _, by rw [h, hlen2]⟩
  obtain ⟨ka, kc, rfl⟩ := hkl
  obtain ⟨ka2, kc2, rfl⟩ := hkl2
  have hb : Below w.heap.size w ((w.alloc (.cells #[.string (bs p.pr), .int .u8 p.kind, vn, .slice ka (kidsOf p).length kc] 58)).alloc (.cells #[.string (bs x.pr), .int .u8 x.kind, vn2, .slice ka2 (kidsOf x).length kc2] 58)) := ((Below.refl _ _).alloc (Nat.le_refl _) _).alloc (by simp) _
  have hp3 := hN.keep hb.size fun g _ hl => hb.block g hl
  have hx3 := hN2.keep hb.size fun g _ hl => hb.block g hl
  have heq := fun n => equal_names (w := ((w.alloc (.cells #[.string (bs p.pr), .int .u8 p.kind, vn, .slice ka (kidsOf p).length kc] 58)).alloc (.cells #[.string (bs x.pr), .int .u8 x.kind, vn2, .slice ka2 (kidsOf x).length kc2] 58)).drewN n) (S := S) (by exact hp3) (by exact hx3) (by have := names_count p; omega) (by have := names_count x; omega)
  have HEQ := Lib.hid heq
  have HE := Lib.hid (he.below hb)
  obtain ⟨an, nn, cn, rfl⟩ := hN.shape
  obtain ⟨an2, nn2, cn2, rfl⟩ := hN2.shape
  have HB := Lib.hid hb
  have f1 := fun n => front_any p hpw (by omega) _ (HE.out.drewN n)
  have f2 := fun n => front_any x hxw (by omega) _ (HE.out.drewN n)
  have F1 := Lib.hid f1
  have F2 := Lib.hid f2
  clear hp hx hN hN2 hK hK2 heq hp3 hx3 f1 f2 he
  unfold likeB
  by_cases c1 : frontOf p = frontOf x
  · have e1 : ((bs (frontOf p)).toList == (bs (frontOf x)).toList) = true := by rw [c1]; simp
    by_cases c2 : (kidsOf p).length = (kidsOf x).length
    · have e2 : (((kidsOf p).length : Int) == ((kidsOf x).length : Int)) = true := by rw [c2]; simp
      rw [decide_eq_true c1, decide_eq_true c2, Bool.true_and, Bool.true_and]
      clear c1 c2
      have k2 : Blk ((w.alloc (.cells #[.string (bs p.pr), .int .u8 p.kind, .slice an nn cn, .slice ka (kidsOf p).length kc] 58)).alloc (.cells #[.string (bs x.pr), .int .u8 x.kind, .slice an2 nn2 cn2, .slice ka2 (kidsOf x).length kc2] 58)) w.heap.size 58 #[.string (bs p.pr), .int .u8 p.kind, .slice an nn cn, .slice ka (kidsOf p).length kc] := (Blk.new w 58 _).alloc _
      have k3 : Blk ((w.alloc (.cells #[.string (bs p.pr), .int .u8 p.kind, .slice an nn cn, .slice ka (kidsOf p).length kc] 58)).alloc (.cells #[.string (bs x.pr), .int .u8 x.kind, .slice an2 nn2 cn2, .slice ka2 (kidsOf x).length kc2] 58)) (w.heap.size + 1) 58 #[.string (bs x.pr), .int .u8 x.kind, .slice an2 nn2 cn2, .slice ka2 (kidsOf x).length kc2] := by
        have := Blk.new (w.alloc (.cells #[.string (bs p.pr), .int .u8 p.kind, .slice an nn cn, .slice ka (kidsOf p).length kc] 58)) 58 #[.string (bs x.pr), .int .u8 x.kind, .slice an2 nn2 cn2, .slice ka2 (kidsOf x).length kc2]
        rwa [World.size_alloc] at this
      go_enter Tryz.func94, Tryz.ntmps94
      go_wp2
      generalize (w.alloc (.cells #[.string (bs p.pr), .int .u8 p.kind, .slice an nn cn, .slice ka (kidsOf p).length kc] 58)).alloc (.cells #[.string (bs x.pr), .int .u8 x.kind, .slice an2 nn2 cn2, .slice ka2 (kidsOf x).length kc2] 58) = w2 at *
      have a0 := k2.cell 0
      have a2 := k2.cell 2
      have a3 := k2.cell 3
      have b0 := k3.cell 0
      have b2 := k3.cell 2
      have b3 := k3.cell 3
      simp only [List.getElem?_toArray, List.getElem?_cons_zero, List.getElem?_cons_succ] at a0 a2 a3 b0 b2 b3
      clear k2 k3
      go_quiet (first
        | (go_at_call 55; first | with_reducible exact Calls.quiet_of (F1.out _) | with_reducible exact Calls.quiet_of (F2.out _))
        | (go_at_call 118; with_reducible exact Calls.quiet_of (HEQ.out _)))
      go_wp2
      go_ret
      exact ⟨rfl, HB.out.os, HB.out.tape, HB.out.output, HB.out.size, HB.out.block⟩
    · have e2 : (((kidsOf p).length : Int) == ((kidsOf x).length : Int)) = false := beq_eq_false_iff_ne.2 (by omega)
      rw [decide_eq_true c1, decide_eq_false c2, Bool.false_and, Bool.and_false]
      clear c1 c2
      have k2 : Blk ((w.alloc (.cells #[.string (bs p.pr), .int .u8 p.kind, .slice an nn cn, .slice ka (kidsOf p).length kc] 58)).alloc (.cells #[.string (bs x.pr), .int .u8 x.kind, .slice an2 nn2 cn2, .slice ka2 (kidsOf x).length kc2] 58)) w.heap.size 58 #[.string (bs p.pr), .int .u8 p.kind, .slice an nn cn, .slice ka (kidsOf p).length kc] := (Blk.new w 58 _).alloc _
      have k3 : Blk ((w.alloc (.cells #[.string (bs p.pr), .int .u8 p.kind, .slice an nn cn, .slice ka (kidsOf p).length kc] 58)).alloc (.cells #[.string (bs x.pr), .int .u8 x.kind, .slice an2 nn2 cn2, .slice ka2 (kidsOf x).length kc2] 58)) (w.heap.size + 1) 58 #[.string (bs x.pr), .int .u8 x.kind, .slice an2 nn2 cn2, .slice ka2 (kidsOf x).length kc2] := by
        have := Blk.new (w.alloc (.cells #[.string (bs p.pr), .int .u8 p.kind, .slice an nn cn, .slice ka (kidsOf p).length kc] 58)) 58 #[.string (bs x.pr), .int .u8 x.kind, .slice an2 nn2 cn2, .slice ka2 (kidsOf x).length kc2]
        rwa [World.size_alloc] at this
      go_enter Tryz.func94, Tryz.ntmps94
      go_wp2
      generalize (w.alloc (.cells #[.string (bs p.pr), .int .u8 p.kind, .slice an nn cn, .slice ka (kidsOf p).length kc] 58)).alloc (.cells #[.string (bs x.pr), .int .u8 x.kind, .slice an2 nn2 cn2, .slice ka2 (kidsOf x).length kc2] 58) = w2 at *
      have a0 := k2.cell 0
      have a2 := k2.cell 2
      have a3 := k2.cell 3
      have b0 := k3.cell 0
      have b2 := k3.cell 2
      have b3 := k3.cell 3
      simp only [List.getElem?_toArray, List.getElem?_cons_zero, List.getElem?_cons_succ] at a0 a2 a3 b0 b2 b3
      clear k2 k3
      go_quiet (first
        | (go_at_call 55; first | with_reducible exact Calls.quiet_of (F1.out _) | with_reducible exact Calls.quiet_of (F2.out _))
        | (go_at_call 118; with_reducible exact Calls.quiet_of (HEQ.out _)))
      go_wp2
      go_ret
      exact ⟨rfl, HB.out.os, HB.out.tape, HB.out.output, HB.out.size, HB.out.block⟩
  · have e1 : ((bs (frontOf p)).toList == (bs (frontOf x)).toList) = false := by rw [ByteArray.toList_eq, ByteArray.toList_eq, bs_data, bs_data]; simpa using c1
    rw [decide_eq_false c1, Bool.false_and]
    clear c1
    have k2 : Blk ((w.alloc (.cells #[.string (bs p.pr), .int .u8 p.kind, .slice an nn cn, .slice ka (kidsOf p).length kc] 58)).alloc (.cells #[.string (bs x.pr), .int .u8 x.kind, .slice an2 nn2 cn2, .slice ka2 (kidsOf x).length kc2] 58)) w.heap.size 58 #[.string (bs p.pr), .int .u8 p.kind, .slice an nn cn, .slice ka (kidsOf p).length kc] := (Blk.new w 58 _).alloc _
    have k3 : Blk ((w.alloc (.cells #[.string (bs p.pr), .int .u8 p.kind, .slice an nn cn, .slice ka (kidsOf p).length kc] 58)).alloc (.cells #[.string (bs x.pr), .int .u8 x.kind, .slice an2 nn2 cn2, .slice ka2 (kidsOf x).length kc2] 58)) (w.heap.size + 1) 58 #[.string (bs x.pr), .int .u8 x.kind, .slice an2 nn2 cn2, .slice ka2 (kidsOf x).length kc2] := by
      have := Blk.new (w.alloc (.cells #[.string (bs p.pr), .int .u8 p.kind, .slice an nn cn, .slice ka (kidsOf p).length kc] 58)) 58 #[.string (bs x.pr), .int .u8 x.kind, .slice an2 nn2 cn2, .slice ka2 (kidsOf x).length kc2]
      rwa [World.size_alloc] at this
    go_enter Tryz.func94, Tryz.ntmps94
    go_wp2
    generalize (w.alloc (.cells #[.string (bs p.pr), .int .u8 p.kind, .slice an nn cn, .slice ka (kidsOf p).length kc] 58)).alloc (.cells #[.string (bs x.pr), .int .u8 x.kind, .slice an2 nn2 cn2, .slice ka2 (kidsOf x).length kc2] 58) = w2 at *
    have a0 := k2.cell 0
    have a2 := k2.cell 2
    have a3 := k2.cell 3
    have b0 := k3.cell 0
    have b2 := k3.cell 2
    have b3 := k3.cell 3
    simp only [List.getElem?_toArray, List.getElem?_cons_zero, List.getElem?_cons_succ] at a0 a2 a3 b0 b2 b3
    clear k2 k3
    go_quiet (first
      | (go_at_call 55; first | with_reducible exact Calls.quiet_of (F1.out _) | with_reducible exact Calls.quiet_of (F2.out _))
      | (go_at_call 118; with_reducible exact Calls.quiet_of (HEQ.out _)))
    go_wp2
    go_ret
    exact ⟨rfl, HB.out.os, HB.out.tape, HB.out.output, HB.out.size, HB.out.block⟩
end Go.Proofs.YthcoppfdffhjfaaGreatDoor
