/- The parts of a record or a oneof. -/
import Derived.Test.YthcoppfdffhjfaaGreatDoorRb
namespace Go.Proofs.YthcoppfdffhjfaaGreatDoor
open Go Go.RowKit Go.Sort

theorem parts_kind (T : Ty) (h : T.kind = 5 ∨ T.kind = 6) : ∃ o F, T = .rcd o F := by
  cases T with
  | rcd o F => exact ⟨o, F, rfl⟩
  | _ => simp [Ty.kind] at h
theorem parts_nokind (T : Ty) (h : ¬ (T.kind = 5 ∨ T.kind = 6)) : partsF T = ([], 30) := by
  cases T with
  | rcd o F => cases o <;> simp [Ty.kind] at h
  | _ => rfl
theorem make_parts (n : Nat) (hn : n ≤ 1000) (w : World) : ∃ cs : Array Value, cs.size = n * 2 ∧ (Instr.makeSlice 37 (.int .i64 (n : Int)) (.int .i64 (n : Int))).run Tryz.prog w = .ok (.slice (some ⟨w.heap.size, 0, none⟩) n n) (w.alloc (.cells cs 42)) := by
  obtain ⟨i0, hi, hz0, hz1, hz2⟩ := info42'
  have t37 : Tryz.prog.underlying 37 = some (.slice 42) := by kernel_rfl
  have hr := run_make (P := Tryz.prog) w 37 42 i0 _ t37 hi hz0 .i64 .i64 (n : Int) (n : Int) (by omega) (by omega) (by rw [hz2]; omega) (by omega)
  rw [hz1] at hr
  simp only [Int.toNat_natCast] at hr
  exact ⟨_, size_madeCells _ _, hr⟩
/-- What has been read of a record, as a list of its parts. -/
theorem rcd_parts (o : Bool) (F : Fs) : (partsF (.rcd o F)).1.length = (kidsOf (.rcd o F)).length ∧ (namesOf (.rcd o F)).length = (kidsOf (.rcd o F)).length ∧ 0 < (kidsOf (.rcd o F)).length ∧
    ∀ (i : Nat) n t, (namesOf (.rcd o F))[i]? = some n → (kidsOf (.rcd o F))[i]? = some t → (partsF (.rcd o F)).1[i]? = some (n, t.pr) := by
  have := F.count_pos
  refine ⟨by simp [partsF, kidsOf], by simp [namesOf, kidsOf], by simp [kidsOf, F.list_len]; omega, fun i n t hn ht => ?_⟩
  simp only [namesOf, kidsOf, partsF, List.getElem?_map] at hn ht ⊢
  cases h : F.list[i]? with
  | none => rw [h] at hn; cases hn
  | some p =>
    rw [h] at hn ht
    simp at hn ht
    simp [hn, ht]

theorem row2_next {cs : Array Value} {PL : List (Bys × Bys)} {k n : Nat} {p : Bys × Bys} (hcs : cs.size = n * 2) (hlt : k < n) (hp : PL[k]? = some p)
    (hin : ∀ (i : Nat) (q : Bys × Bys), (PL.take k)[i]? = some q → cs[i * 2]? = some (Value.string (bs q.1)) ∧ cs[i * 2 + 1]? = some (Value.string (bs q.2))) (i : Nat) (q : Bys × Bys) (hi : (PL.take (k + 1))[i]? = some q) :
    ((cs.setIfInBounds (k * 2) (Value.string (bs p.1))).setIfInBounds (k * 2 + 1) (Value.string (bs p.2)))[i * 2]? = some (Value.string (bs q.1)) ∧ ((cs.setIfInBounds (k * 2) (Value.string (bs p.1))).setIfInBounds (k * 2 + 1) (Value.string (bs p.2)))[i * 2 + 1]? = some (Value.string (bs q.2)) := by
  have hkl : k < PL.length := (List.getElem?_eq_some_iff.1 hp).1
  rw [List.getElem?_take] at hi
  split at hi
  · rename_i hik
    by_cases e : i = k
    · subst e
      rw [hp] at hi
      injection hi with hi
      subst hi
      constructor
      · rw [Array.getElem?_setIfInBounds, if_neg (by omega), Array.getElem?_setIfInBounds, if_pos rfl, if_pos (by omega)]
      · rw [Array.getElem?_setIfInBounds, if_pos rfl, if_pos (by simp; omega)]
    · obtain ⟨h1, h2⟩ := hin i q (by rw [List.getElem?_take, if_pos (by omega)]; exact hi)
      constructor
      · rw [Array.getElem?_setIfInBounds, if_neg (by omega), Array.getElem?_setIfInBounds, if_neg (by omega)]; exact h1
      · rw [Array.getElem?_setIfInBounds, if_neg (by omega), Array.getElem?_setIfInBounds, if_neg (by omega)]; exact h2
  · cases hi

set_option maxRecDepth 100000 in
set_option maxHeartbeats 12800000 in
theorem Parts_any (s : Bys) (w : World) (he : Env w) : Calls Tryz.prog 27 #[.string (bs s)] w fun e w' => ∃ v, e = .returned (.tuple #[v, .int .i64 (partsT s).2]) ∧ PtV w' v (partsT s).1 ∧ Below w.heap.size w w' := by
  have HE := Lib.hid he
  clear he
  go_enter Tryz.func27, Tryz.ntmps27
  go_wp2_with fail
  refine (read_any s w HE.out).mono ?_
  rintro e w1 ⟨hb, ⟨T, vs, hG, rfl, rfl, hT⟩ | ⟨hne, rfl⟩⟩
  · by_cases hk : T.kind = 5 ∨ T.kind = 6
    · obtain ⟨o, F, hTe⟩ := parts_kind T hk
      obtain ⟨p1, p2, p3, p4⟩ := rcd_parts o F
      rw [← hTe] at p1 p2 p3 p4
      have hkw : (kidsOf T).length ≤ 1000 := by have := kids_count T; have := hG.len; omega
      have hpt : partsT T.pr = partsF T := ofT_good hG
      have hp0 : (partsF T).2 = 0 := by rw [hTe]; rfl
      obtain ⟨vn, vk, kss, rfl, hN, hK, hlen, hkid⟩ := hT.inv
      generalize hPL : (partsF T).1 = PL at *
      clear hTe
      rcases hN with ⟨hN, _⟩ | ⟨gn, cn, rfl, _, hgn, hnrow, hnne⟩
      · rw [hN] at p2; simp at p2; omega
      rcases hK with ⟨hK, _⟩ | ⟨gk, ck, rfl, _, hgk, hkrow, hkne⟩
      · rw [hK] at hlen; simp at hlen; omega
      generalize hnn : (kidsOf T).length = n at *
      generalize hn1 : (namesOf T).length = n1 at *
      generalize hn2 : kss.length = n2 at *
      have p2 := p2.symm
      have hlen := hlen.symm
      subst p2
      subst hlen
      have HB := Lib.hid hb
      have HKROW := Lib.hid hkrow
      have HNROW := Lib.hid hnrow
      have HKID := Lib.hid hkid
      have HP4 := Lib.hid p4
      have HPT := Lib.hid hpt
      have HP0 := Lib.hid hp0
      have HPL := Lib.hid hPL
      have HNN := Lib.hid hnn
      have HLEN := Lib.hid hn2
      have HP2 := Lib.hid hn1
      clear hb hT hG hkrow hnrow hkid p4 hpt hp0 hPL hnn hn1 hn2 hkne hnne
      have hb2 : Below w1.heap.size w1 (w1.alloc (.cells #[.string (bs T.pr), .int .u8 T.kind, .slice (some ⟨gn, 0, none⟩) n cn, .slice (some ⟨gk, 0, none⟩) n ck] 58)) := (Below.refl _ _).alloc (Nat.le_refl _) _
      have hA : Blk (w1.alloc (.cells #[.string (bs T.pr), .int .u8 T.kind, .slice (some ⟨gn, 0, none⟩) n cn, .slice (some ⟨gk, 0, none⟩) n ck] 58)) w1.heap.size 58 #[.string (bs T.pr), .int .u8 T.kind, .slice (some ⟨gn, 0, none⟩) n cn, .slice (some ⟨gk, 0, none⟩) n ck] := Blk.new _ _ _
      have HB2 := Lib.hid (HB.out.trans (hb2.mono HB.out.size))
      have HKROW2 := Lib.hid (HKROW.out.keep (hb2.block gk hgk))
      have HNROW2 := Lib.hid (HNROW.out.keep (hb2.block gn hgn))
      have hs2 : gk < (w1.alloc (.cells #[.string (bs T.pr), .int .u8 T.kind, .slice (some ⟨gn, 0, none⟩) n cn, .slice (some ⟨gk, 0, none⟩) n ck] 58)).heap.size := Nat.lt_of_lt_of_le hgk hb2.size
      have hs3 : gn < (w1.alloc (.cells #[.string (bs T.pr), .int .u8 T.kind, .slice (some ⟨gn, 0, none⟩) n cn, .slice (some ⟨gk, 0, none⟩) n ck] 58)).heap.size := Nat.lt_of_lt_of_le hgn hb2.size
      have q1 := hA.cell 1
      have q2 := hA.cell 2
      have q3 := hA.cell 3
      have HA := Lib.hid hA
      have hkk : (T.kind != 5 && T.kind != 6) = false := by rcases hk with h | h <;> simp [h]
      clear hk
      go_upto_region 4 with (fail)
      generalize w1.alloc (.cells #[.string (bs T.pr), .int .u8 T.kind, .slice (some ⟨gn, 0, none⟩) n cn, .slice (some ⟨gk, 0, none⟩) n ck] 58) = w2 at *
      simp only [List.getElem?_toArray, List.getElem?_cons_zero, List.getElem?_cons_succ] at q1 q2 q3
      have hlt1 := HA.out.lt
      generalize w1.heap.size = g1 at *
      obtain ⟨cs0, hcs0, hmk⟩ := make_parts n hkw w2
      go_upto_region 6 with (fail)
      all_goals
        have hb4 : Below w2.heap.size w2 (w2.alloc (.cells cs0 42)) := (Below.refl _ _).alloc (Nat.le_refl _) _
        have q3' : (w2.alloc (.cells cs0 42)).cell? ⟨g1, 3, none⟩ = some (.slice (some ⟨gk, 0, none⟩) n ck) := ((HA.out.below hb4 hlt1).cell 3)
        go_wp2
        go_loopw [34] (fun v34 wr => ∃ (k : Nat) (cs : Array Value), k ≤ n ∧ v34 = .int .i64 k ∧ cs.size = n * 2 ∧ Blk wr w2.heap.size 42 cs ∧ (∀ (i : Nat) (p : Bys × Bys), (PL.take k)[i]? = some p → cs[i * 2]? = some (Value.string (bs p.1)) ∧ cs[i * 2 + 1]? = some (Value.string (bs p.2))) ∧ Below w2.heap.size w2 wr) (fun i _ => n - (intOf i).toNat)
        case atStart => exact ⟨0, cs0, Nat.zero_le _, rfl, hcs0, Blk.new _ _ _, by simp, hb4⟩
        case round =>
          obtain ⟨k, cs, hk, rfl, hcs, hblk, hin, hb3⟩ := hrel
          have HBLK := Lib.hid hblk
          have HIN := Lib.hid hin
          have HB3 := Lib.hid hb3
          clear hblk hin hb3
          by_cases hlt : k < n
          · obtain ⟨T', hT'⟩ : ∃ T', (kidsOf T)[k]? = some T' := ⟨_, List.getElem?_eq_getElem (by rw [HNN.out]; exact hlt)⟩
            obtain ⟨vs', hvs'⟩ : ∃ vs', kss[k]? = some vs' := ⟨_, List.getElem?_eq_getElem (by rw [HLEN.out]; exact hlt)⟩
            obtain ⟨nm, hnm⟩ : ∃ nm, (namesOf T)[k]? = some nm := ⟨_, List.getElem?_eq_getElem (by rw [HP2.out]; exact hlt)⟩
            have hty := HKID.out k _ _ hT' hvs'
            have hpl := HP4.out k _ _ hnm hT'
            obtain ⟨a1, n1, c1, a2, n2, c2, hfour⟩ := hty.four
            rw [hfour] at hvs'
            obtain ⟨k0, k1, k2, k3⟩ := (HKROW2.out.keep (HB3.out.block gk hs2)).four hvs'
            have hgz : gk < wr.heap.size := Nat.lt_of_lt_of_le hs2 HB3.out.size
            have HPLK := Lib.hid hpl
            clear hT' hvs' hty hpl hfour
            go_upto_region 10 with (fail)
            have hal : Below wr.heap.size wr (wr.alloc (.cells #[.string (bs T'.pr), .int .u8 T'.kind, .slice a1 n1 c1, .slice a2 n2 c2] 58)) := (Below.refl _ _).alloc (Nat.le_refl _) _
            have HB5 := Lib.hid (HB3.out.trans (hal.mono HB3.out.size))
            have HBLK5 := Lib.hid (HBLK.out.alloc (.cells #[.string (bs T'.pr), .int .u8 T'.kind, .slice a1 n1 c1, .slice a2 n2 c2] 58))
            have x0 := (Blk.new wr 58 #[.string (bs T'.pr), .int .u8 T'.kind, .slice a1 n1 c1, .slice a2 n2 c2]).cell 0
            simp only [List.getElem?_toArray, List.getElem?_cons_zero] at x0
            clear hal k0 k1 k2 k3
            generalize wr.alloc (.cells #[.string (bs T'.pr), .int .u8 T'.kind, .slice a1 n1 c1, .slice a2 n2 c2] 58) = w5 at *
            generalize wr.heap.size = g5 at *
            have x2 := (HA.out.below HB5.out hlt1).cell 2
            simp only [List.getElem?_toArray, List.getElem?_cons_zero, List.getElem?_cons_succ] at x2
            have x3 := (HNROW2.out.keep (HB5.out.block gn hs3)) k _ hnm
            rw [Nat.zero_add] at x3
            have f0 := HBLK5.out.frozen (k * 2)
            have f1 := HBLK5.out.frozen (k * 2 + 1)
            have y0 : w5.cell? ⟨w2.heap.size, k * 2, none⟩ = some (cs[k * 2]'(by omega)) := by rw [HBLK5.out.cell]; exact Array.getElem?_eq_getElem (by omega)
            have y1 : w5.cell? ⟨w2.heap.size, k * 2 + 1, none⟩ = some (cs[k * 2 + 1]'(by omega)) := by rw [HBLK5.out.cell]; exact Array.getElem?_eq_getElem (by omega)
            have hgz5 := HBLK5.out.lt
            go_region
            go_wp2
            refine ⟨⟨k + 1, _, by omega, by push_cast; rfl, ?_, Blk.drewN ((HBLK5.out.set_ (k * 2) _).set_ (k * 2 + 1) _) 1, ?_, ?_⟩, ?_⟩
            · simpa using hcs
            · exact row2_next hcs hlt HPLK.out HIN.out
            · have hq := (HB5.out.setCell (p := ⟨w2.heap.size, k * 2, none⟩) (Nat.le_refl _) (.string (bs nm))).setCell (p := ⟨w2.heap.size, k * 2 + 1, none⟩) (Nat.le_refl _) (.string (bs T'.pr))
              exact ⟨hq.os, hq.tape, hq.output, hq.size, hq.block⟩
            · simp only [intOf]; omega
          · have hkn : k = n := by omega
            subst hkn
            go_wp2
            go_ret2
            refine ⟨_, by rw [HPT.out, HP0.out]; rfl, ?_, ?_⟩
            · rw [HPT.out, HPL.out]
              refine .inr ⟨w2.heap.size, 0, k, by rw [p1]; rfl, HBLK.out.lt, fun i p hi => ?_, fun h => by rw [h] at p1; simp at p1; omega, by rw [p1]; exact Nat.le_refl _⟩
              have := HIN.out i p (by rw [List.take_of_length_le (by omega)]; exact hi)
              rw [HBLK.out.cell, HBLK.out.cell, Nat.zero_add]
              exact this
            · exact HB2.out.trans (HB3.out.mono HB2.out.size)
    · have HB := Lib.hid hb
      have hpt : partsT T.pr = ([], 30) := by rw [show partsT T.pr = partsF T from ofT_good hG, parts_nokind T hk]
      have HPT := Lib.hid hpt
      obtain ⟨an, nn, cn, ak, nk, ck, rfl⟩ := hT.four
      rw [not_or] at hk
      have h1 : (T.kind != 5) = true := by simpa using hk.1
      have h2 : (T.kind != 6) = true := by simpa using hk.2
      clear hk hb hG hT hpt
      go_wp2
      go_ret2
      rw [HPT.out]
      exact ⟨_, rfl, .inl ⟨rfl, _, _, rfl⟩, HB.out.alloc HB.out.size _⟩
  · have HB := Lib.hid hb
    have HN := Lib.hid hne
    have hn2 : (chk s != 0) = true := by simpa using hne
    clear hb hne
    unfold zero4
    go_wp2
    go_ret2
    rw [show partsT s = ([], chk s) from ofT_err HN.out]
    exact ⟨_, rfl, .inl ⟨rfl, _, _, rfl⟩, HB.out.alloc HB.out.size _⟩
end Go.Proofs.YthcoppfdffhjfaaGreatDoor
