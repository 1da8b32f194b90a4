/- The reference's Arg and Base. -/
import Derived.Test.YthcoppfdffhjfaaGreatDoorV2
import Derived.Deep.LoopGhost
import Derived.Deep.RegionHeld3
import Derived.Deep.AppendLies
import Derived.Deep.RegionLaw
namespace Go.Proofs.YthcoppfdffhjfaaGreatDoor
open Go Go.RowKit

theorem bs_cut (s : Bys) (a b : Nat) : (bs s).extract a b = bs ((s.take b).drop a) := by
  apply ByteArray.ext
  simp [bs, List.drop_take]
theorem hd_bracket {n r : Bys} (hn : ∀ c ∈ n, ld c = true) : hd (n ++ 91 :: r) = n := hd_app hn (noLd_91 r)
theorem drop_in (n m : Bys) : ((n ++ 91 :: (m ++ [93])).take ((n ++ 91 :: (m ++ [93])).length - 1)).drop (n.length + 1) = m := by
  have e : n ++ 91 :: (m ++ [93]) = (n ++ [91] ++ m) ++ [93] := by simp
  rw [e]
  have : ((n ++ [91] ++ m) ++ [93]).length - 1 = (n ++ [91] ++ m).length := by simp
  rw [this, List.take_left' rfl]
  have h2 : n.length + 1 = (n ++ [91]).length := by simp
  rw [h2, List.drop_left' rfl]
/-- The argument as the reference cuts it out. -/
theorem arg_text (T : Ty) (h : T.wf) (hk : T.kind = 4 ∨ T.kind = 7) :
    ((hd T.pr).length = T.pr.length ∧ argF T = (([], false), 0)) ∨
    ∃ u : Bys, (hd T.pr).length + 2 ≤ T.pr.length ∧ (bs T.pr).extract ((hd T.pr).length + 1) (T.pr.length - 1) = bs u ∧ u ≠ [] ∧ argF T = ((u, true), 0) := by
  cases T with
  | arr u =>
    have e : hd (Ty.arr u).pr = kArray := hd_bracket (n := kArray) (by decide)
    refine .inr ⟨u.pr, ?_, ?_, pr_ne u h, rfl⟩
    · rw [e]; simp [Ty.pr]
    · rw [e, bs_cut]
      exact congrArg bs (drop_in kArray u.pr)
  | nam n =>
    refine .inl ⟨?_, rfl⟩
    have : hd n = n := by
      have := hd_app (n := n) (r := []) (name_ld h) (fun c r' e => by cases e)
      simpa using this
    exact congrArg List.length this
  | app n u =>
    have e : hd (Ty.app n u).pr = n := hd_bracket (name_ld h.1)
    refine .inr ⟨u.pr, ?_, ?_, pr_ne u h.2, rfl⟩
    · rw [e]; simp [Ty.pr]
    · rw [e, bs_cut]
      exact congrArg bs (drop_in n u.pr)
  | rcd o F => cases o <;> simp [Ty.kind] at hk
  | _ => simp [Ty.kind] at hk

set_option maxRecDepth 100000 in
set_option maxHeartbeats 6400000 in
theorem refArg54_any (T : Ty) (h : T.wf) (hk : T.kind = 4 ∨ T.kind = 7) (hl : T.pr.length ≤ 1000) (w : World) : Calls Tryz.prog 54 #[.string (bs T.pr)] w fun e w' => e = .returned (.string (bs (argF T).1.1)) ∧ w = w' := by
  have hsz : (bs T.pr).size = T.pr.length := bs_size T.pr
  have HC := Lib.hid (cut_any T.pr (by omega) w)
  rcases arg_text T h hk with ⟨e1, e2⟩ | ⟨u, h1, h2, h3, e2⟩
  · have z1 : (((hd T.pr).length : Int) == (T.pr.length : Int)) = true := by rw [e1]; simp
    rw [e2]
    clear e1 e2 h hk
    generalize hd T.pr = m at *
    generalize hmn : m.length = n at *
    clear hmn
    generalize hs : T.pr = s at *
    clear hs
    go_enter Tryz.func54, Tryz.ntmps54
    go_wp2_with fail
    refine HC.out.mono ?_
    rintro e w1 ⟨rfl, rfl⟩
    go_wp2
    go_ret
    exact ⟨rfl, rfl⟩
  · have z1 : (((hd T.pr).length : Int) == (T.pr.length : Int)) = false := beq_eq_false_iff_ne.2 (by omega)
    rw [e2]
    clear e2 h hk h3
    generalize hd T.pr = m at *
    generalize hmn : m.length = n at *
    clear hmn
    generalize hs : T.pr = s at *
    clear hs
    have z2 : (n : Int) + 1 ≤ (s.length : Int) - 1 := by omega
    have z3 : (s.length : Int) - 1 ≤ (s.length : Int) := by omega
    have z4 : ((s.length : Int) - 1).toNat = s.length - 1 := by omega
    have z5 : (0 : Int) ≤ (s.length : Int) - 1 := by omega
    have hl2 : (s.length : Int) ≤ 1000 := by omega
    have hn2 : (n : Int) ≤ 1000 := by omega
    go_enter Tryz.func54, Tryz.ntmps54
    go_wp2_with fail
    refine HC.out.mono ?_
    rintro e w1 ⟨rfl, rfl⟩
    go_wp2
    go_ret
    exact ⟨rfl, rfl⟩

set_option maxRecDepth 100000 in
set_option maxHeartbeats 6400000 in
theorem refArg_any (s : Bys) (w : World) : Calls Tryz.prog 24 #[.string (bs s)] w fun e w' => e = .returned (.tuple #[.string (bs (argT s).1.1), .bool (argT s).1.2, .int .i64 (argT s).2]) ∧ Below w.heap.size w w' := by
  by_cases hc : chk s = 0
  · obtain ⟨T, hT, rfl⟩ := chk_ok hc
    have HC := Lib.hid hc
    have HA := Lib.hid (show argT T.pr = argF T from ofT_good hT)
    have HT := Lib.hid hT
    by_cases hk : T.kind = 4 ∨ T.kind = 7
    · have HK := Lib.hid hk
      have hz : Hid ((argF T = (([], false), 0)) ∨ ∃ u : Bys, u ≠ [] ∧ argF T = ((u, true), 0)) := Lib.hid (by
        rcases arg_text T hT.wf hk with ⟨_, e⟩ | ⟨u, _, _, h, e⟩
        · exact .inl e
        · exact .inr ⟨u, h, e⟩)
      have t0 : (bs []).toList.isEmpty = true := by rw [ByteArray.toList_eq]; rfl
      have hkk : (T.kind != 4 && T.kind != 7) = false := by rcases hk with h | h <;> simp [h]
      have h4 : ((T.kind != 4) = false) ∨ ((T.kind != 4) = true ∧ (T.kind != 7) = false) := by
        rcases hk with h | h
        · exact .inl (by rw [h]; rfl)
        · exact .inr (by rw [h]; exact ⟨rfl, rfl⟩)
      clear hk hc hT hkk
      rcases h4 with h4 | ⟨h4, h7⟩
      all_goals
        go_enter Tryz.func24, Tryz.ntmps24
        go_wp2_with fail
        refine (refCheck_any T.pr w).mono ?_
        rintro e w1 ⟨rfl, hb⟩
        have HB := Lib.hid hb
        clear hb
        rw [HC.out]
        go_wp2_with fail
        refine (refKind_any T HT.out.wf (by have := HT.out.len; omega) w1).mono ?_
        rintro e w2 ⟨rfl, rfl⟩
        go_wp2_with fail
        refine (refArg54_any T HT.out.wf HK.out (by have := HT.out.len; omega) w1).mono ?_
        rintro e w2 ⟨rfl, rfl⟩
        rcases hz.out with hz | ⟨u, hu, hz⟩
        · rw [hz]
          have HZ := Lib.hid hz
          clear hz
          go_wp2
          go_ret3
          rw [HA.out, HZ.out]
          exact ⟨rfl, HB.out⟩
        · rw [hz]
          have HZ := Lib.hid hz
          have t1 : (bs u).toList.isEmpty = false := by
            rw [ByteArray.toList_eq, bs_data]
            cases u with
            | nil => exact absurd rfl hu
            | cons c l => rfl
          clear hz hu
          go_wp2
          go_ret3
          rw [HA.out, HZ.out]
          exact ⟨rfl, HB.out⟩
    · have HN := Lib.hid (arg_nokind T hk)
      rw [not_or] at hk
      have h4 : (T.kind != 4) = true := by simpa using hk.1
      have h7 : (T.kind != 7) = true := by simpa using hk.2
      clear hk hc hT
      go_enter Tryz.func24, Tryz.ntmps24
      go_wp2_with fail
      refine (refCheck_any T.pr w).mono ?_
      rintro e w1 ⟨rfl, hb⟩
      have HB := Lib.hid hb
      clear hb
      rw [HC.out]
      go_wp2_with fail
      refine (refKind_any T HT.out.wf (by have := HT.out.len; omega) w1).mono ?_
      rintro e w2 ⟨rfl, rfl⟩
      go_wp2
      go_ret3
      rw [HA.out, HN.out]
      exact ⟨rfl, HB.out⟩
  · have HK := Lib.hid (show argT s = (([], false), chk s) from ofT_err hc)
    have z2 : (chk s != 0) = true := bne_iff_ne.2 hc
    clear hc
    go_enter Tryz.func24, Tryz.ntmps24
    go_wp2_with fail
    refine (refCheck_any s w).mono ?_
    rintro e w1 ⟨rfl, hb⟩
    have HB := Lib.hid hb
    clear hb
    go_wp2
    go_ret3
    rw [HK.out]
    exact ⟨rfl, HB.out⟩

set_option maxRecDepth 100000 in
set_option maxHeartbeats 6400000 in
theorem refBase_any (s : Bys) (w : World) : Calls Tryz.prog 26 #[.string (bs s)] w fun e w' => e = .returned (.tuple #[.string (bs (baseT s).1), .int .i64 (baseT s).2]) ∧ Below w.heap.size w w' := by
  by_cases hc : chk s = 0
  · obtain ⟨T, hT, rfl⟩ := chk_ok hc
    have HC := Lib.hid hc
    have HA := Lib.hid (show baseT T.pr = baseF T from ofT_good hT)
    have HT := Lib.hid hT
    have hsz : (bs T.pr).size = T.pr.length := bs_size T.pr
    by_cases hk : T.kind = 7
    · have h7 : (T.kind != 7) = false := by rw [hk]; rfl
      have HZ := Lib.hid (base_kind T hk)
      have hh : hd T.pr = frontOf T := by
        rw [hd_front T hT.wf]
        cases T with
        | nam n => rfl
        | app n t => rfl
        | rcd o fs => cases o <;> simp [Ty.kind] at hk
        | _ => simp [Ty.kind] at hk
      have hx : (bs T.pr).extract 0 (hd T.pr).length = bs (frontOf T) := by rw [bs_take, head_take, hh]
      have hle : ((hd T.pr).length : Int) ≤ (T.pr.length : Int) := by have := hd_le T.pr; omega
      have HCUT := Lib.hid fun w => cut_any T.pr (by have := hT.len; omega) w
      clear hk hc hT hh
      generalize (hd T.pr).length = n at *
      go_enter Tryz.func26, Tryz.ntmps26
      go_wp2_with fail
      refine (refCheck_any T.pr w).mono ?_
      rintro e w1 ⟨rfl, hb⟩
      have HB := Lib.hid hb
      clear hb
      rw [HC.out]
      go_wp2_with fail
      refine (refKind_any T HT.out.wf (by have := HT.out.len; omega) w1).mono ?_
      rintro e w2 ⟨rfl, rfl⟩
      go_wp2_with fail
      refine (HCUT.out w1).mono ?_
      rintro e w2 ⟨rfl, rfl⟩
      go_wp2
      go_ret2
      rw [HA.out, HZ.out]
      exact ⟨rfl, HB.out⟩
    · have h7 : (T.kind != 7) = true := by simpa using hk
      have HZ := Lib.hid (base_nokind T hk)
      clear hk hc hT
      go_enter Tryz.func26, Tryz.ntmps26
      go_wp2_with fail
      refine (refCheck_any T.pr w).mono ?_
      rintro e w1 ⟨rfl, hb⟩
      have HB := Lib.hid hb
      clear hb
      rw [HC.out]
      go_wp2_with fail
      refine (refKind_any T HT.out.wf (by have := HT.out.len; omega) w1).mono ?_
      rintro e w2 ⟨rfl, rfl⟩
      go_wp2
      go_ret2
      rw [HA.out, HZ.out]
      exact ⟨rfl, HB.out⟩
  · have HK := Lib.hid (show baseT s = ([], chk s) from ofT_err hc)
    have z2 : (chk s != 0) = true := bne_iff_ne.2 hc
    clear hc
    go_enter Tryz.func26, Tryz.ntmps26
    go_wp2_with fail
    refine (refCheck_any s w).mono ?_
    rintro e w1 ⟨rfl, hb⟩
    have HB := Lib.hid hb
    clear hb
    go_wp2
    go_ret2
    rw [HK.out]
    exact ⟨rfl, HB.out⟩
end Go.Proofs.YthcoppfdffhjfaaGreatDoor
/- The reference's list and Parts. -/
namespace Go.Proofs.YthcoppfdffhjfaaGreatDoor
open Go Go.RowKit

/-- The text of the parts that are still to be read. -/
def sufTxt : List (Bys × Bys) → Bys
  | [] => []
  | p :: l => partsTxt (p :: l)
theorem suf_cons (p : Bys × Bys) (l : List (Bys × Bys)) : ∃ c, (c = 93 ∨ c = 44) ∧ sufTxt (p :: l) = p.1 ++ 58 :: (p.2 ++ c :: sufTxt l) := by
  cases l with
  | nil => exact ⟨93, .inl rfl, rfl⟩
  | cons q l => exact ⟨44, .inr rfl, rfl⟩
/-- A round of the reading of a list. -/
theorem list_round (s : Bys) (a : Nat) (p : Bys × Bys) (l : List (Bys × Bys)) (u : Ty) (_hs : s.length ≤ 1000) (ha : a ≤ s.length) (hd_ : s.drop a = sufTxt (p :: l)) (hn : isNameL p.1 = true) (hu : p.2 = u.pr) (hw : u.wf) (hl : u.lev ≤ 101) :
    hd (s.drop a) = p.1 ∧ a + p.1.length + 1 + p.2.length + 1 ≤ s.length ∧ rdN (rdT 101 (s.drop (a + p.1.length + 1))) = (((p.2.length : Nat) : Int), ((u.lev : Nat) : Int)) ∧
      (bs s).extract a (a + p.1.length) = bs p.1 ∧ (bs s).extract (a + p.1.length + 1) (a + p.1.length + 1 + p.2.length) = bs p.2 ∧ s.drop (a + p.1.length + p.2.length + 2) = sufTxt l := by
  obtain ⟨c, hc, e⟩ := suf_cons p l
  rw [e] at hd_
  have hlen : s.length - a = p.1.length + 1 + p.2.length + 1 + (sufTxt l).length := by
    have := congrArg List.length hd_
    simp at this
    omega
  have h1 : hd (s.drop a) = p.1 := by rw [hd_]; exact hd_app (name_ld hn) (noLd_58 _)
  have h2 : s.drop (a + p.1.length + 1) = p.2 ++ c :: sufTxt l := by
    rw [show a + p.1.length + 1 = a + (p.1.length + 1) by omega, ← List.drop_drop, hd_]
    rw [show p.1 ++ 58 :: (p.2 ++ c :: sufTxt l) = (p.1 ++ [58]) ++ (p.2 ++ c :: sufTxt l) by simp]
    rw [show p.1.length + 1 = (p.1 ++ [58]).length by simp, List.drop_left' rfl]
  refine ⟨h1, by omega, ?_, ?_, ?_, ?_⟩
  · rw [h2, hu, rdT_back 101 u hw hl (c :: sufTxt l) (by rcases hc with rfl | rfl; exact stop_93 _; exact stop_44 _)]
    rfl
  · rw [bs_mid, hd_, List.take_left' rfl]
  · rw [bs_mid, h2, List.take_left' rfl]
  · rw [show a + p.1.length + p.2.length + 2 = a + p.1.length + 1 + (p.2.length + 1) by omega, ← List.drop_drop, h2]
    rw [show p.2 ++ c :: sufTxt l = (p.2 ++ [c]) ++ sufTxt l by simp, show p.2.length + 1 = (p.2 ++ [c]).length by simp, List.drop_left' rfl]

theorem own_below {w w' : World} {base size n : Nat} {e : TypeId} {v : Value} {xs : List Value} (h : w.ownsRow base e size v n xs) (hb : Below w.heap.size w w') : w'.ownsRow base e size v n xs := by
  rcases h with ⟨h1, h2 | ⟨g, cap, cur, hv, hg, hh, h3⟩⟩
  · exact ⟨h1, .inl h2⟩
  · exact ⟨h1, .inr ⟨g, cap, cur, hv, hg, (hb.block g (Array.getElem?_eq_some_iff.1 hh).1).trans hh, h3⟩⟩
theorem partVs_snoc2 (l : List (Bys × Bys)) (p : Bys × Bys) : partVs (l ++ [p]) = partVs l ++ [.string (bs p.1), .string (bs p.2)] := by simp [partVs]

set_option maxRecDepth 100000 in
set_option maxHeartbeats 12800000 in
theorem refList_any (o : Bool) (F : Fs) (hT : Good (.rcd o F)) (w : World) : Calls Tryz.prog 57 #[.string (bs (Ty.rcd o F).pr)] w fun e w' => ∃ v, e = .returned v ∧ w'.ownsRow w.heap.size 42 2 v (partsF (.rcd o F)).1.length (partVs (partsF (.rcd o F)).1) ∧ Below w.heap.size w w' := by
  have hlen := hT.len
  obtain ⟨hw, hcnt⟩ := hT.wf
  obtain ⟨k1, _⟩ := Fs.list_wf F [] hw
  have hlv := hT.lev
  have hall : ∀ p ∈ (partsF (.rcd o F)).1, isNameL p.1 = true ∧ ∃ u : Ty, p.2 = u.pr ∧ u.wf ∧ u.lev ≤ 101 := fun p hp => by
    obtain ⟨q, hq, rfl⟩ := List.mem_map.1 hp
    obtain ⟨a, _, c, d, _⟩ := k1 q hq
    simp only [Ty.lev] at hlv
    exact ⟨a, q.2, rfl, c, by omega⟩
  have hcl : (partsF (.rcd o F)).1.length ≤ 6 := by
    have : (partsF (.rcd o F)).1.length = F.count := by simp [partsF, Fs.list_len]
    omega
  have htx : sufTxt (partsF (.rcd o F)).1 = F.pr := by
    have h1 : partsTxt (partsF (.rcd o F)).1 = F.pr := partsTxt_list F
    have h2 := F.count_pos
    have h3 : (partsF (.rcd o F)).1.length = F.count := by simp [partsF, Fs.list_len]
    cases hq : (partsF (.rcd o F)).1 with
    | nil => rw [hq] at h3; simp at h3; omega
    | cons p l => rw [← h1, hq]; rfl
  have hhd : hd (Ty.rcd o F).pr = rcdWord o := hd_bracket (by cases o <;> decide)
  have hst : (Ty.rcd o F).pr.drop ((rcdWord o).length + 1) = sufTxt (partsF (.rcd o F)).1 := by
    rw [htx]
    show (rcdWord o ++ 91 :: F.pr).drop _ = _
    rw [show rcdWord o ++ 91 :: F.pr = (rcdWord o ++ [91]) ++ F.pr by simp, show (rcdWord o).length + 1 = (rcdWord o ++ [91]).length by simp, List.drop_left' rfl]
  have hstl : (rcdWord o).length + 1 ≤ (Ty.rcd o F).pr.length := by simp [Ty.pr]
  have HCUT := Lib.hid fun w => cut_any (Ty.rcd o F).pr (by omega) w
  rw [hhd] at HCUT
  generalize (partsF (.rcd o F)).1 = L at *
  generalize hs : (Ty.rcd o F).pr = s at *
  generalize (rcdWord o).length = n0 at *
  have hsz : (bs s).size = s.length := bs_size s
  have HL := Lib.hid hlen
  have HALL := Lib.hid hall
  have HCL := Lib.hid hcl
  have HST := Lib.hid hst
  have HSTL := Lib.hid hstl
  have hn0 : (n0 : Int) ≤ 1000 := by omega
  obtain ⟨i0, hi, hz0, hz1, hz2⟩ := info42'
  clear hT hlen hw hcnt k1 hlv hall hcl htx hhd hst hs hstl
  go_enter Tryz.func57, Tryz.ntmps57
  go_wp2_with fail
  refine (HCUT.out w).mono ?_
  rintro e w1 ⟨rfl, rfl⟩
  go_wp2
  go_loopg [3, 4] L.length (fun k v3 v4 wr => ∃ (pre suf : List (Bys × Bys)) (a : Nat), Hid (L = pre ++ suf) ∧ Hid (k = suf.length) ∧ v4 = .int .i64 a ∧ Hid (wr.ownsRow w.heap.size 42 2 v3 pre.length (partVs pre)) ∧ Hid (s.drop a = sufTxt suf) ∧ Hid (a ≤ s.length) ∧ Hid (Below w.heap.size w wr))
  case atStart => exact ⟨[], L, n0 + 1, Lib.hid rfl, Lib.hid rfl, by go_num, Lib.hid (World.ownsRow_nil _ _ _ _), HST, HSTL, Lib.hid (Below.refl _ _)⟩
  case round =>
    obtain ⟨pre, suf, a, HSP, HKS, rfl, HOWN, HD, HA, HB⟩ := hrel
    obtain ⟨av, cv, rfl⟩ := own_len HOWN.out
    have hab : (a : Int) ≤ 1000 := by have := HA.out; have := HL.out; omega
    cases suf with
    | nil =>
      have hge : ¬ (a : Int) < (s.length : Int) := by
        have h := congrArg List.length HD.out
        simp [sufTxt] at h
        omega
      go_wp2
      go_ret
      refine ⟨_, rfl, ?_, HB.out⟩
      rw [HSP.out, List.append_nil]
      exact HOWN.out
    | cons p l =>
      obtain ⟨hnm, u, hu, huw, hul⟩ := HALL.out p (by rw [HSP.out]; simp)
      obtain ⟨e1, e2, e3, e4, e5, e6⟩ := list_round s a p l u (by have := HL.out; omega) HA.out HD.out hnm hu huw hul
      have hlt : (a : Int) < (s.length : Int) := by omega
      have hx1 : (bs s).extract a s.length = bs (s.drop a) := bs_drop s _ _ (by omega)
      have hx2 : (bs s).extract (a + p.1.length + 1) s.length = bs (s.drop (a + p.1.length + 1)) := bs_drop s _ _ (by omega)
      have hc := fun w => cut_any (s.drop a) (by have := HL.out; simp; omega) w
      rw [e1] at hc
      have hr := fun w => read_top (s.drop (a + p.1.length + 1)) (by have := HL.out; simp; omega) w
      simp only [e3] at hr
      have HC := Lib.hid hc
      have HR := Lib.hid hr
      have HE6 := Lib.hid e6
      have HE2 := Lib.hid e2
      have hpl : pre.length ≤ 6 := by have := HCL.out; rw [HSP.out] at this; simp at this; omega
      have HPL := Lib.hid hpl
      have HKS2 : Hid (gk = l.length + 1) := Lib.hid HKS.out
      clear hc hr e1 e3 e6 hnm hu huw hul hpl
      generalize hp1 : p.1.length = n at *
      generalize hp2 : p.2.length = m at *
      clear hp1 hp2
      have hale : (a : Int) ≤ (s.length : Int) := by omega
      have han : (a : Int) + (n : Int) ≤ (s.length : Int) := by omega
      have han1 : (a : Int) + (n : Int) + 1 ≤ (s.length : Int) := by omega
      have hanm : (a : Int) + (n : Int) + 1 + (m : Int) ≤ (s.length : Int) := by omega
      have hsl : (s.length : Int) ≤ 1000 := by have := HL.out; omega
      have hn1 : (n : Int) ≤ 1000 := by omega
      have hm1 : (m : Int) ≤ 1000 := by omega
      clear e2
      go_wp2_with fail
      refine (HC.out wr).mono ?_
      rintro e w2 ⟨rfl, rfl⟩
      go_wp2_with fail
      refine (HR.out wr).mono ?_
      rintro e w2 ⟨rfl, hb2⟩
      have HB2 := Lib.hid (HB.out.trans (hb2.mono HB.out.size))
      have HOWN2 : Hid (w2.ownsRow w.heap.size 42 2 (.slice av pre.length cv) pre.length (partVs pre)) := Lib.hid (own_below HOWN.out hb2)
      have HS2 := Lib.hid HB2.out.size
      clear hb2
      go_wp2
      have w1' := IntWalk.i64_in ((a : Int) + (n : Int)) (by omega)
      have w2' := IntWalk.i64_in ((a : Int) + (n : Int) + 1) (by omega)
      have w3' := IntWalk.i64_in ((a : Int) + (n : Int) + 1 + (m : Int)) (by omega)
      have t1 : ((a : Int) + (n : Int)).toNat = a + n := by omega
      have t2 : ((a : Int) + (n : Int) + 1).toNat = a + n + 1 := by omega
      have t3 : ((a : Int) + (n : Int) + 1 + (m : Int)).toNat = a + n + 1 + m := by omega
      have p1 : (0 : Int) ≤ (a : Int) + (n : Int) := by omega
      have p2 : (0 : Int) ≤ (a : Int) + (n : Int) + 1 := by omega
      have p3 : (0 : Int) ≤ (a : Int) + (n : Int) + 1 + (m : Int) := by omega
      have p4 : (a : Int) ≤ (a : Int) + (n : Int) := by omega
      have p5 : (a : Int) + (n : Int) + 1 ≤ (a : Int) + (n : Int) + 1 + (m : Int) := by omega
      go_region_law (refine step_append_lies _ rfl (.tmp 29) (.tmp 49) 37 rfl w.heap.size 42 i0 _ 2 32 Tryz.underlying37 hi hz0 hz1 hz2 rfl (by decide) (.slice av pre.length cv) pre.length (partVs pre) rfl (by exact HOWN2.out.alloc _) ⟨w2.heap.size, 0, none⟩ 1 1 [.string (bs p.1), .string (bs p.2)] rfl rfl (World.news_of_block (cs := #[.string (bs p.1), .string (bs p.2)]) (t := 42) (fr := (0, 0)) (heap_alloc_new w2 _)) (by simp [Value.oneCell']) (by decide) (by have := HPL.out; unfold maxLen; omega) (by have := HPL.out; omega) (Nat.le_trans HS2.out (by simp)) _ rfl ?_; intro g9 cap9 w9 hown9 hgrow9 _ _)
      have HB9 := Lib.hid (((HB2.out.alloc HS2.out (.cells #[.string (bs p.1), .string (bs p.2)] 42)).drew).grown hgrow9 (Nat.le_trans HS2.out (by simp)) (fun b e => (HOWN2.out.lt b e).1))
      have HOWN9 := Lib.hid hown9
      clear hown9 hgrow9 w1' w2' w3'
      go_wp2
      go_roundg (gk - 1)
      case measure => have := HKS2.out; omega
      case rel =>
        refine ⟨pre ++ [p], l, a + n + m + 2, Lib.hid (by rw [HSP.out]; simp), Lib.hid (by have := HKS2.out; omega), by go_num, Lib.hid ?_, HE6, Lib.hid (by have := HE2.out; omega), HB9⟩
        rw [partVs_snoc2, List.length_append]
        exact HOWN9.out

theorem ptv_own2 {w : World} {base : Nat} {v : Value} {l : List (Bys × Bys)} (h : w.ownsRow base 42 2 v l.length (partVs l)) : PtV w v l := by
  by_cases h0 : l.length = 0
  · obtain ⟨ao, cap, rfl⟩ := own_len h
    exact .inl ⟨List.length_eq_zero_iff.1 h0, _, _, by rw [h0]⟩
  · obtain ⟨g, cap, rfl, _, h2, h3, h4, _⟩ := own_parts h (by omega)
    exact .inr ⟨g, 0, cap, rfl, h2, h3, fun e => by rw [e] at h0; simp at h0, h4⟩

set_option maxRecDepth 100000 in
set_option maxHeartbeats 6400000 in
/-- Parts of the reference. -/
theorem refParts_any (s : Bys) (w : World) : Calls Tryz.prog 28 #[.string (bs s)] w fun e w' => ∃ v, e = .returned (.tuple #[v, .int .i64 (partsT s).2]) ∧ PtV w' v (partsT s).1 ∧ Below w.heap.size w w' := by
  by_cases hc : chk s = 0
  · obtain ⟨T, hT, rfl⟩ := chk_ok hc
    have HC := Lib.hid hc
    have HA := Lib.hid (show partsT T.pr = partsF T from ofT_good hT)
    have HT := Lib.hid hT
    by_cases hk : T.kind = 5 ∨ T.kind = 6
    · obtain ⟨o, F, rfl⟩ := parts_kind T hk
      have h4 : (((Ty.rcd o F).kind != 5) = false) ∨ (((Ty.rcd o F).kind != 5) = true ∧ ((Ty.rcd o F).kind != 6) = false) := by
        cases o
        · exact .inl rfl
        · exact .inr ⟨rfl, rfl⟩
      clear hk hc hT
      rcases h4 with h4 | ⟨h4, h7⟩
      all_goals
        go_enter Tryz.func28, Tryz.ntmps28
        go_wp2_with fail
        refine (refCheck_any _ w).mono ?_
        rintro e w1 ⟨rfl, hb⟩
        have HB := Lib.hid hb
        clear hb
        rw [HC.out]
        go_wp2_with fail
        refine (refKind_any _ HT.out.wf (by have := HT.out.len; omega) w1).mono ?_
        rintro e w2 ⟨rfl, rfl⟩
        go_wp2_with fail
        refine (refList_any o F HT.out w1).mono ?_
        rintro e w2 ⟨v, rfl, hown, hb⟩
        have HB2 := Lib.hid (HB.out.trans (hb.mono HB.out.size))
        have HV := Lib.hid (ptv_own2 hown)
        obtain ⟨av, cv, rfl⟩ := own_len hown
        clear hb hown
        go_wp2
        go_ret2
        refine ⟨_, by rw [HA.out]; rfl, ?_, HB2.out⟩
        rw [HA.out]
        exact HV.out
    · have HN := Lib.hid (parts_nokind T hk)
      rw [not_or] at hk
      have h4 : (T.kind != 5) = true := by simpa using hk.1
      have h7 : (T.kind != 6) = true := by simpa using hk.2
      clear hk hc hT
      go_enter Tryz.func28, Tryz.ntmps28
      go_wp2_with fail
      refine (refCheck_any _ w).mono ?_
      rintro e w1 ⟨rfl, hb⟩
      have HB := Lib.hid hb
      clear hb
      rw [HC.out]
      go_wp2_with fail
      refine (refKind_any _ HT.out.wf (by have := HT.out.len; omega) w1).mono ?_
      rintro e w2 ⟨rfl, rfl⟩
      go_wp2
      go_ret2
      rw [HA.out, HN.out]
      exact ⟨_, rfl, .inl ⟨rfl, _, _, rfl⟩, HB.out⟩
  · have HK := Lib.hid (show partsT s = ([], chk s) from ofT_err hc)
    have z2 : (chk s != 0) = true := bne_iff_ne.2 hc
    clear hc
    go_enter Tryz.func28, Tryz.ntmps28
    go_wp2_with fail
    refine (refCheck_any s w).mono ?_
    rintro e w1 ⟨rfl, hb⟩
    have HB := Lib.hid hb
    clear hb
    go_wp2
    go_ret2
    rw [HK.out]
    exact ⟨_, rfl, .inl ⟨rfl, _, _, rfl⟩, HB.out⟩
end Go.Proofs.YthcoppfdffhjfaaGreatDoor
/- The reference's SameParts. -/
namespace Go.Proofs.YthcoppfdffhjfaaGreatDoor
open Go Go.RowKit

theorem sp_lens (ao bo : Option Addr) (n m c1 c2 : Nat) (h : n ≠ m) (w : World) : Calls Tryz.prog 29 #[.slice ao n c1, .slice bo m c2] w fun e w' => e = .returned (.bool false) ∧ w = w' := by
  have h1 : ((n : Int) != (m : Int)) = true := by simp; omega
  clear h
  go_enter Tryz.func29, Tryz.ntmps29
  go_wp2
  go_ret
  exact ⟨rfl, rfl⟩
theorem sp_nil (ao bo : Option Addr) (c1 c2 : Nat) (w : World) : Calls Tryz.prog 29 #[.slice ao 0 c1, .slice bo 0 c2] w fun e w' => e = .returned (.bool true) ∧ w = w' := by
  go_enter Tryz.func29, Tryz.ntmps29
  go_wp2
  refine wp_loop_rounds 1 ?_
  rw [rounds_succ]
  go_wp2
  go_ret
  exact ⟨rfl, rfl⟩
theorem ptv_slice {w : World} {v : Value} {l : List (Bys × Bys)} (h : PtV w v l) : ∃ ao c, v = .slice ao l.length c := by
  rcases h with ⟨rfl, a, c, rfl⟩ | ⟨g, o, cap, rfl, _⟩
  · exact ⟨_, _, rfl⟩
  · exact ⟨_, _, rfl⟩

set_option maxRecDepth 100000 in
set_option maxHeartbeats 3200000 in
theorem sp_same (a : List (Bys × Bys)) (g1 o1 c1 g2 o2 c2 : Nat) (w : World) (h1 : PartRow w g1 o1 a) (h2 : PartRow w g2 o2 a) (hn : a.length ≤ 1000) :
    Calls Tryz.prog 29 #[.slice (some ⟨g1, o1, none⟩) a.length c1, .slice (some ⟨g2, o2, none⟩) a.length c2] w fun e w' => e = .returned (.bool true) ∧ ∃ n, w' = w.drewN n := by
  have H1 := Lib.hid h1
  have H2 := Lib.hid h2
  clear h1 h2
  go_enter Tryz.func29, Tryz.ntmps29
  go_wp2
  go_loopg [5] a.length (fun g i wr => ∃ k n : Nat, k + g = a.length ∧ i = .int .i64 k ∧ wr = w.drewN n)
  case atStart => exact ⟨0, 0, by omega, rfl, rfl⟩
  case round =>
    obtain ⟨k, n, hk, rfl, rfl⟩ := hrel
    have HG := Lib.hid hk
    by_cases hlt : k < a.length
    · obtain ⟨a0, a1⟩ := H1.out k a[k] (List.getElem?_eq_getElem hlt)
      obtain ⟨b0, b1⟩ := H2.out k a[k] (List.getElem?_eq_getElem hlt)
      generalize a[k] = p at *
      have HLT := Lib.hid hlt
      have hkb : (k : Int) ≤ 1000 := by omega
      clear hk
      go_wp2
      go_quiet (fail)
      all_goals
        go_wp2
        go_roundg (gk - 1)
        case measure => have := HG.out; have := HLT.out; omega
        case rel => exact ⟨k + 1, n + nq, by have := HG.out; have := HLT.out; omega, by go_num, by simp [World.drewN]⟩
    · have hkn : k = a.length := by omega
      subst hkn
      go_wp2
      go_ret
      exact ⟨rfl, n, rfl⟩
theorem sameParts_self (l : List (Bys × Bys)) (va vb : Value) (w : World) (h1 : PtV w va l) (h2 : PtV w vb l) (hn : l.length ≤ 1000) :
    Calls Tryz.prog 29 #[va, vb] w fun e w' => e = .returned (.bool true) ∧ ∃ n, w' = w.drewN n := by
  rcases h1 with ⟨rfl, a1, c1, rfl⟩ | ⟨g1, o1, c1, rfl, _, r1, n1, _⟩
  · obtain ⟨b1, c2, rfl⟩ := ptv_slice h2
    refine (sp_nil a1 b1 c1 c2 w).mono ?_
    rintro e w' ⟨rfl, rfl⟩
    exact ⟨rfl, 0, rfl⟩
  · rcases h2 with ⟨rfl, _⟩ | ⟨g2, o2, c2, rfl, _, r2, _, _⟩
    · exact absurd rfl n1
    · exact sp_same l g1 o1 c1 g2 o2 c2 w r1 r2 hn
end Go.Proofs.YthcoppfdffhjfaaGreatDoor
