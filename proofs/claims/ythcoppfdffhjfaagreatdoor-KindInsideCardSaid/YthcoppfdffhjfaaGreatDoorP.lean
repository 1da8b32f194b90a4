/- The contracts of package kind's Check, Kind, Level, Open, Arg, Base. -/
import Derived.Test.YthcoppfdffhjfaaGreatDoorO
import Derived.Test.YthcoppfdffhjfaaGreatDoorT6
namespace Go.Proofs.YthcoppfdffhjfaaGreatDoor
open Go Go.RowKit

theorem chk_cases (s : Bys) : chk s = 0 ∨ chk s = 2 ∨ chk s = 4 := by
  unfold chk
  split
  · exact .inr (.inl rfl)
  · split
    · exact .inr (.inr rfl)
    · split
      · exact .inr (.inl rfl)
      · exact .inl rfl

set_option maxRecDepth 100000 in
set_option maxHeartbeats 3200000 in
theorem Check_any (s : Bys) (w : World) (he : Env w) : Calls Tryz.prog 21 #[.string (bs s)] w fun e w' => e = .returned (.int .i64 (chk s)) ∧ Below w.heap.size w w' := by
  have HE := Lib.hid he
  clear he
  go_enter Tryz.func21, Tryz.ntmps21
  go_wp2_with fail
  refine (read_any s w HE.out).mono ?_
  rintro e w1 ⟨hb, ⟨T, vs, hG, rfl, rfl, hT⟩ | ⟨hne, rfl⟩⟩
  · obtain ⟨an, nn, cn, ak, nk, ck, rfl⟩ := hT.four
    have HB := Lib.hid hb
    have HG := Lib.hid hG
    clear hb hG hT
    go_wp2
    go_ret
    exact ⟨ret_int HG.out.chk.symm, HB.out.alloc HB.out.size _⟩
  · have HB := Lib.hid hb
    clear hb hne
    unfold zero4
    go_wp2
    go_ret
    exact ⟨rfl, HB.out.alloc HB.out.size _⟩

theorem ret2_int {k : IntKind} {v : Value} {a b : Int} (h : a = b) : Ending.returned (.tuple #[v, .int k a]) = .returned (.tuple #[v, .int k b]) := by rw [h]

set_option maxRecDepth 100000 in
set_option maxHeartbeats 3200000 in
theorem Kind_any (s : Bys) (w : World) (he : Env w) : Calls Tryz.prog 15 #[.string (bs s)] w fun e w' => e = .returned (.tuple #[.int .u8 (kindT s).1, .int .i64 (kindT s).2]) ∧ Below w.heap.size w w' := by
  have HE := Lib.hid he
  clear he
  go_enter Tryz.func15, Tryz.ntmps15
  go_wp2_with fail
  refine (read_any s w HE.out).mono ?_
  rintro e w1 ⟨hb, ⟨T, vs, hG, rfl, rfl, hT⟩ | ⟨hne, rfl⟩⟩
  · obtain ⟨an, nn, cn, ak, nk, ck, rfl⟩ := hT.four
    have HB := Lib.hid hb
    have HG := Lib.hid hG
    clear hb hG hT
    go_wp2
    go_ret2
    refine ⟨?_, HB.out.alloc HB.out.size _⟩
    rw [show kindT T.pr = (T.kind, 0) from ofT_good HG.out]
    rfl
  · have HB := Lib.hid hb
    have HN := Lib.hid hne
    clear hb hne
    unfold zero4
    go_wp2
    go_ret2
    refine ⟨?_, HB.out.alloc HB.out.size _⟩
    rw [show kindT s = (0, chk s) from ofT_err HN.out]
    rfl

set_option maxRecDepth 100000 in
set_option maxHeartbeats 3200000 in
theorem Level_any (s : Bys) (w : World) (he : Env w) : Calls Tryz.prog 17 #[.string (bs s)] w fun e w' => e = .returned (.tuple #[.int .i64 (levT s).1, .int .i64 (levT s).2]) ∧ Below w.heap.size w w' := by
  have HE := Lib.hid he
  clear he
  go_enter Tryz.func17, Tryz.ntmps17
  go_wp2_with fail
  refine (read_any s w HE.out).mono ?_
  rintro e w1 ⟨hb, ⟨T, vs, hG, rfl, rfl, hT⟩ | ⟨hne, rfl⟩⟩
  · obtain ⟨an, nn, cn, ak, nk, ck, rfl⟩ := hT.four
    have HB := Lib.hid hb
    have HG := Lib.hid hG
    have HT := Lib.hid hT
    clear hb hG hT
    go_wp2_with fail
    have hb2 : Below w1.heap.size w1 (w1.alloc (.cells #[.string (bs T.pr), .int .u8 T.kind, .slice an nn cn, .slice ak nk ck] 58)) := (Below.refl _ _).alloc (Nat.le_refl _) _
    have HB2 := Lib.hid (HB.out.trans (hb2.mono HB.out.size))
    have HT2 := Lib.hid (HT.out.keep hb2.size (fun g _ h => hb2.block g h))
    clear hb2
    generalize w1.alloc (.cells #[.string (bs T.pr), .int .u8 T.kind, .slice an nn cn, .slice ak nk ck] 58) = w2 at *
    refine (level_any 101 T _ _ w2 (by have := HG.out.len; omega) (by have := HG.out.len; omega) (by have := HG.out.lev; omega) HT2.out).mono ?_
    rintro e w3 ⟨rfl, hb3⟩
    have HB3 := Lib.hid hb3
    clear hb3
    go_wp2
    go_ret2
    refine ⟨?_, HB2.out.trans (HB3.out.mono HB2.out.size)⟩
    rw [levT_good HG.out]
    rfl
  · have HB := Lib.hid hb
    have HN := Lib.hid hne
    have hn2 : (chk s != 0) = true := by simpa using hne
    clear hb hne
    unfold zero4
    go_wp2
    go_ret2
    refine ⟨?_, HB.out.alloc HB.out.size _⟩
    rw [show levT s = (0, chk s) by unfold levT; rw [if_pos HN.out]]
    rfl

/-- Whether the parameter is in a text. -/
def openB (s : Bys) : Bool := s.contains 63
theorem isOpen_v (l : Bys) (v : Bool) (hv : Lib.contains l qt = v) (hl : l.length ≤ 1000) (w : World) (he : Env w) : Calls Tryz.prog 52 #[.string (bs l)] w fun e w' => e = .returned (.bool v) ∧ w = w' := by
  obtain ⟨m, hm⟩ := he.mx
  have hc := Tryz.strings_Contains (bs l) (bs qt) m w (by rw [bs_size]; omega) hm
  rw [bs_data, bs_data, hv] at hc
  have HC := Lib.hid hc
  clear hc hm he
  go_enter Tryz.func52, Tryz.ntmps52
  go_wp2_with fail
  refine HC.out.mono ?_
  rintro e w' ⟨rfl, rfl⟩
  go_wp2
  go_ret
  exact ⟨rfl, rfl⟩

set_option maxRecDepth 100000 in
set_option maxHeartbeats 3200000 in
theorem Open_any (s : Bys) (w : World) (he : Env w) : Calls Tryz.prog 19 #[.string (bs s)] w fun e w' => e = .returned (.tuple #[.bool (openT s).1, .int .i64 (openT s).2]) ∧ Below w.heap.size w w' := by
  have HE := Lib.hid he
  clear he
  go_enter Tryz.func19, Tryz.ntmps19
  go_wp2_with fail
  refine (read_any s w HE.out).mono ?_
  rintro e w1 ⟨hb, ⟨T, vs, hG, rfl, rfl, hT⟩ | ⟨hne, rfl⟩⟩
  · obtain ⟨an, nn, cn, ak, nk, ck, rfl⟩ := hT.four
    have HB := Lib.hid hb
    have HG := Lib.hid hG
    have HE1 := Lib.hid (HE.out.below (hb.alloc hb.size (.cells #[.string (bs T.pr), .int .u8 T.kind, .slice an nn cn, .slice ak nk ck] 58)))
    have hcn : Lib.contains T.pr qt = openB T.pr := contains_qt (qOK_ty hG.wf)
    have HCN := Lib.hid hcn
    clear hb hG hT hcn
    go_wp2_with fail
    refine (isOpen_v T.pr _ HCN.out (by have := HG.out.len; omega) _ HE1.out).mono ?_
    rintro e w3 ⟨rfl, rfl⟩
    go_wp2
    go_ret2
    refine ⟨?_, HB.out.alloc HB.out.size _⟩
    unfold openT
    rw [HG.out.chk]
    rfl
  · have HB := Lib.hid hb
    have HN := Lib.hid hne
    have HE1 := Lib.hid (HE.out.below (hb.alloc hb.size (.cells #[.string { data := #[] }, .int .u8 0, .slice none 0 0, .slice none 0 0] 58)))
    clear hb hne
    unfold zero4
    go_wp2_with fail
    refine (isOpen_v [] false (by decide) (by simp) _ HE1.out).mono ?_
    rintro e w3 ⟨rfl, rfl⟩
    go_wp2
    go_ret2
    refine ⟨?_, HB.out.alloc HB.out.size _⟩
    have : (chk s == 0) = false := by simpa using HN.out
    unfold openT
    rw [this]
    rfl

theorem base_kind (T : Ty) (h : T.kind = 7) : baseF T = (frontOf T, 0) := by
  cases T with
  | nam n => rfl
  | app n t => rfl
  | rcd o fs => cases o <;> simp [Ty.kind] at h
  | _ => simp [Ty.kind] at h
theorem base_nokind (T : Ty) (h : T.kind ≠ 7) : baseF T = ([], 30) := by
  cases T with
  | nam n => exact absurd rfl h
  | app n t => exact absurd rfl h
  | _ => rfl
theorem arg_kind (T : Ty) (h : T.kind = 4 ∨ T.kind = 7) : (kidsOf T = [] ∧ argF T = (([], false), 0)) ∨ ∃ t, kidsOf T = [t] ∧ argF T = ((t.pr, true), 0) := by
  cases T with
  | nam n => exact .inl ⟨rfl, rfl⟩
  | app n t => exact .inr ⟨_, rfl, rfl⟩
  | arr t => exact .inr ⟨_, rfl, rfl⟩
  | rcd o fs => cases o <;> simp [Ty.kind] at h
  | _ => simp [Ty.kind] at h
theorem arg_nokind (T : Ty) (h : ¬ (T.kind = 4 ∨ T.kind = 7)) : argF T = (([], false), 30) := by
  cases T with
  | nam n => exact absurd (.inr rfl) h
  | app n t => exact absurd (.inr rfl) h
  | arr t => exact absurd (.inl rfl) h
  | _ => rfl

theorem front_any (T : Ty) (h : T.wf) (hl : T.pr.length ≤ 1000) (w : World) (he : Env w) : Calls Tryz.prog 55 #[.string (bs T.pr)] w fun e w' => e = .returned (.string (bs (frontOf T))) ∧ ∃ n, w' = w.drewN n := by
  obtain ⟨m, hm⟩ := he.mx
  have hc := Tryz.strings_Cut (bs T.pr) (bs [91]) m w (by rw [bs_size]; omega) hm
  rw [bs_data, bs_data, cut_front h] at hc
  have HC := Lib.hid hc
  clear hc hm he
  go_enter Tryz.func55, Tryz.ntmps55
  go_wp2_with fail
  refine HC.out.mono ?_
  rintro e w' ⟨rfl, n, rfl⟩
  go_wp2
  go_ret
  exact ⟨rfl, n, rfl⟩
set_option maxRecDepth 100000 in
set_option maxHeartbeats 3200000 in
theorem Base_any (s : Bys) (w : World) (he : Env w) : Calls Tryz.prog 25 #[.string (bs s)] w fun e w' => e = .returned (.tuple #[.string (bs (baseT s).1), .int .i64 (baseT s).2]) ∧ Below w.heap.size w w' := by
  have HE := Lib.hid he
  clear he
  go_enter Tryz.func25, Tryz.ntmps25
  go_wp2_with fail
  refine (read_any s w HE.out).mono ?_
  rintro e w1 ⟨hb, ⟨T, vs, hG, rfl, rfl, hT⟩ | ⟨hne, rfl⟩⟩
  · obtain ⟨an, nn, cn, ak, nk, ck, rfl⟩ := hT.four
    have HB := Lib.hid hb
    have HG := Lib.hid hG
    have HE1 := Lib.hid (HE.out.below (hb.alloc hb.size (.cells #[.string (bs T.pr), .int .u8 T.kind, .slice an nn cn, .slice ak nk ck] 58)))
    clear hb hG hT
    by_cases hk : T.kind = 7
    · have hk2 : (T.kind != 7) = false := by simp [hk]
      have hbt : baseT T.pr = (frontOf T, 0) := by
        rw [show baseT T.pr = baseF T from ofT_good HG.out, base_kind T hk]
      have HBT := Lib.hid hbt
      clear hk hbt
      go_wp2_with fail
      refine (front_any T HG.out.wf (by have := HG.out.len; omega) _ HE1.out).mono ?_
      rintro e w3 ⟨rfl, n, rfl⟩
      go_wp2
      go_ret2
      refine ⟨?_, (HB.out.alloc HB.out.size _).trans ⟨rfl, rfl, rfl, Nat.le_refl _, fun _ _ => rfl⟩⟩
      rw [HBT.out]
      rfl
    · have hk2 : (T.kind != 7) = true := by simpa using hk
      have hbt : baseT T.pr = ([], 30) := by
        rw [show baseT T.pr = baseF T from ofT_good HG.out, base_nokind T hk]
      have HBT := Lib.hid hbt
      clear hk hbt
      go_wp2
      go_ret2
      refine ⟨?_, HB.out.alloc HB.out.size _⟩
      rw [HBT.out]
      rfl
  · have HB := Lib.hid hb
    have HN := Lib.hid hne
    have hn2 : (chk s != 0) = true := by simpa using hne
    clear hb hne
    unfold zero4
    go_wp2
    go_ret2
    refine ⟨?_, HB.out.alloc HB.out.size _⟩
    rw [show baseT s = ([], chk s) from ofT_err HN.out]
    rfl

set_option maxRecDepth 100000 in
set_option maxHeartbeats 3200000 in
theorem Arg_any (s : Bys) (w : World) (he : Env w) : Calls Tryz.prog 23 #[.string (bs s)] w fun e w' => e = .returned (.tuple #[.string (bs (argT s).1.1), .bool (argT s).1.2, .int .i64 (argT s).2]) ∧ Below w.heap.size w w' := by
  have HE := Lib.hid he
  clear he
  go_enter Tryz.func23, Tryz.ntmps23
  go_wp2_with fail
  refine (read_any s w HE.out).mono ?_
  rintro e w1 ⟨hb, ⟨T, vs, hG, rfl, rfl, hT⟩ | ⟨hne, rfl⟩⟩
  · obtain ⟨vn, vk, kss, rfl, hN, hK, hlen, hkid⟩ := hT.inv
    obtain ⟨an, nn, cn, rfl⟩ := hN.shape
    have HB := Lib.hid hb
    have HG := Lib.hid hG
    have HLEN := Lib.hid hlen
    have har : argT T.pr = argF T := ofT_good HG.out
    have HAR := Lib.hid har
    have HKT := Lib.hid (arg_kind T)
    have HNO := Lib.hid (arg_nokind T)
    have hsz := HB.out.size
    clear hb hG hN hlen har hT
    by_cases hk : T.kind = 4 ∨ T.kind = 7
    · rcases hK with ⟨rfl, rfl⟩ | ⟨g, cap, rfl, hg, hgl, hrow, hne⟩
      · have hk0 : argF T = (([], false), 0) := by
          rcases HKT.out hk with ⟨_, h⟩ | ⟨t, h, _⟩
          · exact h
          · have := HLEN.out; rw [h] at this; simp at this
        have HK0 := Lib.hid hk0
        clear hk0 hkid
        rcases hk with hk | hk
        all_goals
          go_wp2
          go_ret3
          refine ⟨?_, HB.out.alloc HB.out.size _⟩
          rw [HAR.out, HK0.out]
          rfl
      · obtain ⟨t, hkt, hk0⟩ : ∃ t, kidsOf T = [t] ∧ argF T = ((t.pr, true), 0) := by
          rcases HKT.out hk with ⟨h, _⟩ | h
          · have := HLEN.out; rw [h] at this; exact absurd (List.length_eq_zero_iff.1 this) hne
          · exact h
        have hl1 : kss.length = 1 := by rw [HLEN.out, hkt]; rfl
        obtain ⟨ks, rfl⟩ : ∃ ks, kss = [ks] := by
          match kss, hl1 with
          | [ks], _ => exact ⟨ks, rfl⟩
        have hty := hkid 0 t ks (by rw [hkt]; rfl) rfl
        obtain ⟨a1, n1, c1, a2, n2, c2, rfl⟩ := hty.four
        have q0 := (hrow.four (i := 0) rfl).1
        have HK0 := Lib.hid hk0
        rw [Nat.zero_mul] at q0
        clear hk0 hkt hl1 hkid hty hrow hne
        rcases hk with hk | hk
        all_goals
          go_wp2
          go_ret3
          refine ⟨?_, HB.out.alloc HB.out.size _⟩
          rw [HAR.out, HK0.out]
          rfl
    · have hbt := HNO.out hk
      have HBT := Lib.hid hbt
      rw [not_or] at hk
      obtain ⟨ak, nk, ck, rfl⟩ := hK.shape
      have h1 : (T.kind != 4) = true := by simpa using hk.1
      have h2 : (T.kind != 7) = true := by simpa using hk.2
      clear hk hbt hkid hK
      go_wp2
      go_ret3
      refine ⟨?_, HB.out.alloc HB.out.size _⟩
      rw [HAR.out, HBT.out]
      rfl
  · have HB := Lib.hid hb
    have HN := Lib.hid hne
    have hn2 : (chk s != 0) = true := by simpa using hne
    clear hb hne
    unfold zero4
    go_wp2
    go_ret3
    refine ⟨?_, HB.out.alloc HB.out.size _⟩
    rw [show argT s = (([], false), chk s) from ofT_err HN.out]
    rfl
end Go.Proofs.YthcoppfdffhjfaaGreatDoor
