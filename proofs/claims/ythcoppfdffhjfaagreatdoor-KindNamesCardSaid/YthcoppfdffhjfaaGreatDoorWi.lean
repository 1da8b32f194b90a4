/- The law KindNames answers true: the walk. -/
import Derived.Test.YthcoppfdffhjfaaGreatDoorWh
import Derived.Deep.LoopGhost
namespace Go.Proofs.YthcoppfdffhjfaaGreatDoor
open Go Go.RowKit

theorem insK_len {α : Type} (key : α → Bys) (x : α) (l : List α) : (insK key x l).length ≤ l.length + 1 := by
  have h : ((l.filter fun y => decide (key y < key x)).length + (l.filter fun y => decide (key x < key y)).length) ≤ l.length := by
    induction l with
    | nil => simp
    | cons y l ih =>
      simp only [List.filter_cons]
      by_cases h1 : key y < key x
      · rw [if_pos (by simpa using h1), if_neg (by simpa using bys_asym h1)]
        simp only [List.length_cons]
        omega
      · rw [if_neg (by simpa using h1)]
        by_cases h2 : key x < key y
        · rw [if_pos (by simpa using h2)]
          simp only [List.length_cons]
          omega
        · rw [if_neg (by simpa using h2)]
          simp only [List.length_cons]
          omega
  unfold insK
  simp only [List.length_append, List.length_cons]
  omega
theorem sortK_len {α : Type} (key : α → Bys) (l : List α) : (sortK key l).length ≤ l.length := by
  suffices ∀ n (l : List α), l.length = n → (sortK key l).length ≤ l.length from this _ l rfl
  intro n
  induction n with
  | zero => intro l hl; rw [List.length_eq_zero_iff.1 hl]; simp [sortK]
  | succ n ih =>
    intro l hl
    obtain ⟨m, x, rfl⟩ : ∃ m x, l = m ++ [x] := ⟨l.dropLast, l.getLast (by intro e; rw [e] at hl; simp at hl), (List.dropLast_concat_getLast _).symm⟩
    rw [sortK_snoc]
    have h1 := insK_len key x (sortK key m)
    have h2 := ih m (by simpa using hl)
    simp only [List.length_append, List.length_singleton]
    omega
theorem names_count2 {t : Bys} (h : chk t = 0) : (namesT t).1.length ≤ 101 := by
  obtain ⟨T, hT, rfl⟩ := chk_ok h
  rw [namesT_good hT]
  have h0 := sortK_len id (dedup T.nms)
  have h1 := dedup_len T.nms
  have h2 := nmsL_len T.all
  have h3 := T.all_len
  have h4 := hT.len
  have h5 := congrArg List.length T.nms_all
  show (sortK id (dedup T.nms)).length ≤ 101
  omega
theorem namesT_ok {t : Bys} (h : chk t = 0) : namesT t = ((namesT t).1, 0) := Prod.ext rfl ((namesT_err t).trans h)
theorem StV.at {w : World} {v : Value} {l : List Bys} {k : Nat} (h : StV w v l) (hk : k < l.length) : ∃ g o cap, v = .slice (some ⟨g, o, none⟩) l.length cap ∧ g < w.heap.size ∧ StrRow w g o l := by
  rcases h with ⟨rfl, _⟩ | h
  · simp at hk
  · exact h

set_option maxRecDepth 100000 in
set_option maxHeartbeats 25600000 in
theorem KindNames_true (t a : Bys) (w : World) (he : Env w) :
    Calls Tryz.prog 12 #[.string (bs t), .string (bs a)] w fun e w' => e = .returned (.bool true) ∧ Below w.heap.size w w' := by
  have hb0 := (Below.refl _ w).alloc (Nat.le_refl _) (.cells #[.string (bs t), .string (bs a)] 9)
  have B_0 := Lib.hid hb0
  have E_0 := Lib.hid (he.below hb0)
  have R_0 := Lib.hid (strRow_block (w := w.alloc (.cells #[.string (bs t), .string (bs a)] 9)) (l := [t, a]) (heap_alloc_new w _))
  clear hb0 he
  cases hsh : [t, a].all shortB
  · go_enter Tryz.func12, Tryz.ntmps12
    go_wp2_with fail
    generalize (w.alloc (.cells #[.string (bs t), .string (bs a)] 9)) = w_0 at *
    have s_0 := B_0.out.size
    refine (short_any [t, a] _ 2 w_0 R_0.out (by simp)).mono ?_
    rintro e w9 ⟨rfl, rfl⟩
    rw [hsh]
    go_wp2_with fail
    refine (kept_any w_0 E_0.out).mono ?_
    rintro e w_1 ⟨rfl, hb⟩
    have B_1 := Lib.hid (B_0.out.trans (hb.mono s_0))
    have E_1 := Lib.hid (E_0.out.below hb)
    have s_1 := B_1.out.size
    clear hb
    go_wp2
    go_ret
    exact ⟨rfl, B_1.out⟩
  obtain ⟨x, h, hX⟩ : ∃ x h, withT t a = (x, h) := ⟨_, _, rfl⟩
  obtain ⟨o, oe, hO⟩ : ∃ o oe, openT t = (o, oe) := ⟨_, _, rfl⟩
  obtain ⟨L, le, hL⟩ : ∃ L le, namesT x = (L, le) := ⟨_, _, rfl⟩
  obtain ⟨M, me, hM⟩ : ∃ M me, namesT t = (M, me) := ⟨_, _, rfl⟩
  obtain ⟨N, ne, hN⟩ : ∃ N ne, namesT a = (N, ne) := ⟨_, _, rfl⟩
  have HX := Lib.hid hX
  have HO := Lib.hid hO
  have HL := Lib.hid hL
  have HM := Lib.hid hM
  have HN := Lib.hid hN
  by_cases hh : h = 0
  rotate_left
  · have z1 : (h == 0) = false := beq_eq_false_iff_ne.2 hh
    have z2 : (h != 0) = true := bne_iff_ne.2 hh
    clear hh hX hO hL hM hN
    go_enter Tryz.func12, Tryz.ntmps12
    go_wp2_with fail
    generalize (w.alloc (.cells #[.string (bs t), .string (bs a)] 9)) = w_0 at *
    have s_0 := B_0.out.size
    refine (short_any [t, a] _ 2 w_0 R_0.out (by simp)).mono ?_
    rintro e w9 ⟨rfl, rfl⟩
    rw [hsh]
    go_wp2_with fail
    refine (With_any t a w_0 E_0.out).mono ?_
    rintro e w_1 ⟨rfl, hb⟩
    have B_1 := Lib.hid (B_0.out.trans (hb.mono s_0))
    have E_1 := Lib.hid (E_0.out.below hb)
    have s_1 := B_1.out.size
    clear hb
    rw [HX.out]
    go_wp2_with fail
    refine (Open_any t w_1 E_1.out).mono ?_
    rintro e w_2 ⟨rfl, hb⟩
    have B_2 := Lib.hid (B_1.out.trans (hb.mono s_1))
    have E_2 := Lib.hid (E_1.out.below hb)
    have s_2 := B_2.out.size
    clear hb
    rw [HO.out]
    go_wp2_with fail
    refine (Names_any x w_2 E_2.out).mono ?_
    rintro e w_3 ⟨v, rfl, hv, hb⟩
    rw [HL.out] at hv ⊢
    obtain ⟨aL, cL, rfl⟩ := hv.slice
    have B_3 := Lib.hid (B_2.out.trans (hb.mono s_2))
    have E_3 := Lib.hid (E_2.out.below hb)
    have VL_3 := Lib.hid hv
    have s_3 := B_3.out.size
    clear hb hv
    go_wp2_with fail
    refine (Names_any t w_3 E_3.out).mono ?_
    rintro e w_4 ⟨v, rfl, hv, hb⟩
    rw [HM.out] at hv ⊢
    obtain ⟨aM, cM, rfl⟩ := hv.slice
    have B_4 := Lib.hid (B_3.out.trans (hb.mono s_3))
    have E_4 := Lib.hid (E_3.out.below hb)
    have VL_4 := Lib.hid (VL_3.out.keep hb)
    have VM_4 := Lib.hid hv
    have s_4 := B_4.out.size
    clear hb hv
    go_wp2_with fail
    refine (Names_any a w_4 E_4.out).mono ?_
    rintro e w_5 ⟨v, rfl, hv, hb⟩
    rw [HN.out] at hv ⊢
    obtain ⟨aN, cN, rfl⟩ := hv.slice
    have B_5 := Lib.hid (B_4.out.trans (hb.mono s_4))
    have E_5 := Lib.hid (E_4.out.below hb)
    have VL_5 := Lib.hid (VL_4.out.keep hb)
    have VM_5 := Lib.hid (VM_4.out.keep hb)
    have VN_5 := Lib.hid hv
    have s_5 := B_5.out.size
    clear hb hv
    go_wp2_with fail
    refine (kept_any w_5 E_5.out).mono ?_
    rintro e w_6 ⟨rfl, hb⟩
    have B_6 := Lib.hid (B_5.out.trans (hb.mono s_5))
    have E_6 := Lib.hid (E_5.out.below hb)
    have VL_6 := Lib.hid (VL_5.out.keep hb)
    have VM_6 := Lib.hid (VM_5.out.keep hb)
    have VN_6 := Lib.hid (VN_5.out.keep hb)
    have s_6 := B_6.out.size
    clear hb
    go_wp2
    go_ret
    exact ⟨rfl, B_6.out⟩
  subst hh
  obtain ⟨ct, ca, hxr, cx⟩ := withT_ok hX
  clear hxr
  have h1 := openT_ok ct
  rw [hO] at h1
  injection h1 with h1 h2
  subst h2
  have h3 := namesT_ok cx
  rw [hL] at h3
  injection h3 with hz h3
  clear hz
  subst h3
  have h4 := namesT_ok ct
  rw [hM] at h4
  injection h4 with hz h4
  clear hz
  subst h4
  have h5 := namesT_ok ca
  rw [hN] at h5
  injection h5 with hz h5
  clear hz
  subst h5
  have cL := names_count2 cx
  have cM := names_count2 ct
  have cN := names_count2 ca
  have hmem := fun y => names_with hX y
  have hasc := names_asc x
  rw [hL] at cL hasc
  rw [hM] at cM
  rw [hN] at cN
  simp only [hL, hM, hN, ← h1] at hmem
  have HMEM : Hid (∀ y, y ∈ L ↔ y ∈ M ∨ (o = true ∧ y ∈ N)) := Lib.hid hmem
  have HASC : Hid (∀ k (h : k + 1 < L.length), L[k] < L[k + 1]) := Lib.hid fun k hk => List.pairwise_iff_getElem.1 hasc k (k + 1) (Nat.lt_of_succ_lt hk) hk (Nat.lt_succ_self k)
  have CL := Lib.hid cL
  have CM := Lib.hid cM
  have CN := Lib.hid cN
  clear hX hO hL hM hN ct ca cx h1 hmem hasc cL cM cN
  go_enter Tryz.func12, Tryz.ntmps12
  go_wp2_with fail
  generalize (w.alloc (.cells #[.string (bs t), .string (bs a)] 9)) = w_0 at *
  have s_0 := B_0.out.size
  refine (short_any [t, a] _ 2 w_0 R_0.out (by simp)).mono ?_
  rintro e w9 ⟨rfl, rfl⟩
  rw [hsh]
  go_wp2_with fail
  refine (With_any t a w_0 E_0.out).mono ?_
  rintro e w_1 ⟨rfl, hb⟩
  have B_1 := Lib.hid (B_0.out.trans (hb.mono s_0))
  have E_1 := Lib.hid (E_0.out.below hb)
  have s_1 := B_1.out.size
  clear hb
  rw [HX.out]
  go_wp2_with fail
  refine (Open_any t w_1 E_1.out).mono ?_
  rintro e w_2 ⟨rfl, hb⟩
  have B_2 := Lib.hid (B_1.out.trans (hb.mono s_1))
  have E_2 := Lib.hid (E_1.out.below hb)
  have s_2 := B_2.out.size
  clear hb
  rw [HO.out]
  go_wp2_with fail
  refine (Names_any x w_2 E_2.out).mono ?_
  rintro e w_3 ⟨v, rfl, hv, hb⟩
  rw [HL.out] at hv ⊢
  obtain ⟨aL, cL, rfl⟩ := hv.slice
  have B_3 := Lib.hid (B_2.out.trans (hb.mono s_2))
  have E_3 := Lib.hid (E_2.out.below hb)
  have VL_3 := Lib.hid hv
  have s_3 := B_3.out.size
  clear hb hv
  go_wp2_with fail
  refine (Names_any t w_3 E_3.out).mono ?_
  rintro e w_4 ⟨v, rfl, hv, hb⟩
  rw [HM.out] at hv ⊢
  obtain ⟨aM, cM, rfl⟩ := hv.slice
  have B_4 := Lib.hid (B_3.out.trans (hb.mono s_3))
  have E_4 := Lib.hid (E_3.out.below hb)
  have VL_4 := Lib.hid (VL_3.out.keep hb)
  have VM_4 := Lib.hid hv
  have s_4 := B_4.out.size
  clear hb hv
  go_wp2_with fail
  refine (Names_any a w_4 E_4.out).mono ?_
  rintro e w_5 ⟨v, rfl, hv, hb⟩
  rw [HN.out] at hv ⊢
  obtain ⟨aN, cN, rfl⟩ := hv.slice
  have B_5 := Lib.hid (B_4.out.trans (hb.mono s_4))
  have E_5 := Lib.hid (E_4.out.below hb)
  have VL_5 := Lib.hid (VL_4.out.keep hb)
  have VM_5 := Lib.hid (VM_4.out.keep hb)
  have VN_5 := Lib.hid hv
  have s_5 := B_5.out.size
  clear hb hv
  go_wp2
  go_loopg [15] L.length (fun g v15 wr => ∃ k : Nat, k + g = L.length ∧ v15 = .int .i64 k ∧ Hid (Below w_5.heap.size w_5 wr))
  case atStart => exact ⟨0, by omega, rfl, Lib.hid (Below.refl _ _)⟩
  case round =>
    obtain ⟨k, hk, rfl, hb⟩ := hrel
    have HG := Lib.hid hk
    have hkb : (k : Int) ≤ 101 := by have := CL.out; omega
    by_cases hlt : k < L.length
    · have VL0 := VL_5.out.keep hb.out
      have VM0 := Lib.hid (VM_5.out.keep hb.out)
      have VN0 := Lib.hid (VN_5.out.keep hb.out)
      obtain ⟨gl, ol, cl, hv, _, hrow⟩ := VL0.at hlt
      injection hv with e1 _ e2
      subst e1 e2
      have HLT := Lib.hid hlt
      have hme := (HMEM.out L[k]).1 (List.getElem_mem hlt)
      have r0 := hrow k _ (List.getElem?_eq_getElem hlt)
      have hprev : ∀ j, k = j + 1 → ∃ z : Bys, wr.cell? ⟨gl, ol + j, none⟩ = some (.string (bs z)) ∧ Op.bytesLess (bs z).toList (bs L[k]).toList = true := fun j hj => by
        subst hj
        have hj2 : j < L.length := by omega
        exact ⟨L[j], hrow j _ (List.getElem?_eq_getElem hj2), bytesLess_bs _ _ _ (decide_eq_true (HASC.out j hlt))⟩
      generalize L[k] = y at *
      clear hrow VL0 hlt
      by_cases hm : y ∈ M
      · have hdm : decide (y ∈ M) = true := decide_eq_true hm
        clear hme hm
        rcases k with _ | j
        · clear hprev
          have hlti : (0 : Int) < (L.length : Int) := by have := HLT.out; omega
          rw [Nat.add_zero] at r0
          go_wp2_with fail
          refine (lawHas_any M y _ wr VM0.out (by have := CM.out; omega)).mono ?_
          rintro e w' ⟨rfl, rfl⟩
          rw [hdm]
          go_wp2
          go_quiet (fail)
          all_goals
            go_wp2
            go_roundg (gk - 1)
            case measure => have := HLT.out; have := HG.out; omega
            case rel => exact ⟨0 + 1, by have := HLT.out; have := HG.out; omega, by go_num, Lib.hid ⟨hb.out.os, hb.out.tape, hb.out.output, hb.out.size, hb.out.block⟩⟩
        · obtain ⟨z, r1, hlq⟩ := hprev j rfl
          clear hprev
          have hlti : (j : Int) + 1 < (L.length : Int) := by have := HLT.out; omega
          go_wp2_with fail
          refine (lawHas_any M y _ wr VM0.out (by have := CM.out; omega)).mono ?_
          rintro e w' ⟨rfl, rfl⟩
          rw [hdm]
          go_wp2
          go_quiet (fail)
          all_goals
            go_wp2
            go_roundg (gk - 1)
            case measure => have := HLT.out; have := HG.out; omega
            case rel => exact ⟨j + 1 + 1, by have := HLT.out; have := HG.out; omega, by go_num, Lib.hid ⟨hb.out.os, hb.out.tape, hb.out.output, hb.out.size, hb.out.block⟩⟩
      · have hdm : decide (y ∈ M) = false := decide_eq_false hm
        obtain ⟨rfl, hn⟩ := hme.resolve_left hm
        have hdn : decide (y ∈ N) = true := decide_eq_true hn
        clear hme hm hn
        rcases k with _ | j
        · clear hprev
          have hlti : (0 : Int) < (L.length : Int) := by have := HLT.out; omega
          rw [Nat.add_zero] at r0
          go_wp2_with fail
          refine (lawHas_any M y _ wr VM0.out (by have := CM.out; omega)).mono ?_
          rintro e w' ⟨rfl, rfl⟩
          rw [hdm]
          go_wp2_with fail
          refine (lawHas_any N y _ wr VN0.out (by have := CN.out; omega)).mono ?_
          rintro e w' ⟨rfl, rfl⟩
          rw [hdn]
          go_wp2
          go_quiet (fail)
          all_goals
            go_wp2
            go_roundg (gk - 1)
            case measure => have := HLT.out; have := HG.out; omega
            case rel => exact ⟨0 + 1, by have := HLT.out; have := HG.out; omega, by go_num, Lib.hid ⟨hb.out.os, hb.out.tape, hb.out.output, hb.out.size, hb.out.block⟩⟩
        · obtain ⟨z, r1, hlq⟩ := hprev j rfl
          clear hprev
          have hlti : (j : Int) + 1 < (L.length : Int) := by have := HLT.out; omega
          go_wp2_with fail
          refine (lawHas_any M y _ wr VM0.out (by have := CM.out; omega)).mono ?_
          rintro e w' ⟨rfl, rfl⟩
          rw [hdm]
          go_wp2_with fail
          refine (lawHas_any N y _ wr VN0.out (by have := CN.out; omega)).mono ?_
          rintro e w' ⟨rfl, rfl⟩
          rw [hdn]
          go_wp2
          go_quiet (fail)
          all_goals
            go_wp2
            go_roundg (gk - 1)
            case measure => have := HLT.out; have := HG.out; omega
            case rel => exact ⟨j + 1 + 1, by have := HLT.out; have := HG.out; omega, by go_num, Lib.hid ⟨hb.out.os, hb.out.tape, hb.out.output, hb.out.size, hb.out.block⟩⟩
    · have hkl : ¬ (k : Int) < (L.length : Int) := by omega
      clear hk hlt hkb
      go_wp2
      go_loopg [17] M.length (fun g v17 wr => ∃ k : Nat, k + g = M.length ∧ v17 = .int .i64 k ∧ Hid (Below w_5.heap.size w_5 wr))
      case atStart => exact ⟨0, by omega, rfl, hb⟩
      case round =>
        clear hb
        obtain ⟨k, hk, rfl, hb⟩ := hrel
        have HG := Lib.hid hk
        have hkb : (k : Int) ≤ 101 := by have := CM.out; omega
        by_cases hlt : k < M.length
        · have VL0 := Lib.hid (VL_5.out.keep hb.out)
          have VM0 := VM_5.out.keep hb.out
          obtain ⟨gl, ol, cl, hv, _, hrow⟩ := VM0.at hlt
          injection hv with e1 _ e2
          subst e1 e2
          have HLT := Lib.hid hlt
          have hdl : decide (M[k] ∈ L) = true := decide_eq_true ((HMEM.out M[k]).2 (.inl (List.getElem_mem hlt)))
          have r0 := hrow k _ (List.getElem?_eq_getElem hlt)
          generalize M[k] = y at *
          clear hrow VM0 hlt
          go_wp2_with fail
          refine (lawHas_any L y _ wr VL0.out (by have := CL.out; omega)).mono ?_
          rintro e w' ⟨rfl, rfl⟩
          rw [hdl]
          go_wp2
          go_roundg (gk - 1)
          case measure => have := HLT.out; have := HG.out; omega
          case rel => exact ⟨k + 1, by have := HLT.out; have := HG.out; omega, by go_num, hb⟩
        · have hkl2 : ¬ (k : Int) < (M.length : Int) := by omega
          clear hk hlt hkb
          go_wp2
          go_loopg [18] N.length (fun g v18 wr => ∃ k : Nat, k + g = N.length ∧ v18 = .int .i64 k ∧ Hid (Below w_5.heap.size w_5 wr))
          case atStart => exact ⟨0, by omega, rfl, hb⟩
          case round =>
            clear hb
            obtain ⟨k, hk, rfl, hb⟩ := hrel
            have HG := Lib.hid hk
            have hkb : (k : Int) ≤ 101 := by have := CN.out; omega
            by_cases hlt : k < N.length ∧ o = true
            · obtain ⟨hlt, rfl⟩ := hlt
              have VL0 := Lib.hid (VL_5.out.keep hb.out)
              have VN0 := VN_5.out.keep hb.out
              obtain ⟨gl, ol, cl, hv, _, hrow⟩ := VN0.at hlt
              injection hv with e1 _ e2
              subst e1 e2
              have HLT := Lib.hid hlt
              have hdl : decide (N[k] ∈ L) = true := decide_eq_true ((HMEM.out N[k]).2 (.inr ⟨rfl, List.getElem_mem hlt⟩))
              have r0 := hrow k _ (List.getElem?_eq_getElem hlt)
              generalize N[k] = y at *
              clear hrow VN0
              go_wp2_with fail
              refine (lawHas_any L y _ wr VL0.out (by have := CL.out; omega)).mono ?_
              rintro e w' ⟨rfl, rfl⟩
              rw [hdl]
              go_wp2
              go_roundg (gk - 1)
              case measure => have := HLT.out; have := HG.out; omega
              case rel => exact ⟨k + 1, by have := HLT.out; have := HG.out; omega, by go_num, hb⟩
            · have B_9 := Lib.hid (B_5.out.trans (hb.out.mono s_5))
              have E_9 := Lib.hid (E_5.out.below hb.out)
              have s_9 := B_9.out.size
              have hq : ¬ (k : Int) < (N.length : Int) ∨ ((k : Int) < (N.length : Int) ∧ o = false) := by
                by_cases h1 : k < N.length
                · refine .inr ⟨by omega, ?_⟩
                  cases o with
                  | false => rfl
                  | true => exact absurd ⟨h1, rfl⟩ hlt
                · exact .inl (by omega)
              clear hlt hb
              rcases hq with hq | ⟨hq, rfl⟩
              · go_wp2_with fail
                refine (kept_any wr E_9.out).mono ?_
                rintro e w_10 ⟨rfl, hb⟩
                have B_10 := Lib.hid (B_9.out.trans (hb.mono s_9))
                have E_10 := Lib.hid (E_9.out.below hb)
                have s_10 := B_10.out.size
                clear hb
                go_wp2
                go_ret
                exact ⟨rfl, B_10.out⟩
              · go_wp2_with fail
                refine (kept_any wr E_9.out).mono ?_
                rintro e w_10 ⟨rfl, hb⟩
                have B_10 := Lib.hid (B_9.out.trans (hb.mono s_9))
                have E_10 := Lib.hid (E_9.out.below hb)
                have s_10 := B_10.out.size
                clear hb
                go_wp2
                go_ret
                exact ⟨rfl, B_10.out⟩
end Go.Proofs.YthcoppfdffhjfaaGreatDoor
