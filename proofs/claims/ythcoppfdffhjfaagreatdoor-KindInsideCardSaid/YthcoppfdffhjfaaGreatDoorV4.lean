/- The reference's With. -/
import Derived.Test.YthcoppfdffhjfaaGreatDoorV3
import Derived.Test.YthcoppfdffhjfaaGreatDoorRp
namespace Go.Proofs.YthcoppfdffhjfaaGreatDoor
open Go Go.RowKit

set_option maxRecDepth 100000 in
set_option maxHeartbeats 6400000 in
theorem refLimited_any (s : Bys) (w : World) : Calls Tryz.prog 59 #[.string (bs s)] w fun e w' => e = .returned (.tuple #[.string (bs (limT s).1), .int .i64 (limT s).2]) ∧ Below w.heap.size w w' := by
  by_cases hc : chk s = 0
  · have HC := Lib.hid hc
    have HL : Hid (limT s = (s, 0)) := Lib.hid (by unfold limT; rw [if_neg (by omega)])
    clear hc
    go_enter Tryz.func59, Tryz.ntmps59
    go_wp2_with fail
    refine (refCheck_any s w).mono ?_
    rintro e w1 ⟨rfl, hb⟩
    have HB := Lib.hid hb
    clear hb
    rw [HC.out]
    go_wp2
    go_ret2
    rw [HL.out]
    exact ⟨rfl, HB.out⟩
  · have HL : Hid (limT s = ([], 2)) := Lib.hid (by unfold limT; rw [if_pos hc])
    have z2 : (chk s != 0) = true := bne_iff_ne.2 hc
    clear hc
    go_enter Tryz.func59, Tryz.ntmps59
    go_wp2_with fail
    refine (refCheck_any s w).mono ?_
    rintro e w1 ⟨rfl, hb⟩
    have HB := Lib.hid hb
    clear hb
    go_wp2
    go_ret2
    rw [HL.out]
    exact ⟨rfl, HB.out⟩
theorem withT_lim {t a : Bys} (ht : chk t = 0) (ha : chk a = 0) : withT t a = limT (repl a t) := by
  rw [withT_eq ht ha]
  rfl
theorem repl_len (a : Bys) (ha : a.length ≤ 100) : ∀ n (s : Bys), s.length ≤ n → (repl a s).length ≤ 101 * s.length
  | 0, s, h => by
    rw [List.length_eq_zero_iff.1 (by omega : s.length = 0)]
    simp [repl]
  | n + 1, s, h => by
    match s, h with
    | [], _ => simp [repl]
    | [c], _ =>
      simp only [repl]
      split
      · simp; omega
      · simp
    | c :: d :: r, h =>
      simp only [repl]
      split
      · have := repl_len a ha n r (by simp at h; omega)
        simp
        omega
      · have := repl_len a ha n (d :: r) (by simp at h ⊢; omega)
        simp at this ⊢
        omega
theorem bs_cat (a b : Bys) : bs a ++ bs b = bs (a ++ b) := by
  apply ByteArray.ext
  simp [bs]

set_option maxRecDepth 100000 in
set_option maxHeartbeats 12800000 in
theorem refWith_any (t a : Bys) (w : World) : Calls Tryz.prog 39 #[.string (bs t), .string (bs a)] w fun e w' => e = .returned (.tuple #[.string (bs (withT t a).1), .int .i64 (withT t a).2]) ∧ Below w.heap.size w w' := by
  by_cases ht : chk t = 0
  · by_cases ha : chk a = 0
    · have HT := Lib.hid ht
      have HA := Lib.hid ha
      have HW := Lib.hid (withT_lim ht ha)
      obtain ⟨T, hT, rfl⟩ := chk_ok ht
      have hq : qOK T.pr = true := by
        have := T.qOK_pr [] hT.wf
        rw [List.append_nil] at this
        rw [this]
        rfl
      have hla : a.length ≤ 100 := by
        obtain ⟨A, hA, rfl⟩ := chk_ok ha
        exact hA.len
      have hlt := hT.len
      have hrl := repl_len a hla _ T.pr (Nat.le_refl _)
      generalize T.pr = t at *
      have hsz : (bs t).size = t.length := bs_size t
      have hsa : (bs a).size = a.length := bs_size a
      have HRL : Hid ((repl a t).length ≤ 10100) := Lib.hid (by omega)
      have HLA := Lib.hid hla
      have HLT := Lib.hid hlt
      have HQ := Lib.hid hq
      clear hT hq hla hlt hrl ht ha
      go_enter Tryz.func39, Tryz.ntmps39
      go_wp2_with fail
      refine (refCheck_any t w).mono ?_
      rintro e w1 ⟨rfl, hb⟩
      have HB := Lib.hid hb
      clear hb
      rw [HT.out]
      go_wp2_with fail
      refine (refCheck_any a w1).mono ?_
      rintro e w2 ⟨rfl, hb⟩
      have HB2 := Lib.hid (HB.out.trans (hb.mono HB.out.size))
      clear hb
      rw [HA.out]
      go_wp2
      go_loopg [7, 8] t.length (fun g v7 v8 wr => ∃ (i : Nat) (x : Bys), v7 = .string (bs x) ∧ v8 = .int .i64 i ∧ Hid (i + g = t.length) ∧ Hid (x ++ repl a (t.drop i) = repl a t) ∧ Hid (qOK (t.drop i) = true) ∧ wr = w2)
      case atStart => exact ⟨0, [], rfl, rfl, Lib.hid (by omega), Lib.hid rfl, HQ, rfl⟩
      case round =>
        obtain ⟨i, x, rfl, rfl, HI, HX, HQI, rfl⟩ := hrel
        have hib : (i : Int) ≤ 100 := by have := HI.out; have := HLT.out; omega
        have hxl : x.length ≤ 10100 := by
          have h := congrArg List.length HX.out
          have := HRL.out
          simp at h
          omega
        have hsx : (bs x).size = x.length := bs_size x
        by_cases hlt : i < t.length
        · obtain ⟨c, hdr, hch0⟩ : ∃ c, t.drop i = c :: t.drop (i + 1) ∧ ∀ h2 : i < (bs t).size, ((((bs t)[i]'h2).toNat : Int)) = (c.toNat : Int) := ⟨_, List.drop_eq_getElem_cons hlt, fun h2 => bs_at t i hlt h2⟩
          have hlti : i < (bs t).size := by omega
          have hch := hch0 hlti
          clear hch0
          have HQI2 := HQI.out
          have HX2 := HX.out
          rw [hdr] at HQI2 HX2
          have hll : (i : Int) < (t.length : Int) := by omega
          by_cases h63 : c = 63
          · have z1 : ((((bs t)[i]'hlti).toNat : Int) == 63) = true := by rw [hch, h63]; rfl
            rw [h63] at HQI2 HX2
            obtain ⟨r, hr⟩ : ∃ r, t.drop (i + 1) = 116 :: r := by
              cases hq : t.drop (i + 1) with
              | nil => rw [hq] at HQI2; simp [qOK] at HQI2
              | cons d r =>
                rw [hq] at HQI2
                simp only [qOK, if_true, Bool.and_eq_true, beq_iff_eq] at HQI2
                exact ⟨r, by rw [HQI2.1]⟩
            have hr2 : t.drop (i + 2) = r := by
              rw [show i + 2 = i + 1 + 1 by omega, ← List.drop_drop, hr]
              rfl
            have hlt2 : i + 1 < t.length := by
              have h := congrArg List.length hr
              simp at h
              omega
            rw [hr] at HQI2 HX2
            have HN : Hid (x ++ a ++ repl a (t.drop (i + 2)) = repl a t ∧ qOK (t.drop (i + 2)) = true ∧ i + 2 ≤ t.length ∧ (i + gk = t.length)) := Lib.hid (by
              rw [hr2]
              refine ⟨?_, ?_, by omega, HI.out⟩
              · rw [← HX2]
                simp [repl]
              · simp only [qOK, if_true, Bool.and_eq_true] at HQI2
                exact HQI2.2)
            have g1 : ¬ 9223372036854775807 < (bs x).size + (bs a).size := by have := HLA.out; omega
            have g2 : bs x ++ bs a = bs (x ++ a) := bs_cat x a
            have hla2 : a.length ≤ 100 := HLA.out
            clear hdr hch HQI2 HX2 h63 hr hr2 hlt2 hlt
            go_wp2
            go_roundg (gk - 2)
            case measure => have := HN.out.2.2; omega
            case rel => exact ⟨i + 2, x ++ a, rfl, by go_num, Lib.hid (by have := HN.out.2.2; omega), Lib.hid HN.out.1, Lib.hid HN.out.2.1, rfl⟩
          · have z1 : ((((bs t)[i]'hlti).toNat : Int) == 63) = false := by
              rw [hch, beq_eq_false_iff_ne]
              intro e
              apply h63
              exact UInt8.toNat_inj.1 (by have : c.toNat = 63 := by omega
                                          rw [this]; rfl)
            have hx1 : (bs t).extract i (i + 1) = bs [c] := by
              rw [bs_mid, hdr]
              rfl
            have HN : Hid (x ++ [c] ++ repl a (t.drop (i + 1)) = repl a t ∧ qOK (t.drop (i + 1)) = true ∧ i + 1 ≤ t.length ∧ (i + gk = t.length)) := Lib.hid (by
              refine ⟨?_, ?_, by omega, HI.out⟩
              · rw [← HX2, repl_cons _ _ h63]
                simp
              · rw [qOK_cons _ h63] at HQI2
                exact HQI2)
            have g1 : ¬ 9223372036854775807 < (bs x).size + (bs [c]).size := by rw [bs_size [c]]; simp; omega
            have g2 : bs x ++ bs [c] = bs (x ++ [c]) := bs_cat x [c]
            have g3 : (bs [c]).size = 1 := bs_size [c]
            have hll2 : (i : Int) + 1 ≤ (t.length : Int) := by omega
            clear hdr hch HQI2 HX2 h63 hlt
            go_wp2
            go_roundg (gk - 1)
            case measure => have := HN.out.2.2; omega
            case rel => exact ⟨i + 1, x ++ [c], rfl, by go_num, Lib.hid (by have := HN.out.2.2; omega), Lib.hid HN.out.1, Lib.hid HN.out.2.1, rfl⟩
        · have hx : Hid (x = repl a t) := Lib.hid (by
            have h := HX.out
            rw [List.drop_of_length_le (by omega)] at h
            simpa [repl] using h)
          have hll : ¬ (i : Int) < (t.length : Int) := by omega
          clear hlt
          go_wp2_with fail
          refine (refLimited_any x _).mono ?_
          rintro e w3 ⟨rfl, hb⟩
          have HB3 := Lib.hid (HB2.out.trans (hb.mono HB2.out.size))
          clear hb
          go_wp2
          go_ret2
          rw [HW.out, hx.out]
          exact ⟨rfl, HB3.out⟩
    · have HT := Lib.hid ht
      have hw : withT t a = ([], chk a) := by unfold withT; rw [if_neg (by omega), if_pos ha]
      have HW := Lib.hid hw
      have z2 : (chk a != 0) = true := bne_iff_ne.2 ha
      clear ht ha hw
      go_enter Tryz.func39, Tryz.ntmps39
      go_wp2_with fail
      refine (refCheck_any t w).mono ?_
      rintro e w1 ⟨rfl, hb⟩
      have HB := Lib.hid hb
      clear hb
      rw [HT.out]
      go_wp2_with fail
      refine (refCheck_any a w1).mono ?_
      rintro e w2 ⟨rfl, hb⟩
      have HB2 := Lib.hid (HB.out.trans (hb.mono HB.out.size))
      clear hb
      go_wp2
      go_ret2
      rw [HW.out]
      exact ⟨rfl, HB2.out⟩
  · have hw : withT t a = ([], chk t) := by unfold withT; rw [if_pos ht]
    have HW := Lib.hid hw
    have z1 : (chk t == 0) = false := beq_eq_false_iff_ne.2 ht
    have z2 : (chk t != 0) = true := bne_iff_ne.2 ht
    clear ht hw
    go_enter Tryz.func39, Tryz.ntmps39
    go_wp2_with fail
    refine (refCheck_any t w).mono ?_
    rintro e w1 ⟨rfl, hb⟩
    have HB := Lib.hid hb
    clear hb
    go_wp2
    go_ret2
    rw [HW.out]
    exact ⟨rfl, HB.out⟩
end Go.Proofs.YthcoppfdffhjfaaGreatDoor
/- The reference's Match. -/
namespace Go.Proofs.YthcoppfdffhjfaaGreatDoor
open Go Go.RowKit

/-- What may stand behind a type. -/
def EndS (y : Bys) : Prop := y = [] ∨ ∃ c z, y = c :: z ∧ (c = 93 ∨ c = 44)
theorem EndS.app {y : Bys} (h : EndS y) (c : UInt8) (z : Bys) (hc : c = 93 ∨ c = 44) : EndS (y ++ c :: z) := by
  rcases h with rfl | ⟨d, w, rfl, hd⟩
  · exact .inr ⟨c, z, rfl, hc⟩
  · exact .inr ⟨d, w ++ c :: z, rfl, hd⟩
theorem EndS.stop {y : Bys} (h : EndS y) (a : Bys) : Stop (repl a y) := by
  rcases h with rfl | ⟨c, z, rfl, hc⟩
  · exact stop_nil
  · rw [repl_cons a z (by rcases hc with rfl | rfl <;> decide)]
    rcases hc with rfl | rfl
    · exact stop_93 _
    · exact stop_44 _
theorem no63_name {n : Bys} (h : isNameL n = true) : ∀ c ∈ n, c ≠ 63 := fun c hc e => by
  have := name_ld h c hc
  rw [e] at this
  revert this
  decide
theorem no63_closed {T : Ty} (h : T.wf) (ho : T.op = false) : ∀ c ∈ T.pr, c ≠ 63 := fun c hc e => by
  rw [T.op_pr h] at ho
  subst e
  have : T.pr.contains 63 = true := by rw [List.contains_iff_mem]; exact hc
  rw [this] at ho
  cases ho
theorem no63_word (o : Bool) : ∀ c ∈ rcdWord o, c ≠ 63 := by cases o <;> decide
theorem no63_app {x y : Bys} (hx : ∀ c ∈ x, c ≠ 63) (hy : ∀ c ∈ y, c ≠ 63) : ∀ c ∈ x ++ y, c ≠ 63 := fun c hc => by
  rcases List.mem_append.1 hc with h | h
  · exact hx c h
  · exact hy c h
theorem no63_cons {x : Bys} {d : UInt8} (hd_ : d ≠ 63) (hx : ∀ c ∈ x, c ≠ 63) : ∀ c ∈ d :: x, c ≠ 63 := fun c hc => by
  rcases List.mem_cons.1 hc with rfl | h
  · exact hd_
  · exact hx c h
mutual
/-- Where the parameter first stands. -/
theorem Ty.op_split : ∀ T : Ty, T.op = true → T.wf → ∃ x y, T.pr = x ++ 63 :: 116 :: y ∧ (∀ c ∈ x, c ≠ 63) ∧ EndS y
  | .int, h, _ => by cases h
  | .bool, h, _ => by cases h
  | .null, h, _ => by cases h
  | .nam _, h, _ => by cases h
  | .par, _, _ => ⟨[], [], rfl, by simp, .inl rfl⟩
  | .arr t, h, w => by
    obtain ⟨x, y, e, hx, hy⟩ := Ty.op_split t h w
    exact ⟨kArray ++ 91 :: x, y ++ [93], by simp [Ty.pr, e], no63_app (by decide) (no63_cons (by decide) hx), hy.app 93 [] (.inl rfl)⟩
  | .app n t, h, w => by
    obtain ⟨x, y, e, hx, hy⟩ := Ty.op_split t h w.2
    exact ⟨n ++ 91 :: x, y ++ [93], by simp [Ty.pr, e], no63_app (no63_name w.1) (no63_cons (by decide) hx), hy.app 93 [] (.inl rfl)⟩
  | .rcd o F, h, w => by
    obtain ⟨x, y, e, hx, hy⟩ := Fs.op_split F [] h w.1
    exact ⟨rcdWord o ++ 91 :: x, y, by simp [Ty.pr, e], no63_app (no63_word o) (no63_cons (by decide) hx), hy⟩
theorem Fs.op_split : ∀ (F : Fs) (b : Bys), F.op = true → F.wf b → ∃ x y, F.pr = x ++ 63 :: 116 :: y ∧ (∀ c ∈ x, c ≠ 63) ∧ EndS y
  | .one n t, b, h, w => by
    obtain ⟨x, y, e, hx, hy⟩ := Ty.op_split t h w.2.2
    exact ⟨n ++ 58 :: x, y ++ [93], by simp [Fs.pr, e], no63_app (no63_name w.1) (no63_cons (by decide) hx), hy.app 93 [] (.inl rfl)⟩
  | .more n t fs, b, h, w => by
    cases ht : t.op with
    | true =>
      obtain ⟨x, y, e, hx, hy⟩ := Ty.op_split t ht w.2.2.1
      exact ⟨n ++ 58 :: x, y ++ 44 :: fs.pr, by simp [Fs.pr, e], no63_app (no63_name w.1) (no63_cons (by decide) hx), hy.app 44 fs.pr (.inr rfl)⟩
    | false =>
      have hf : fs.op = true := by simpa [Fs.op, ht] using h
      obtain ⟨x, y, e, hx, hy⟩ := Fs.op_split fs n hf w.2.2.2
      exact ⟨n ++ 58 :: (t.pr ++ 44 :: x), y, by simp [Fs.pr, e], no63_app (no63_name w.1) (no63_cons (by decide) (no63_app (no63_closed w.2.2.1 ht) (no63_cons (by decide) hx))), hy⟩
end
/-- How the reference tries what stands in the parameter's place. -/
theorem match_ref {p t : Bys} (hp : chk p = 0) (ho : p.contains 63 = true) (ht : chk t = 0) : ∃ x y : Bys, p = x ++ 63 :: y ∧ (∀ c ∈ x, c ≠ 63) ∧
    ((t.length < x.length ∧ matchT p t = ([], false, 0)) ∨ (x.length ≤ t.length ∧ t.take x.length ≠ x ∧ matchT p t = ([], false, 0)) ∨
    (x.length ≤ t.length ∧ t.take x.length = x ∧ ∃ n l : Nat, rdN (rdT 101 (t.drop x.length)) = ((n : Int), (l : Int)) ∧ x.length + n ≤ t.length ∧
      ((n = 0 ∧ matchT p t = ([], false, 0)) ∨ (n ≠ 0 ∧ (withT p ((t.drop x.length).take n)).2 ≠ 0 ∧ matchT p t = ([], false, 0)) ∨
       (n ≠ 0 ∧ (withT p ((t.drop x.length).take n)).2 = 0 ∧ (withT p ((t.drop x.length).take n)).1 ≠ t ∧ matchT p t = ([], false, 0)) ∨
       (n ≠ 0 ∧ (withT p ((t.drop x.length).take n)).2 = 0 ∧ (withT p ((t.drop x.length).take n)).1 = t ∧ matchT p t = ((t.drop x.length).take n, true, 0))))) := by
  obtain ⟨P, hP, rfl⟩ := chk_ok hp
  have hop : P.op = true := by rw [P.op_pr hP.wf]; exact ho
  obtain ⟨x, y, e, hx, hy⟩ := P.op_split hop hP.wf
  refine ⟨x, 116 :: y, e, hx, ?_⟩
  have hform : ∀ a, repl a P.pr = x ++ (a ++ repl a y) := fun a => by
    rw [e, repl_app a _ hx]
    simp [repl]
  rcases Nat.lt_or_ge t.length x.length with h1 | h1
  · refine .inl ⟨h1, matchT_none hP.chk ho ht fun a _ h => ?_⟩
    rw [hform] at h
    have := congrArg List.length h
    simp at this
    omega
  · refine .inr ?_
    by_cases h2 : t.take x.length = x
    · refine .inr ⟨h1, h2, ?_⟩
      have hn : ∃ n l : Nat, rdN (rdT 101 (t.drop x.length)) = ((n : Int), (l : Int)) ∧ x.length + n ≤ t.length := by
        cases hr : rdT 101 (t.drop x.length) with
        | none => exact ⟨0, 0, rfl, by omega⟩
        | some q =>
          obtain ⟨T, r⟩ := q
          obtain ⟨_, h4, _⟩ := rd_pos hr
          have := congrArg List.length h4
          simp at this
          exact ⟨T.pr.length, T.lev, rfl, by omega⟩
      obtain ⟨n, l, e1, e2⟩ := hn
      refine ⟨n, l, e1, e2, ?_⟩
      rcases matchT_cases hP.chk ho ht with ⟨a, ha, h, hm⟩ | ⟨hno, hm⟩
      · obtain ⟨A, hA, rfl⟩ := chk_ok ha
        have hd1 : t.drop x.length = A.pr ++ repl A.pr y := by
          rw [← h, hform, List.drop_left' rfl]
        have hr : rdT 101 (t.drop x.length) = some (A, repl A.pr y) := by
          rw [hd1]
          exact rdT_back 101 A hA.wf (by have := hA.lev; omega) _ (hy.stop A.pr)
        rw [hr] at e1
        have en : A.pr.length = n := by
          have := congrArg Prod.fst e1
          simp only [rdN] at this
          omega
        have ha2 : (t.drop x.length).take n = A.pr := by rw [hd1, ← en, List.take_left' rfl]
        have hw := match_with ho hm
        refine .inr (.inr (.inr ?_))
        rw [ha2, hw]
        exact ⟨by have := List.length_pos_iff.2 (pr_ne A hA.wf); omega, rfl, rfl, hm⟩
      · by_cases h0 : n = 0
        · exact .inl ⟨h0, hm⟩
        · by_cases h3 : (withT P.pr ((t.drop x.length).take n)).2 = 0
          · by_cases h4 : (withT P.pr ((t.drop x.length).take n)).1 = t
            · exfalso
              have hw : withT P.pr ((t.drop x.length).take n) = (t, 0) := Prod.ext h4 h3
              obtain ⟨_, c2, c3, _⟩ := withT_ok hw
              exact hno _ c2 c3.symm
            · exact .inr (.inr (.inl ⟨h0, h3, h4, hm⟩))
          · exact .inr (.inl ⟨h0, h3, hm⟩)
    · refine .inl ⟨h1, h2, matchT_none hP.chk ho ht fun a _ h => h2 ?_⟩
      rw [hform] at h
      rw [← h, List.take_left' rfl]
end Go.Proofs.YthcoppfdffhjfaaGreatDoor
/- The reference's Match: the walk. -/
namespace Go.Proofs.YthcoppfdffhjfaaGreatDoor
open Go Go.RowKit

theorem below_drewN {B : Nat} {w w' : World} (h : Below B w w') (n : Nat) : Below B w (w'.drewN n) := ⟨h.os, h.tape, h.output, h.size, h.block⟩
theorem ne_lists2 {a b : Bys} (h : a ≠ b) : ((bs a).toList == (bs b).toList) = false ∧ ((bs a).toList != (bs b).toList) = true := by
  rw [ByteArray.toList_eq, ByteArray.toList_eq, bs_data, bs_data]
  exact ⟨beq_eq_false_iff_ne.2 h, bne_iff_ne.2 h⟩

set_option maxRecDepth 100000 in
set_option maxHeartbeats 25600000 in
theorem refMatch_any (p t : Bys) (w : World) : Calls Tryz.prog 41 #[.string (bs p), .string (bs t)] w fun e w' =>
    e = .returned (.tuple #[.string (bs (matchT p t).1), .bool (matchT p t).2.1, .int .i64 (matchT p t).2.2]) ∧ Below w.heap.size w w' := by
  by_cases hp : chk p = 0
  rotate_left
  · have HW := Lib.hid (matchT_err1 (t := t) hp)
    have z1 : (chk p == 0) = false := beq_eq_false_iff_ne.2 hp
    have z2 : (chk p != 0) = true := bne_iff_ne.2 hp
    clear hp
    go_enter Tryz.func41, Tryz.ntmps41
    go_wp2_with fail
    refine (refCheck_any p w).mono ?_
    rintro e w1 ⟨rfl, hb⟩
    have HB := Lib.hid hb
    clear hb
    go_wp2
    go_ret3
    refine ⟨ret_match ?_, HB.out⟩
    rw [HW.out]
  by_cases ht : chk t = 0
  rotate_left
  · have HP := Lib.hid hp
    have HW := Lib.hid (matchT_err2 hp ht)
    have z2 : (chk t != 0) = true := bne_iff_ne.2 ht
    clear hp ht
    go_enter Tryz.func41, Tryz.ntmps41
    go_wp2_with fail
    refine (refCheck_any p w).mono ?_
    rintro e w1 ⟨rfl, hb⟩
    have HB := Lib.hid hb
    clear hb
    rw [HP.out]
    go_wp2_with fail
    refine (refCheck_any t w1).mono ?_
    rintro e w2 ⟨rfl, hb⟩
    have HB2 := Lib.hid (HB.out.trans (hb.mono HB.out.size))
    clear hb
    go_wp2
    go_ret3
    refine ⟨ret_match ?_, HB2.out⟩
    rw [HW.out]
  have HP := Lib.hid hp
  have HT := Lib.hid ht
  have hpl : p.length ≤ 100 := by obtain ⟨P, hP, rfl⟩ := chk_ok hp; exact hP.len
  have htl : t.length ≤ 100 := by obtain ⟨P, hP, rfl⟩ := chk_ok ht; exact hP.len
  have HPL := Lib.hid hpl
  have HTL := Lib.hid htl
  cases ho : openB p
  · have HM := Lib.hid (matchT_closed hp ho ht)
    have HO := Lib.hid ho
    clear hp ht hpl htl ho
    go_enter Tryz.func41, Tryz.ntmps41
    go_wp2_with fail
    refine (refCheck_any p w).mono ?_
    rintro e w1 ⟨rfl, hb⟩
    have HB := Lib.hid hb
    clear hb
    rw [HP.out]
    go_wp2_with fail
    refine (refCheck_any t w1).mono ?_
    rintro e w2 ⟨rfl, hb⟩
    have HB2 := Lib.hid (HB.out.trans (hb.mono HB.out.size))
    clear hb
    rw [HT.out]
    go_wp2_with fail
    refine (refOpen_any p (by have := HPL.out; omega) w2).mono ?_
    rintro e w3 ⟨rfl, rfl⟩
    rw [HO.out]
    go_wp2
    go_ret3
    refine ⟨ret_match ?_, HB2.out⟩
    rw [HM.out]
    simp only [ByteArray.toList_eq, bs_data]
  · obtain ⟨x, y, hxy, hx, hcase⟩ := match_ref hp ho ht
    have HO := Lib.hid ho
    have hsz : (bs p).size = p.length := bs_size p
    have hst : (bs t).size = t.length := bs_size t
    have hxl : x.length < p.length := by rw [hxy]; simp
    have HXL := Lib.hid hxl
    have hbyte : ∀ k (hk : k ≤ x.length) (h2 : k < (bs p).size), ((((bs p)[k]'h2).toNat : Int) != 63) = decide (k < x.length) := fun k hk h2 => by
      have hk2 : k < p.length := by omega
      obtain ⟨c, e1, e3⟩ : ∃ c, p[k]? = some c ∧ ((((bs p)[k]'h2).toNat : Int)) = (c.toNat : Int) := ⟨_, List.getElem?_eq_getElem hk2, bs_at p k hk2 h2⟩
      rw [e3]
      have e2 : p[k]? = (x ++ 63 :: y)[k]? := by rw [hxy]
      rw [e1] at e2
      by_cases hlt : k < x.length
      · rw [List.getElem?_append_left hlt, List.getElem?_eq_getElem hlt] at e2
        injection e2 with e2
        have := hx _ (List.getElem_mem hlt)
        rw [← e2] at this
        rw [decide_eq_true hlt, bne_iff_ne]
        intro e
        apply this
        exact UInt8.toNat_inj.1 (by have : c.toNat = 63 := by omega
                                    rw [this]; rfl)
      · have hkx : k = x.length := by omega
        subst hkx
        rw [List.getElem?_append_right (Nat.le_refl _), Nat.sub_self] at e2
        injection e2 with e2
        rw [e2, decide_eq_false hlt]
        rfl
    have HBY := Lib.hid hbyte
    have hpx : (bs p).extract 0 x.length = bs x := by rw [bs_take, hxy, List.take_left' rfl]
    have HPX := Lib.hid hpx
    have hxb : (x.length : Int) ≤ 100 := by omega
    have HCASE := Lib.hid hcase
    clear hp ht hpl htl ho hxy hx hbyte hcase hpx hxl
    generalize hm0 : x.length = m at *
    clear hm0
    go_enter Tryz.func41, Tryz.ntmps41
    go_wp2_with fail
    refine (refCheck_any p w).mono ?_
    rintro e w1 ⟨rfl, hb⟩
    have HB := Lib.hid hb
    clear hb
    rw [HP.out]
    go_wp2_with fail
    refine (refCheck_any t w1).mono ?_
    rintro e w2 ⟨rfl, hb⟩
    have HB2 := Lib.hid (HB.out.trans (hb.mono HB.out.size))
    clear hb
    rw [HT.out]
    go_wp2_with fail
    refine (refOpen_any p (by have := HPL.out; omega) w2).mono ?_
    rintro e w3 ⟨rfl, rfl⟩
    rw [HO.out]
    go_wp2
    go_loopg [8] m (fun g v8 wr => ∃ k : Nat, v8 = .int .i64 k ∧ Hid (k + g = m) ∧ wr = w2)
    case atStart => exact ⟨0, rfl, Lib.hid (by omega), rfl⟩
    case round =>
      obtain ⟨k, rfl, HK, rfl⟩ := hrel
      have hkx : k ≤ m := by have := HK.out; omega
      have hk2 : k < (bs p).size := by have := HXL.out; omega
      have hby := HBY.out k hkx hk2
      have hkl : (k : Int) < (p.length : Int) := by omega
      have hkb : (k : Int) ≤ 100 := by omega
      by_cases hlt : k < m
      · rw [decide_eq_true hlt] at hby
        have HLT := Lib.hid hlt
        clear hlt hkx
        go_wp2
        go_roundg (gk - 1)
        case measure => have := HK.out; have := HLT.out; omega
        case rel => exact ⟨k + 1, by go_num, Lib.hid (by have := HK.out; have := HLT.out; omega), rfl⟩
      · rw [decide_eq_false hlt] at hby
        obtain rfl : m = k := by omega
        have hpx := HPX.out
        have hxp : (m : Int) ≤ (p.length : Int) := by omega
        clear hlt hkx
        rcases HCASE.out with ⟨h1, hm⟩ | ⟨h1, h2, hm⟩ | ⟨h1, h2, n, l, e1, e2, hrest⟩
        · have HM := Lib.hid hm
          have c1 : (t.length : Int) < (m : Int) := by omega
          clear h1 hm
          go_wp2
          go_quiet (fail)
          all_goals
            go_wp2
            go_ret3
            exact ⟨ret_match (by rw [HM.out]), HB2.out.os, HB2.out.tape, HB2.out.output, HB2.out.size, HB2.out.block⟩
        · have HM := Lib.hid hm
          have c1 : ¬ (t.length : Int) < (m : Int) := by omega
          have c2 : (bs t).extract 0 m = bs (t.take m) := bs_take t m
          have c3 : (m : Int) ≤ (t.length : Int) := by omega
          have c3' : m ≤ t.length := by omega
          have hxp' : m ≤ p.length := by omega
          obtain ⟨n1, n2⟩ := ne_lists2 h2
          clear h1 h2 hm
          generalize t.take m = tx at *
          go_wp2
          go_quiet (fail)
          all_goals
            go_wp2
            go_ret3
            exact ⟨ret_match (by rw [HM.out]), HB2.out.os, HB2.out.tape, HB2.out.output, HB2.out.size, HB2.out.block⟩
        · have c1 : ¬ (t.length : Int) < (m : Int) := by omega
          have c2 : (bs t).extract 0 m = bs x := by rw [bs_take, h2]
          have c3 : (m : Int) ≤ (t.length : Int) := by omega
          have c3' : m ≤ t.length := by omega
          have hxp' : m ≤ p.length := by omega
          have hx5 : (bs t).extract m t.length = bs (t.drop m) := bs_drop t _ _ (by omega)
          have hx6 : (bs t).extract m (m + n) = bs ((t.drop m).take n) := bs_mid t m n
          have hrd := fun w => read_top (t.drop m) (by have := HTL.out; simp; omega) w
          simp only [e1] at hrd
          have HRD := Lib.hid hrd
          have c4 : (m : Int) + (n : Int) ≤ (t.length : Int) := by omega
          have c5 : (t.length : Int) ≤ 100 := by have := HTL.out; omega
          have HWI := Lib.hid fun w => refWith_any p ((t.drop m).take n) w
          clear h1 h2 hrd e1
          generalize hta : (t.drop m).take n = a at *
          generalize htd : t.drop m = td at *
          have hnn : (n : Int) ≤ 100 := by omega
          obtain ⟨back, f, hbf⟩ : ∃ back f, withT p a = (back, f) := ⟨_, _, rfl⟩
          rw [hbf] at hrest
          simp only [hbf] at HWI
          simp only at hrest
          have ha0 : n = 0 → a = [] := fun h => by rw [← hta, h]; rfl
          clear hta htd hbf e2
          rcases hrest with ⟨h0, hm⟩ | ⟨h0, h3, hm⟩ | ⟨h0, h3, h4, hm⟩ | ⟨h0, h3, h4, hm⟩
          · have HM := Lib.hid hm
            subst h0
            obtain rfl := ha0 rfl
            have hwi := HWI.out
            have hbe : bs [] = ByteArray.empty := rfl
            simp only [hbe] at hwi
            have HWI := Lib.hid hwi
            clear hwi hbe ha0
            clear hm
            go_wp2
            go_quiet (fail)
            all_goals
              go_wp2_with fail
              refine (HRD.out _).mono ?_
              rintro e w5 ⟨rfl, hb⟩
              have HB5 := Lib.hid ((below_drewN HB2.out _).trans (hb.mono HB2.out.size))
              clear hb
              go_wp2_with fail
              refine (HWI.out w5).mono ?_
              rintro e w6 ⟨rfl, hb⟩
              have HB6 := Lib.hid (HB5.out.trans (hb.mono HB5.out.size))
              clear hb
              go_wp2
              go_ret3
              exact ⟨ret_match (by rw [HM.out]), HB6.out⟩
          · have HM := Lib.hid hm
            have z1 : ((n : Int) == 0) = false := beq_eq_false_iff_ne.2 (by omega)
            have z2 : (f != 0) = true := bne_iff_ne.2 h3
            clear hm h0 h3 ha0
            go_wp2
            go_quiet (fail)
            all_goals
              go_wp2_with fail
              refine (HRD.out _).mono ?_
              rintro e w5 ⟨rfl, hb⟩
              have HB5 := Lib.hid ((below_drewN HB2.out _).trans (hb.mono HB2.out.size))
              clear hb
              go_wp2_with fail
              refine (HWI.out w5).mono ?_
              rintro e w6 ⟨rfl, hb⟩
              have HB6 := Lib.hid (HB5.out.trans (hb.mono HB5.out.size))
              clear hb
              go_wp2
              go_ret3
              exact ⟨ret_match (by rw [HM.out]), HB6.out⟩
          · have HM := Lib.hid hm
            have z1 : ((n : Int) == 0) = false := beq_eq_false_iff_ne.2 (by omega)
            obtain ⟨n1, n2⟩ := ne_lists2 h4
            subst h3
            clear hm h0 h4 ha0
            go_wp2
            go_quiet (fail)
            all_goals
              go_wp2_with fail
              refine (HRD.out _).mono ?_
              rintro e w5 ⟨rfl, hb⟩
              have HB5 := Lib.hid ((below_drewN HB2.out _).trans (hb.mono HB2.out.size))
              clear hb
              go_wp2_with fail
              refine (HWI.out w5).mono ?_
              rintro e w6 ⟨rfl, hb⟩
              have HB6 := Lib.hid (HB5.out.trans (hb.mono HB5.out.size))
              clear hb
              go_wp2
              go_ret3
              exact ⟨ret_match (by rw [HM.out]), HB6.out⟩
          · have HM := Lib.hid hm
            have z1 : ((n : Int) == 0) = false := beq_eq_false_iff_ne.2 (by omega)
            subst h3 h4
            clear hm h0 ha0
            go_wp2
            go_quiet (fail)
            all_goals
              go_wp2_with fail
              refine (HRD.out _).mono ?_
              rintro e w5 ⟨rfl, hb⟩
              have HB5 := Lib.hid ((below_drewN HB2.out _).trans (hb.mono HB2.out.size))
              clear hb
              go_wp2_with fail
              refine (HWI.out w5).mono ?_
              rintro e w6 ⟨rfl, hb⟩
              have HB6 := Lib.hid (HB5.out.trans (hb.mono HB5.out.size))
              clear hb
              go_wp2
              go_ret3
              exact ⟨ret_match (by rw [HM.out]), HB6.out⟩
end Go.Proofs.YthcoppfdffhjfaaGreatDoor
