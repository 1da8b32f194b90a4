/- The reference's Array and Named. -/
import Derived.Test.YthcoppfdffhjfaaGreatDoorV4
namespace Go.Proofs.YthcoppfdffhjfaaGreatDoor
open Go Go.RowKit

theorem refLimited_q (x : ByteArray) (s : Bys) (h : x = bs s) (w : World) : Calls Tryz.prog 59 #[.string x] w fun e w' => e = .returned (.tuple #[.string (bs (limT s).1), .int .i64 (limT s).2]) ∧ Below w.heap.size w w' := by
  subst h
  exact refLimited_any s w

set_option maxRecDepth 100000 in
set_option maxHeartbeats 6400000 in
theorem refArray_any (a : Bys) (ha : a.length ≤ 1000) (w : World) : Calls Tryz.prog 31 #[.string (bs a)] w fun e w' => e = .returned (.tuple #[.string (bs (arrayT a).1), .int .i64 (arrayT a).2]) ∧ Below w.heap.size w w' := by
  have hsz := bs_size a
  by_cases hc : chk a = 0
  · have HI : Hid (arrayT a = limT (kArray ++ 91 :: (a ++ [93]))) := Lib.hid (by unfold arrayT; rw [if_neg (by omega)])
    have HC := Lib.hid hc
    have g1 : ¬ 9223372036854775807 < (bs [97, 114, 114, 97, 121, 91]).size + (bs a).size := by rw [bs_size [97, 114, 114, 97, 121, 91]]; simp; omega
    clear hc
    go_enter Tryz.func31, Tryz.ntmps31
    go_wp2_with fail
    refine (refCheck_any a w).mono ?_
    rintro e w1 ⟨rfl, hb⟩
    rw [HC.out]
    have HB := Lib.hid hb
    clear hb
    go_wp2_with fail
    refine (refLimited_q _ (kArray ++ 91 :: (a ++ [93])) ?_ w1).mono ?_
    · show bs [97, 114, 114, 97, 121, 91] ++ bs a ++ bs [93] = _
      simp [bs_cat, kArray]
    rintro e w2 ⟨rfl, hb2⟩
    have HB2 := Lib.hid hb2
    clear hb2
    go_wp2
    go_ret2
    rw [HI.out]
    exact ⟨rfl, HB.out.trans (HB2.out.mono HB.out.size)⟩
  · have HI : Hid (arrayT a = ([], chk a)) := Lib.hid (by unfold arrayT; rw [if_pos hc])
    have hc2 : (chk a != 0) = true := bne_iff_ne.2 hc
    clear hc
    go_enter Tryz.func31, Tryz.ntmps31
    go_wp2_with fail
    refine (refCheck_any a w).mono ?_
    rintro e w1 ⟨rfl, hb⟩
    have HB := Lib.hid hb
    clear hb
    go_wp2
    go_ret2
    rw [HI.out]
    exact ⟨rfl, HB.out⟩

set_option maxRecDepth 100000 in
set_option maxHeartbeats 6400000 in
theorem refNamed_any (n a : Bys) (hn : n.length ≤ 1000) (ha : a.length ≤ 1000) (w : World) : Calls Tryz.prog 33 #[.string (bs n), .string (bs a)] w fun e w' => e = .returned (.tuple #[.string (bs (namedT n a).1), .int .i64 (namedT n a).2]) ∧ Below w.heap.size w w' := by
  have hsn := bs_size n
  have hsa := bs_size a
  have hin := refIsName_any (bs n) w (by omega)
  rw [isNameB_L] at hin
  have HIN := Lib.hid hin
  clear hin
  cases hnm : isNameL n
  · have HI : Hid (namedT n a = ([], 1)) := Lib.hid (by unfold namedT; rw [if_pos hnm])
    rw [hnm] at HIN
    clear hnm
    go_enter Tryz.func33, Tryz.ntmps33
    go_wp2_with fail
    refine HIN.out.mono ?_
    rintro e w1 ⟨rfl, hb⟩
    have HB := Lib.hid hb
    clear hb
    go_wp2
    go_ret2
    rw [HI.out]
    exact ⟨rfl, HB.out⟩
  · rw [hnm] at HIN
    by_cases h0 : a = []
    · subst h0
      have HI : Hid (namedT n [] = (n, 0)) := Lib.hid (by unfold namedT; rw [if_neg (by rw [hnm]; decide), if_pos rfl])
      have t0 : (bs []).toList.isEmpty = true := by rw [ByteArray.toList_eq]; rfl
      clear hnm
      go_enter Tryz.func33, Tryz.ntmps33
      go_wp2_with fail
      refine HIN.out.mono ?_
      rintro e w1 ⟨rfl, hb⟩
      have HB := Lib.hid hb
      clear hb
      go_wp2
      go_ret2
      rw [HI.out]
      exact ⟨rfl, HB.out⟩
    · have t0 : (bs a).toList.isEmpty = false := by
        rw [ByteArray.toList_eq, bs_data]
        cases a with
        | nil => exact absurd rfl h0
        | cons c l => rfl
      by_cases hc : chk a = 0
      · have HI : Hid (namedT n a = limT (n ++ 91 :: (a ++ [93]))) := Lib.hid (by unfold namedT; rw [if_neg (by rw [hnm]; decide), if_neg h0, if_neg (by omega)])
        have HC := Lib.hid hc
        clear hc hnm h0
        go_enter Tryz.func33, Tryz.ntmps33
        go_wp2_with fail
        refine HIN.out.mono ?_
        rintro e w1 ⟨rfl, hb⟩
        have HB := Lib.hid hb
        clear hb
        go_wp2_with fail
        refine (refCheck_any a w1).mono ?_
        rintro e w2 ⟨rfl, hb⟩
        have HB1 := Lib.hid (HB.out.trans (hb.mono HB.out.size))
        clear hb
        rw [HC.out]
        go_wp2_with fail
        refine (refLimited_q _ (n ++ 91 :: (a ++ [93])) ?_ w2).mono ?_
        · show bs n ++ bs [91] ++ bs a ++ bs [93] = _
          simp [bs_cat]
        rintro e w3 ⟨rfl, hb2⟩
        have HB2 := Lib.hid (HB1.out.trans (hb2.mono HB1.out.size))
        clear hb2
        go_wp2
        go_ret2
        rw [HI.out]
        exact ⟨rfl, HB2.out⟩
      · have HI : Hid (namedT n a = ([], chk a)) := Lib.hid (by unfold namedT; rw [if_neg (by rw [hnm]; decide), if_neg h0, if_pos hc])
        have hc2 : (chk a != 0) = true := bne_iff_ne.2 hc
        clear hc hnm h0
        go_enter Tryz.func33, Tryz.ntmps33
        go_wp2_with fail
        refine HIN.out.mono ?_
        rintro e w1 ⟨rfl, hb⟩
        have HB := Lib.hid hb
        clear hb
        go_wp2_with fail
        refine (refCheck_any a w1).mono ?_
        rintro e w2 ⟨rfl, hb⟩
        have HB1 := Lib.hid (HB.out.trans (hb.mono HB.out.size))
        clear hb
        go_wp2
        go_ret2
        rw [HI.out]
        exact ⟨rfl, HB1.out⟩
end Go.Proofs.YthcoppfdffhjfaaGreatDoor
/- The reference's made: its plain half. -/
namespace Go.Proofs.YthcoppfdffhjfaaGreatDoor
open Go Go.RowKit

/-- The parts that have been written. -/
def selTxt : List (Bys × Bys) → Bys
  | [] => []
  | [p] => p.1 ++ 58 :: p.2
  | p :: q :: l => p.1 ++ 58 :: (p.2 ++ 44 :: selTxt (q :: l))
theorem selTxt_snoc (p : Bys × Bys) : ∀ l : List (Bys × Bys), l ≠ [] → selTxt (l ++ [p]) = selTxt l ++ 44 :: (p.1 ++ 58 :: p.2)
  | [], h => absurd rfl h
  | [q], _ => by simp [selTxt]
  | q :: r :: l, _ => by
    have ih := selTxt_snoc p (r :: l) (by simp)
    simp only [List.cons_append] at ih
    simp only [List.cons_append, selTxt, ih]
    simp
theorem selTxt_end : ∀ l : List (Bys × Bys), l ≠ [] → partsTxt l = selTxt l ++ [93]
  | [], h => absurd rfl h
  | [q], _ => by simp [selTxt, partsTxt]
  | q :: r :: l, _ => by
    have ih := selTxt_end (r :: l) (by simp)
    simp only [selTxt, partsTxt, ih]
    simp
theorem insK_length {x : Bys × Bys} {l : List (Bys × Bys)} (h : ∀ y ∈ l, y.1 ≠ x.1) : (insK Prod.fst x l).length = l.length + 1 := by
  have h2 : ((l.filter fun y => decide (y.1 < x.1)).length + (l.filter fun y => decide (x.1 < y.1)).length) = l.length := by
    induction l with
    | nil => simp
    | cons y l ih =>
      have ih := ih fun z hz => h z (by simp [hz])
      have hy := h y (by simp)
      simp only [List.filter_cons]
      by_cases h1 : y.1 < x.1
      · rw [if_pos (by simpa using h1), if_neg (by simpa using bys_asym h1)]
        simp only [List.length_cons]
        omega
      · have h3 : x.1 < y.1 := by
          rcases Decidable.em (x.1 < y.1) with h | h
          · exact h
          · exact absurd (bys_tri h1 h) hy
        rw [if_neg (by simpa using h1), if_pos (by simpa using h3)]
        simp only [List.length_cons]
        omega
  unfold insK
  simp only [List.length_append, List.length_cons]
  omega
theorem sortK_length : ∀ n (l : List (Bys × Bys)), l.length = n → (l.map Prod.fst).Nodup → (sortK Prod.fst l).length = l.length := by
  intro n
  induction n with
  | zero => intro l hl _; rw [List.length_eq_zero_iff.1 hl]; simp [sortK]
  | succ n ih =>
    intro l hl hn
    obtain ⟨m, x, rfl⟩ : ∃ m x, l = m ++ [x] := ⟨l.dropLast, l.getLast (by intro e; rw [e] at hl; simp at hl), (List.dropLast_concat_getLast _).symm⟩
    rw [List.map_append, List.nodup_append] at hn
    obtain ⟨h1, _, h3⟩ := hn
    rw [sortK_snoc, insK_length, ih m (by simpa using hl) h1]
    · simp
    · intro y hy e
      rw [sortK_mem h1] at hy
      exact h3 y.1 (List.mem_map.2 ⟨y, hy, rfl⟩) x.1 (by simp) e
/-- What has been written last; nothing, ahead of the first. -/
def befOf (S : List (Bys × Bys)) (r : Nat) : Bys := if r = 0 then [] else (S.getD (r - 1) ([], [])).1
theorem befOf_zero (S : List (Bys × Bys)) : befOf S 0 = [] := rfl
theorem befOf_succ {S : List (Bys × Bys)} {r : Nat} (h : r < S.length) : befOf S (r + 1) = S[r].1 := by
  simp [befOf, List.getD, h]
theorem nil_lt {n : Bys} (h : n ≠ []) : ([] : Bys) < n := by
  cases n with
  | nil => exact absurd rfl h
  | cons c l => exact List.nil_lt_cons c l
theorem asc_lt {S : List (Bys × Bys)} (hs : Asc Prod.fst S) {i j : Nat} (hi : i < S.length) (hj : j < S.length) (h : i < j) : S[i].1 < S[j].1 := List.pairwise_iff_getElem.1 hs i j hi hj h
/-- The next that is to be written is the least of those behind the last. -/
theorem next_is {l S : List (Bys × Bys)} (hs : Asc Prod.fst S) (hm : ∀ z, z ∈ S ↔ z ∈ l) (hne : ∀ p ∈ l, p.1 ≠ []) {r : Nat} (hr : r < S.length) :
    (S[r] ∈ l ∧ befOf S r < S[r].1) ∧ ∀ p ∈ l, befOf S r < p.1 → (∀ q ∈ l, befOf S r < q.1 → ¬ q.1 < p.1) → p = S[r] := by
  have hmem : S[r] ∈ l := (hm _).1 (List.getElem_mem hr)
  have hlt : befOf S r < S[r].1 := by
    cases r with
    | zero => rw [befOf_zero]; exact nil_lt (hne _ hmem)
    | succ r => rw [befOf_succ (by omega)]; exact asc_lt hs (by omega) hr (by omega)
  refine ⟨⟨hmem, hlt⟩, fun p hp hb hq => ?_⟩
  obtain ⟨j, hj, rfl⟩ := List.mem_iff_getElem.1 ((hm p).2 hp)
  have h1 := hq _ hmem hlt
  rcases Nat.lt_trichotomy j r with h | h | h
  · exfalso
    cases r with
    | zero => omega
    | succ r =>
      rw [befOf_succ (by omega)] at hb
      rcases Nat.lt_or_ge j r with h2 | h2
      · exact bys_asym hb (asc_lt hs hj (by omega) h2)
      · obtain rfl : j = r := by omega
        exact bys_irr _ hb
  · subst h; rfl
  · exact absurd (asc_lt hs hr hj h) h1
end Go.Proofs.YthcoppfdffhjfaaGreatDoor
/- The reference's made: the walk of its checks. -/
namespace Go.Proofs.YthcoppfdffhjfaaGreatDoor
open Go Go.RowKit

theorem selTxt_len : ∀ l : List (Bys × Bys), (∀ p ∈ l, p.1.length ≤ 1000 ∧ p.2.length ≤ 100) → (selTxt l).length ≤ 1102 * l.length
  | [], _ => by simp [selTxt]
  | [p], h => by
    have := h p (by simp)
    simp [selTxt]
    omega
  | p :: q :: l, h => by
    have h1 := h p (by simp)
    have h2 := selTxt_len (q :: l) (fun z hz => h z (by simp [hz]))
    simp only [selTxt, List.length_append, List.length_cons] at h2 ⊢
    omega
theorem rmade_len {o : Bool} {l : List (Bys × Bys)} (h : l.length < 1 ∨ 6 < l.length) : madeT o l = ([], 1) := by
  unfold madeT
  rw [if_pos h]
theorem rmade_name {o : Bool} {l : List (Bys × Bys)} (p : Bys × Bys) (hp : p ∈ l) (hn : isNameL p.1 = false) : madeT o l = ([], 1) := by
  unfold madeT
  split
  · rfl
  · rw [if_pos (by rw [List.all_eq_false]; exact ⟨p, hp, by rw [hn]; decide⟩)]
theorem rmade_type {o : Bool} {l : List (Bys × Bys)} (h1 : ¬ (l.length < 1 ∨ 6 < l.length)) (hn : ∀ p ∈ l, isNameL p.1 = true) {k : Nat} (hk : k < l.length) (hc : chk l[k].2 ≠ 0) (hb : ∀ j p, j < k → l[j]? = some p → chk p.2 = 0) : madeT o l = ([], chk l[k].2) := by
  unfold madeT
  rw [if_neg h1, if_neg (by rw [List.all_eq_true.2 hn]; decide)]
  have : (l.find? fun p => chk p.2 != 0) = some l[k] := by
    rw [List.find?_eq_some_iff_getElem]
    exact ⟨by simpa using hc, k, hk, rfl, fun j hj => by simpa using hb j _ hj (List.getElem?_eq_getElem (by omega))⟩
  rw [this]
theorem rmade_twice {o : Bool} {l : List (Bys × Bys)} (h1 : ¬ (l.length < 1 ∨ 6 < l.length)) (hn : ∀ p ∈ l, isNameL p.1 = true) (hc : ∀ p ∈ l, chk p.2 = 0) (hd : ¬ (l.map Prod.fst).Nodup) : madeT o l = ([], 6) := by
  unfold madeT
  rw [if_neg h1, if_neg (by rw [List.all_eq_true.2 hn]; decide), List.find?_eq_none.2 fun p hp => by simp [hc p hp]]
  simp only
  rw [if_pos hd]
theorem rmade_ok {o : Bool} {l : List (Bys × Bys)} (h1 : ¬ (l.length < 1 ∨ 6 < l.length)) (hn : ∀ p ∈ l, isNameL p.1 = true) (hc : ∀ p ∈ l, chk p.2 = 0) (hd : (l.map Prod.fst).Nodup) : madeT o l = limT (rcdWord o ++ 91 :: partsTxt (sortK Prod.fst l)) := by
  unfold madeT
  rw [if_neg h1, if_neg (by rw [List.all_eq_true.2 hn]; decide), List.find?_eq_none.2 fun p hp => by simp [hc p hp]]
  simp only
  rw [if_neg (fun h => h hd)]

set_option maxRecDepth 100000 in
set_option maxHeartbeats 25600000 in
theorem refMade_any (o : Bool) (l : List (Bys × Bys)) (v : Value) (w : World) (hnl : ∀ p ∈ l, p.1.length ≤ 1000) (hv : PtV w v l) (hl9 : l.length ≤ 1000) : Calls Tryz.prog 63 #[.string (bs (rcdWord o)), v] w fun e w' =>
    e = .returned (.tuple #[.string (bs (madeT o l).1), .int .i64 (madeT o l).2]) ∧ Below w.heap.size w w' := by
  by_cases hlen : l.length < 1 ∨ 6 < l.length
  · have HM := Lib.hid (rmade_len (o := o) hlen)
    obtain ⟨av, cv, rfl⟩ := ptv_slice hv
    have h1 : (l.length : Int) < 1 ∨ (¬ (l.length : Int) < 1 ∧ (6 : Int) < (l.length : Int)) := by omega
    clear hlen hv hnl
    generalize l.length = n at *
    rcases h1 with h1 | ⟨h1, h2⟩
    all_goals
      go_enter Tryz.func63, Tryz.ntmps63
      go_wp2
      go_ret2
      exact ⟨by rw [HM.out]; rfl, Below.refl _ _⟩
  · rcases hv with ⟨rfl, _⟩ | ⟨g, off, cap, rfl, hgl, hrow, _, _⟩
    · simp at hlen
    have HROW := Lib.hid hrow
    have HGL := Lib.hid hgl
    have HNL := Lib.hid hnl
    have HLEN := Lib.hid hlen
    have b1 : ¬ (l.length : Int) < 1 := by omega
    have b2 : ¬ (6 : Int) < (l.length : Int) := by omega
    have b3 : l.length ≤ 6 := by omega
    clear hrow hgl hnl hlen
    go_enter Tryz.func63, Tryz.ntmps63
    go_wp2
    go_loopg [6] l.length (fun q v6 wr => ∃ k : Nat, v6 = .int .i64 k ∧ Hid (k + q = l.length) ∧ Hid (∀ (j : Nat) (p : Bys × Bys), j < k → l[j]? = some p → isNameL p.1 = true) ∧ Hid (Below w.heap.size w wr))
    case atStart => exact ⟨0, rfl, Lib.hid (by omega), Lib.hid (fun j p hj => by omega), Lib.hid (Below.refl _ _)⟩
    case round =>
      obtain ⟨k, rfl, HK, HA, HB⟩ := hrel
      have hkb : (k : Int) ≤ 6 := by have := HK.out; omega
      by_cases hlt : k < l.length
      · have hpk : l[k]? = some l[k] := List.getElem?_eq_getElem hlt
        have hmem : l[k] ∈ l := List.getElem_mem hlt
        obtain ⟨r0, r1⟩ := (HROW.out.keep (HB.out.block g HGL.out)) k _ hpk
        have HPK := Lib.hid hpk
        have HMEM := Lib.hid hmem
        have HLT := Lib.hid hlt
        have hlti : (k : Int) < (l.length : Int) := by omega
        generalize l[k] = p at *
        have hin := fun w => refIsName_any (bs p.1) w (by rw [bs_size]; have := HNL.out p HMEM.out; omega)
        simp only [isNameB_L] at hin
        have HIN := Lib.hid hin
        clear hin hpk hmem hlt
        go_wp2_with fail
        refine (HIN.out wr).mono ?_
        rintro e w1 ⟨rfl, hb⟩
        have HB1 := Lib.hid (HB.out.trans (hb.mono HB.out.size))
        clear hb
        cases hnm : isNameL p.1 with
        | false =>
          have HM := Lib.hid (rmade_name (o := o) p HMEM.out hnm)
          clear hnm
          go_wp2
          go_ret2
          exact ⟨by rw [HM.out]; rfl, HB1.out⟩
        | true =>
          have HNM := Lib.hid hnm
          clear hnm
          go_wp2
          go_roundg (gk - 1)
          case measure => have := HK.out; have := HLT.out; omega
          case rel =>
            refine ⟨k + 1, by go_num, Lib.hid (by have := HK.out; have := HLT.out; omega), Lib.hid fun j q hj hq => ?_, HB1⟩
            by_cases hjk : j = k
            · subst hjk
              rw [HPK.out] at hq
              injection hq with hq
              rw [← hq]
              exact HNM.out
            · exact HA.out j q (by omega) hq
      · have HALL : Hid (∀ p ∈ l, isNameL p.1 = true) := Lib.hid fun p hp => by
          obtain ⟨j, hj⟩ := List.mem_iff_getElem?.1 hp
          exact HA.out j p (by have := (List.getElem?_eq_some_iff.1 hj).1; omega) hj
        have hlti : ¬ (k : Int) < (l.length : Int) := by omega
        clear hlt
        go_wp2
        go_loopg [8] l.length (fun q v8 wr => ∃ k : Nat, v8 = .int .i64 k ∧ Hid (k + q = l.length) ∧ Hid (∀ (j : Nat) (p : Bys × Bys), j < k → l[j]? = some p → chk p.2 = 0) ∧ Hid (Below w.heap.size w wr))
        case atStart => exact ⟨0, rfl, Lib.hid (by omega), Lib.hid (fun j p hj => by omega), HB⟩
        case round =>
          clear hlti
          obtain ⟨k, rfl, HK, HA, HB⟩ := hrel
          have hkb : (k : Int) ≤ 6 := by have := HK.out; omega
          by_cases hlt : k < l.length
          · have hpk : l[k]? = some l[k] := List.getElem?_eq_getElem hlt
            have HBAD : Hid (chk l[k].2 ≠ 0 → madeT o l = ([], chk l[k].2)) := Lib.hid fun hc => rmade_type HLEN.out HALL.out hlt hc HA.out
            obtain ⟨r0, r1⟩ := (HROW.out.keep (HB.out.block g HGL.out)) k _ hpk
            have HPK := Lib.hid hpk
            have HLT := Lib.hid hlt
            have hlti : (k : Int) < (l.length : Int) := by omega
            generalize l[k] = p at *
            clear hpk hlt
            go_wp2_with fail
            refine (refCheck_any p.2 wr).mono ?_
            rintro e w1 ⟨rfl, hb⟩
            have HB1 := Lib.hid (HB.out.trans (hb.mono HB.out.size))
            clear hb
            by_cases hc : chk p.2 = 0
            · have HC := Lib.hid hc
              rw [hc]
              clear hc
              go_wp2
              go_roundg (gk - 1)
              case measure => have := HK.out; have := HLT.out; omega
              case rel =>
                refine ⟨k + 1, by go_num, Lib.hid (by have := HK.out; have := HLT.out; omega), Lib.hid fun j q hj hq => ?_, HB1⟩
                by_cases hjk : j = k
                · subst hjk
                  rw [HPK.out] at hq
                  injection hq with hq
                  rw [← hq]
                  exact HC.out
                · exact HA.out j q (by omega) hq
            · have HM := Lib.hid (HBAD.out hc)
              have z2 : (chk p.2 != 0) = true := bne_iff_ne.2 hc
              clear hc
              go_wp2
              go_ret2
              exact ⟨by rw [HM.out]; rfl, HB1.out⟩
          · have HCH : Hid (∀ p ∈ l, chk p.2 = 0) := Lib.hid fun p hp => by
              obtain ⟨j, hj⟩ := List.mem_iff_getElem?.1 hp
              exact HA.out j p (by have := (List.getElem?_eq_some_iff.1 hj).1; omega) hj
            have hlti : ¬ (k : Int) < (l.length : Int) := by omega
            clear hlt
            go_wp2
            go_loopg [10] l.length (fun q v10 wr => ∃ i : Nat, v10 = .int .i64 i ∧ Hid (i + q = l.length) ∧ Hid (∀ (a b : Nat) (p q : Bys × Bys), a < b → b < i → l[a]? = some p → l[b]? = some q → p.1 ≠ q.1) ∧ Hid (Below w.heap.size w wr))
            case atStart => exact ⟨0, rfl, Lib.hid (by omega), Lib.hid (fun a b p q _ hb => by omega), HB⟩
            case round =>
              clear hlti
              obtain ⟨i, rfl, HI, HD, HB⟩ := hrel
              have hib : (i : Int) ≤ 6 := by have := HI.out; omega
              by_cases hlt : i < l.length
              · have hpi : l[i]? = some l[i] := List.getElem?_eq_getElem hlt
                have HPI := Lib.hid hpi
                have HLTI := Lib.hid hlt
                have hlti : (i : Int) < (l.length : Int) := by omega
                generalize l[i] = pi at *
                obtain ⟨z, HZ⟩ : ∃ z, Hid (gk - 1 = z) := ⟨_, Lib.hid rfl⟩
                have HIG : Hid (i + gk = l.length) := HI
                clear hpi hlt
                go_wp2
                go_loopg [11] i (fun q v11 wr => ∃ k : Nat, v11 = .int .i64 k ∧ Hid (k + q = i) ∧ Hid (∀ (a : Nat) (p : Bys × Bys), a < k → l[a]? = some p → p.1 ≠ pi.1) ∧ Hid (Below w.heap.size w wr))
                case atStart => exact ⟨0, rfl, Lib.hid (by omega), Lib.hid (fun a p ha => by omega), HB⟩
                case round =>
                  obtain ⟨k, rfl, HK, HA, HB⟩ := hrel
                  have hkb : (k : Int) ≤ 6 := by have := HK.out; omega
                  by_cases hki : k < i
                  · have hkl : k < l.length := by have := HLTI.out; omega
                    have hpk : l[k]? = some l[k] := List.getElem?_eq_getElem hkl
                    have HPK := Lib.hid hpk
                    have HKI := Lib.hid hki
                    generalize l[k] = p at *
                    obtain ⟨r0, r1⟩ := (HROW.out.keep (HB.out.block g HGL.out)) k _ hpk
                    obtain ⟨s0, s1⟩ := (HROW.out.keep (HB.out.block g HGL.out)) i _ HPI.out
                    have hkli : (k : Int) < (l.length : Int) := by omega
                    have hkii : (k : Int) < (i : Int) := by omega
                    clear hpk hki
                    by_cases he : p.1 = pi.1
                    · have HM : Hid (madeT o l = ([], 6)) := Lib.hid (rmade_twice HLEN.out HALL.out HCH.out fun hn => by
                        rw [List.Nodup, List.pairwise_iff_getElem] at hn
                        obtain ⟨h1, e1⟩ := List.getElem?_eq_some_iff.1 HPK.out
                        obtain ⟨h2, e2⟩ := List.getElem?_eq_some_iff.1 HPI.out
                        have := hn k i (by simpa using h1) (by simpa using h2) HKI.out
                        simp only [List.getElem_map, e1, e2] at this
                        exact this he)
                      have q1 : ((bs p.1).toList == (bs pi.1).toList) = true := by rw [he]; simp
                      clear he
                      go_wp2
                      go_quiet (fail)
                      all_goals
                        go_wp2
                        go_ret2
                        exact ⟨by rw [HM.out]; rfl, below_drewN HB.out _⟩
                    · have HE := Lib.hid he
                      obtain ⟨q1, q2⟩ := ne_lists2 he
                      clear he
                      go_wp2
                      go_quiet (fail)
                      all_goals
                        go_wp2
                        go_roundg (gk - 1)
                        case measure => have := HK.out; have := HKI.out; omega
                        case rel =>
                          refine ⟨k + 1, by go_num, Lib.hid (by have := HK.out; have := HKI.out; omega), Lib.hid fun a q ha hq => ?_, Lib.hid (below_drewN HB.out _)⟩
                          by_cases hak : a = k
                          · subst hak
                            rw [HPK.out] at hq
                            injection hq with hq
                            rw [← hq]
                            exact HE.out
                          · exact HA.out a q (by omega) hq
                  · have hkii : ¬ (k : Int) < (i : Int) := by omega
                    have HKE : Hid (k = i) := Lib.hid (by have := HK.out; omega)
                    clear hki
                    go_wp2
                    go_roundg z
                    case measure => have := HZ.out; have := HIG.out; have := HLTI.out; omega
                    case rel =>
                      refine ⟨i + 1, by go_num, Lib.hid (by have := HZ.out; have := HIG.out; have := HLTI.out; omega), Lib.hid fun a b p q hab hb hp hq => ?_, HB⟩
                      by_cases hbi : b = i
                      · subst hbi
                        rw [HPI.out] at hq
                        injection hq with hq
                        rw [← hq]
                        exact HA.out a p (by have := HKE.out; omega) hp
                      · exact HD.out a b p q hab (by omega) hp hq
              · have HND : Hid ((l.map Prod.fst).Nodup) := Lib.hid (by
                  rw [List.Nodup, List.pairwise_iff_getElem]
                  intro a b ha hb hab
                  simp only [List.length_map] at ha hb
                  simp only [List.getElem_map]
                  exact HD.out a b _ _ hab (by omega) (List.getElem?_eq_getElem ha) (List.getElem?_eq_getElem hb))
                have hlti : ¬ (i : Int) < (l.length : Int) := by omega
                clear hlt
                have HM := Lib.hid (rmade_ok (o := o) HLEN.out HALL.out HCH.out HND.out)
                have hwl : (rcdWord o).length ≤ 6 := by cases o <;> decide
                have hws := bs_size (rcdWord o)
                have g0 : ¬ 9223372036854775807 < (bs (rcdWord o)).size + 1 := by omega
                have g0' : bs (rcdWord o) ++ { data := #[91] } = bs (rcdWord o ++ [91]) := bs_cat (rcdWord o) [91]
                have HS1 : Hid (Asc Prod.fst (sortK Prod.fst l)) := Lib.hid (sortK_asc HND.out)
                have HS2 : Hid (∀ z, z ∈ sortK Prod.fst l ↔ z ∈ l) := Lib.hid (sortK_mem HND.out)
                have HS3 : Hid ((sortK Prod.fst l).length = l.length) := Lib.hid (sortK_length _ l rfl HND.out)
                have HNE : Hid (∀ p ∈ l, p.1 ≠ []) := Lib.hid fun p hp => name_ne (HALL.out p hp)
                have HTL : Hid (∀ p ∈ l, p.1.length ≤ 1000 ∧ p.2.length ≤ 100) := Lib.hid fun p hp => ⟨HNL.out p hp, by
                  obtain ⟨T, hT, e⟩ := chk_ok (HCH.out p hp)
                  rw [e]
                  exact hT.len⟩
                generalize sortK Prod.fst l = S at *
                have HOL : Hid (∀ r, r ≤ l.length → (rcdWord o ++ 91 :: selTxt (S.take r)).length ≤ 7000) := Lib.hid fun r hr => by
                  have h1 := selTxt_len (S.take r) (fun p hp => HTL.out p ((HS2.out p).1 (List.mem_of_mem_take hp)))
                  have h2 : (S.take r).length ≤ r := by simp; omega
                  simp only [List.length_append, List.length_cons]
                  omega
                go_wp2
                go_loopg [12, 13, 79] l.length (fun q v12 v13 v79 wr => ∃ (r : Nat) (out bef : Bys), v12 = .string (bs out) ∧ v13 = .string (bs bef) ∧ v79 = .int .i64 r ∧ Hid (r + q = l.length) ∧ Hid (out = rcdWord o ++ 91 :: selTxt (S.take r)) ∧ Hid (bef = befOf S r) ∧ Hid (Below w.heap.size w wr))
                case atStart => exact ⟨0, rcdWord o ++ [91], [], rfl, rfl, rfl, Lib.hid (by omega), Lib.hid (by simp [selTxt]), Lib.hid rfl, HB⟩
                case round =>
                  clear hlti g0 g0' hws
                  obtain ⟨r, out, bef, rfl, rfl, rfl, HR, HO, HBF, HB⟩ := hrel
                  have hrb : (r : Int) ≤ 6 := by have := HR.out; omega
                  have hol : out.length ≤ 7000 := by rw [HO.out]; exact HOL.out r (by have := HR.out; omega)
                  have hso := bs_size out
                  by_cases hlt : r < l.length
                  · have HLTR := Lib.hid hlt
                    have hlti : (r : Int) < (l.length : Int) := by omega
                    obtain ⟨z, HZ⟩ : ∃ z, Hid (gk - 1 = z) := ⟨_, Lib.hid rfl⟩
                    have HRG : Hid (r + gk = l.length) := HR
                    clear hlt
                    go_wp2
                    go_loopg [14, 15] l.length (fun q v14 v15 wr => ∃ (i : Nat) (nx : Int), v14 = .int .i64 nx ∧ v15 = .int .i64 i ∧ Hid (i + q = l.length) ∧ Hid ((nx = -1 ∧ ∀ (j : Nat) (p : Bys × Bys), j < i → l[j]? = some p → ¬ bef < p.1) ∨ (∃ (m : Nat) (p : Bys × Bys), nx = (m : Int) ∧ m < i ∧ l[m]? = some p ∧ bef < p.1 ∧ ∀ (j : Nat) (q : Bys × Bys), j < i → l[j]? = some q → bef < q.1 → ¬ q.1 < p.1)) ∧ Hid (Below w.heap.size w wr))
                    case atStart => exact ⟨0, -1, rfl, rfl, Lib.hid (by omega), Lib.hid (.inl ⟨rfl, fun j p hj => by omega⟩), HB⟩
                    case round =>
                      obtain ⟨i, nx, rfl, rfl, HI, HN, HB⟩ := hrel
                      have hib2 : (i : Int) ≤ 6 := by have := HI.out; omega
                      by_cases hli : i < l.length
                      · have hpi : l[i]? = some l[i] := List.getElem?_eq_getElem hli
                        have HPI := Lib.hid hpi
                        have HLI := Lib.hid hli
                        have hlii : (i : Int) < (l.length : Int) := by omega
                        generalize l[i] = pi at *
                        obtain ⟨s0, s1⟩ := (HROW.out.keep (HB.out.block g HGL.out)) i _ hpi
                        clear hpi hli
                        by_cases hbp : bef < pi.1
                        · have q1 : Op.bytesLess (bs bef).toList (bs pi.1).toList = true := bytesLess_bs _ _ _ (decide_eq_true hbp)
                          have q1a : Op.bytesLess (bs pi.1).toList (bs bef).toList = false := bytesLess_bs _ _ _ (decide_eq_false (bys_asym hbp))
                          have q1b := (ne_lists2 (a := pi.1) (b := bef) (fun e => by rw [e] at hbp; exact bys_irr _ hbp)).1
                          have HBP := Lib.hid hbp
                          clear hbp
                          rcases HN.out with ⟨rfl, hno⟩ | ⟨m, pm, rfl, hmi, hpm, hbm, hno⟩
                          · have HNO := Lib.hid hno
                            clear hno
                            go_wp2
                            go_quiet (fail)
                            all_goals
                              go_wp2
                              go_roundg (gk - 1)
                              case measure => have := HI.out; have := HLI.out; omega
                              case rel =>
                                refine ⟨i + 1, (i : Int), rfl, by go_num, Lib.hid (by have := HI.out; have := HLI.out; omega), Lib.hid (.inr ⟨i, pi, rfl, by omega, HPI.out, HBP.out, fun j q hj hq hbq => ?_⟩), Lib.hid (below_drewN HB.out _)⟩
                                by_cases hji : j = i
                                · subst hji
                                  rw [HPI.out] at hq
                                  injection hq with hq
                                  rw [← hq]
                                  exact bys_irr _
                                · exact absurd hbq (HNO.out j q (by omega) hq)
                          · obtain ⟨r0, r1⟩ := (HROW.out.keep (HB.out.block g HGL.out)) m _ hpm
                            have HPM := Lib.hid hpm
                            have HBM := Lib.hid hbm
                            have HMI := Lib.hid hmi
                            have HNO := Lib.hid hno
                            have hml : (m : Int) < (l.length : Int) := by omega
                            have hm0 : ¬ (m : Int) < 0 := by omega
                            have hm1 : (0 : Int) ≤ (m : Int) := by omega
                            clear hpm hbm hmi hno
                            by_cases hpp : pi.1 < pm.1
                            · have q2 : Op.bytesLess (bs pi.1).toList (bs pm.1).toList = true := bytesLess_bs _ _ _ (decide_eq_true hpp)
                              have HPP := Lib.hid hpp
                              clear hpp
                              go_wp2
                              go_quiet (fail)
                              all_goals
                                go_wp2
                                go_roundg (gk - 1)
                                case measure => have := HI.out; have := HLI.out; omega
                                case rel =>
                                  refine ⟨i + 1, (i : Int), rfl, by go_num, Lib.hid (by have := HI.out; have := HLI.out; omega), Lib.hid (.inr ⟨i, pi, rfl, by omega, HPI.out, HBP.out, fun j q hj hq hbq => ?_⟩), Lib.hid (below_drewN HB.out _)⟩
                                  by_cases hji : j = i
                                  · subst hji
                                    rw [HPI.out] at hq
                                    injection hq with hq
                                    rw [← hq]
                                    exact bys_irr _
                                  · exact fun hqp => HNO.out j q (by omega) hq hbq (bys_lt hqp HPP.out)
                            · have q2 : Op.bytesLess (bs pi.1).toList (bs pm.1).toList = false := bytesLess_bs _ _ _ (decide_eq_false hpp)
                              have HPP := Lib.hid hpp
                              clear hpp
                              go_wp2
                              go_quiet (fail)
                              all_goals
                                go_wp2
                                go_roundg (gk - 1)
                                case measure => have := HI.out; have := HLI.out; omega
                                case rel =>
                                  refine ⟨i + 1, (m : Int), rfl, by go_num, Lib.hid (by have := HI.out; have := HLI.out; omega), Lib.hid (.inr ⟨m, pm, rfl, by have := HMI.out; omega, HPM.out, HBM.out, fun j q hj hq hbq => ?_⟩), Lib.hid (below_drewN HB.out _)⟩
                                  by_cases hji : j = i
                                  · subst hji
                                    rw [HPI.out] at hq
                                    injection hq with hq
                                    rw [← hq]
                                    exact HPP.out
                                  · exact HNO.out j q (by omega) hq hbq
                        · have q1 : Op.bytesLess (bs bef).toList (bs pi.1).toList = false := bytesLess_bs _ _ _ (decide_eq_false hbp)
                          have q1a : Op.bytesLess (bs pi.1).toList (bs bef).toList = true ∨ (Op.bytesLess (bs pi.1).toList (bs bef).toList = false ∧ ((bs pi.1).toList == (bs bef).toList) = true) := by
                            by_cases h2 : pi.1 < bef
                            · exact .inl (bytesLess_bs _ _ _ (decide_eq_true h2))
                            · exact .inr ⟨bytesLess_bs _ _ _ (decide_eq_false h2), by rw [bys_tri h2 hbp]; simp⟩
                          have HBP := Lib.hid hbp
                          clear hbp
                          rcases q1a with q1a | ⟨q1a, q1b⟩
                          all_goals
                            go_wp2
                            go_quiet (fail)
                          all_goals
                            go_wp2
                            go_roundg (gk - 1)
                            case measure => have := HI.out; have := HLI.out; omega
                            case rel =>
                              refine ⟨i + 1, nx, rfl, by go_num, Lib.hid (by have := HI.out; have := HLI.out; omega), Lib.hid ?_, Lib.hid (below_drewN HB.out _)⟩
                              rcases HN.out with ⟨e, hno⟩ | ⟨m, pm, e, hmi, hpm, hbm, hno⟩
                              · refine .inl ⟨e, fun j q hj hq => ?_⟩
                                by_cases hji : j = i
                                · subst hji
                                  rw [HPI.out] at hq
                                  injection hq with hq
                                  rw [← hq]
                                  exact HBP.out
                                · exact hno j q (by omega) hq
                              · refine .inr ⟨m, pm, e, by omega, hpm, hbm, fun j q hj hq hbq => ?_⟩
                                by_cases hji : j = i
                                · subst hji
                                  rw [HPI.out] at hq
                                  injection hq with hq
                                  rw [← hq] at hbq
                                  exact absurd hbq HBP.out
                                · exact hno j q (by omega) hq hbq
                      · have hrS : r < S.length := by have := HS3.out; have := HLTR.out; omega
                        obtain ⟨⟨hn1, hn2⟩, hn3⟩ := next_is HS1.out HS2.out HNE.out hrS
                        rw [← HBF.out] at hn2 hn3
                        have hnext : ∃ m : Nat, nx = (m : Int) ∧ l[m]? = some S[r] := by
                          rcases HN.out with ⟨_, hno⟩ | ⟨m, pm, e, hmi, hpm, hbm, hno⟩
                          · exfalso
                            obtain ⟨j, hj⟩ := List.mem_iff_getElem?.1 hn1
                            exact hno j _ (by have := (List.getElem?_eq_some_iff.1 hj).1; omega) hj hn2
                          · refine ⟨m, e, ?_⟩
                            have := hn3 pm (List.mem_of_getElem? hpm) hbm (fun q hq hbq => by
                              obtain ⟨j, hj⟩ := List.mem_iff_getElem?.1 hq
                              exact hno j q (by have := (List.getElem?_eq_some_iff.1 hj).1; omega) hj hbq)
                            rw [hpm, this]
                        obtain ⟨m, rfl, hpm⟩ := hnext
                        obtain ⟨r0, r1⟩ := (HROW.out.keep (HB.out.block g HGL.out)) m _ hpm
                        have hml : (m : Int) < (l.length : Int) := by have := (List.getElem?_eq_some_iff.1 hpm).1; omega
                        have hm1 : (0 : Int) ≤ (m : Int) := by omega
                        have htl := HTL.out S[r] hn1
                        have HTK : Hid (S.take (r + 1) = S.take r ++ [S[r]]) := Lib.hid (List.take_append_getElem hrS).symm
                        have HBF2 : Hid (befOf S (r + 1) = S[r].1) := Lib.hid (befOf_succ hrS)
                        have hempty : (r = 0 ∧ bef = []) ∨ (r ≠ 0 ∧ bef ≠ []) := by
                          cases r with
                          | zero => exact .inl ⟨rfl, HBF.out⟩
                          | succ r =>
                            refine .inr ⟨by omega, ?_⟩
                            rw [HBF.out, befOf_succ (by omega)]
                            exact HNE.out _ ((HS2.out _).1 (List.getElem_mem _))
                        have HRS := Lib.hid hrS
                        have hlii : ¬ (i : Int) < (l.length : Int) := by omega
                        generalize S[r] = p at *
                        clear hn1 hn2 hn3 hpm hli hrS
                        have hs1 := bs_size p.1
                        have hs2 := bs_size p.2
                        rcases hempty with ⟨hr0, rfl⟩ | ⟨hr0, hbe⟩
                        · have t0 : (bs []).toList.isEmpty = true := by rw [ByteArray.toList_eq]; rfl
                          have HR0 := Lib.hid hr0
                          clear hr0
                          have hsou := bs_size (out)
                          have g1 : ¬ 9223372036854775807 < (bs (out)).size + (bs p.1).size := by omega
                          have c1 : bs (out) ++ bs p.1 = bs (out ++ p.1) := bs_cat _ _
                          have hs3 := bs_size (out ++ p.1)
                          have g2 : ¬ 9223372036854775807 < (bs (out ++ p.1)).size + 1 := by rw [hs3]; simp; omega
                          have c2 : bs (out ++ p.1) ++ { data := #[58] } = bs (out ++ p.1 ++ [58]) := bs_cat _ [58]
                          have hs4 := bs_size (out ++ p.1 ++ [58])
                          have g3 : ¬ 9223372036854775807 < (bs (out ++ p.1 ++ [58])).size + (bs p.2).size := by rw [hs4]; simp; omega
                          have c3 : bs (out ++ p.1 ++ [58]) ++ bs p.2 = bs (out ++ p.1 ++ [58] ++ p.2) := bs_cat _ _
                          have HFT : Hid (out ++ p.1 ++ [58] ++ p.2 = rcdWord o ++ 91 :: selTxt (S.take (r + 1))) := Lib.hid (by
                            rw [HTK.out, HO.out, HR0.out]
                            simp [selTxt])
                          generalize out ++ p.1 ++ [58] ++ p.2 = o4 at *
                          generalize out ++ p.1 ++ [58] = o3 at *
                          generalize out ++ p.1 = o2 at *
                          clear hs3 hs4 hsou
                          go_wp2
                          go_quiet (fail)
                          all_goals
                            go_wp2
                            go_roundg z
                            case measure => have := HZ.out; have := HRG.out; have := HLTR.out; omega
                            case rel => exact ⟨r + 1, o4, p.1, rfl, rfl, by go_num, Lib.hid (by have := HZ.out; have := HRG.out; have := HLTR.out; omega), HFT, Lib.hid HBF2.out.symm, Lib.hid (below_drewN HB.out _)⟩
                        · have t0 : (bs bef).toList.isEmpty = false := by
                            rw [ByteArray.toList_eq, bs_data]
                            cases bef with
                            | nil => exact absurd rfl hbe
                            | cons c l => rfl
                          have HR0 := Lib.hid hr0
                          clear hr0 hbe
                          have g9 : ¬ 9223372036854775807 < (bs out).size + 1 := by omega
                          have c9 : bs out ++ { data := #[44] } = bs (out ++ [44]) := bs_cat out [44]
                          have hol2 : (out ++ [44]).length ≤ 7001 := by simp; omega
                          have HOU : Hid (out ++ [44] = out ++ [44]) := Lib.hid rfl
                          have hsou := bs_size (out ++ [44])
                          have g1 : ¬ 9223372036854775807 < (bs (out ++ [44])).size + (bs p.1).size := by omega
                          have c1 : bs (out ++ [44]) ++ bs p.1 = bs (out ++ [44] ++ p.1) := bs_cat _ _
                          have hs3 := bs_size (out ++ [44] ++ p.1)
                          have g2 : ¬ 9223372036854775807 < (bs (out ++ [44] ++ p.1)).size + 1 := by rw [hs3]; simp; omega
                          have c2 : bs (out ++ [44] ++ p.1) ++ { data := #[58] } = bs (out ++ [44] ++ p.1 ++ [58]) := bs_cat _ [58]
                          have hs4 := bs_size (out ++ [44] ++ p.1 ++ [58])
                          have g3 : ¬ 9223372036854775807 < (bs (out ++ [44] ++ p.1 ++ [58])).size + (bs p.2).size := by rw [hs4]; simp; omega
                          have c3 : bs (out ++ [44] ++ p.1 ++ [58]) ++ bs p.2 = bs (out ++ [44] ++ p.1 ++ [58] ++ p.2) := bs_cat _ _
                          have HFT : Hid (out ++ [44] ++ p.1 ++ [58] ++ p.2 = rcdWord o ++ 91 :: selTxt (S.take (r + 1))) := Lib.hid (by
                            have hne : S.take r ≠ [] := fun e => by
                              have h1 : (S.take r).length = 0 := by rw [e]; rfl
                              have h2 := HRS.out
                              have h3 := HR0.out
                              rw [List.length_take] at h1
                              omega
                            rw [HTK.out, selTxt_snoc p _ hne, HO.out]
                            simp)
                          generalize out ++ [44] ++ p.1 ++ [58] ++ p.2 = o4 at *
                          generalize out ++ [44] ++ p.1 ++ [58] = o3 at *
                          generalize out ++ [44] ++ p.1 = o2 at *
                          generalize out ++ [44] = ou at *
                          clear hs3 hs4 hsou
                          go_wp2
                          go_quiet (fail)
                          all_goals
                            go_wp2
                            go_roundg z
                            case measure => have := HZ.out; have := HRG.out; have := HLTR.out; omega
                            case rel => exact ⟨r + 1, o4, p.1, rfl, rfl, by go_num, Lib.hid (by have := HZ.out; have := HRG.out; have := HLTR.out; omega), HFT, Lib.hid HBF2.out.symm, Lib.hid (below_drewN HB.out _)⟩
                  · have hlti : ¬ (r : Int) < (l.length : Int) := by omega
                    have hrl : r = l.length := by have := HR.out; omega
                    have HFIN : Hid (out ++ [93] = rcdWord o ++ 91 :: partsTxt S) := Lib.hid (by
                      have hne : S ≠ [] := fun e => by have := HS3.out; rw [e] at this; have h := HLEN.out; simp at this; omega
                      rw [HO.out, hrl, List.take_of_length_le (by have := HS3.out; omega), selTxt_end S hne]
                      simp)
                    have g9 : ¬ 9223372036854775807 < (bs out).size + 1 := by omega
                    have c9 : bs out ++ { data := #[93] } = bs (out ++ [93]) := bs_cat out [93]
                    clear hlt hrl
                    go_wp2_with fail
                    refine (refLimited_any (out ++ [93]) wr).mono ?_
                    rintro e w5 ⟨rfl, hb⟩
                    have HB5 := Lib.hid (HB.out.trans (hb.mono HB.out.size))
                    clear hb
                    go_wp2
                    go_ret2
                    rw [HM.out, HFIN.out]
                    exact ⟨rfl, HB5.out⟩
end Go.Proofs.YthcoppfdffhjfaaGreatDoor
/- The reference's Record and Oneof. -/
namespace Go.Proofs.YthcoppfdffhjfaaGreatDoor
open Go Go.RowKit

set_option maxRecDepth 100000 in
set_option maxHeartbeats 6400000 in
theorem refRecord_any (l : List (Bys × Bys)) (v : Value) (w : World) (hnl : ∀ p ∈ l, p.1.length ≤ 1000) (hv : PtV w v l) (hl : l.length ≤ 1000) : Calls Tryz.prog 35 #[v] w fun e w' =>
    e = .returned (.tuple #[.string (bs (madeT false l).1), .int .i64 (madeT false l).2]) ∧ Below w.heap.size w w' := by
  have h := Lib.hid (refMade_any false l v w hnl hv hl)
  obtain ⟨av, cv, rfl⟩ := ptv_slice hv
  clear hv hnl
  go_enter Tryz.func35, Tryz.ntmps35
  go_wp2_with fail
  refine h.out.mono ?_
  rintro e w1 ⟨rfl, hb⟩
  have HB := Lib.hid hb
  clear hb
  go_wp2
  go_ret2
  exact ⟨rfl, HB.out⟩
set_option maxRecDepth 100000 in
set_option maxHeartbeats 6400000 in
theorem refOneof_any (l : List (Bys × Bys)) (v : Value) (w : World) (hnl : ∀ p ∈ l, p.1.length ≤ 1000) (hv : PtV w v l) (hl : l.length ≤ 1000) : Calls Tryz.prog 37 #[v] w fun e w' =>
    e = .returned (.tuple #[.string (bs (madeT true l).1), .int .i64 (madeT true l).2]) ∧ Below w.heap.size w w' := by
  have h := Lib.hid (refMade_any true l v w hnl hv hl)
  obtain ⟨av, cv, rfl⟩ := ptv_slice hv
  clear hv hnl
  go_enter Tryz.func37, Tryz.ntmps37
  go_wp2_with fail
  refine h.out.mono ?_
  rintro e w1 ⟨rfl, hb⟩
  have HB := Lib.hid hb
  clear hb
  go_wp2
  go_ret2
  exact ⟨rfl, HB.out⟩
end Go.Proofs.YthcoppfdffhjfaaGreatDoor
