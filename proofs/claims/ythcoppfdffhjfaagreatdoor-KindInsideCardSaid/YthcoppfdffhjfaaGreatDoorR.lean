/- Lists of parts as they lie in memory; what asks each part alone. -/
import Derived.Test.YthcoppfdffhjfaaGreatDoorQ
namespace Go.Proofs.YthcoppfdffhjfaaGreatDoor
open Go Go.RowKit

/-- Parts lie in a row from a cell on. -/
def PartRow (w : World) (g o : Nat) (l : List (Bys × Bys)) : Prop := ∀ i p, l[i]? = some p → w.cell? ⟨g, o + i * 2, none⟩ = some (.string (bs p.1)) ∧ w.cell? ⟨g, o + i * 2 + 1, none⟩ = some (.string (bs p.2))
/-- A slice of parts. -/
def PtV (w : World) (v : Value) (l : List (Bys × Bys)) : Prop :=
  (l = [] ∧ ∃ a c, v = .slice a 0 c) ∨ ∃ g o cap, v = .slice (some ⟨g, o, none⟩) l.length cap ∧ g < w.heap.size ∧ PartRow w g o l ∧ l ≠ [] ∧ l.length ≤ cap
theorem PartRow.keep {w w' : World} {g o : Nat} {l : List (Bys × Bys)} (h : PartRow w g o l) (hs : w'.heap[g]? = w.heap[g]?) : PartRow w' g o l := fun i p hi =>
  ⟨(World.cell?_of_block (a := ⟨g, o + i * 2, none⟩) hs).trans (h i p hi).1, (World.cell?_of_block (a := ⟨g, o + i * 2 + 1, none⟩) hs).trans (h i p hi).2⟩
theorem PtV.keep {w w' : World} {v : Value} {l : List (Bys × Bys)} (h : PtV w v l) (hb : Below w.heap.size w w') : PtV w' v l := by
  rcases h with h | ⟨g, o, cap, h1, h2, h3, h4⟩
  · exact .inl h
  · exact .inr ⟨g, o, cap, h1, Nat.lt_of_lt_of_le h2 hb.size, h3.keep (hb.block g h2), h4⟩

/-- What asks each part alone. -/
def chkParts (l : List (Bys × Bys)) : Int :=
  if l.length < 1 ∨ 6 < l.length then 1
  else if (l.all fun p => isNameL p.1) = false then 1
  else match l.find? fun p => chk p.2 != 0 with
    | some p => chk p.2
    | none => 0
theorem madeT_chk (o : Bool) (l : List (Bys × Bys)) : madeT o l = if chkParts l ≠ 0 then ([], chkParts l) else if ¬ (l.map Prod.fst).Nodup then ([], 6) else limT (rcdWord o ++ 91 :: partsTxt (sortK Prod.fst l)) := by
  unfold madeT chkParts
  by_cases h1 : l.length < 1 ∨ 6 < l.length
  · simp only [if_pos h1]; rfl
  · simp only [if_neg h1]
    by_cases h2 : (l.all fun p => isNameL p.1) = false
    · simp only [if_pos h2]; rfl
    · simp only [if_neg h2]
      cases h3 : l.find? fun p => chk p.2 != 0 with
      | none => simp
      | some p =>
        have := List.find?_some h3
        have h4 : chk p.2 ≠ 0 := by simpa using this
        simp [h4]
theorem all_upto {α : Type} {f : α → Bool} {l : List α} {k : Nat} {x : α} (hk : l[k]? = some x) (h : (l.take k).all f = true) : (l.take (k + 1)).all f = f x := by
  rw [List.take_add_one, hk, List.all_append, h]
  simp
theorem find_upto {α : Type} {f : α → Bool} {l : List α} {k : Nat} {x : α} (hk : l[k]? = some x) (h : (l.take k).find? f = none) (hx : f x = true) : l.find? f = some x := by
  have hlt := (List.getElem?_eq_some_iff.1 hk).1
  have e : l = l.take k ++ x :: l.drop (k + 1) := by
    conv => lhs; rw [← List.take_append_drop k l]
    rw [List.drop_eq_getElem_cons hlt, (List.getElem?_eq_some_iff.1 hk).2]
  rw [e, List.find?_append, h, List.find?_cons_of_pos hx]
  rfl
theorem find_next {α : Type} {f : α → Bool} {l : List α} {k : Nat} {x : α} (hk : l[k]? = some x) (h : (l.take k).find? f = none) (hx : f x = false) : (l.take (k + 1)).find? f = none := by
  rw [List.take_add_one, hk, List.find?_append, h]
  simp [hx]
theorem all_no {α : Type} {f : α → Bool} {l : List α} {x : α} {k : Nat} (hk : l[k]? = some x) (h : f x = false) : l.all f = false := by
  have hm := List.mem_of_getElem? hk
  cases hh : l.all f with
  | false => rfl
  | true => rw [List.all_eq_true.1 hh x hm] at h; cases h

set_option maxRecDepth 100000 in
set_option maxHeartbeats 12800000 in
theorem checkParts_any (l : List (Bys × Bys)) (v : Value) (w : World) (he : Env w) (hl : l.length ≤ 1000) (hnl : ∀ p ∈ l, p.1.length ≤ 1000) (hv : PtV w v l) : Calls Tryz.prog 89 #[v] w fun e w' => e = .returned (.int .i64 (chkParts l)) ∧ Below w.heap.size w w' := by
  have HNL := Lib.hid hnl
  rcases hv with ⟨rfl, a, c, rfl⟩ | ⟨g, o, cap, rfl, hg, hrow, hne, hcap⟩
  · clear hnl he hl
    go_enter Tryz.func89, Tryz.ntmps89
    go_wp2
    go_ret
    exact ⟨rfl, Below.refl _ _⟩
  · have hn0 : 0 < l.length := List.length_pos_iff.2 hne
    have HE := Lib.hid he
    have HROW := Lib.hid hrow
    clear he hrow hne hnl
    by_cases h6 : 6 < l.length
    · have hc : chkParts l = 1 := by unfold chkParts; rw [if_pos (.inr h6)]
      have HC := Lib.hid hc
      have c1 : ((l.length : Int) == 0) = false := beq_eq_false_iff_ne.2 (by omega)
      have c2 : decide ((6 : Int) < (l.length : Int)) = true := decide_eq_true (by omega)
      clear hc
      go_enter Tryz.func89, Tryz.ntmps89
      go_wp2
      go_ret
      exact ⟨ret_int HC.out.symm, Below.refl _ _⟩
    · have c1 : ((l.length : Int) == 0) = false := beq_eq_false_iff_ne.2 (by omega)
      have c2 : decide ((6 : Int) < (l.length : Int)) = false := decide_eq_false (by omega)
      go_enter Tryz.func89, Tryz.ntmps89
      go_wp2
      go_loopw [18] (fun v18 wr => ∃ k : Nat, k ≤ l.length ∧ v18 = .int .i64 k ∧ ((l.take k).all fun p => isNameL p.1) = true ∧ Below w.heap.size w wr) (fun i _ => l.length - (intOf i).toNat)
      case atStart => exact ⟨0, Nat.zero_le _, rfl, by simp, Below.refl _ _⟩
      case round =>
        obtain ⟨k, hk, rfl, hall, hb⟩ := hrel
        have HB := Lib.hid hb
        have HALL := Lib.hid hall
        clear hb hall
        by_cases hlt : k < l.length
        · have hpk : l[k]? = some l[k] := List.getElem?_eq_getElem hlt
          obtain ⟨q0, q1⟩ := (HROW.out.keep (HB.out.block g hg)) k _ hpk
          have hgz : g < wr.heap.size := Nat.lt_of_lt_of_le hg HB.out.size
          have HPK := Lib.hid hpk
          have hnm := Lib.hid (HNL.out _ (List.getElem_mem hlt))
          generalize l[k] = p at *
          obtain ⟨p1, p2⟩ := p
          clear hpk
          have hal : Below wr.heap.size wr (wr.alloc (.cells #[.string (bs p1), .string (bs p2)] 42)) := (Below.refl _ _).alloc (Nat.le_refl _) _
          have HE1 := Lib.hid (HE.out.below (HB.out.trans (hal.mono HB.out.size)))
          have HB1 := Lib.hid (HB.out.trans (hal.mono HB.out.size))
          clear hal
          cases hnn : isNameL p1 with
          | true =>
            have hn2 := all_upto HPK.out HALL.out
            go_wp2_with fail
            refine (IsName_v p1 true hnn _ HE1.out).mono ?_
            rintro e w1 ⟨rfl, rfl⟩
            have HN2 := Lib.hid hn2
            clear hn2
            go_wp2
            refine ⟨⟨k + 1, by omega, by push_cast; rfl, HN2.out.trans hnn, HB1.out⟩, ?_⟩
            simp only [intOf]
            omega
          | false =>
            have hcc : chkParts l = 1 := by
              unfold chkParts
              rw [if_neg (by omega), if_pos (all_no HPK.out hnn)]
            have HCC := Lib.hid hcc
            clear hcc
            go_wp2_with fail
            refine (IsName_v p1 false hnn _ HE1.out).mono ?_
            rintro e w1 ⟨rfl, rfl⟩
            go_wp2
            go_ret
            exact ⟨ret_int HCC.out.symm, HB1.out⟩
        · have hkl : k = l.length := by omega
          subst hkl
          rw [List.take_length] at HALL
          go_wp2
          go_loopw [29] (fun v29 wr => ∃ k : Nat, k ≤ l.length ∧ v29 = .int .i64 k ∧ (l.take k).find? (fun p => chk p.2 != 0) = none ∧ Below w.heap.size w wr) (fun i _ => l.length - (intOf i).toNat)
          case atStart => exact ⟨0, Nat.zero_le _, rfl, by simp, HB.out⟩
          case round =>
            obtain ⟨k, hk, rfl, hall, hb⟩ := hrel
            have HB2 := Lib.hid hb
            have HF := Lib.hid hall
            clear hb hall HB
            by_cases hlt : k < l.length
            · have hpk : l[k]? = some l[k] := List.getElem?_eq_getElem hlt
              obtain ⟨q0, q1⟩ := (HROW.out.keep (HB2.out.block g hg)) k _ hpk
              have hgz : g < wr.heap.size := Nat.lt_of_lt_of_le hg HB2.out.size
              have HPK := Lib.hid hpk
              generalize l[k] = p at *
              obtain ⟨p1, p2⟩ := p
              clear hpk
              have hal : Below wr.heap.size wr (wr.alloc (.cells #[.string (bs p1), .string (bs p2)] 42)) := (Below.refl _ _).alloc (Nat.le_refl _) _
              have HE1 := Lib.hid (HE.out.below (HB2.out.trans (hal.mono HB2.out.size)))
              have HB1 := Lib.hid (HB2.out.trans (hal.mono HB2.out.size))
              clear hal
              by_cases hc0 : chk p2 = 0
              · have hn2 := Lib.hid (find_next HPK.out HF.out (by simp [hc0]))
                have HC0 := Lib.hid hc0
                clear hc0
                go_wp2_with fail
                refine (Check_any p2 _ HE1.out).mono ?_
                rintro e w1 ⟨rfl, hb⟩
                rw [HC0.out]
                have HB3 := Lib.hid (HB1.out.trans (hb.mono HB1.out.size))
                clear hb
                go_wp2
                refine ⟨⟨k + 1, by omega, by push_cast; rfl, hn2.out, HB3.out⟩, ?_⟩
                simp only [intOf]
                omega
              · have hcc : chkParts l = chk p2 := by
                  unfold chkParts
                  rw [if_neg (by omega), if_neg (by rw [HALL.out]; decide), find_upto HPK.out HF.out (by simpa using hc0)]
                have HCC := Lib.hid hcc
                have ht2 : (chk p2 != 0) = true := by simpa using hc0
                clear hcc hc0
                go_wp2_with fail
                refine (Check_any p2 _ HE1.out).mono ?_
                rintro e w1 ⟨rfl, hb⟩
                have HB3 := Lib.hid (HB1.out.trans (hb.mono HB1.out.size))
                clear hb
                go_wp2
                go_ret
                exact ⟨ret_int HCC.out.symm, HB3.out⟩
            · have hkl : k = l.length := by omega
              subst hkl
              rw [List.take_length] at HF
              have hcc : chkParts l = 0 := by
                unfold chkParts
                rw [if_neg (by omega), if_neg (by rw [HALL.out]; decide), HF.out]
              have HCC := Lib.hid hcc
              clear hcc
              go_wp2
              go_ret
              exact ⟨ret_int HCC.out.symm, HB2.out⟩
end Go.Proofs.YthcoppfdffhjfaaGreatDoor
