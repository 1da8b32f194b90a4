/- The contract of package token's Check. -/
import Derived.Test.YtophcjkfhneghaaDoorU
namespace Go.Proofs.YtophcjkfhneghaaDoor
open Go Go.RowKit

/-- The index of the first token that is refused, and its error. -/
def checkA : Nat → Int → List Tok → Int × Int
  | _, _, [] => (0, 0)
  | i, line, t :: l =>
    if i = 20000 then (i, 2)
    else if t.line < line ∨ 20000 < t.line ∨ isTokB t = false then (i, 1)
    else checkA (i + 1) t.line l
def checkR (l : List Tok) : Int × Int := checkA 0 1 l

theorem check_go {t : Tok} {line : Int} (q1 : ¬ t.line < line) (q2 : ¬ 20000 < t.line) (q3 : isTokB t = true) : ¬ (t.line < line ∨ 20000 < t.line ∨ isTokB t = false) := by
  rintro (h | h | h)
  · exact q1 h
  · exact q2 h
  · rw [q3] at h; cases h

set_option maxRecDepth 100000 in
set_option maxHeartbeats 1000000 in
theorem Check_any (l : List Tok) (g o cap : Nat) (w : World) (he : Env w) (hr : TokRow w g o l) (hg : g < w.heap.size) (hn : l.length ≤ 1000000) :
    Calls Tryd.prog 29 #[.slice (some ⟨g, o, none⟩) l.length cap] w fun e w' => e = .returned (.tuple #[.int .i64 (checkR l).1, .int .i64 (checkR l).2]) ∧ Below w.heap.size w w' := by
  have HE := Lib.hid he
  have HR := Lib.hid hr
  clear he hr
  go_enter Tryd.func29, Tryd.ntmps29
  go_wp2_with fail
  refine (newLexicon_any w HE.out).mono ?_
  rintro e w1 ⟨m, rfl, hx, hm, hb⟩
  have HX := Lib.hid hx
  have HB := Lib.hid hb
  clear hx hb
  go_wp2
  go_loopw [5, 11] (fun ln i wr => ∃ (k : Nat) (line : Int), k ≤ l.length ∧ ln = .int .i64 line ∧ i = .int .i64 k ∧ Below w1.heap.size w1 wr ∧ checkA k line (l.drop k) = checkR l) (fun _ i _ => l.length - (intOf i).toNat)
  case atStart => exact ⟨0, 1, by omega, rfl, rfl, Below.refl _ w1, rfl⟩
  case round =>
    obtain ⟨k, line, hk, rfl, rfl, hbw, hch⟩ := hrel
    have HCH := Lib.hid hch
    have HBW := Lib.hid hbw
    clear hch hbw
    have sz : w1.heap.size ≤ wr.heap.size := HBW.out.size
    have sz0 : w.heap.size ≤ w1.heap.size := HB.out.size
    by_cases hlt : k < l.length
    · obtain ⟨a0, a1, a2⟩ := ((HR.out.below HB.out hg).below HBW.out (by omega)) k l[k] (List.getElem?_eq_getElem hlt)
      have hdrop := Lib.hid (List.drop_eq_getElem_cons hlt)
      have HBX := Lib.hid (HBW.out.alloc sz (.cells #[.int .u8 l[k].kind, .string (bs l[k].text), .int .i64 l[k].line] 38))
      by_cases q0 : k = 20000
      · subst q0
        go_wp2
        go_ret2
        refine ⟨?_, HB.out.trans (HBX.out.mono sz0)⟩
        rw [← HCH.out, hdrop.out, checkA, if_pos rfl]
        rfl
      · have q0' : ((k : Int) == 20000) = false := by simp; omega
        by_cases q1 : l[k].line < line
        · go_wp2
          go_ret2
          refine ⟨?_, HB.out.trans (HBX.out.mono sz0)⟩
          rw [← HCH.out, hdrop.out, checkA, if_neg q0, if_pos (.inl q1)]
          rfl
        · by_cases q2 : 20000 < l[k].line
          · go_wp2
            go_ret2
            refine ⟨?_, HB.out.trans (HBX.out.mono sz0)⟩
            rw [← HCH.out, hdrop.out, checkA, if_neg q0, if_pos (.inr (.inl q2))]
            rfl
          · cases q3 : isTokB l[k]
            · go_wp2_with fail
              refine (isToken_any m l[k] _ ((HE.out.below HB.out).below HBX.out) ((HX.out).below HBX.out HX.out.lt)).mono ?_
              rintro e w2 ⟨rfl, hb⟩
              have HB3 := Lib.hid (HBX.out.trans (hb.mono HBX.out.size))
              clear hb
              rw [q3]
              go_wp2
              go_ret2
              refine ⟨?_, HB.out.trans (HB3.out.mono sz0)⟩
              rw [← HCH.out, hdrop.out, checkA, if_neg q0, if_pos (.inr (.inr q3))]
              rfl
            · go_wp2_with fail
              refine (isToken_any m l[k] _ ((HE.out.below HB.out).below HBX.out) ((HX.out).below HBX.out HX.out.lt)).mono ?_
              rintro e w2 ⟨rfl, hb⟩
              have HB3 := Lib.hid (HBX.out.trans (hb.mono HBX.out.size))
              have hnew : Hid (Blk w2 wr.heap.size 38 #[.int .u8 l[k].kind, .string (bs l[k].text), .int .i64 l[k].line]) := (Blk.new wr 38 #[.int .u8 l[k].kind, .string (bs l[k].text), .int .i64 l[k].line]).below hb (by simp)
              clear hb a0 a1 a2
              have c2 := hnew.out.cell 2
              simp only [List.getElem?_toArray, List.getElem?_cons_zero, List.getElem?_cons_succ] at c2
              rw [q3]
              go_wp2
              go_roundw
              case rel =>
                refine ⟨k + 1, l[k].line, by omega, rfl, by go_num, HB3.out, ?_⟩
                rw [← HCH.out, hdrop.out, checkA, if_neg q0, if_neg (check_go (t := l[k]) (line := line) (by omega) (by omega) q3)]
              case measure => simp [intOf]; omega
    · have : k = l.length := by omega
      subst this
      go_wp2
      go_ret2
      refine ⟨?_, HB.out.trans (HBW.out.mono sz0)⟩
      rw [← HCH.out, List.drop_length, checkA]
      rfl
end Go.Proofs.YtophcjkfhneghaaDoor
