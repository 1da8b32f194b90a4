/- The law TokenWords answers true. -/
import Derived.Test.YtophcjkfhneghaaDoorZa
namespace Go.Proofs.YtophcjkfhneghaaDoor
open Go Go.RowKit

theorem same_words (g1 g2 : Nat) (w : World) (h1 : StrRow w g1 0 wordL) (h2 : StrRow w g2 0 wordL) : Calls Tryd.prog 17 #[.slice (some ⟨g1, 0, none⟩) 46 46, .slice (some ⟨g2, 0, none⟩) 46 46] w fun e w' => e = .returned (.bool true) ∧ ∃ n, w' = w.drewN n := by
  have h := sameStrings_any wordL wordL g1 0 46 g2 0 46 w h1 h2 (by simp [wordL]) (by simp [wordL])
  simp only [decide_true] at h
  exact h
theorem same_signs (g1 g2 : Nat) (w : World) (h1 : StrRow w g1 0 signL) (h2 : StrRow w g2 0 signL) : Calls Tryd.prog 17 #[.slice (some ⟨g1, 0, none⟩) 21 21, .slice (some ⟨g2, 0, none⟩) 21 21] w fun e w' => e = .returned (.bool true) ∧ ∃ n, w' = w.drewN n := by
  have h := sameStrings_any signL signL g1 0 21 g2 0 21 w h1 h2 (by simp [signL]) (by simp [signL])
  simp only [decide_true] at h
  exact h

set_option maxRecDepth 100000 in
set_option maxHeartbeats 12800000 in
theorem TokenWords_true (s : ByteArray) (w : World) (he : Env w) : Calls Tryd.prog 3 #[.string s] w fun e w' => e = .returned (.bool true) ∧ Below w.heap.size w w' := by
  have HE := Lib.hid he
  clear he
  by_cases hs : 100 < s.size
  · have hs' : (100 : Int) < (s.size : Int) := by omega
    go_enter Tryd.func3, Tryd.ntmps3
    go_wp2_with fail
    refine (read_true w HE.out).mono ?_
    rintro e w1 ⟨rfl, hb⟩
    have HB := Lib.hid hb
    clear hb
    go_wp2
    go_ret
    exact ⟨rfl, HB.out⟩
  · have hs' : ¬ (100 : Int) < (s.size : Int) := by omega
    go_enter Tryd.func3, Tryd.ntmps3
    go_wp2_with fail
    refine (read_true w HE.out).mono ?_
    rintro e w1 ⟨rfl, hb⟩
    have B1 := Lib.hid hb
    have E1 := Lib.hid (HE.out.below hb)
    have s1 := hb.size
    clear hb
    go_wp2_with fail
    refine (IsName_any s w1 E1.out).mono ?_
    rintro e w2 ⟨rfl, rfl⟩
    go_wp2_with fail
    refine (refIsName_any s w1 (by omega)).mono ?_
    rintro e w2 ⟨rfl, hb⟩
    have B2 := Lib.hid (B1.out.trans (hb.mono (by omega)))
    have E2 := Lib.hid (E1.out.below hb)
    have s2 := hb.size
    clear hb
    go_wp2_with fail
    refine (IsWord_any s w2 E2.out).mono ?_
    rintro e w3 ⟨rfl, rfl⟩
    go_wp2_with fail
    refine (refIsWord_any s w2).mono ?_
    rintro e w3 ⟨rfl, hb⟩
    have B3 := Lib.hid (B2.out.trans (hb.mono (by omega)))
    have E3 := Lib.hid (E2.out.below hb)
    have s3 := hb.size
    clear hb
    go_wp2_with fail
    refine (Words_any w3 E3.out).mono ?_
    rintro e w4 ⟨rfl, hk, hb⟩
    have B4 := Lib.hid (B3.out.trans (hb.mono (by omega)))
    have E4 := Lib.hid (E3.out.below hb)
    have l4 : w3.heap.size < w4.heap.size := (Array.getElem?_eq_some_iff.1 hk).1
    have K4 := Lib.hid (strRow_of_block hk)
    have s4 := hb.size
    clear hb hk
    go_wp2_with fail
    refine (refWords_any w4).mono ?_
    rintro e w5 ⟨rfl, hk, hb⟩
    have B5 := Lib.hid (B4.out.trans (hb.mono (by omega)))
    have E5 := Lib.hid (E4.out.below hb)
    have K5 := Lib.hid (K4.out.below hb l4)
    have L5 := Lib.hid (strRow_of_block hk)
    have s5 := hb.size
    clear hb hk
    go_wp2_with fail
    refine (same_words _ _ w5 K5.out L5.out).mono ?_
    rintro e w6 ⟨rfl, n1, rfl⟩
    go_wp2_with fail
    have E6 := Lib.hid (E5.out.drewN n1)
    have B6 : Hid (Below w.heap.size w (w5.drewN n1)) := Lib.hid (B5.out.trans ⟨rfl, rfl, rfl, Nat.le_refl _, fun _ _ => rfl⟩)
    have s6 : w5.heap.size = (w5.drewN n1).heap.size := rfl
    generalize w5.drewN n1 = w6 at *
    refine (Signs_any w6 E6.out).mono ?_
    rintro e w7 ⟨rfl, hk, hb⟩
    have B7 := Lib.hid (B6.out.trans (hb.mono (by omega)))
    have l7 : w6.heap.size < w7.heap.size := (Array.getElem?_eq_some_iff.1 hk).1
    have K7 := Lib.hid (strRow_of_block hk)
    have s7 := hb.size
    clear hb hk
    go_wp2_with fail
    refine (refSigns_any w7).mono ?_
    rintro e w8 ⟨rfl, hk, hb⟩
    have B8 := Lib.hid (B7.out.trans (hb.mono (by omega)))
    have K8 := Lib.hid (K7.out.below hb l7)
    have L8 := Lib.hid (strRow_of_block hk)
    clear hb hk
    go_wp2_with fail
    refine (same_signs _ _ w8 K8.out L8.out).mono ?_
    rintro e w9 ⟨rfl, n2, rfl⟩
    go_wp2
    go_ret
    exact ⟨rfl, B8.out.trans ⟨rfl, rfl, rfl, Nat.le_refl _, fun _ _ => rfl⟩⟩
end Go.Proofs.YtophcjkfhneghaaDoor
