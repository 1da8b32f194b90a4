/- The contracts of package token's scanner: giving up, gaps, numbers. -/
import Derived.Test.YtophcjkfhneghaaDoorD
import Derived.Lib.AtoiErrMem
import Derived.Lib.AppendIntMem
import Derived.Lib.ItoaLen
import Derived.Lib.AtoiTie
import Derived.Lib.AtoiAllCases
namespace Go.Proofs.YtophcjkfhneghaaDoor
open Go Go.RowKit

/-- Whether digits are a number, as the program has it. -/
def numB (s : ByteArray) : Bool :=
  match Lib.atoiAll s.data.toList with
  | .ok v => decide (v ≤ 1000000000) && (bs (Lib.itoa v) == s)
  | _ => false

theorem Atoi_ok (s : ByteArray) (hs : s.size ≤ 20000) (v : Int) (h : Lib.atoiAll s.data.toList = .ok v) (w : World) :
    Calls Tryd.prog 72 #[.string s] w fun e w' => e = .returned (.tuple #[.int .i64 v, .nilIface]) ∧ Below w.heap.size w w' :=
  (Tryd.strconv_Atoi_ok s (by omega) v h w).mono fun e w' ⟨he, hw⟩ => ⟨he, by
    rcases hw with rfl | ⟨t, rfl⟩
    · exact Below.refl _ _
    · exact Lib.bytesWorld_below _ _ _⟩

theorem Atoi_no (s : ByteArray) (hs : s.size ≤ 20000) (h : ∀ v, Lib.atoiAll s.data.toList ≠ .ok v) (w : World) (he : Env w) :
    Calls Tryd.prog 72 #[.string s] w fun e w' => (∃ n t p, e = .returned (.tuple #[.int .i64 n, .iface t (.pointer (some p))])) ∧ Below w.heap.size w w' := by
  rcases hq : Lib.atoiAll s.data.toList with v | _ | _
  · exact absurd hq (h v)
  · obtain ⟨tp, p, hv⟩ := he.syn
    exact (Tryd.strconv_Atoi_syntax s (by omega) hq _ w hv (.inr ⟨tp, p, rfl⟩)).mono fun e w' ⟨N, h1, _, _, h2⟩ => ⟨⟨_, _, _, h1⟩, h2⟩
  · obtain ⟨tp, p, hv⟩ := he.rng
    exact (Tryd.strconv_Atoi_range s (by omega) hq _ w hv (.inr ⟨tp, p, rfl⟩)).mono fun e w' ⟨N, h1, _, _, h2⟩ => ⟨⟨_, _, _, h1⟩, h2⟩

theorem Itoa_any (n : Int) (h0 : -9223372036854775808 ≤ n) (h1 : n ≤ 9223372036854775807) (w : World) (he : Env w) :
    Calls Tryd.prog 73 #[.int .i64 n] w fun e w' => e = .returned (.string (bs (Lib.itoa n))) ∧ Below w.heap.size w w' :=
  (Tryd.strconv_Itoa n h0 h1 w he.pow).mono fun e w' ⟨he, k, os, hw⟩ => ⟨he, by subst hw; exact Lib.below_grow _ _ (Nat.le_refl _) _ _⟩

set_option maxHeartbeats 400000 in
theorem isNumber_no (s : ByteArray) (hs : s.size ≤ 20000) (h : ∀ v, Lib.atoiAll s.data.toList ≠ .ok v) (w : World) (he : Env w) :
    Calls Tryd.prog 70 #[.string s] w fun e w' => e = .returned (.bool false) ∧ Below w.heap.size w w' := by
  have HE := Lib.hid he
  have H := Lib.hid h
  clear h he
  go_enter Tryd.func70, Tryd.ntmps70
  go_wp2_with fail
  refine (Atoi_no s hs H.out _ HE.out).mono ?_
  rintro e w' ⟨⟨n, t, p, rfl⟩, hb⟩
  go_wp2
  go_ret
  exact ⟨rfl, hb⟩

set_option maxHeartbeats 400000 in
theorem isNumber_big (s : ByteArray) (hs : s.size ≤ 20000) (v : Int) (h : Lib.atoiAll s.data.toList = .ok v) (hv : 1000000000 < v) (w : World) :
    Calls Tryd.prog 70 #[.string s] w fun e w' => e = .returned (.bool false) ∧ Below w.heap.size w w' := by
  have H := Lib.hid h
  clear h
  go_enter Tryd.func70, Tryd.ntmps70
  go_wp2_with fail
  refine (Atoi_ok s hs v H.out _).mono ?_
  rintro e w' ⟨rfl, hb⟩
  go_wp2
  go_ret
  exact ⟨rfl, hb⟩

set_option maxHeartbeats 400000 in
theorem isNumber_ok (s : ByteArray) (hs : s.size ≤ 20000) (v : Int) (h : Lib.atoiAll s.data.toList = .ok v) (h0 : -9223372036854775808 ≤ v) (hv : v ≤ 1000000000) (w : World) (he : Env w) :
    Calls Tryd.prog 70 #[.string s] w fun e w' => e = .returned (.bool ((bs (Lib.itoa v)).toList == s.toList)) ∧ Below w.heap.size w w' := by
  have H := Lib.hid h
  have HE := Lib.hid he
  clear h he
  go_enter Tryd.func70, Tryd.ntmps70
  go_wp2_with fail
  refine (Atoi_ok s hs v H.out _).mono ?_
  rintro e w' ⟨rfl, hb⟩
  have HB := Lib.hid hb
  clear hb
  go_wp2_with fail
  refine (Itoa_any v h0 (by omega) _ (HE.out.below HB.out)).mono ?_
  rintro e w'' ⟨rfl, hb2⟩
  have HB2 := Lib.hid hb2
  clear hb2
  go_wp2
  go_ret
  exact ⟨rfl, HB.out.trans (HB2.out.mono HB.out.size)⟩

theorem isNumber_any (s : ByteArray) (hs : s.size ≤ 20000) (w : World) (he : Env w) :
    Calls Tryd.prog 70 #[.string s] w fun e w' => e = .returned (.bool (numB s)) ∧ Below w.heap.size w w' := by
  rcases hq : Lib.atoiAll s.data.toList with v | _ | _
  · have hb := Lib.atoiAll_bounds hq
    by_cases hv : v ≤ 1000000000
    · have e : numB s = ((bs (Lib.itoa v)).toList == s.toList) := by simp only [numB, hq, hv, decide_true, Bool.true_and]; rw [beq_toListBytes]
      rw [e]
      exact isNumber_ok s hs v hq hb.1 hv w he
    · have e : numB s = false := by simp [numB, hq, hv]
      rw [e]
      exact isNumber_big s hs v hq (by omega) w
  · have e : numB s = false := by simp [numB, hq]
    rw [e]
    exact isNumber_no s hs (fun v h => by rw [hq] at h; cases h) w he
  · have e : numB s = false := by simp [numB, hq]
    rw [e]
    exact isNumber_no s hs (fun v h => by rw [hq] at h; cases h) w he

/-- What a scanner that gives up leaves. -/
def gaveUp (c line : Int) : Ending := .panicked [{ v := .iface 31 (.agg #[.int .i64 c, .int .i64 line]), recovered := false }]

theorem giveUp_any (c : Int) (b at_ line m : Nat) (cv : Value) (s : ByteArray) (w : World) (h : Scn w b s at_ line m cv) :
    Calls Tryd.prog 66 #[.pointer (some ⟨b, 0, none⟩), .int .i64 c] w fun e w' => e = gaveUp c line ∧ ∃ n, w' = w.drewN n := by
  have c2 := h.c2
  clear h
  go_enter Tryd.func66, Tryd.ntmps66
  go_wp2
  exact ⟨rfl, rfl, 0, rfl⟩

theorem refuse_any (b at_ line m : Nat) (cv : Value) (s : ByteArray) (w : World) (h : Scn w b s at_ line m cv) :
    Calls Tryd.prog 57 #[.pointer (some ⟨b, 0, none⟩)] w fun e w' => e = gaveUp 10 line ∧ ∃ n, w' = w.drewN n := by
  have HH := Lib.hid h
  clear h
  go_enter Tryd.func57, Tryd.ntmps57
  go_wp2_with fail
  refine (giveUp_any 10 b at_ line m cv s _ HH.out).mono ?_
  rintro e w' ⟨rfl, nq, rfl⟩
  exact ⟨rfl, rfl, nq, rfl⟩

theorem gap_any (b at_ line m : Nat) (cv : Value) (s : ByteArray) (w : World) (h : Scn w b s at_ line m cv) (hlt : at_ < s.size) (hs : s.size ≤ 20000) (hl : line ≤ 30000) :
    Calls Tryd.prog 58 #[.pointer (some ⟨b, 0, none⟩)] w fun e w' => e = .returned (.int .u8 0) ∧ Scn w' b s (at_ + 1) (lineUp (byteAt s at_) line) m cv ∧ w.grownBy w' (some b) := by
  have HH := Lib.hid h
  clear h
  go_enter Tryd.func58, Tryd.ntmps58
  go_wp2_with fail
  refine (step_any b at_ line m cv s _ HH.out hlt hs hl).mono ?_
  rintro e w' ⟨rfl, h1, h2⟩
  go_wp2
  go_ret
  exact ⟨rfl, h1, h2⟩
end Go.Proofs.YtophcjkfhneghaaDoor
