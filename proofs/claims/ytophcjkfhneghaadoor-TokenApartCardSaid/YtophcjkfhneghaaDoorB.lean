/- The contracts of package token's text methods that move. -/
import Derived.Test.YtophcjkfhneghaaDoorA
import Derived.Deep.LoopGhost
import Derived.Outline
namespace Go.Proofs.YtophcjkfhneghaaDoor
open Go Go.RowKit

set_option maxHeartbeats 400000 in
theorem step_any (b at_ line m : Nat) (cv : Value) (s : ByteArray) (w : World) (h : Scn w b s at_ line m cv) (hlt : at_ < s.size) (hs : s.size ≤ 20000) (hl : line ≤ 30000) :
    Calls Tryd.prog 67 #[.pointer (some ⟨b, 0, none⟩)] w fun e w' => e = .returned (.tuple #[]) ∧ Scn w' b s (at_ + 1) (lineUp (byteAt s at_) line) m cv ∧ w.grownBy w' (some b) := by
  by_cases hc : byteAt s at_ = 10
  · have hd : (byteAt s at_ == 10) = true := by simp [hc]
    have HC := Lib.hid hc
    have HH := Lib.hid h
    clear h hc
    go_enter Tryd.func67, Tryd.ntmps67
    go_wp2_with fail
    refine (peek_any b at_ line m cv s _ HH.out hlt).mono ?_
    rintro e w' ⟨rfl, nq, rfl⟩
    have h1 := HH.out.c1
    have h2 := HH.out.c2
    have f1 := HH.out.f 1
    have f2 := HH.out.f 2
    go_wp2
    go_end0
    refine ⟨rfl, ?_, ?_⟩
    · rw [lineUp, if_pos HC.out]
      refine Scn.set1 (Scn.set2 (HH.out.drewN nq) (by go_num)) (by go_num)
    · exact grown_set (grown_set (grown_drewN (grown_refl _ _) _) _) _
  · have hd : (byteAt s at_ == 10) = false := by simp [hc]
    have HC := Lib.hid hc
    have HH := Lib.hid h
    clear h hc
    go_enter Tryd.func67, Tryd.ntmps67
    go_wp2_with fail
    refine (peek_any b at_ line m cv s _ HH.out hlt).mono ?_
    rintro e w' ⟨rfl, nq, rfl⟩
    have h1 := HH.out.c1
    have h2 := HH.out.c2
    have f1 := HH.out.f 1
    have f2 := HH.out.f 2
    go_wp2
    go_end0
    refine ⟨rfl, ?_, ?_⟩
    · rw [lineUp, if_neg HC.out]
      refine Scn.set1 (HH.out.drewN nq) (by go_num)
    · exact grown_set (grown_drewN (grown_refl _ _) _) _

set_option maxHeartbeats 1000000 in
theorem runLD_any (b at0 line m : Nat) (cv : Value) (s : ByteArray) (w : World) (h : Scn w b s at0 line m cv) (hle : at0 ≤ s.size) (hs : s.size ≤ 20000) (hl : line ≤ 30000) :
    Calls Tryd.prog 69 #[.pointer (some ⟨b, 0, none⟩), .func (.func 39) #[] #[]] w fun e w' => e = .returned (.string (s.extract at0 (at0 + lead isLD s at0))) ∧ Scn w' b s (at0 + lead isLD s at0) line m cv ∧ w.grownBy w' (some b) := by
  have hend := lead_le (p := isLD) hle
  have h1 := h.c1
  have HH := Lib.hid h
  clear h
  go_enter Tryd.func69, Tryd.ntmps69
  go_wp2
  clear h1
  go_loopg [] (lead isLD s at0) (fun n wr => ∃ k, k + n = lead isLD s at0 ∧ Scn wr b s (at0 + k) line m cv ∧ w.grownBy wr (some b))
  case atStart => exact ⟨0, by simp, HH.out, grown_refl _ _⟩
  case round =>
    obtain ⟨k, hkn, hsc, hgr⟩ := hrel
    have HKN := Lib.hid hkn
    have HSC := Lib.hid hsc
    have HGR := Lib.hid hgr
    clear hkn hsc hgr
    by_cases hk : 0 < gk
    · have hin := lead_in (p := isLD) (s := s) (i := at0) (k := k) (by have := HKN.out; omega)
      obtain ⟨hlt, hp⟩ := hin
      have hm : decide (at0 + k < s.size) = true := by simpa using hlt
      have hnl : byteAt s (at0 + k) ≠ 10 := by intro e; rw [e] at hp; exact absurd hp (by decide)
      have HP := Lib.hid hp
      clear hp
      go_wp2_with fail
      refine (more_any b (at0 + k) line m cv s _ HSC.out).mono ?_
      rintro e w' ⟨rfl, nq, rfl⟩
      go_wp2_with fail
      refine (peek_any b (at0 + k) line m cv s _ (HSC.out.drewN nq) hlt).mono ?_
      rintro e w' ⟨rfl, nr, rfl⟩
      have hp := HP.out
      go_wp2_with fail
      refine (isLD_any _ _).mono ?_
      rintro e w' ⟨rfl, rfl⟩
      go_wp2_with fail
      refine (step_any b (at0 + k) line m cv s _ (HSC.out.drewN _) hlt hs hl).mono ?_
      rintro e w' ⟨rfl, hsc, hgr⟩
      have HSC2 := Lib.hid hsc
      have HGR2 := Lib.hid hgr
      clear hsc hgr hp
      go_wp2
      go_roundg (gk - 1)
      case measure => omega
      case rel =>
        refine ⟨k + 1, by have := HKN.out; omega, ?_, grown_trans (grown_drewN HGR.out _) HGR2.out⟩
        have := HSC2.out
        rw [lineUp, if_neg hnl] at this
        exact this
    · have hk0 : k = lead isLD s at0 := by have := HKN.out; omega
      subst hk0
      have HKN := ()
      by_cases hlt : at0 + lead isLD s at0 < s.size
      · have hp := lead_stop hlt
        have hm : decide (at0 + lead isLD s at0 < s.size) = true := by simpa using hlt
        have HP := Lib.hid hp
        clear hp
        go_wp2_with fail
        refine (more_any b _ line m cv s _ HSC.out).mono ?_
        rintro e w' ⟨rfl, nq, rfl⟩
        go_wp2_with fail
        refine (peek_any b _ line m cv s _ (HSC.out.drewN nq) hlt).mono ?_
        rintro e w' ⟨rfl, nr, rfl⟩
        have hp := HP.out
        go_wp2_with fail
        refine (isLD_any _ _).mono ?_
        rintro e w' ⟨rfl, rfl⟩
        have c0 := HSC.out.c0
        have c1 := HSC.out.c1
        have HE := Lib.hid hp
        go_wp2
        go_quiet (fail)
        go_wp2
        go_ret
        exact ⟨rfl, HSC.out, grown_drewN (grown_drewN HGR.out _) _⟩
      · have hm : decide (at0 + lead isLD s at0 < s.size) = false := by simpa using hlt
        go_wp2_with fail
        refine (more_any b _ line m cv s _ HSC.out).mono ?_
        rintro e w' ⟨rfl, nq, rfl⟩
        have c0 := HSC.out.c0
        have c1 := HSC.out.c1
        go_wp2
        go_quiet (fail)
        go_wp2
        go_ret
        exact ⟨rfl, HSC.out, grown_drewN (grown_drewN HGR.out _) _⟩
set_option maxHeartbeats 1000000 in
theorem runDig_any (b at0 line m : Nat) (cv : Value) (s : ByteArray) (w : World) (h : Scn w b s at0 line m cv) (hle : at0 ≤ s.size) (hs : s.size ≤ 20000) (hl : line ≤ 30000) :
    Calls Tryd.prog 69 #[.pointer (some ⟨b, 0, none⟩), .func (.func 49) #[] #[]] w fun e w' => e = .returned (.string (s.extract at0 (at0 + lead isDig s at0))) ∧ Scn w' b s (at0 + lead isDig s at0) line m cv ∧ w.grownBy w' (some b) := by
  have hend := lead_le (p := isDig) hle
  have h1 := h.c1
  have HH := Lib.hid h
  clear h
  go_enter Tryd.func69, Tryd.ntmps69
  go_wp2
  clear h1
  go_loopg [] (lead isDig s at0) (fun n wr => ∃ k, k + n = lead isDig s at0 ∧ Scn wr b s (at0 + k) line m cv ∧ w.grownBy wr (some b))
  case atStart => exact ⟨0, by simp, HH.out, grown_refl _ _⟩
  case round =>
    obtain ⟨k, hkn, hsc, hgr⟩ := hrel
    have HKN := Lib.hid hkn
    have HSC := Lib.hid hsc
    have HGR := Lib.hid hgr
    clear hkn hsc hgr
    by_cases hk : 0 < gk
    · have hin := lead_in (p := isDig) (s := s) (i := at0) (k := k) (by have := HKN.out; omega)
      obtain ⟨hlt, hp⟩ := hin
      have hm : decide (at0 + k < s.size) = true := by simpa using hlt
      have hnl : byteAt s (at0 + k) ≠ 10 := by intro e; rw [e] at hp; exact absurd hp (by decide)
      have HP := Lib.hid hp
      clear hp
      go_wp2_with fail
      refine (more_any b (at0 + k) line m cv s _ HSC.out).mono ?_
      rintro e w' ⟨rfl, nq, rfl⟩
      go_wp2_with fail
      refine (peek_any b (at0 + k) line m cv s _ (HSC.out.drewN nq) hlt).mono ?_
      rintro e w' ⟨rfl, nr, rfl⟩
      have hp := HP.out
      go_wp2_with fail
      refine (isDigit_any _ _).mono ?_
      rintro e w' ⟨rfl, rfl⟩
      go_wp2_with fail
      refine (step_any b (at0 + k) line m cv s _ (HSC.out.drewN _) hlt hs hl).mono ?_
      rintro e w' ⟨rfl, hsc, hgr⟩
      have HSC2 := Lib.hid hsc
      have HGR2 := Lib.hid hgr
      clear hsc hgr hp
      go_wp2
      go_roundg (gk - 1)
      case measure => omega
      case rel =>
        refine ⟨k + 1, by have := HKN.out; omega, ?_, grown_trans (grown_drewN HGR.out _) HGR2.out⟩
        have := HSC2.out
        rw [lineUp, if_neg hnl] at this
        exact this
    · have hk0 : k = lead isDig s at0 := by have := HKN.out; omega
      subst hk0
      have HKN := ()
      by_cases hlt : at0 + lead isDig s at0 < s.size
      · have hp := lead_stop hlt
        have hm : decide (at0 + lead isDig s at0 < s.size) = true := by simpa using hlt
        have HP := Lib.hid hp
        clear hp
        go_wp2_with fail
        refine (more_any b _ line m cv s _ HSC.out).mono ?_
        rintro e w' ⟨rfl, nq, rfl⟩
        go_wp2_with fail
        refine (peek_any b _ line m cv s _ (HSC.out.drewN nq) hlt).mono ?_
        rintro e w' ⟨rfl, nr, rfl⟩
        have hp := HP.out
        go_wp2_with fail
        refine (isDigit_any _ _).mono ?_
        rintro e w' ⟨rfl, rfl⟩
        have c0 := HSC.out.c0
        have c1 := HSC.out.c1
        have HE := Lib.hid hp
        go_wp2
        go_quiet (fail)
        go_wp2
        go_ret
        exact ⟨rfl, HSC.out, grown_drewN (grown_drewN HGR.out _) _⟩
      · have hm : decide (at0 + lead isDig s at0 < s.size) = false := by simpa using hlt
        go_wp2_with fail
        refine (more_any b _ line m cv s _ HSC.out).mono ?_
        rintro e w' ⟨rfl, nq, rfl⟩
        have c0 := HSC.out.c0
        have c1 := HSC.out.c1
        go_wp2
        go_quiet (fail)
        go_wp2
        go_ret
        exact ⟨rfl, HSC.out, grown_drewN (grown_drewN HGR.out _) _⟩
end Go.Proofs.YtophcjkfhneghaaDoor
