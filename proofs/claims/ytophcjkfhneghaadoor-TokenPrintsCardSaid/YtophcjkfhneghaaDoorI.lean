/- The scanner's method that reads a sign. -/
import Derived.Test.YtophcjkfhneghaaDoorH
namespace Go.Proofs.YtophcjkfhneghaaDoor
open Go Go.RowKit

theorem more_is (v : Bool) (b at_ line m : Nat) (cv : Value) (s : ByteArray) (w : World) (h : Scn w b s at_ line m cv) (hv : decide (at_ < s.size) = v) :
    Calls Tryd.prog 63 #[.pointer (some ⟨b, 0, none⟩)] w fun e w' => e = .returned (.bool v) ∧ ∃ n, w' = w.drewN n := by
  subst hv; exact more_any b at_ line m cv s w h
theorem quiet_add {P : Program} {f : FuncId} {args : Array Value} {w : World} {a n : Nat} {v : Value}
    (h : Calls P f args (w.drewN (a + n)) fun e w' => e = .returned v ∧ ∃ m, w' = (w.drewN (a + n)).drewN m) :
    Calls P f args (w.drewN (a + n)) fun e w'' => e = .returned v ∧ ∃ m, w'' = w.drewN (a + m) :=
  h.mono fun _ _ ⟨he, m, hm⟩ => ⟨he, n + m, by rw [hm, World.drewN_drewN, Nat.add_assoc]⟩

set_option maxRecDepth 100000 in
set_option maxHeartbeats 1000000 in
theorem sign_any (b at_ line m : Nat) (cv : Value) (s : ByteArray) (w : World) (h : Scn w b s at_ line m cv) (he : Env w) (h7 : 7 ≤ b) (hlt : at_ < s.size) (hs : s.size ≤ 20000) (hl : line ≤ 30000) (hnl : byteAt s at_ ≠ 10) :
    Calls Tryd.prog 62 #[.pointer (some ⟨b, 0, none⟩)] w fun e w' => e = .returned (.int .u8 4) ∧ Scn w' b s (at_ + signLen s at_) line m cv ∧ w.grownBy w' (some b) := by
  have HH := Lib.hid h
  have HE := Lib.hid he
  have c1 := h.c1
  have hend := signLen_le hlt
  have h12 := signLen_cases s at_
  clear h he
  go_enter Tryd.func62, Tryd.ntmps62
  go_wp2_with fail
  refine (step_any b at_ line m cv s _ HH.out hlt hs hl).mono ?_
  rintro e w' ⟨rfl, h1, h2⟩
  rw [lineUp, if_neg hnl] at h1
  have H1 := Lib.hid h1
  have H2 := Lib.hid h2
  clear h1 h2 c1
  go_wp2
  go_loopg [] (signLen s at_ - 1) (fun n wr => ∃ k, 1 ≤ k ∧ k + n = signLen s at_ ∧ Scn wr b s (at_ + k) line m cv ∧ w.grownBy wr (some b))
  case atStart => exact ⟨1, by omega, by omega, H1.out, H2.out⟩
  case round =>
    obtain ⟨k, hk1, hkn, hsc, hgr⟩ := hrel
    have HKN := Lib.hid hkn
    have HSC := Lib.hid hsc
    have HGR := Lib.hid hgr
    clear hkn hsc hgr
    have c0 := HSC.out.c0
    have c1 := HSC.out.c1
    by_cases hk : 0 < gk
    · obtain ⟨hin, hsg, hne⟩ := sign_in (s := s) (i := at_) hk1 (by have := HKN.out; omega)
      have hm : decide (at_ + k < s.size) = true := by simpa using hin
      have HM := Lib.hid hm
      have HSG := Lib.hid hsg
      clear hm hsg
      go_wp2_with fail
      go_quiet ((first | (go_at_call 63; exact Calls.quiet_of (more_is true b (at_ + k) line m cv s _ (HSC.out.drewN _) HM.out)) | (go_at_call 71; exact quiet_left (isSign_is _ true HSG.out _ ((HE.out.grown HGR.out h7).drewN _)))))
      go_wp2_with fail
      refine (step_any b (at_ + k) line m cv s _ (HSC.out.drewN _) hin hs hl).mono ?_
      rintro e w' ⟨rfl, h1, h2⟩
      rw [lineUp, if_neg hne] at h1
      have H3 := Lib.hid h1
      have H4 := Lib.hid h2
      clear h1 h2
      go_wp2
      go_roundg (gk - 1)
      case measure => omega
      case rel => exact ⟨k + 1, by omega, by have := HKN.out; omega, H3.out, grown_trans (grown_drewN HGR.out _) H4.out⟩
    · have hk0 : k = signLen s at_ := by have := HKN.out; omega
      subst hk0
      by_cases hin : at_ + signLen s at_ < s.size
      · have hsg := sign_stop hin
        have hm : decide (at_ + signLen s at_ < s.size) = true := by simpa using hin
        have HM := Lib.hid hm
        have HSG := Lib.hid hsg
        clear hm hsg
        go_wp2_with fail
        go_quiet ((first | (go_at_call 63; exact Calls.quiet_of (more_is true b _ line m cv s _ (HSC.out.drewN _) HM.out)) | (go_at_call 71; exact quiet_left (isSign_is _ false HSG.out _ ((HE.out.grown HGR.out h7).drewN _)))))
        go_wp2
        go_ret
        exact ⟨rfl, HSC.out, grown_drewN HGR.out _⟩
      · have hm : decide (at_ + signLen s at_ < s.size) = false := by simpa using hin
        have HM := Lib.hid hm
        clear hm
        go_wp2_with fail
        go_quiet ((first | (go_at_call 63; exact Calls.quiet_of (more_is false b _ line m cv s _ (HSC.out.drewN _) HM.out))))
        go_wp2
        go_ret
        exact ⟨rfl, HSC.out, grown_drewN HGR.out _⟩
end Go.Proofs.YtophcjkfhneghaaDoor
