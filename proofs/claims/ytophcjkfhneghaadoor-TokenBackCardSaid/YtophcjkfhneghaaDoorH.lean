/- The scanner's methods that read a name, a word, a number. -/
import Derived.Test.YtophcjkfhneghaaDoorG
namespace Go.Proofs.YtophcjkfhneghaaDoor
open Go Go.RowKit

theorem extract_size {s : ByteArray} {i n : Nat} (h : i + n ≤ s.size) : (s.extract i (i + n)).size = n := by
  rw [ByteArray.size_extract]; omega

set_option maxRecDepth 100000 in
set_option maxHeartbeats 1000000 in
theorem name_long (b at_ line m : Nat) (cv : Value) (s : ByteArray) (w : World) (h : Scn w b s at_ line m cv) (hle : at_ ≤ s.size) (hs : s.size ≤ 20000) (hl : line ≤ 30000) (hlong : 12 < lead isLD s at_) :
    Calls Tryd.prog 60 #[.pointer (some ⟨b, 0, none⟩)] w fun e w' => e = gaveUp 12 line ∧ w.grownBy w' (some b) := by
  have HH := Lib.hid h
  have hend := lead_le (p := isLD) hle
  have hsz := extract_size hend
  have HS := Lib.hid hsz
  clear h hsz
  go_enter Tryd.func60, Tryd.ntmps60
  go_wp2_with fail
  refine (runLD_any b at_ line m cv s _ HH.out hle hs hl).mono ?_
  rintro e w' ⟨rfl, h1, h2⟩
  have H1 := Lib.hid h1
  have H2 := Lib.hid h2
  clear h1 h2
  have hsz := HS.out
  go_wp2_with fail
  refine (giveUp_any 12 b _ line m cv s _ H1.out).mono ?_
  rintro e w' ⟨rfl, nq, rfl⟩
  exact ⟨rfl, rfl, grown_drewN H2.out _⟩

set_option maxRecDepth 100000 in
set_option maxHeartbeats 1000000 in
theorem name_short (b at_ line m : Nat) (cv : Value) (s : ByteArray) (w : World) (h : Scn w b s at_ line m cv) (hx : Lex w m) (hmb : m ≠ b) (hle : at_ ≤ s.size) (hs : s.size ≤ 20000) (hl : line ≤ 30000) (hlong : ¬ 12 < lead isLD s at_) (v : Bool)
    (hv : isWordB (s.extract at_ (at_ + lead isLD s at_)) = v) :
    Calls Tryd.prog 60 #[.pointer (some ⟨b, 0, none⟩)] w fun e w' => e = .returned (.int .u8 (cond v 2 1)) ∧ Scn w' b s (at_ + lead isLD s at_) line m cv ∧ w.grownBy w' (some b) := by
  have HH := Lib.hid h
  have HX := Lib.hid hx
  have HV := Lib.hid hv
  have hend := lead_le (p := isLD) hle
  have hsz := extract_size hend
  have HS := Lib.hid hsz
  clear h hsz hx hv
  cases v
  all_goals
    go_enter Tryd.func60, Tryd.ntmps60
    go_wp2_with fail
    refine (runLD_any b at_ line m cv s _ HH.out hle hs hl).mono ?_
    rintro e w' ⟨rfl, h1, h2⟩
    have H1 := Lib.hid h1
    have H2 := Lib.hid h2
    clear h1 h2
    have hsz := HS.out
    have hlk := lookup_lex (HX.out.grown H2.out (by simpa using hmb)) (s.extract at_ (at_ + lead isLD s at_))
    rw [HV.out] at hlk
    have c3 := H1.out.c3
    go_wp2
    go_ret
    exact ⟨rfl, H1.out, H2.out⟩

set_option maxRecDepth 100000 in
set_option maxHeartbeats 1000000 in
theorem number_bad (b at_ line m : Nat) (cv : Value) (s : ByteArray) (w : World) (h : Scn w b s at_ line m cv) (he : Env w) (h7 : 7 ≤ b) (hle : at_ ≤ s.size) (hs : s.size ≤ 20000) (hl : line ≤ 30000)
    (hv : numB (s.extract at_ (at_ + lead isDig s at_)) = false) :
    Calls Tryd.prog 61 #[.pointer (some ⟨b, 0, none⟩)] w fun e w' => e = gaveUp 11 line ∧ w.grownBy w' (some b) := by
  have HH := Lib.hid h
  have HE := Lib.hid he
  have HV := Lib.hid hv
  have hend := lead_le (p := isDig) hle
  have hsz := extract_size hend
  have HS := Lib.hid hsz
  clear h hsz he hv
  go_enter Tryd.func61, Tryd.ntmps61
  go_wp2_with fail
  refine (runDig_any b at_ line m cv s _ HH.out hle hs hl).mono ?_
  rintro e w' ⟨rfl, h1, h2⟩
  have H1 := Lib.hid h1
  have H2 := Lib.hid h2
  clear h1 h2
  go_wp2_with fail
  refine (isNumber_any _ (by have := HS.out; omega) _ (HE.out.grown H2.out h7)).mono ?_
  rintro e w'' ⟨rfl, hb⟩
  rw [HV.out]
  have HB := Lib.hid hb
  clear hb
  go_wp2_with fail
  refine (giveUp_any 11 b _ line m cv s _ (Blk.below H1.out HB.out H1.out.lt)).mono ?_
  rintro e w' ⟨rfl, nq, rfl⟩
  exact ⟨rfl, rfl, grown_drewN (grown_below H2.out HB.out) _⟩

set_option maxRecDepth 100000 in
set_option maxHeartbeats 1000000 in
theorem number_ok (b at_ line m : Nat) (cv : Value) (s : ByteArray) (w : World) (h : Scn w b s at_ line m cv) (he : Env w) (h7 : 7 ≤ b) (hle : at_ ≤ s.size) (hs : s.size ≤ 20000) (hl : line ≤ 30000)
    (hv : numB (s.extract at_ (at_ + lead isDig s at_)) = true) :
    Calls Tryd.prog 61 #[.pointer (some ⟨b, 0, none⟩)] w fun e w' => e = .returned (.int .u8 3) ∧ Scn w' b s (at_ + lead isDig s at_) line m cv ∧ w.grownBy w' (some b) := by
  have HH := Lib.hid h
  have HE := Lib.hid he
  have HV := Lib.hid hv
  have hend := lead_le (p := isDig) hle
  have hsz := extract_size hend
  have HS := Lib.hid hsz
  clear h hsz he hv
  go_enter Tryd.func61, Tryd.ntmps61
  go_wp2_with fail
  refine (runDig_any b at_ line m cv s _ HH.out hle hs hl).mono ?_
  rintro e w' ⟨rfl, h1, h2⟩
  have H1 := Lib.hid h1
  have H2 := Lib.hid h2
  clear h1 h2
  go_wp2_with fail
  refine (isNumber_any _ (by have := HS.out; omega) _ (HE.out.grown H2.out h7)).mono ?_
  rintro e w'' ⟨rfl, hb⟩
  rw [HV.out]
  have HB := Lib.hid hb
  clear hb
  go_wp2
  go_ret
  exact ⟨rfl, Blk.below H1.out HB.out H1.out.lt, grown_below H2.out HB.out⟩
end Go.Proofs.YtophcjkfhneghaaDoor
