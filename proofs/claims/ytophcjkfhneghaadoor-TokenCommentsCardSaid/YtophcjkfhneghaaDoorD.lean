/- The contracts of package token's scanner: the kind of the next byte. -/
import Derived.Test.YtophcjkfhneghaaDoorB
import Derived.Test.YtophcjkfhneghaaDoorC
namespace Go.Proofs.YtophcjkfhneghaaDoor
open Go Go.RowKit

/-- The kind of the byte at a place, as the scanner has it. -/
def kindAt (s : ByteArray) (i : Nat) : Int :=
  if byteAt s i = 32 ∨ byteAt s i = 9 ∨ byteAt s i = 10 then 1 else if byteAt s i = 37 then 2 else if isLet (byteAt s i) then 3 else if isDig (byteAt s i) then 4
  else if isSignB (s.extract i (i + 1)) then 5 else 0

theorem gap_or {c : Int} (h : ¬ (c = 32 ∨ c = 9 ∨ c = 10)) : (c == 32) = false ∧ (c == 9) = false ∧ (c == 10) = false := by
  simp only [not_or] at h
  simp [h.1, h.2.1, h.2.2]

set_option maxRecDepth 100000 in
set_option maxHeartbeats 1000000 in
theorem kind_gap (b at_ line m : Nat) (cv : Value) (s : ByteArray) (w : World) (h : Scn w b s at_ line m cv) (hlt : at_ < s.size) (hg : byteAt s at_ = 32 ∨ byteAt s at_ = 9 ∨ byteAt s at_ = 10) :
    Calls Tryd.prog 64 #[.pointer (some ⟨b, 0, none⟩)] w fun e w' => e = .returned (.int .i64 1) ∧ ∃ n, w' = w.drewN n := by
  have HH := Lib.hid h
  clear h
  rcases hg with hg | hg | hg
  all_goals
    have HG := Lib.hid hg
    clear hg
    go_enter Tryd.func64, Tryd.ntmps64
    go_wp2_with fail
    refine (peek_any b at_ line m cv s _ HH.out hlt).mono ?_
    rintro e w' ⟨rfl, nq, rfl⟩
    rw [HG.out]
    go_wp2
    go_ret
    exact ⟨rfl, nq, rfl⟩

set_option maxRecDepth 100000 in
set_option maxHeartbeats 1000000 in
theorem kind_pct (b at_ line m : Nat) (cv : Value) (s : ByteArray) (w : World) (h : Scn w b s at_ line m cv) (hlt : at_ < s.size) (hg : byteAt s at_ = 37) :
    Calls Tryd.prog 64 #[.pointer (some ⟨b, 0, none⟩)] w fun e w' => e = .returned (.int .i64 2) ∧ ∃ n, w' = w.drewN n := by
  have HH := Lib.hid h
  clear h
  have HG := Lib.hid hg
  clear hg
  go_enter Tryd.func64, Tryd.ntmps64
  go_wp2_with fail
  refine (peek_any b at_ line m cv s _ HH.out hlt).mono ?_
  rintro e w' ⟨rfl, nq, rfl⟩
  rw [HG.out]
  go_wp2
  go_ret
  exact ⟨rfl, nq, rfl⟩

set_option maxRecDepth 100000 in
set_option maxHeartbeats 1000000 in
theorem kind_let (b at_ line m : Nat) (cv : Value) (s : ByteArray) (w : World) (h : Scn w b s at_ line m cv) (hlt : at_ < s.size) (hg : ¬ (byteAt s at_ = 32 ∨ byteAt s at_ = 9 ∨ byteAt s at_ = 10)) (hp : byteAt s at_ ≠ 37)
    (hL : isLet (byteAt s at_) = true) :
    Calls Tryd.prog 64 #[.pointer (some ⟨b, 0, none⟩)] w fun e w' => e = .returned (.int .i64 3) ∧ ∃ n, w' = w.drewN n := by
  have HH := Lib.hid h
  clear h
  obtain ⟨g1, g2, g3⟩ := gap_or hg
  have g4 : (byteAt s at_ == 37) = false := by simpa using hp
  clear hg hp
  go_enter Tryd.func64, Tryd.ntmps64
  go_wp2_with fail
  refine (peek_any b at_ line m cv s _ HH.out hlt).mono ?_
  rintro e w' ⟨rfl, nq, rfl⟩
  go_wp2_with (first | (go_at_call 38; refine (isLetter_any _ _).mono ?_; rintro e w' ⟨rfl, rfl⟩))
  go_ret
  exact ⟨rfl, nq, rfl⟩

set_option maxRecDepth 100000 in
set_option maxHeartbeats 1000000 in
theorem kind_dig (b at_ line m : Nat) (cv : Value) (s : ByteArray) (w : World) (h : Scn w b s at_ line m cv) (hlt : at_ < s.size) (hg : ¬ (byteAt s at_ = 32 ∨ byteAt s at_ = 9 ∨ byteAt s at_ = 10)) (hp : byteAt s at_ ≠ 37)
    (hL : isLet (byteAt s at_) = false) (hD : isDig (byteAt s at_) = true) :
    Calls Tryd.prog 64 #[.pointer (some ⟨b, 0, none⟩)] w fun e w' => e = .returned (.int .i64 4) ∧ ∃ n, w' = w.drewN n := by
  have HH := Lib.hid h
  clear h
  obtain ⟨g1, g2, g3⟩ := gap_or hg
  have g4 : (byteAt s at_ == 37) = false := by simpa using hp
  clear hg hp
  go_enter Tryd.func64, Tryd.ntmps64
  go_wp2_with fail
  refine (peek_any b at_ line m cv s _ HH.out hlt).mono ?_
  rintro e w' ⟨rfl, nq, rfl⟩
  go_wp2_with (first | (go_at_call 38; refine (isLetter_any _ _).mono ?_; rintro e w' ⟨rfl, rfl⟩) | (go_at_call 49; refine (isDigit_any _ _).mono ?_; rintro e w' ⟨rfl, rfl⟩))
  go_ret
  exact ⟨rfl, nq, rfl⟩

theorem quiet_add_left {P : Program} {f : FuncId} {args : Array Value} {w : World} {a n : Nat} {v : Value}
    (h : Calls P f args (w.drewN (a + n)) fun e w' => e = .returned v ∧ w.drewN (a + n) = w') :
    Calls P f args (w.drewN (a + n)) fun e w'' => e = .returned v ∧ ∃ m, w'' = w.drewN (a + m) :=
  h.mono fun _ _ ⟨he, hm⟩ => ⟨he, n, hm.symm⟩
theorem quiet_left {P : Program} {f : FuncId} {args : Array Value} {w : World} {n : Nat} {v : Value}
    (h : Calls P f args (w.drewN n) fun e w' => e = .returned v ∧ w.drewN n = w') : Calls P f args (w.drewN n) fun e w'' => e = .returned v ∧ ∃ m, w'' = w.drewN m :=
  h.mono fun _ _ ⟨he, hm⟩ => ⟨he, n, hm.symm⟩

theorem isSign_is (s : ByteArray) (v : Bool) (hv : isSignB s = v) (w : World) (h : Env w) : Calls Tryd.prog 71 #[.string s] w fun e w' => e = .returned (.bool v) ∧ w = w' := by
  subst hv; exact isSign_any s w h
theorem isWord_is (s : ByteArray) (v : Bool) (hv : isWordB s = v) (w : World) (h : Env w) : Calls Tryd.prog 15 #[.string s] w fun e w' => e = .returned (.bool v) ∧ w = w' := by
  subst hv; exact IsWord_any s w h

set_option maxRecDepth 100000 in
set_option maxHeartbeats 1000000 in
theorem kind_sign (b at_ line m : Nat) (cv : Value) (s : ByteArray) (w : World) (h : Scn w b s at_ line m cv) (he : Env w) (hlt : at_ < s.size) (hs : s.size ≤ 20000) (hg : ¬ (byteAt s at_ = 32 ∨ byteAt s at_ = 9 ∨ byteAt s at_ = 10)) (hp : byteAt s at_ ≠ 37)
    (hL : isLet (byteAt s at_) = false) (hD : isDig (byteAt s at_) = false) (hS : isSignB (s.extract at_ (at_ + 1)) = true) :
    Calls Tryd.prog 64 #[.pointer (some ⟨b, 0, none⟩)] w fun e w' => e = .returned (.int .i64 5) ∧ ∃ n, w' = w.drewN n := by
  have HE := Lib.hid he
  have HH := Lib.hid h
  have HS := Lib.hid hS
  clear h he hS
  obtain ⟨g1, g2, g3⟩ := gap_or hg
  have g4 : (byteAt s at_ == 37) = false := by simpa using hp
  clear hg hp
  have c0 := HH.out.c0
  have c1 := HH.out.c1
  go_enter Tryd.func64, Tryd.ntmps64
  go_wp2_with fail
  refine (peek_any b at_ line m cv s _ HH.out hlt).mono ?_
  rintro e w' ⟨rfl, nq, rfl⟩
  go_wp2_with (first | (go_at_call 38; refine (isLetter_any _ _).mono ?_; rintro e w' ⟨rfl, rfl⟩) | (go_at_call 49; refine (isDigit_any _ _).mono ?_; rintro e w' ⟨rfl, rfl⟩))
  go_quiet ((go_at_call 71; exact quiet_add_left (isSign_is _ true HS.out _ (HE.out.drewN _))))
  go_wp2
  go_ret
  exact ⟨rfl, _, World.drewN_drewN _ _ _⟩

set_option maxRecDepth 100000 in
set_option maxHeartbeats 1000000 in
theorem kind_other (b at_ line m : Nat) (cv : Value) (s : ByteArray) (w : World) (h : Scn w b s at_ line m cv) (he : Env w) (hlt : at_ < s.size) (hs : s.size ≤ 20000) (hg : ¬ (byteAt s at_ = 32 ∨ byteAt s at_ = 9 ∨ byteAt s at_ = 10)) (hp : byteAt s at_ ≠ 37)
    (hL : isLet (byteAt s at_) = false) (hD : isDig (byteAt s at_) = false) (hS : isSignB (s.extract at_ (at_ + 1)) = false) :
    Calls Tryd.prog 64 #[.pointer (some ⟨b, 0, none⟩)] w fun e w' => e = .returned (.int .i64 0) ∧ ∃ n, w' = w.drewN n := by
  have HE := Lib.hid he
  have HH := Lib.hid h
  have HS := Lib.hid hS
  clear h he hS
  obtain ⟨g1, g2, g3⟩ := gap_or hg
  have g4 : (byteAt s at_ == 37) = false := by simpa using hp
  clear hg hp
  have c0 := HH.out.c0
  have c1 := HH.out.c1
  go_enter Tryd.func64, Tryd.ntmps64
  go_wp2_with fail
  refine (peek_any b at_ line m cv s _ HH.out hlt).mono ?_
  rintro e w' ⟨rfl, nq, rfl⟩
  go_wp2_with (first | (go_at_call 38; refine (isLetter_any _ _).mono ?_; rintro e w' ⟨rfl, rfl⟩) | (go_at_call 49; refine (isDigit_any _ _).mono ?_; rintro e w' ⟨rfl, rfl⟩))
  go_quiet ((go_at_call 71; exact quiet_add_left (isSign_is _ false HS.out _ (HE.out.drewN _))))
  go_wp2
  go_ret
  exact ⟨rfl, _, World.drewN_drewN _ _ _⟩

/-- The scanner's kind of the next byte. -/
theorem kind_any (b at_ line m : Nat) (cv : Value) (s : ByteArray) (w : World) (h : Scn w b s at_ line m cv) (he : Env w) (hlt : at_ < s.size) (hs : s.size ≤ 20000) :
    Calls Tryd.prog 64 #[.pointer (some ⟨b, 0, none⟩)] w fun e w' => e = .returned (.int .i64 (kindAt s at_)) ∧ ∃ n, w' = w.drewN n := by
  unfold kindAt
  by_cases hg : byteAt s at_ = 32 ∨ byteAt s at_ = 9 ∨ byteAt s at_ = 10
  · rw [if_pos hg]; exact kind_gap b at_ line m cv s w h hlt hg
  rw [if_neg hg]
  by_cases hp : byteAt s at_ = 37
  · rw [if_pos hp]; exact kind_pct b at_ line m cv s w h hlt hp
  rw [if_neg hp]
  cases hL : isLet (byteAt s at_)
  · cases hD : isDig (byteAt s at_)
    · cases hS : isSignB (s.extract at_ (at_ + 1))
      · exact kind_other b at_ line m cv s w h he hlt hs hg hp hL hD hS
      · exact kind_sign b at_ line m cv s w h he hlt hs hg hp hL hD hS
    · exact kind_dig b at_ line m cv s w h hlt hg hp hL hD
  · exact kind_let b at_ line m cv s w h hlt hg hp hL
end Go.Proofs.YtophcjkfhneghaaDoor
