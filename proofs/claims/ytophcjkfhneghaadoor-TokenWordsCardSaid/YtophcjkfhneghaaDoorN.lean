/- The contract of package token's iterator over the tokens of a text. -/
import Derived.Test.YtophcjkfhneghaaDoorM
import Derived.StillTailTactics
import Derived.Laws.EntriesVeiled
namespace Go.Proofs.YtophcjkfhneghaaDoor
open Go Go.RowKit

/-- The table of the scanner's methods. -/
def piecesArr : Array Value := #[.func (.func 57) #[] #[], .func (.func 58) #[] #[], .func (.func 59) #[] #[], .func (.func 60) #[] #[], .func (.func 61) #[] #[], .func (.func 62) #[] #[]]

section
variable (fn : Nat) (x : Nat → Value) (A Bd : Code) (B0 b l D m : Nat) (s : ByteArray) (W0 : World)
/-- What the iterator leaves. -/
def TokPost (e : Ending) (W' : World) : Prop :=
  (∃ toks cs line, e = .returned (.tuple #[]) ∧ scanS s = .ok (toks, cs) ∧ St fn x A Bd B0 b l D m W' toks cs s s.size line ∧ Turns (ReadT B0 b l) W0 W') ∨
  (∃ c ln, ∃ v, e = gaveUp c ln ∧ scanS s = .error (c, ln) ∧ Blk W' B0 28 #[v] ∧ Turns (ReadT B0 b l) W0 W')

/-- What holds at the head of every round of its loop: p is the table's block, n the rounds that may come. -/
structure Head (p n : Nat) (wr : World) (toks : List Tok) (cs : List (List UInt8)) (at_ line : Nat) : Prop where
  st : St fn x A Bd B0 b l D m wr toks cs s at_ line
  pc : Blk wr p 77 piecesArr
  sc : scanA s n at_ line toks cs = scanS s
  tn : Turns (ReadT B0 b l) W0 wr
  le : at_ ≤ s.size
  fu : s.size + 1 ≤ at_ + n
  ln : line ≤ at_ + 1
  tl : toks.length ≤ at_
  cl : cs.length ≤ at_
def Rel (p n : Nat) (wr : World) : Prop := ∃ toks cs at_ line, Head fn x A Bd B0 b l D m s W0 p n wr toks cs at_ line
end

theorem coms_grown {w w' : World} {b : Nat} {cv : Value} {cs : List (List UInt8)} (h : Coms w b cv cs) (hg : w.grownBy w' (some b)) : Coms w' b cv cs := h.kept hg (by
  cases hv : cv.ownBlock with
  | none => exact .inl rfl
  | some g => exact .inr (by have := (h.lt g hv).1; simp; omega))

section
variable {fn : Nat} {x : Nat → Value} {A Bd : Code} {B0 b l D m : Nat} {s : ByteArray} {W0 : World} {p n : Nat} {wr : World} {toks : List Tok} {cs : List (List UInt8)} {at_ line : Nat}
theorem Head.pos (h : Head fn x A Bd B0 b l D m s W0 p n wr toks cs at_ line) : 0 < n := by have := h.le; have := h.fu; omega
/-- At the end of the text. -/
theorem Head.done (h : Head fn x A Bd B0 b l D m s W0 p n wr toks cs at_ line) (he : ¬ at_ < s.size) : scanS s = .ok (toks, cs) ∧ at_ = s.size := by
  have := h.sc
  obtain ⟨k, rfl⟩ : ∃ k, n = k + 1 := ⟨n - 1, by have := h.pos; omega⟩
  rw [scanA, if_neg he] at this
  exact ⟨this.symm, by have := h.le; omega⟩
theorem Head.fault (h : Head fn x A Bd B0 b l D m s W0 p n wr toks cs at_ line) (he : at_ < s.size) {e : Int} (hp : pieceAt s at_ = .bad e) : scanS s = .error (e, (line : Int)) := by
  have := h.sc
  obtain ⟨k, rfl⟩ : ∃ k, n = k + 1 := ⟨n - 1, by have := h.pos; omega⟩
  rw [scanA, if_pos he, hp] at this
  exact this.symm
theorem lineUp_le (c : Int) (line : Nat) : lineUp c line ≤ line + 1 := by unfold lineUp; split <;> omega
theorem turns_scan {W : World} (ht : Turns (ScanT b) wr W) : Turns (ReadT B0 b l) wr W := ht.mono fun _ _ => readT_of_scan
/-- A gap has been passed. -/
theorem Head.skip (h : Head fn x A Bd B0 b l D m s W0 p n wr toks cs at_ line) (h7 : 7 ≤ B0) (hB : B0 < b) (hbl : b < l) (hm : m < B0) (hpb : l < p) (he : at_ < s.size) (hp : pieceAt s at_ = .skip) {W : World} {cv : Value} (ht : Turns (ScanT b) wr W)
    (hs : Scn W b s (at_ + 1) (lineUp (byteAt s at_) line) m cv) (hc : Coms W b cv cs) : Rel fn x A Bd B0 b l D m s W0 p (n - 1) W := by
  have hsc := h.sc
  have := h.pos
  obtain ⟨k, rfl⟩ : ∃ k, n = k + 1 := ⟨n - 1, by omega⟩
  rw [scanA, if_pos he, hp] at hsc
  have hl := lineUp_le (byteAt s at_) line
  have h1 := h.ln; have h2 := h.tl; have h3 := h.cl; have h4 := h.fu
  exact ⟨toks, cs, at_ + 1, _, h.st.scanned h7 hB hbl hm ht hs hc, ht.blk h.pc (by rintro (h | ⟨_, cs, fr, h⟩) <;> first | omega | cases h), by simpa using hsc, h.tn.trans (turns_scan ht), by omega, by omega, by omega, by omega, by omega⟩
/-- A comment has been left. -/
theorem Head.left (h : Head fn x A Bd B0 b l D m s W0 p n wr toks cs at_ line) (h7 : 7 ≤ B0) (hB : B0 < b) (hbl : b < l) (hm : m < B0) (hpb : l < p) (he : at_ < s.size) {k : Nat} (hp : pieceAt s at_ = .com k) (hk : 0 < k) (hks : at_ + k ≤ s.size) {W : World} {cv : Value} (ht : Turns (ScanT b) wr W)
    (hs : Scn W b s (at_ + k) line m cv) (hc : Coms W b cv (cs ++ [cut s at_ k])) : Rel fn x A Bd B0 b l D m s W0 p (n - 1) W := by
  have hsc := h.sc
  have := h.pos
  obtain ⟨j, rfl⟩ : ∃ j, n = j + 1 := ⟨n - 1, by omega⟩
  rw [scanA, if_pos he, hp] at hsc
  have h1 := h.ln; have h2 := h.tl; have h3 := h.cl; have h4 := h.fu
  exact ⟨toks, _, at_ + k, line, h.st.scanned h7 hB hbl hm ht hs hc, ht.blk h.pc (by rintro (h | ⟨_, cs, fr, h⟩) <;> first | omega | cases h), by simpa using hsc, h.tn.trans (turns_scan ht), by omega, by omega, by omega, by omega, by simp; omega⟩
/-- A token has been put. -/
theorem Head.put (h : Head fn x A Bd B0 b l D m s W0 p n wr toks cs at_ line) (h7 : 7 ≤ B0) (hB : B0 < b) (hbl : b < l) (hm : m < B0) (hpb : l < p) (he : at_ < s.size) {kd : Int} {k : Nat} (hp : pieceAt s at_ = .tok kd k) (hk : 0 < k) (hks : at_ + k ≤ s.size) {W W' : World} {cv : Value} (ht : Turns (ScanT b) wr W)
    (hs : Scn W b s (at_ + k) line m cv) (hc : Coms W b cv cs) (hl : W'.heap[l]? = some (.loop (readLoop fn x B0 D A Bd .ready none)))
    (hb : ∃ vt', Blk W' B0 28 #[vt'] ∧ W'.ownsRow (b + 1) 38 3 vt' (toks ++ [Tok.mk kd (cut s at_ k) line]).length (tokVs (toks ++ [Tok.mk kd (cut s at_ k) line]))) (ht2 : Turns (RoundT B0 b l) W W') : Rel fn x A Bd B0 b l D m s W0 p (n - 1) W' := by
  have hsc := h.sc
  have := h.pos
  obtain ⟨j, rfl⟩ : ∃ j, n = j + 1 := ⟨n - 1, by omega⟩
  rw [scanA, if_pos he, hp] at hsc
  have h1 := h.ln; have h2 := h.tl; have h3 := h.cl; have h4 := h.fu
  have hpc : Blk W p 77 piecesArr := ht.blk h.pc (by rintro (h | ⟨_, cs, fr, h⟩) <;> first | omega | cases h)
  exact ⟨_, cs, at_ + k, line, (h.st.scanned h7 hB hbl hm ht hs hc).put h7 hB hbl hm ht2 hl hb, ht2.blk hpc (by rintro (h | ⟨h, _⟩ | ⟨_, cs, fr, h⟩) <;> first | omega | cases h), by simpa using hsc,
    (h.tn.trans (turns_scan ht)).trans (ht2.mono fun _ _ => readT_of_round), by omega, by omega, by omega, by simp; omega, by omega⟩
end

set_option maxRecDepth 100000 in
set_option maxHeartbeats 12800000 in
theorem tokens_any (fn : Nat) (x : Nat → Value) (A Bd : Code) (B0 b l D m : Nat) (s : ByteArray) (W0 : World) (hAB : Tryd.f44.body.bind loopParts = some (A, Bd)) (h7 : 7 ≤ B0) (hB : B0 < b) (hbl : b < l) (hm : m < B0) (hlW : l < W0.heap.size) (hs : s.size ≤ 20000)
    (h : St fn x A Bd B0 b l D m W0 [] [] s 0 1) :
    Calls Tryd.prog 52 #[.pointer (some ⟨b, 0, none⟩), .func (.yield l) #[] #[]] W0 (TokPost fn x A Bd B0 b l D m s W0) := by
  have H0 := Lib.hid h
  clear h
  go_enter Tryd.func52, Tryd.ntmps52
  go_wp2
  have hst : Hid (Rel fn x A Bd B0 b l D m s W0 W0.heap.size (s.size + 1) (W0.alloc (.cells piecesArr 77))) := by
    have hb := (Below.refl _ W0).alloc (Nat.le_refl _) (.cells piecesArr 77)
    have ht : Turns (ScanT b) W0 (W0.alloc (.cells piecesArr 77)) := Turns.of_below hb
    obtain ⟨cv, h1, h2⟩ := H0.out.scn
    refine ⟨[], [], 0, 1, H0.out.scanned h7 hB hbl hm ht (Blk.below h1 hb h1.lt) (h2.alloc _), heap_alloc_new W0 _, rfl, Turns.of_below hb, by omega, by omega, by omega, by simp, by simp⟩
  go_loopg [] (s.size + 1) (fun n wr => Rel fn x A Bd B0 b l D m s W0 W0.heap.size n wr)
  case atStart => exact hst.out
  case round =>
    have HREL := Lib.hid hrel
    clear hrel hst
    obtain ⟨toks, cs, at_, line, HD⟩ := HREL.out
    have HD := Lib.hid HD
    obtain ⟨cv, hsc, hcm⟩ := HD.out.st.scn
    have HSC := Lib.hid hsc
    have HCM := Lib.hid hcm
    clear hsc hcm
    by_cases hlt : at_ < s.size
    · have hm' : decide (at_ < s.size) = true := by simpa using hlt
      have hln : line ≤ 30000 := by have := HD.out.ln; omega
      have hcl : cs.length ≤ 20000 := by have := HD.out.cl; omega
      have htl : toks.length ≤ 20000 := by have := HD.out.tl; omega
      have hle := HD.out.le
      have hpos := HD.out.pos
      have h7b : 7 ≤ b := by omega
      rcases kindAt_cases s at_ with hk | hk | hk | hk | hk | hk
      · have HK := Lib.hid hk
        clear hk
        go_wp2_with fail
        refine (more_is true b at_ line m cv s _ HSC.out hm').mono ?_
        rintro e w' ⟨rfl, nq, rfl⟩
        have c1 := HSC.out.c1
        have c2 := HSC.out.c2
        go_wp2_with fail
        go_quiet (fail)
        go_wp2_with fail
        refine (kind_is 0 b at_ line m cv s _ (HSC.out.drewN _) (HD.out.st.env.drewN _) hlt hs HK.out).mono ?_
        rintro e w' ⟨rfl, nr, rfl⟩
        have cp := HD.out.pc.cell 0
        simp only [piecesArr, List.getElem?_toArray, List.getElem?_cons_zero] at cp
        go_wp2_with fail
        refine (refuse_any b at_ line m cv s _ (HSC.out.drewN _)).mono ?_
        rintro e w' ⟨rfl, nx, rfl⟩
        obtain ⟨vt, hbx, _⟩ := HD.out.st.box
        exact ⟨rfl, .inr ⟨10, line, vt, rfl, HD.out.fault hlt (by simp [pieceAt, HK.out]), hbx, ((HD.out.tn.drewN _).drewN _)⟩⟩
      · have HK := Lib.hid hk
        clear hk
        go_wp2_with fail
        refine (more_is true b at_ line m cv s _ HSC.out hm').mono ?_
        rintro e w' ⟨rfl, nq, rfl⟩
        have c1 := HSC.out.c1
        have c2 := HSC.out.c2
        go_wp2_with fail
        go_quiet (fail)
        go_wp2_with fail
        refine (kind_is 1 b at_ line m cv s _ (HSC.out.drewN _) (HD.out.st.env.drewN _) hlt hs HK.out).mono ?_
        rintro e w' ⟨rfl, nr, rfl⟩
        have cp := HD.out.pc.cell 1
        simp only [piecesArr, List.getElem?_toArray, List.getElem?_cons_zero, List.getElem?_cons_succ] at cp
        go_wp2_with fail
        refine (gap_any b at_ line m cv s _ (HSC.out.drewN _) hlt hs hln).mono ?_
        rintro e w' ⟨rfl, h1, h2⟩
        have H1 := Lib.hid h1
        have H2 := Lib.hid h2
        clear h1 h2
        go_wp2
        go_roundg (gk - 1)
        case measure => omega
        case rel => exact HD.out.skip h7 hB hbl hm hlW hlt (by simp [pieceAt, HK.out]) (((Turns.refl _ _).drewN _).trans (scans_of_grown H2.out)) H1.out (coms_grown (show Coms (wr.drewN _) b cv cs from HCM.out) H2.out)
      · have HK := Lib.hid hk
        clear hk
        go_wp2_with fail
        refine (more_is true b at_ line m cv s _ HSC.out hm').mono ?_
        rintro e w' ⟨rfl, nq, rfl⟩
        have c1 := HSC.out.c1
        have c2 := HSC.out.c2
        go_wp2_with fail
        go_quiet (fail)
        go_wp2_with fail
        refine (kind_is 2 b at_ line m cv s _ (HSC.out.drewN _) (HD.out.st.env.drewN _) hlt hs HK.out).mono ?_
        rintro e w' ⟨rfl, nr, rfl⟩
        have cp := HD.out.pc.cell 2
        simp only [piecesArr, List.getElem?_toArray, List.getElem?_cons_zero, List.getElem?_cons_succ] at cp
        go_wp2_with fail
        refine (comment_any b at_ line m cv cs s _ (HSC.out.drewN _) HCM.out hcl hle hs hln).mono ?_
        rintro e w' ⟨rfl, cv', h1, h2, h3⟩
        have H1 := Lib.hid h1
        have H2 := Lib.hid h2
        have H3 := Lib.hid h3
        clear h1 h2 h3
        go_wp2
        go_roundg (gk - 1)
        case measure => omega
        case rel => exact HD.out.left h7 hB hbl hm hlW hlt (by simp [pieceAt, HK.out]) (lead_pos hlt (by rw [kind2_pct HK.out]; decide)) (lead_le hle) (((Turns.refl _ _).drewN _).trans H3.out) H1.out H2.out
      · by_cases hlong : 12 < lead isLD s at_
        · have HK := Lib.hid hk
          clear hk
          go_wp2_with fail
          refine (more_is true b at_ line m cv s _ HSC.out hm').mono ?_
          rintro e w' ⟨rfl, nq, rfl⟩
          have c1 := HSC.out.c1
          have c2 := HSC.out.c2
          go_wp2_with fail
          go_quiet (fail)
          go_wp2_with fail
          refine (kind_is 3 b at_ line m cv s _ (HSC.out.drewN _) (HD.out.st.env.drewN _) hlt hs HK.out).mono ?_
          rintro e w' ⟨rfl, nr, rfl⟩
          have cp := HD.out.pc.cell 3
          simp only [piecesArr, List.getElem?_toArray, List.getElem?_cons_zero, List.getElem?_cons_succ] at cp
          go_wp2_with fail
          refine (name_long b at_ line m cv s _ (HSC.out.drewN _) hle hs hln hlong).mono ?_
          rintro e w' ⟨rfl, h2⟩
          obtain ⟨vt, hbx, _⟩ := HD.out.st.box
          exact ⟨rfl, .inr ⟨12, line, vt, rfl, HD.out.fault hlt (by simp [pieceAt, HK.out, hlong]), Blk.grown hbx (show wr.grownBy _ _ from ⟨h2.os, h2.tape, h2.output, h2.size, h2.block⟩) (by simp; omega), (HD.out.tn.trans (turns_scan (((Turns.refl _ _).drewN _).trans (scans_of_grown h2))))⟩⟩
        · have HVV := ()
          cases hv : isWordB (s.extract at_ (at_ + lead isLD s at_))
          · have HK := Lib.hid hk
            clear hk
            go_wp2_with fail
            refine (more_is true b at_ line m cv s _ HSC.out hm').mono ?_
            rintro e w' ⟨rfl, nq, rfl⟩
            have c1 := HSC.out.c1
            have c2 := HSC.out.c2
            go_wp2_with fail
            go_quiet (fail)
            go_wp2_with fail
            refine (kind_is 3 b at_ line m cv s _ (HSC.out.drewN _) (HD.out.st.env.drewN _) hlt hs HK.out).mono ?_
            rintro e w' ⟨rfl, nr, rfl⟩
            have cp := HD.out.pc.cell 3
            simp only [piecesArr, List.getElem?_toArray, List.getElem?_cons_zero, List.getElem?_cons_succ] at cp
            go_wp2_with fail
            refine (name_short b at_ line m cv s _ (HSC.out.drewN _) (HD.out.st.lex.drewN _) (by omega) hle hs hln hlong false hv).mono ?_
            rintro e w' ⟨rfl, h1, h2⟩
            simp only [cond_false]
            have H1 := Lib.hid h1
            have H2 := Lib.hid h2
            clear h1 h2 c1 c2 cp
            have HC2 := Lib.hid (coms_grown (show Coms (wr.drewN _) b cv cs from HCM.out) H2.out)
            have HT := Lib.hid (((Turns.refl (ScanT b) wr).drewN _).trans (scans_of_grown H2.out))
            have HST := Lib.hid (HD.out.st.scanned h7 hB hbl hm HT.out H1.out HC2.out)
            have hks : at_ + lead isLD s at_ ≤ s.size := lead_le hle
            have hkp : 0 < lead isLD s at_ := lead_pos hlt (kind3_let HK.out)
            have hxt : s.extract at_ (at_ + lead isLD s at_) = bs (cut s at_ (lead isLD s at_)) := extract_cut s at_ _
            have d0 := H1.out.c0
            have d1 := H1.out.c1
            generalize hE : at_ + lead isLD s at_ = E at *
            have HE := Lib.hid hE
            clear hE
            have b0 : (0 : Int) ≤ (at_ : Int) := Int.natCast_nonneg _
            have b1 : (at_ : Int) ≤ (E : Int) := by have := HE.out; omega
            have b2 : (E : Int) ≤ (s.size : Int) := by omega
            go_wp2
            refine wp_region_tail_wide 0 16 (by kernel_rfl) (by kernel_rfl) ?_
            simp only [List.take_succ_cons, List.take_zero, List.drop_succ_cons, List.drop_zero]
            (repeat still_step)
            refine wpStill_nil ?_
            obtain ⟨vt, hbx, hbo⟩ := HST.out.box
            have lb : b < w'.heap.size := Blk.lt H1.out
            refine wpListIn_yield rfl _ _ _ rfl l rfl _ rfl (readLoop fn x B0 D A Bd .ready none) HST.out.loop 21 rfl ?_
            refine round_any B0 b l D _ fn x A Bd hAB (Tok.mk 1 (cut s at_ (lead isLD s at_)) line) vt toks (w'.drewN 1) hbx hbo HST.out.loop hB lb hbl htl _ ?_
            clear d0 d1 hbx hbo hxt
            intro W' h1 h2 h3
            have G1 := Lib.hid h1
            have G2 := Lib.hid h2
            have G3 : Hid (Turns (RoundT B0 b l) w' W') := (⟨h3.os, h3.tape, h3.output, h3.size, h3.same⟩ : Turns (RoundT B0 b l) w' W')
            clear h1 h2 h3
            gi_wp2
            go_wp2
            go_roundg (gk - 1)
            case measure => omega
            case rel => exact HD.out.put h7 hB hbl hm hlW hlt (by simp [pieceAt, HK.out, hlong, HE.out, hv]) hkp (by rw [HE.out]; exact hks) HT.out (by rw [HE.out]; exact H1.out) HC2.out G1.out G2.out G3.out
          · have HK := Lib.hid hk
            clear hk
            go_wp2_with fail
            refine (more_is true b at_ line m cv s _ HSC.out hm').mono ?_
            rintro e w' ⟨rfl, nq, rfl⟩
            have c1 := HSC.out.c1
            have c2 := HSC.out.c2
            go_wp2_with fail
            go_quiet (fail)
            go_wp2_with fail
            refine (kind_is 3 b at_ line m cv s _ (HSC.out.drewN _) (HD.out.st.env.drewN _) hlt hs HK.out).mono ?_
            rintro e w' ⟨rfl, nr, rfl⟩
            have cp := HD.out.pc.cell 3
            simp only [piecesArr, List.getElem?_toArray, List.getElem?_cons_zero, List.getElem?_cons_succ] at cp
            go_wp2_with fail
            refine (name_short b at_ line m cv s _ (HSC.out.drewN _) (HD.out.st.lex.drewN _) (by omega) hle hs hln hlong true hv).mono ?_
            rintro e w' ⟨rfl, h1, h2⟩
            simp only [cond_true]
            have H1 := Lib.hid h1
            have H2 := Lib.hid h2
            clear h1 h2 c1 c2 cp
            have HC2 := Lib.hid (coms_grown (show Coms (wr.drewN _) b cv cs from HCM.out) H2.out)
            have HT := Lib.hid (((Turns.refl (ScanT b) wr).drewN _).trans (scans_of_grown H2.out))
            have HST := Lib.hid (HD.out.st.scanned h7 hB hbl hm HT.out H1.out HC2.out)
            have hks : at_ + lead isLD s at_ ≤ s.size := lead_le hle
            have hkp : 0 < lead isLD s at_ := lead_pos hlt (kind3_let HK.out)
            have hxt : s.extract at_ (at_ + lead isLD s at_) = bs (cut s at_ (lead isLD s at_)) := extract_cut s at_ _
            have d0 := H1.out.c0
            have d1 := H1.out.c1
            generalize hE : at_ + lead isLD s at_ = E at *
            have HE := Lib.hid hE
            clear hE
            have b0 : (0 : Int) ≤ (at_ : Int) := Int.natCast_nonneg _
            have b1 : (at_ : Int) ≤ (E : Int) := by have := HE.out; omega
            have b2 : (E : Int) ≤ (s.size : Int) := by omega
            go_wp2
            refine wp_region_tail_wide 0 16 (by kernel_rfl) (by kernel_rfl) ?_
            simp only [List.take_succ_cons, List.take_zero, List.drop_succ_cons, List.drop_zero]
            (repeat still_step)
            refine wpStill_nil ?_
            obtain ⟨vt, hbx, hbo⟩ := HST.out.box
            have lb : b < w'.heap.size := Blk.lt H1.out
            refine wpListIn_yield rfl _ _ _ rfl l rfl _ rfl (readLoop fn x B0 D A Bd .ready none) HST.out.loop 21 rfl ?_
            refine round_any B0 b l D _ fn x A Bd hAB (Tok.mk 2 (cut s at_ (lead isLD s at_)) line) vt toks (w'.drewN 1) hbx hbo HST.out.loop hB lb hbl htl _ ?_
            clear d0 d1 hbx hbo hxt
            intro W' h1 h2 h3
            have G1 := Lib.hid h1
            have G2 := Lib.hid h2
            have G3 : Hid (Turns (RoundT B0 b l) w' W') := (⟨h3.os, h3.tape, h3.output, h3.size, h3.same⟩ : Turns (RoundT B0 b l) w' W')
            clear h1 h2 h3
            gi_wp2
            go_wp2
            go_roundg (gk - 1)
            case measure => omega
            case rel => exact HD.out.put h7 hB hbl hm hlW hlt (by simp [pieceAt, HK.out, hlong, HE.out, hv]) hkp (by rw [HE.out]; exact hks) HT.out (by rw [HE.out]; exact H1.out) HC2.out G1.out G2.out G3.out
      · cases hv : numB (s.extract at_ (at_ + lead isDig s at_))
        · have HK := Lib.hid hk
          clear hk
          go_wp2_with fail
          refine (more_is true b at_ line m cv s _ HSC.out hm').mono ?_
          rintro e w' ⟨rfl, nq, rfl⟩
          have c1 := HSC.out.c1
          have c2 := HSC.out.c2
          go_wp2_with fail
          go_quiet (fail)
          go_wp2_with fail
          refine (kind_is 4 b at_ line m cv s _ (HSC.out.drewN _) (HD.out.st.env.drewN _) hlt hs HK.out).mono ?_
          rintro e w' ⟨rfl, nr, rfl⟩
          have cp := HD.out.pc.cell 4
          simp only [piecesArr, List.getElem?_toArray, List.getElem?_cons_zero, List.getElem?_cons_succ] at cp
          go_wp2_with fail
          refine (number_bad b at_ line m cv s _ (HSC.out.drewN _) (HD.out.st.env.drewN _) h7b hle hs hln hv).mono ?_
          rintro e w' ⟨rfl, h2⟩
          obtain ⟨vt, hbx, _⟩ := HD.out.st.box
          exact ⟨rfl, .inr ⟨11, line, vt, rfl, HD.out.fault hlt (by simp [pieceAt, HK.out, hv]), Blk.grown hbx (show wr.grownBy _ _ from ⟨h2.os, h2.tape, h2.output, h2.size, h2.block⟩) (by simp; omega), (HD.out.tn.trans (turns_scan (((Turns.refl _ _).drewN _).trans (scans_of_grown h2))))⟩⟩
        · have HK := Lib.hid hk
          clear hk
          go_wp2_with fail
          refine (more_is true b at_ line m cv s _ HSC.out hm').mono ?_
          rintro e w' ⟨rfl, nq, rfl⟩
          have c1 := HSC.out.c1
          have c2 := HSC.out.c2
          go_wp2_with fail
          go_quiet (fail)
          go_wp2_with fail
          refine (kind_is 4 b at_ line m cv s _ (HSC.out.drewN _) (HD.out.st.env.drewN _) hlt hs HK.out).mono ?_
          rintro e w' ⟨rfl, nr, rfl⟩
          have cp := HD.out.pc.cell 4
          simp only [piecesArr, List.getElem?_toArray, List.getElem?_cons_zero, List.getElem?_cons_succ] at cp
          go_wp2_with fail
          refine (number_ok b at_ line m cv s _ (HSC.out.drewN _) (HD.out.st.env.drewN _) h7b hle hs hln hv).mono ?_
          rintro e w' ⟨rfl, h1, h2⟩
          have H1 := Lib.hid h1
          have H2 := Lib.hid h2
          clear h1 h2 c1 c2 cp
          have HC2 := Lib.hid (coms_grown (show Coms (wr.drewN _) b cv cs from HCM.out) H2.out)
          have HT := Lib.hid (((Turns.refl (ScanT b) wr).drewN _).trans (scans_of_grown H2.out))
          have HST := Lib.hid (HD.out.st.scanned h7 hB hbl hm HT.out H1.out HC2.out)
          have hks : at_ + lead isDig s at_ ≤ s.size := lead_le hle
          have hkp : 0 < lead isDig s at_ := lead_pos hlt (kind4_dig HK.out)
          have hxt : s.extract at_ (at_ + lead isDig s at_) = bs (cut s at_ (lead isDig s at_)) := extract_cut s at_ _
          have d0 := H1.out.c0
          have d1 := H1.out.c1
          generalize hE : at_ + lead isDig s at_ = E at *
          have HE := Lib.hid hE
          clear hE
          have b0 : (0 : Int) ≤ (at_ : Int) := Int.natCast_nonneg _
          have b1 : (at_ : Int) ≤ (E : Int) := by have := HE.out; omega
          have b2 : (E : Int) ≤ (s.size : Int) := by omega
          go_wp2
          refine wp_region_tail_wide 0 16 (by kernel_rfl) (by kernel_rfl) ?_
          simp only [List.take_succ_cons, List.take_zero, List.drop_succ_cons, List.drop_zero]
          (repeat still_step)
          refine wpStill_nil ?_
          obtain ⟨vt, hbx, hbo⟩ := HST.out.box
          have lb : b < w'.heap.size := Blk.lt H1.out
          refine wpListIn_yield rfl _ _ _ rfl l rfl _ rfl (readLoop fn x B0 D A Bd .ready none) HST.out.loop 21 rfl ?_
          refine round_any B0 b l D _ fn x A Bd hAB (Tok.mk 3 (cut s at_ (lead isDig s at_)) line) vt toks (w'.drewN 1) hbx hbo HST.out.loop hB lb hbl htl _ ?_
          clear d0 d1 hbx hbo hxt
          intro W' h1 h2 h3
          have G1 := Lib.hid h1
          have G2 := Lib.hid h2
          have G3 : Hid (Turns (RoundT B0 b l) w' W') := (⟨h3.os, h3.tape, h3.output, h3.size, h3.same⟩ : Turns (RoundT B0 b l) w' W')
          clear h1 h2 h3
          gi_wp2
          go_wp2
          go_roundg (gk - 1)
          case measure => omega
          case rel => exact HD.out.put h7 hB hbl hm hlW hlt (by simp [pieceAt, HK.out, HE.out, hv]) hkp (by rw [HE.out]; exact hks) HT.out (by rw [HE.out]; exact H1.out) HC2.out G1.out G2.out G3.out
      · have HK := Lib.hid hk
        clear hk
        go_wp2_with fail
        refine (more_is true b at_ line m cv s _ HSC.out hm').mono ?_
        rintro e w' ⟨rfl, nq, rfl⟩
        have c1 := HSC.out.c1
        have c2 := HSC.out.c2
        go_wp2_with fail
        go_quiet (fail)
        go_wp2_with fail
        refine (kind_is 5 b at_ line m cv s _ (HSC.out.drewN _) (HD.out.st.env.drewN _) hlt hs HK.out).mono ?_
        rintro e w' ⟨rfl, nr, rfl⟩
        have cp := HD.out.pc.cell 5
        simp only [piecesArr, List.getElem?_toArray, List.getElem?_cons_zero, List.getElem?_cons_succ] at cp
        go_wp2_with fail
        refine (sign_any b at_ line m cv s _ (HSC.out.drewN _) (HD.out.st.env.drewN _) h7b hlt hs hln (kind5_nl HK.out)).mono ?_
        rintro e w' ⟨rfl, h1, h2⟩
        have H1 := Lib.hid h1
        have H2 := Lib.hid h2
        clear h1 h2 c1 c2 cp
        have HC2 := Lib.hid (coms_grown (show Coms (wr.drewN _) b cv cs from HCM.out) H2.out)
        have HT := Lib.hid (((Turns.refl (ScanT b) wr).drewN _).trans (scans_of_grown H2.out))
        have HST := Lib.hid (HD.out.st.scanned h7 hB hbl hm HT.out H1.out HC2.out)
        have hks : at_ + signLen s at_ ≤ s.size := signLen_le hlt
        have hkp : 0 < signLen s at_ := by have := signLen_cases s at_; omega
        have hxt : s.extract at_ (at_ + signLen s at_) = bs (cut s at_ (signLen s at_)) := extract_cut s at_ _
        have d0 := H1.out.c0
        have d1 := H1.out.c1
        generalize hE : at_ + signLen s at_ = E at *
        have HE := Lib.hid hE
        clear hE
        have b0 : (0 : Int) ≤ (at_ : Int) := Int.natCast_nonneg _
        have b1 : (at_ : Int) ≤ (E : Int) := by have := HE.out; omega
        have b2 : (E : Int) ≤ (s.size : Int) := by omega
        go_wp2
        refine wp_region_tail_wide 0 16 (by kernel_rfl) (by kernel_rfl) ?_
        simp only [List.take_succ_cons, List.take_zero, List.drop_succ_cons, List.drop_zero]
        (repeat still_step)
        refine wpStill_nil ?_
        obtain ⟨vt, hbx, hbo⟩ := HST.out.box
        have lb : b < w'.heap.size := Blk.lt H1.out
        refine wpListIn_yield rfl _ _ _ rfl l rfl _ rfl (readLoop fn x B0 D A Bd .ready none) HST.out.loop 21 rfl ?_
        refine round_any B0 b l D _ fn x A Bd hAB (Tok.mk 4 (cut s at_ (signLen s at_)) line) vt toks (w'.drewN 1) hbx hbo HST.out.loop hB lb hbl htl _ ?_
        clear d0 d1 hbx hbo hxt
        intro W' h1 h2 h3
        have G1 := Lib.hid h1
        have G2 := Lib.hid h2
        have G3 : Hid (Turns (RoundT B0 b l) w' W') := (⟨h3.os, h3.tape, h3.output, h3.size, h3.same⟩ : Turns (RoundT B0 b l) w' W')
        clear h1 h2 h3
        gi_wp2
        go_wp2
        go_roundg (gk - 1)
        case measure => omega
        case rel => exact HD.out.put h7 hB hbl hm hlW hlt (by simp [pieceAt, HK.out]) hkp (by rw [HE.out]; exact hks) HT.out (by rw [HE.out]; exact H1.out) HC2.out G1.out G2.out G3.out

    · have hm' : decide (at_ < s.size) = false := by simpa using hlt
      go_wp2_with fail
      refine (more_is false b at_ line m cv s _ HSC.out hm').mono ?_
      rintro e w' ⟨rfl, nq, rfl⟩
      go_wp2
      go_end0
      obtain ⟨e1, e2⟩ := HD.out.done hlt
      subst e2
      exact .inl ⟨toks, cs, line, rfl, e1, (HD.out.st.scanned h7 hB hbl hm ((Turns.refl _ _).drewN nq) (HSC.out.drewN nq) HCM.out), HD.out.tn.drewN nq⟩
end Go.Proofs.YtophcjkfhneghaaDoor
