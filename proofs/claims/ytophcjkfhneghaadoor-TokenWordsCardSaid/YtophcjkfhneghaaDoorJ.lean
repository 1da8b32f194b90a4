/- What may turn while a text is scanned; the scanner's method that reads a comment. -/
import Derived.Test.YtophcjkfhneghaaDoorI
import Derived.Deep.RegionHeld3
import Derived.Deep.RegionLaw
import Derived.Deep.AppendLies
namespace Go.Proofs.YtophcjkfhneghaaDoor
open Go Go.RowKit

/-- Of what was there only what T names may have turned. -/
structure Turns (T : Nat → Obj → Prop) (w w' : World) : Prop where
  os : w'.os = w.os
  tape : w'.tape = w.tape
  output : w'.output = w.output
  size : w.heap.size ≤ w'.heap.size
  same : ∀ i o, w.heap[i]? = some o → ¬ T i o → w'.heap[i]? = some o

section
variable {T U : Nat → Obj → Prop} {w w' w'' : World}
theorem Turns.refl (T : Nat → Obj → Prop) (w : World) : Turns T w w := ⟨rfl, rfl, rfl, Nat.le_refl _, fun _ _ h _ => h⟩
theorem Turns.trans (h : Turns T w w') (k : Turns T w' w'') : Turns T w w'' :=
  ⟨k.os.trans h.os, k.tape.trans h.tape, k.output.trans h.output, Nat.le_trans h.size k.size, fun i o ho hn => k.same i o (h.same i o ho hn) hn⟩
theorem Turns.mono (h : Turns T w w') (hTU : ∀ i o, T i o → U i o) : Turns U w w' :=
  ⟨h.os, h.tape, h.output, h.size, fun i o ho hn => h.same i o ho fun ht => hn (hTU i o ht)⟩
theorem Turns.of_below (h : Below w.heap.size w w') : Turns T w w' :=
  ⟨h.os, h.tape, h.output, h.size, fun i _o ho _ => (h.block i (Array.getElem?_eq_some_iff.1 ho).1).trans ho⟩
theorem Turns.of_grown {row : Option Nat} (h : w.grownBy w' row) (hr : ∀ i o, row = some i → w.heap[i]? = some o → T i o) : Turns T w w' :=
  ⟨h.os, h.tape, h.output, h.size, fun i o ho hn => (h.block i (Array.getElem?_eq_some_iff.1 ho).1 (fun e => hn (hr i o e.symm ho))).trans ho⟩
theorem Turns.drewN (h : Turns T w w') (n : Nat) : Turns T w (w'.drewN n) := ⟨h.os, h.tape, h.output, h.size, h.same⟩
theorem Turns.below {B : Nat} (h : Turns T w w') (hB : B ≤ w.heap.size) (hT : ∀ i o, T i o → B ≤ i) : Below B w w' :=
  ⟨h.os, h.tape, h.output, h.size, fun i hi => by
    have ho : w.heap[i]? = some w.heap[i] := Array.getElem?_eq_getElem (by omega)
    rw [ho]
    exact h.same i _ ho fun ht => by have := hT i _ ht; omega⟩
theorem Turns.blk {g : Nat} {t : TypeId} {cs : Array Value} (h : Turns T w w') (hb : Blk w g t cs) (hT : ¬ T g (.cells cs t (0, 0))) : Blk w' g t cs := h.same g _ hb hT
theorem Turns.env (h : Turns T w w') (he : Env w) (hT : ∀ i o, T i o → 7 ≤ i) : Env w' := by
  have hb := h.below (B := 7) he.size hT
  exact he.keep (fun k hk => hb.block k hk) h.size
theorem Turns.own {base n size : Nat} {e : TypeId} {v : Value} {xs : List Value} (h : Turns T w w') (ho : w.ownsRow base e size v n xs) (hT : ∀ g cur, base ≤ g → ¬ T g (.cells cur e (0, 0))) : w'.ownsRow base e size v n xs := by
  obtain ⟨h1, h2⟩ := ho
  refine ⟨h1, ?_⟩
  rcases h2 with h2 | ⟨g, cap, cur, hv, hg, hh, r⟩
  · exact .inl h2
  · exact .inr ⟨g, cap, cur, hv, hg, h.same g _ hh (hT g cur hg), r⟩
end

/-- What a scanner at block b turns: itself, and rows of texts behind it. -/
def ScanT (b : Nat) (i : Nat) (o : Obj) : Prop := i = b ∨ (b < i ∧ ∃ cs fr, o = .cells cs 9 fr)

theorem scans_of_grown {b : Nat} {w w' : World} (h : w.grownBy w' (some b)) : Turns (ScanT b) w w' :=
  .of_grown h fun i _ e _ => .inl (by injection e with e; exact e.symm)

/-- The comments that a scanner has met. -/
def strVs (l : List (List UInt8)) : List Value := l.map fun x => .string (bs x)
def Coms (w : World) (b : Nat) (cv : Value) (cs : List (List UInt8)) : Prop := w.ownsRow (b + 1) 9 1 cv cs.length (strVs cs)

theorem info9 : (Tryd.prog.info? 9).map (fun i => (i.zero, i.size, i.bytes)) = some (some (.string ByteArray.empty), 1, 16) := by kernel_rfl

theorem extract_bs (s : ByteArray) (i j : Nat) : s.extract i j = bs ((s.data.toList.drop i).take (j - i)) := by
  rw [← extract_list, bs_toList]
/-- The bytes from a place on, n of them. -/
def cut (s : ByteArray) (i n : Nat) : List UInt8 := (s.data.toList.drop i).take n
theorem extract_cut (s : ByteArray) (i n : Nat) : s.extract i (i + n) = bs (cut s i n) := by
  rw [extract_bs, show i + n - i = n by omega]; rfl

theorem comment_close {b at0 n E line m k cap gg : Nat} {cv : Value} {cs : List (List UInt8)} {s : ByteArray} {w W w1 : World} {o : Obj} (hE : at0 + n = E) (h : Scn W b s E line m cv) (hg : w.grownBy W (some b)) (hc : Coms W b cv cs)
    (hgrow : (W.alloc o).drew.grownBy w1 cv.ownBlock) (hown : w1.ownsRow (b + 1) 9 1 (.slice (some ⟨gg, 0, none⟩) k cap) (cs.length + 1) (strVs cs ++ [.string (s.extract at0 E)])) :
    ∃ cv', Scn (w1.setCell ⟨b, 4, none⟩ (.slice (some ⟨gg, 0, none⟩) k cap)) b s (at0 + n) line m cv' ∧ Coms (w1.setCell ⟨b, 4, none⟩ (.slice (some ⟨gg, 0, none⟩) k cap)) b cv' (cs ++ [cut s at0 n]) ∧
      Turns (ScanT b) w (w1.setCell ⟨b, 4, none⟩ (.slice (some ⟨gg, 0, none⟩) k cap)) := by
  subst hE
  have lb : b < W.heap.size := Blk.lt h
  have hb : Below W.heap.size W (W.alloc o).drew := ((Below.refl _ W).alloc (Nat.le_refl _) o).drew
  have ha : Scn (W.alloc o).drew b s (at0 + n) line m cv := Blk.below h hb lb
  have nb : some b ≠ cv.ownBlock := fun e => by have := (hc.lt b e.symm).1; omega
  have h1 : Scn w1 b s (at0 + n) line m cv := Blk.grown ha hgrow nb
  refine ⟨_, h1.set4 _, ?_, ?_⟩
  · have := ownsRow_setCell_below hown (a := ⟨b, 4, none⟩) (by simp) (.slice (some ⟨gg, 0, none⟩) k cap)
    unfold Coms
    rw [List.length_append, List.length_singleton]
    simpa [strVs, extract_cut] using this
  · refine (scans_of_grown hg).trans ((Turns.of_below hb).trans ((Turns.of_grown hgrow fun i o' hi ho => .inr ?_).trans (scans_of_grown (grown_set (grown_refl _ _) _))))
    have hb1 := (hc.lt i hi).1
    refine ⟨by omega, ?_⟩
    rcases hc.2 with ⟨hv, _⟩ | ⟨g, cap', cur, hv, _, hh, _⟩
    · rw [hv] at hi; simp [Value.ownBlock] at hi
    · rw [hv] at hi
      simp only [Value.ownBlock, Option.some.injEq] at hi
      subst hi
      have hi' : (W.alloc o).drew.heap[g]? = some (.cells cur 9 (0, 0)) := (hb.block g (Array.getElem?_eq_some_iff.1 hh).1).trans hh
      rw [hi'] at ho
      exact ⟨cur, _, (Option.some.inj ho).symm⟩

set_option maxRecDepth 100000 in
set_option maxHeartbeats 3200000 in
theorem comment_any (b at0 line m : Nat) (cv : Value) (cs : List (List UInt8)) (s : ByteArray) (w : World) (h : Scn w b s at0 line m cv) (hc : Coms w b cv cs) (hcl : cs.length ≤ 20000) (hle : at0 ≤ s.size) (hs : s.size ≤ 20000) (hl : line ≤ 30000) :
    Calls Tryd.prog 59 #[.pointer (some ⟨b, 0, none⟩)] w fun e w' => e = .returned (.int .u8 0) ∧
      ∃ cv', Scn w' b s (at0 + lead notNl s at0) line m cv' ∧ Coms w' b cv' (cs ++ [cut s at0 (lead notNl s at0)]) ∧ Turns (ScanT b) w w' := by
  have hend := lead_le (p := notNl) hle
  have h1 := h.c1
  have HH := Lib.hid h
  have HC := Lib.hid hc
  clear h hc
  go_enter Tryd.func59, Tryd.ntmps59
  go_wp2
  go_step3
  go_wp2
  go_step3
  go_wp2
  clear h1
  go_loopg [] (lead notNl s at0) (fun n wr => ∃ k, k + n = lead notNl s at0 ∧ Scn wr b s (at0 + k) line m cv ∧ w.grownBy wr (some b))
  case atStart => exact ⟨0, by simp, HH.out, grown_refl _ _⟩
  case round =>
    obtain ⟨k, hkn, hsc, hgr⟩ := hrel
    have HKN := Lib.hid hkn
    have HSC := Lib.hid hsc
    have HGR := Lib.hid hgr
    clear hkn hsc hgr
    by_cases hk : 0 < gk
    · have hin := lead_in (p := notNl) (s := s) (i := at0) (k := k) (by have := HKN.out; omega)
      obtain ⟨hlt, hp⟩ := hin
      have hm : decide (at0 + k < s.size) = true := by simpa using hlt
      have hnl : (byteAt s (at0 + k) == 10) = false := by simpa [notNl] using hp
      have HNL := Lib.hid hnl
      clear hp hnl
      go_wp2_with fail
      refine (more_any b (at0 + k) line m cv s _ HSC.out).mono ?_
      rintro e w' ⟨rfl, nq, rfl⟩
      go_wp2_with fail
      refine (peek_any b (at0 + k) line m cv s _ (HSC.out.drewN nq) hlt).mono ?_
      rintro e w' ⟨rfl, nr, rfl⟩
      have hnl := HNL.out
      go_wp2_with fail
      refine (step_any b (at0 + k) line m cv s _ (HSC.out.drewN _) hlt hs hl).mono ?_
      rintro e w' ⟨rfl, hsc, hgr⟩
      have HSC2 := Lib.hid hsc
      have HGR2 := Lib.hid hgr
      clear hsc hgr hnl
      go_wp2
      go_roundg (gk - 1)
      case measure => omega
      case rel =>
        refine ⟨k + 1, by have := HKN.out; omega, ?_, grown_trans (grown_drewN HGR.out _) HGR2.out⟩
        have h1 := HSC2.out
        have h2 := HNL.out
        rw [lineUp, if_neg (by simpa using h2)] at h1
        exact h1
    · have hk0 : k = lead notNl s at0 := by have := HKN.out; omega
      subst hk0
      by_cases hlt : at0 + lead notNl s at0 < s.size
      · have hp := lead_stop hlt
        have hm : decide (at0 + lead notNl s at0 < s.size) = true := by simpa using hlt
        have hnl : (byteAt s (at0 + lead notNl s at0) == 10) = true := by simpa [notNl] using hp
        have HNL := Lib.hid hnl
        clear hp hnl
        go_wp2_with fail
        refine (more_any b _ line m cv s _ HSC.out).mono ?_
        rintro e w' ⟨rfl, nq, rfl⟩
        go_wp2_with fail
        refine (peek_any b _ line m cv s _ (HSC.out.drewN nq) hlt).mono ?_
        rintro e w' ⟨rfl, nr, rfl⟩
        have hnl := HNL.out
        go_wp2
        have HSW : Hid (Scn (wr.drewN (nq + nr)) b s (at0 + lead notNl s at0) line m cv) := HSC.out.drewN (nq + nr)
        have HGW := Lib.hid (grown_drewN HGR.out (nq + nr))
        generalize wr.drewN (nq + nr) = W at *
        clear HH HSC HGR hnl HNL
        have HCW : Hid (Coms W b cv cs) := HC.out.kept HGW.out (by
          cases hv : cv.ownBlock with
          | none => exact .inl rfl
          | some g => exact .inr (by have := (HC.out.lt g hv).1; simp; omega))
        obtain ⟨i0, hi, hz0, hz1, hz2⟩ := info_parts info9
        have c0 := HSW.out.c0
        have c1 := HSW.out.c1
        have c4 := HSW.out.c4
        have lb := HSW.out.lt
        have f4 := HSW.out.f 4
        have hca : ∀ o, (W.alloc o).drew.cell? ⟨b, 4, none⟩ = some cv := fun o => (World.cell?_of_block (w := W) (w' := (W.alloc o).drew) (a := ⟨b, 4, none⟩) (Below.heap_alloc W o b lb)).trans c4
        have hfa : ∀ o, (W.alloc o).drew.frozen? ⟨b, 4, none⟩ = false := fun o => (World.frozen?_of_block (w := W) (w' := (W.alloc o).drew) (a := ⟨b, 4, none⟩) (Below.heap_alloc W o b lb)).trans f4
        have nb : cv.ownBlock ≠ some b := fun e => by have := (HCW.out.lt b e).1; omega
        have hE1 : at0 ≤ at0 + lead notNl s at0 := by omega
        generalize hE : at0 + lead notNl s at0 = E at *
        have HE := Lib.hid hE
        clear hE
        have b0 : (0 : Int) ≤ (at0 : Int) := Int.natCast_nonneg _
        have b1 : (at0 : Int) ≤ (E : Int) := by omega
        have b2 : (E : Int) ≤ (s.size : Int) := by omega
        go_region_law ((refine step_append_lies _ (by rfl) _ _ _ (by rfl) (b + 1) 9 i0 _ 1 16 Tryd.underlying25 hi hz0 hz1 hz2 rfl (by omega) cv cs.length (strVs cs) (by rfl) ((HCW.out.alloc _).drew) ⟨W.heap.size, 0, none⟩ 1 1 [.string (s.extract at0 E)] (by rfl) (by rfl) (World.news_of_block (cs := #[.string (s.extract at0 E)]) (t := 9) (fr := (0, 0)) (heap_alloc_new W _)) (by simp [Value.oneCell']) (by omega) (by unfold maxLen; omega) (by omega) (by simp; omega) (W.heap.size + 1) (by simp) ?_; intro gg cap w1 hown1 hgrow hat hlt1; have fw : w1.frozen? ⟨b, 4, none⟩ = false := (World.frozen?_of_block (a := ⟨b, 4, none⟩) (hgrow.block b (by simp; omega) (Ne.symm nb))).trans (hfa _); have cw : w1.cell? ⟨b, 4, none⟩ = some cv := (World.cell?_of_block (a := ⟨b, 4, none⟩) (hgrow.block b (by simp; omega) (Ne.symm nb))).trans (hca _)))
        all_goals
          go_wp2
          rw [Exit.noGoto_ret]
          go_ret
          exact ⟨rfl, comment_close HE.out HSW.out HGW.out HCW.out hgrow hown1⟩
      · have hm : decide (at0 + lead notNl s at0 < s.size) = false := by simpa using hlt
        go_wp2_with fail
        refine (more_any b _ line m cv s _ HSC.out).mono ?_
        rintro e w' ⟨rfl, nq, rfl⟩
        go_wp2
        have HSW : Hid (Scn (wr.drewN (nq)) b s (at0 + lead notNl s at0) line m cv) := HSC.out.drewN (nq)
        have HGW := Lib.hid (grown_drewN HGR.out (nq))
        generalize wr.drewN (nq) = W at *
        clear HH HSC HGR 
        have HCW : Hid (Coms W b cv cs) := HC.out.kept HGW.out (by
          cases hv : cv.ownBlock with
          | none => exact .inl rfl
          | some g => exact .inr (by have := (HC.out.lt g hv).1; simp; omega))
        obtain ⟨i0, hi, hz0, hz1, hz2⟩ := info_parts info9
        have c0 := HSW.out.c0
        have c1 := HSW.out.c1
        have c4 := HSW.out.c4
        have lb := HSW.out.lt
        have f4 := HSW.out.f 4
        have hca : ∀ o, (W.alloc o).drew.cell? ⟨b, 4, none⟩ = some cv := fun o => (World.cell?_of_block (w := W) (w' := (W.alloc o).drew) (a := ⟨b, 4, none⟩) (Below.heap_alloc W o b lb)).trans c4
        have hfa : ∀ o, (W.alloc o).drew.frozen? ⟨b, 4, none⟩ = false := fun o => (World.frozen?_of_block (w := W) (w' := (W.alloc o).drew) (a := ⟨b, 4, none⟩) (Below.heap_alloc W o b lb)).trans f4
        have nb : cv.ownBlock ≠ some b := fun e => by have := (HCW.out.lt b e).1; omega
        have hE1 : at0 ≤ at0 + lead notNl s at0 := by omega
        generalize hE : at0 + lead notNl s at0 = E at *
        have HE := Lib.hid hE
        clear hE
        have b0 : (0 : Int) ≤ (at0 : Int) := Int.natCast_nonneg _
        have b1 : (at0 : Int) ≤ (E : Int) := by omega
        have b2 : (E : Int) ≤ (s.size : Int) := by omega
        go_region_law ((refine step_append_lies _ (by rfl) _ _ _ (by rfl) (b + 1) 9 i0 _ 1 16 Tryd.underlying25 hi hz0 hz1 hz2 rfl (by omega) cv cs.length (strVs cs) (by rfl) ((HCW.out.alloc _).drew) ⟨W.heap.size, 0, none⟩ 1 1 [.string (s.extract at0 E)] (by rfl) (by rfl) (World.news_of_block (cs := #[.string (s.extract at0 E)]) (t := 9) (fr := (0, 0)) (heap_alloc_new W _)) (by simp [Value.oneCell']) (by omega) (by unfold maxLen; omega) (by omega) (by simp; omega) (W.heap.size + 1) (by simp) ?_; intro gg cap w1 hown1 hgrow hat hlt1; have fw : w1.frozen? ⟨b, 4, none⟩ = false := (World.frozen?_of_block (a := ⟨b, 4, none⟩) (hgrow.block b (by simp; omega) (Ne.symm nb))).trans (hfa _); have cw : w1.cell? ⟨b, 4, none⟩ = some cv := (World.cell?_of_block (a := ⟨b, 4, none⟩) (hgrow.block b (by simp; omega) (Ne.symm nb))).trans (hca _)))
        all_goals
          go_wp2
          rw [Exit.noGoto_ret]
          go_ret
          exact ⟨rfl, comment_close HE.out HSW.out HGW.out HCW.out hgrow hown1⟩
end Go.Proofs.YtophcjkfhneghaaDoor
