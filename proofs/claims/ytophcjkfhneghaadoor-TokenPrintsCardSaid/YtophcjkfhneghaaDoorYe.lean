/- The reference's reading of a text: the walk. -/
import Derived.Test.YtophcjkfhneghaaDoorYd
namespace Go.Proofs.YtophcjkfhneghaaDoor
open Go Go.RowKit

theorem not_gap {s : ByteArray} {i : Nat} (h1 : ¬ kindAt s i = 1) (h2 : ¬ kindAt s i = 2) : (byteAt s i == 10) = false ∧ (byteAt s i == 32) = false ∧ (byteAt s i == 9) = false ∧ (byteAt s i == 37) = false := by
  unfold kindAt at h1 h2
  by_cases hg : byteAt s i = 32 ∨ byteAt s i = 9 ∨ byteAt s i = 10
  · rw [if_pos hg] at h1; exact absurd rfl h1
  · rw [if_neg hg] at h2
    by_cases hp : byteAt s i = 37
    · rw [if_pos hp] at h2; exact absurd rfl h2
    · obtain ⟨a, b, c⟩ := gap_or hg
      exact ⟨c, a, b, by simpa using hp⟩
theorem kind1_gap {s : ByteArray} {i : Nat} (h : kindAt s i = 1) : byteAt s i = 32 ∨ byteAt s i = 9 ∨ byteAt s i = 10 := by
  unfold kindAt at h
  by_cases hg : byteAt s i = 32 ∨ byteAt s i = 9 ∨ byteAt s i = 10
  · exact hg
  · rw [if_neg hg] at h
    repeat' split at h
    all_goals omega

theorem piece_else {s : ByteArray} {i : Nat} (h1 : ¬ kindAt s i = 1) (h2 : ¬ kindAt s i = 2) : (∃ k n, pieceAt s i = .tok k n) ∨ (∃ c, pieceAt s i = .bad c) := by
  unfold pieceAt
  rw [if_neg h1, if_neg h2]
  split
  · split
    · exact .inr ⟨_, rfl⟩
    · exact .inl ⟨_, _, rfl⟩
  split
  · cases numB (s.extract i (i + lead isDig s i))
    · exact .inr ⟨_, rfl⟩
    · exact .inl ⟨_, _, rfl⟩
  split
  · exact .inl ⟨_, _, rfl⟩
  · exact .inr ⟨_, rfl⟩
theorem piece_tok {s : ByteArray} {i n : Nat} {k : Int} (hi : i < s.size) (h : pieceAt s i = .tok k n) : 0 < n ∧ i + n ≤ s.size := by
  unfold pieceAt at h
  split at h
  · cases h
  split at h
  · cases h
  split at h
  · rename_i hk
    split at h
    · cases h
    · injection h with h1 h2
      subst h2
      exact ⟨lead_pos hi (kind3_let hk), lead_le (by omega)⟩
  split at h
  · rename_i hk
    cases hn : numB (s.extract i (i + lead isDig s i)) <;> rw [hn] at h <;> simp only [cond] at h
    · cases h
    · injection h with h1 h2
      subst h2
      exact ⟨lead_pos hi (kind4_dig hk), lead_le (by omega)⟩
  split at h
  · injection h with h1 h2
    subst h2
    exact ⟨by rcases signLen_cases s i with h | h <;> omega, signLen_le hi⟩
  · cases h

set_option maxRecDepth 100000 in
set_option maxHeartbeats 12800000 in
theorem refRead_any (s : ByteArray) (w : World) (hs : s.size ≤ 20000) : Calls Tryd.prog 45 #[.string s] w (ReadsPost w.heap.size s w) := by
  have hs' : ¬ (20000 : Int) < (s.size : Int) := by omega
  have hS : scanT s = scanS s := by simp [scanT, show ¬ 20000 < s.size by omega]
  have HT := Lib.hid hS
  clear hS
  have be1 := (Below.refl _ w).alloc (Nat.le_refl _) (.cells #[Value.int .i64 0, Value.int .i64 0] 31)
  have B1 := Lib.hid be1
  have k1 := Lib.hid (Blk.new w 31 #[Value.int .i64 0, Value.int .i64 0])
  obtain ⟨i0, hi, hz0, hz1, hz2⟩ := info_parts info9
  obtain ⟨j0, gi, gz0, gz1, gz2⟩ := info_parts info38
  clear be1
  go_enter Tryd.func45, Tryd.ntmps45
  go_wp2_with fail
  have hsz : (w.alloc (.cells #[Value.int .i64 0, Value.int .i64 0] 31)).heap.size = w.heap.size + 1 := by simp
  generalize w.alloc (.cells #[Value.int .i64 0, Value.int .i64 0] 31) = w0 at *
  have HS := Lib.hid hsz
  clear hsz
  go_loopw [5, 6, 7, 8] (fun t c l a wr => ∃ (toks : List Tok) (cs : List (List UInt8)) (line at_ f : Nat), l = .int .i64 line ∧ a = .int .i64 at_ ∧ Rd s (w.heap.size + 1) w0 wr t c toks cs line at_ f) (fun _ _ _ a _ => s.size - (intOf a).toNat)
  case atStart => exact ⟨[], [], 1, 0, s.size + 1, rfl, rfl, World.ownsRow_nil _ _ _ _, World.ownsRow_nil _ _ _ _, by omega, rfl, by omega, by omega, by simp, by simp, Below.refl _ _⟩
  case round =>
    obtain ⟨toks, cs, line, at_, f, rfl, rfl, hrd⟩ := hrel
    have RD := Lib.hid hrd
    have sz : w.heap.size + 1 ≤ wr.heap.size := by have := hrd.bl.size; have := HS.out; omega
    have hcl : cs.length ≤ 20000 := by have := hrd.cl; have := hrd.le; omega
    have htl : toks.length ≤ 20000 := by have := hrd.tl; have := hrd.le; omega
    have hln : line ≤ 30000 := by have := hrd.ln; have := hrd.le; omega
    clear hrd
    by_cases hlt : at_ < s.size
    · have hbk : (s[at_].toNat : Int) = byteAt s at_ := by simp [byteAt, hlt]; rfl
      by_cases hk1 : kindAt s at_ = 1
      · have hp := Lib.hid (show pieceAt s at_ = .skip by simp [pieceAt, hk1])
        rcases kind1_gap hk1 with hc | hc | hc
        · have q1 : (byteAt s at_ == 10) = false := by rw [hc]; rfl
          have q2 : (byteAt s at_ == 32) = true := by rw [hc]; rfl
          have HC := Lib.hid hc
          clear hc hk1
          go_wp2
          go_roundw
          case rel => exact ⟨toks, cs, line, at_ + 1, f - 1, rfl, by go_num, RD.out.skip hlt hp.out (by rw [HC.out]; rfl)⟩
          case measure => simp [intOf]; omega
        · have q1 : (byteAt s at_ == 10) = false := by rw [hc]; rfl
          have q2 : (byteAt s at_ == 32) = false := by rw [hc]; rfl
          have q3 : (byteAt s at_ == 9) = true := by rw [hc]; rfl
          have HC := Lib.hid hc
          clear hc hk1
          go_wp2
          go_roundw
          case rel => exact ⟨toks, cs, line, at_ + 1, f - 1, rfl, by go_num, RD.out.skip hlt hp.out (by rw [HC.out]; rfl)⟩
          case measure => simp [intOf]; omega
        · have q1 : (byteAt s at_ == 10) = true := by rw [hc]; rfl
          have HC := Lib.hid hc
          clear hc hk1
          go_wp2
          go_roundw
          case rel => exact ⟨toks, cs, line + 1, at_ + 1, f - 1, by go_num, by go_num, RD.out.skip hlt hp.out (by rw [HC.out]; rfl)⟩
          case measure => simp [intOf]; omega
      · by_cases hk2 : kindAt s at_ = 2
        · have hc := kind2_pct hk2
          have hp := Lib.hid (show pieceAt s at_ = .com (lead notNl s at_) by simp [pieceAt, hk2])
          have q1 : (byteAt s at_ == 10) = false := by rw [hc]; rfl
          have q2 : (byteAt s at_ == 32) = false := by rw [hc]; rfl
          have q3 : (byteAt s at_ == 9) = false := by rw [hc]; rfl
          have q4 : (byteAt s at_ == 37) = true := by rw [hc]; rfl
          have hpos := lead_pos (p := notNl) hlt (by rw [hc]; decide)
          have hle := lead_le (p := notNl) (s := s) (i := at_) (by omega)
          have hsl := suffix_lead notNl s at_
          clear hk1 hk2 hc
          generalize lead notNl s at_ = n at *
          have HSL := Lib.hid hsl
          clear hsl
          have b1 : (at_ : Int) ≤ (s.size : Int) := by omega
          obtain ⟨E, hE⟩ : ∃ E, at_ + n = E := ⟨_, rfl⟩
          have hwE : IntKind.i64.wrap ((at_ : Int) + (n : Int)) = (E : Int) := by rw [IntKind.wrap_i64]; omega
          have e1 : (at_ : Int) ≤ (E : Int) := by omega
          have e2 : (E : Int) ≤ (s.size : Int) := by omega
          have HE := Lib.hid hE
          clear hE
          go_wp2_with fail
          refine (refComment_any _ _ (by rw [ByteArray.size_extract]; omega)).mono ?_
          rintro e w' ⟨rfl, rfl⟩
          rw [HSL.out]
          go_wp2_with (at_builtin; refine wpList_append_own _ rfl _ _ 25 rfl (w.heap.size + 1) 9 i0 _ 1 16 Tryd.underlying25 hi hz0 hz1 hz2 rfl (by decide) u6 cs.length (strVs cs) rfl (World.ownsRow.alloc RD.out.rc _) ⟨wr.heap.size, 0, none⟩ 1 1 [.string (s.extract at_ E)] rfl rfl ?aw1 ?aw2 ?aw3 ?aw4 ?aw5 ?_)
          case aw1 => exact World.news_of_block (cs := #[.string (s.extract at_ E)]) (t := 9) (fr := (0, 0)) (heap_alloc_new wr _)
          case aw2 => simp [Value.oneCell']
          case aw3 => unfold maxLen; omega
          case aw4 => omega
          case aw5 => simp; omega
          intro v2 w2 hown2 hgrow _
          have RD2 := Lib.hid (RD.out.com hlt hp.out hpos HE.out (by omega) ((Below.refl _ wr).alloc (Nat.le_refl _) _) sz hgrow hown2)
          clear hown2 hgrow
          go_wp2
          go_roundw
          case rel => exact ⟨toks, _, line, E, f - 1, rfl, by go_num, RD2.out⟩
          case measure => have := HE.out; simp [intOf]; omega
        · obtain ⟨q1, q2, q3, q4⟩ := not_gap hk1 hk2
          have hpc := piece_else hk1 hk2
          clear hk1 hk2
          have hsz2 : (s.extract at_ s.size).size = s.size - at_ := by rw [ByteArray.size_extract]; omega
          have z0 : 0 < (s.extract at_ s.size).size := by omega
          have z1 : (s.extract at_ s.size).size ≤ 1000000 := by omega
          have hsp := suffix_piece s at_
          have b1 : (at_ : Int) ≤ (s.size : Int) := by omega
          have Z0 := Lib.hid z0
          have Z1 := Lib.hid z1
          clear hsz2 z0 z1
          rcases hpc with ⟨k, n, hp⟩ | ⟨c, hp⟩
          · obtain ⟨hpos, hle⟩ := piece_tok hlt hp
            have HP := Lib.hid hp
            have HSP := Lib.hid (hsp.trans hp)
            clear hsp hp
            obtain ⟨E, hE⟩ : ∃ E, at_ + n = E := ⟨_, rfl⟩
            have hwE : IntKind.i64.wrap ((at_ : Int) + (n : Int)) = (E : Int) := by rw [IntKind.wrap_i64]; omega
            have e1 : (at_ : Int) ≤ (E : Int) := by omega
            have e2 : (E : Int) ≤ (s.size : Int) := by omega
            have HE := Lib.hid hE
            clear hE
            go_wp2_with fail
            refine (refFirst_tok _ _ Z0.out Z1.out k n HSP.out).mono ?_
            rintro e w1 ⟨rfl, hb⟩
            have HB := Lib.hid hb
            have sz1 : wr.heap.size ≤ w1.heap.size := hb.size
            have hrt := Lib.hid ((Turns.of_below (T := fun _ _ => False) hb).own RD.out.rt (fun _ _ _ h => h))
            clear hb
            go_wp2_with (at_builtin; refine wpList_append_own _ rfl _ _ 28 rfl (w.heap.size + 1) 38 j0 _ 3 32 Tryd.underlying28 gi gz0 gz1 gz2 rfl (by decide) u5 toks.length (tokVs toks) rfl (World.ownsRow.alloc hrt.out _) ⟨w1.heap.size, 0, none⟩ 1 1 [.int .u8 k, .string (s.extract at_ E), .int .i64 line] rfl rfl ?bw1 ?bw2 ?bw3 ?bw4 ?bw5 ?_)
            case bw1 => exact World.news_of_block (cs := #[.int .u8 k, .string (s.extract at_ E), .int .i64 line]) (t := 38) (fr := (0, 0)) (heap_alloc_new w1 _)
            case bw2 => simp [Value.oneCell']
            case bw3 => unfold maxLen; omega
            case bw4 => omega
            case bw5 => simp; omega
            intro v2 w2 hown2 hgrow _
            have RD2 := Lib.hid (RD.out.put hlt HP.out hpos HE.out (by omega) (HB.out.alloc sz1 _) sz hgrow hown2)
            clear hown2 hgrow
            go_wp2
            go_roundw
            case rel => exact ⟨_, cs, line, E, f - 1, rfl, by go_num, RD2.out⟩
            case measure => have := HE.out; simp [intOf]; omega
          · have HP := Lib.hid hp
            have HSP := Lib.hid (hsp.trans hp)
            have hc0 : (c != 0) = true := by rcases piece_bad hp with h | h | h <;> simp [h]
            clear hsp hp
            go_wp2_with fail
            refine (refFirst_bad _ _ Z0.out Z1.out c HSP.out).mono ?_
            rintro e w1 ⟨rfl, hb⟩
            have HB := Lib.hid hb
            have sz1 : wr.heap.size ≤ w1.heap.size := hb.size
            clear hb
            have k2 := Lib.hid ((k1.out.below RD.out.bl (by omega)).below HB.out (by omega))
            have c0 := k2.out.cell 0
            have c1 := k2.out.cell 1
            have f0 := k2.out.frozen 0
            have f1 := k2.out.frozen 1
            simp only [List.getElem?_toArray, List.getElem?_cons_zero, List.getElem?_cons_succ] at c0 c1
            go_wp2
            refine bodyPost_ret (ret_read rfl ((k2.out.set_ 0 _).set_ 1 _)) rfl ?_
            have BB : Below w.heap.size w w1 := B1.out.trans ((RD.out.bl.trans (HB.out.mono sz)).mono (by omega))
            exact .inr ⟨c, line, by rw [HT.out]; exact RD.out.bad hlt HP.out, rfl, (BB.setCell (Nat.le_refl _) _).setCell (Nat.le_refl _) _⟩
    · have hend := Lib.hid (RD.out.end hlt)
      have k2 := Lib.hid (k1.out.below RD.out.bl (by omega))
      have c0 := k2.out.cell 0
      have c1 := k2.out.cell 1
      have f0 := k2.out.frozen 0
      have f1 := k2.out.frozen 1
      simp only [List.getElem?_toArray, List.getElem?_cons_zero, List.getElem?_cons_succ] at c0 c1
      go_wp2
      refine bodyPost_ret (ret_read rfl ((k2.out.set_ 0 _).set_ 1 _)) rfl ?_
      have BB : Below w.heap.size w wr := B1.out.trans (RD.out.bl.mono (by omega))
      have l1 : w.heap.size < w.heap.size + 1 := Nat.lt_succ_self _
      exact .inl ⟨toks, cs, u5, u6, by rw [HT.out]; exact hend.out, rfl, base_le (ownsRow_setCell_below (ownsRow_setCell_below RD.out.rt l1 _) l1 _) (Nat.le_of_lt l1), base_le (ownsRow_setCell_below (ownsRow_setCell_below RD.out.rc l1 _) l1 _) (Nat.le_of_lt l1), (BB.setCell (Nat.le_refl _) _).setCell (Nat.le_refl _) _⟩
end Go.Proofs.YtophcjkfhneghaaDoor
