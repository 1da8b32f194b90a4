/- The contract of package token's Tight. -/
import Derived.Test.YtophcjkfhneghaaDoorW
import Derived.Laws.BytesArg
namespace Go.Proofs.YtophcjkfhneghaaDoor
open Go Go.RowKit

/-- What Tight writes behind a token. -/
def tightA : Option Tok → List Tok → List UInt8
  | _, [] => []
  | p, t :: l => (match p with | some q => if apartB q t then [32] else [] | none => []) ++ t.text ++ tightA (some t) l
theorem tight_first (t : Tok) (l : List Tok) : tightA none (t :: l) = t.text ++ tightA (some t) l := rfl
theorem tight_next (q t : Tok) (l : List Tok) : tightA (some q) (t :: l) = (if apartB q t then [32] else []) ++ t.text ++ tightA (some t) l := rfl
theorem tight_zero {toks : List Tok} {out : List UInt8} {all : List UInt8} (hlt : 0 < toks.length) (h : out ++ tightA (if 0 = 0 then none else toks[0 - 1]?) (toks.drop 0) = all) :
    out ++ toks[0].text ++ tightA (if 1 = 0 then none else toks[1 - 1]?) (toks.drop 1) = all := by
  rw [List.drop_eq_getElem_cons hlt] at h
  have e : (if 1 = 0 then none else toks[1 - 1]?) = some toks[0] := by simp [hlt]
  rw [e, List.append_assoc]
  exact h
theorem tight_more {toks : List Tok} {j : Nat} {out : List UInt8} {all : List UInt8} (hlt : j + 1 < toks.length) (h : out ++ tightA (if j + 1 = 0 then none else toks[j + 1 - 1]?) (toks.drop (j + 1)) = all) :
    (out ++ if apartB (toks[j]'(by omega)) toks[j + 1] then [32] else []) ++ toks[j + 1].text ++ tightA (if j + 1 + 1 = 0 then none else toks[j + 1 + 1 - 1]?) (toks.drop (j + 1 + 1)) = all := by
  rw [List.drop_eq_getElem_cons hlt] at h
  have e : (if j + 1 + 1 = 0 then none else toks[j + 1 + 1 - 1]?) = some toks[j + 1] := by simp [hlt]
  have e2 : (if j + 1 = 0 then none else toks[j + 1 - 1]?) = some (toks[j]'(by omega)) := by simp
  rw [e2, tight_next] at h
  rw [e, ← h]
  simp only [List.append_assoc]
/-- What Tight answers. -/
def tightR (s : ByteArray) : List UInt8 × (Int × Int) :=
  match scanT s with
  | .ok (toks, _) => (tightA none toks, (0, 0))
  | .error f => ([], f)
theorem tightR_ok {s : ByteArray} {toks : List Tok} {cs : List (List UInt8)} (h : scanT s = .ok (toks, cs)) : tightR s = (tightA none toks, (0, 0)) := by unfold tightR; rw [h]
theorem tightR_no {s : ByteArray} {f : Int × Int} (h : scanT s = .error f) : tightR s = ([], f) := by unfold tightR; rw [h]

theorem cut_length (s : ByteArray) (i n : Nat) : (cut s i n).length ≤ s.size := by
  simp only [cut, List.length_take, List.length_drop, Array.length_toList]
  show _ ≤ s.data.size
  omega
theorem scanA_small (s : ByteArray) : ∀ (f i line : Nat) (toks : List Tok) (cs : List (List UInt8)) {toks' : List Tok} {cs' : List (List UInt8)}, scanA s f i line toks cs = .ok (toks', cs') → (∀ t ∈ toks, t.text.length ≤ s.size) →
    toks'.length ≤ toks.length + f ∧ cs'.length ≤ cs.length + f ∧ ∀ t ∈ toks', t.text.length ≤ s.size
  | 0, _, _, toks, cs, _, _, h, ht => by
    simp only [scanA, Except.ok.injEq, Prod.mk.injEq] at h
    obtain ⟨rfl, rfl⟩ := h
    exact ⟨by omega, by omega, ht⟩
  | f + 1, i, line, toks, cs, _, _, h, ht => by
    rw [scanA] at h
    split at h
    · split at h
      · obtain ⟨h1, h2, h3⟩ := scanA_small s f _ _ _ _ h ht
        exact ⟨by omega, by omega, h3⟩
      · obtain ⟨h1, h2, h3⟩ := scanA_small s f _ _ _ _ h ht
        simp only [List.length_append, List.length_singleton] at h2
        exact ⟨by omega, by omega, h3⟩
      · obtain ⟨h1, h2, h3⟩ := scanA_small s f _ _ _ _ h (by
          intro t hm
          simp only [List.mem_append, List.mem_singleton] at hm
          rcases hm with hm | hm
          · exact ht t hm
          · subst hm; exact cut_length s _ _)
        simp only [List.length_append, List.length_singleton] at h1
        exact ⟨by omega, by omega, h3⟩
      · cases h
    · simp only [Except.ok.injEq, Prod.mk.injEq] at h
      obtain ⟨rfl, rfl⟩ := h
      exact ⟨by omega, by omega, ht⟩
theorem scanT_small {s : ByteArray} {toks : List Tok} {cs : List (List UInt8)} (h : scanT s = .ok (toks, cs)) : s.size ≤ 20000 ∧ toks.length ≤ s.size + 1 ∧ cs.length ≤ s.size + 1 ∧ ∀ t ∈ toks, t.text.length ≤ s.size := by
  unfold scanT at h
  split at h
  · cases h
  · obtain ⟨h1, h2, h3⟩ := scanA_small s _ _ _ _ _ h (by simp)
    simp only [List.length_nil] at h1 h2
    exact ⟨by omega, by omega, by omega, h3⟩

theorem out_conv {w : World} {B : Nat} {v : Value} {l : List UInt8} (h : Out w B v l) : ∃ ao cap, v = .slice ao l.length cap ∧ (convert 64 9 (.slice ao l.length cap)).run Tryd.prog w = .ok (.string (bs l)) w := by
  rcases Nat.eq_zero_or_pos l.length with h0 | h0
  · have hl : l = [] := List.eq_nil_of_length_eq_zero h0
    subst hl
    rcases h.2 with ⟨hv, _⟩ | ⟨g, cap, cur, hv, _⟩
    · exact ⟨none, 0, hv, run_convert_bytes_nil w 64 5 Tryd.underlying64 (by kernel_rfl) _ _ 9 Tryd.underlying9⟩
    · exact ⟨_, _, hv, run_convert_bytes_back w 64 9 5 ⟨g, 0, none⟩ cap [] Tryd.underlying64 (by kernel_rfl) Tryd.underlying9 fun j hj => by simp at hj⟩
  · obtain ⟨g, cap, hv, hc⟩ := out_some h h0
    exact ⟨_, _, hv, hc⟩

theorem out_under {w w' : World} {B : Nat} {v : Value} {l : List UInt8} (h : Out w B v l) (hb : Below w.heap.size w w') : Out w' B v l := by
  rcases h with ⟨h1, h2 | ⟨g, cap, cur, h3, h4, h5, h6⟩⟩
  · exact ⟨h1, .inl h2⟩
  · exact ⟨h1, .inr ⟨g, cap, cur, h3, h4, (hb.block g (Array.getElem?_eq_some_iff.1 h5).1).trans h5, h6⟩⟩

set_option maxRecDepth 100000 in
set_option maxHeartbeats 12800000 in
theorem Tight_any (s : ByteArray) (w : World) (he : Env w) :
    Calls Tryd.prog 35 #[.string s] w fun e w' => e = .returned (.tuple #[.string (bs (tightR s).1), .agg #[.int .i64 (tightR s).2.1, .int .i64 (tightR s).2.2]]) ∧ Below w.heap.size w w' := by
  have be1 := (Below.refl _ w).alloc (Nat.le_refl _) (.cells #[Value.int .i64 0, Value.int .i64 0] 31)
  have HE := Lib.hid (he.below be1)
  have B1 := Lib.hid be1
  have k1 := Lib.hid (Blk.new w 31 #[Value.int .i64 0, Value.int .i64 0])
  clear he be1
  obtain ⟨i0, hi, hz0, hz1, hz2⟩ := info_parts info5
  go_enter Tryd.func35, Tryd.ntmps35
  go_wp2_with fail
  have hsz : (w.alloc (.cells #[Value.int .i64 0, Value.int .i64 0] 31)).heap.size = w.heap.size + 1 := by simp
  generalize w.alloc (.cells #[Value.int .i64 0, Value.int .i64 0] 31) = w0 at *
  have HS := Lib.hid hsz
  clear hsz
  refine (newLexicon_any w0 HE.out).mono ?_
  rintro e w1 ⟨m, rfl, hx, hm, hb⟩
  have HX := Lib.hid hx
  have HB := Lib.hid hb
  clear hx hb
  go_wp2_with fail
  refine (read_all m s w1 (HE.out.below HB.out) HX.out).mono ?_
  have hle : w.heap.size < w1.heap.size := by have := HB.out.size; have := HS.out; omega
  rintro e w2 (⟨toks, cs, vt, vc, hs, rfl, ho, hc, hb⟩ | ⟨c, ln, hs, rfl, hb⟩)
  · obtain ⟨ao2, nn2, cap2, rfl⟩ := own_shape hc
    obtain ⟨aoT, capT, rfl⟩ := own_len ho
    have B2 := Lib.hid ((B1.out.trans (HB.out.mono (by have := HS.out; omega))).trans (hb.mono (by omega)))
    have k2 := Lib.hid ((k1.out.below HB.out (by have := HS.out; omega)).below hb (by omega))
    have HE2 := Lib.hid ((HE.out.below HB.out).below hb)
    have HX2 := Lib.hid (HX.out.below hb HX.out.lt)
    have HO := Lib.hid ho
    have HSC := Lib.hid hs
    have hle2 : w1.heap.size ≤ w2.heap.size := hb.size
    clear ho hc hb hs
    go_wp2
    have HB3 := Lib.hid ((Below.refl _ w2).alloc (Nat.le_refl _) (.cells #[Value.int .i64 0, Value.int .i64 0] 31))
    generalize w2.alloc (.cells #[Value.int .i64 0, Value.int .i64 0] 31) = w3 at *
    obtain ⟨sm1, sm2, _, sm3⟩ := scanT_small HSC.out
    have SM3 := Lib.hid sm3
    clear sm3
    go_loopw [8, 25] (fun v i wr => ∃ (out : List UInt8) (k : Nat), k ≤ toks.length ∧ Out wr w2.heap.size v out ∧ i = .int .i64 k ∧ Below w2.heap.size w2 wr ∧
      out ++ tightA (if k = 0 then none else toks[k - 1]?) (toks.drop k) = tightA none toks ∧ out.length ≤ k * 20001) (fun _ i _ => toks.length - (intOf i).toNat)
    case atStart => exact ⟨[], 0, by omega, World.ownsRow_nil _ _ _ _, rfl, HB3.out, rfl, by simp⟩
    case round =>
      obtain ⟨out, k, hk, ho, rfl, hbw, hti, hlen⟩ := hrel
      have HO1 := Lib.hid ho
      have HBW := Lib.hid hbw
      have HTI := Lib.hid hti
      have HLEN := Lib.hid hlen
      clear ho hbw hti hlen
      have sz : w2.heap.size ≤ wr.heap.size := HBW.out.size
      by_cases hlt : k < toks.length
      · obtain ⟨g2, cp2, hv2, hg2, hgl2, hr2⟩ := own_toks HO.out (by omega)
        injection hv2 with e1 e2 e3
        subst e1
        subst e3
        obtain ⟨a0, a1, a2⟩ := (hr2.below HBW.out hgl2) k toks[k] (List.getElem?_eq_getElem hlt)
        have HR2 := Lib.hid hr2
        have hdrop := Lib.hid (List.drop_eq_getElem_cons hlt)
        have HTX := Lib.hid (SM3.out toks[k] (List.getElem_mem hlt))
        clear hr2
        simp only [Nat.zero_add] at a0 a1 a2
        have HBX := Lib.hid (HBW.out.alloc sz (.cells #[.int .u8 toks[k].kind, .string (bs toks[k].text), .int .i64 toks[k].line] 38))
        have HNEW := Lib.hid (Blk.new wr 38 #[.int .u8 toks[k].kind, .string (bs toks[k].text), .int .i64 toks[k].line])
        have HO2 : Hid (Out (wr.alloc (.cells #[.int .u8 toks[k].kind, .string (bs toks[k].text), .int .i64 toks[k].line] 38)) w2.heap.size u8 out) := Lib.hid (World.ownsRow.alloc HO1.out _)
        have BSZ := Lib.hid (bs_size toks[k].text)
        rcases k with _ | j
        · go_wp2
          generalize wr.alloc (.cells #[.int .u8 toks[0].kind, .string (bs toks[0].text), .int .i64 toks[0].line] 38) = wx at *
          have szx := HBX.out.size
          clear a0 a1 a2
          go_quiet (fail)
          have c1 := HNEW.out.cell 1
          simp only [List.getElem?_toArray, List.getElem?_cons_zero, List.getElem?_cons_succ] at c1
          go_wp2_with (at_builtin; refine Lib.wpList_append_own_string _ rfl _ _ 64 9 rfl w2.heap.size 5 i0 Tryd.underlying64 Tryd.underlying9 hi hz0 hz1 hz2 u8 out.length (byteCells out) rfl HO2.out (bs toks[0].text) rfl ?ew1 ?ew2 ?ew3 ?_)
          case ew1 => have := HLEN.out; have := BSZ.out; have := HTX.out; unfold maxLen; omega
          case ew2 => have := HLEN.out; have := BSZ.out; have := HTX.out; omega
          case ew3 => simpa using szx
          intro v3 w4 hown3 hgrow _
          have ho6 := Lib.hid (out_text hown3)
          have hb6 := Lib.hid (out_below (Below.trans HBX.out (⟨rfl, rfl, rfl, Nat.le_refl _, fun _ _ => rfl⟩ : Below w2.heap.size wx (wx.drewN nq))) (by simpa using szx) (show (wx.drewN nq).ownsRow w2.heap.size 5 1 u8 out.length (byteCells out) from HO2.out) hgrow)
          clear hown3 hgrow c1
          go_wp2
          go_roundw
          case rel =>
            refine ⟨out ++ toks[0].text, 1, by omega, ho6.out, rfl, hb6.out, ?_, ?_⟩
            · exact tight_zero hlt HTI.out
            · have := HLEN.out; have := HTX.out
              simp only [List.length_append]; omega
          case measure => simp [intOf]; omega
        · have hltj : j < toks.length := by omega
          have HTJ := Lib.hid (SM3.out toks[j] (List.getElem_mem hltj))
          have BSJ := Lib.hid (bs_size toks[j].text)
          go_wp2
          generalize wr.alloc (.cells #[.int .u8 toks[j + 1].kind, .string (bs toks[j + 1].text), .int .i64 toks[j + 1].line] 38) = wx at *
          have szx := HBX.out.size
          clear a0 a1 a2
          obtain ⟨b0, b1, b2⟩ := (HR2.out.below HBX.out hgl2) j toks[j] (List.getElem?_eq_getElem hltj)
          have c0 := HNEW.out.cell 0
          have c1 := HNEW.out.cell 1
          have c2 := HNEW.out.cell 2
          simp only [List.getElem?_toArray, List.getElem?_cons_zero, List.getElem?_cons_succ, Nat.zero_add] at b0 b1 b2 c0 c1 c2
          have hwj : IntKind.i64.wrap (j : Int) = (j : Int) := by rw [IntKind.wrap_i64]; omega
          refine wp_region_tail_wide 0 10 (by kernel_rfl) (by kernel_rfl) ?_
          simp only [List.take_succ_cons, List.take_zero, List.drop_succ_cons, List.drop_zero]
          (repeat still_step)
          refine wpStill_nil ?_
          cases q4 : apartB toks[j] toks[j + 1]
          · gi_wp2_with fail
            refine ⟨trivial, rfl, callsIn_wide.2 ((apart_any m toks[j] toks[j + 1] _ ((HE2.out.below HBX.out).drewN 1) ((HX2.out.below HBX.out HX2.out.lt).drewN 1) (by have := HTX.out; have := HTJ.out; have := BSZ.out; have := BSJ.out; omega)).mono ?_)⟩
            rintro e w4 ⟨rfl, hb⟩
            have HB4 := Lib.hid (HBX.out.trans ((Below.mono (w := wx) (show Below wx.heap.size wx w4 from ⟨hb.os, hb.tape, hb.output, hb.size, hb.block⟩) szx)))
            have HNW4 := Lib.hid (HNEW.out.below (show Below wx.heap.size wx w4 from ⟨hb.os, hb.tape, hb.output, hb.size, hb.block⟩) HNEW.out.lt)
            have HO4 : Hid (Out w4 w2.heap.size u8 out) := Lib.hid (out_under HO2.out (show Below wx.heap.size wx w4 from ⟨hb.os, hb.tape, hb.output, hb.size, hb.block⟩))
            clear hb c0 c1 c2 b0 b1 b2
            have c1 := HNW4.out.cell 1
            simp only [List.getElem?_toArray, List.getElem?_cons_zero, List.getElem?_cons_succ] at c1
            have sz4 := HB4.out.size
            have HTI2 := Lib.hid (tight_more hlt HTI.out)
            rw [q4] at HTI2 ⊢
            have Q4 := Lib.hid q4
            clear q4
            gi_wp2
            go_wp2_with (at_builtin; refine Lib.wpList_append_own_string _ rfl _ _ 64 9 rfl w2.heap.size 5 i0 Tryd.underlying64 Tryd.underlying9 hi hz0 hz1 hz2 u8 out.length (byteCells out) rfl HO4.out (bs toks[j + 1].text) rfl ?fw1 ?fw2 ?fw3 ?_)
            case fw1 => have := HLEN.out; have := BSZ.out; have := HTX.out; unfold maxLen; omega
            case fw2 => have := HLEN.out; have := BSZ.out; have := HTX.out; omega
            case fw3 => first | assumption | omega
            intro v3 w5 hown3 hgrow _
            have ho6 := Lib.hid (out_text hown3)
            have hb6 := Lib.hid (out_below HB4.out sz4 HO4.out hgrow)
            clear hown3 hgrow c1
            go_wp2
            go_roundw
            case rel =>
              refine ⟨out ++ toks[j + 1].text, j + 2, by omega, ho6.out, by go_num, hb6.out, by have h := HTI2.out; simp only [Bool.false_eq_true, if_false, List.append_nil] at h; exact h, ?_⟩
              have := HLEN.out; have := HTX.out; 
              simp only [List.length_append]; omega
            case measure => simp [intOf]; omega
          · gi_wp2_with fail
            refine ⟨trivial, rfl, callsIn_wide.2 ((apart_any m toks[j] toks[j + 1] _ ((HE2.out.below HBX.out).drewN 1) ((HX2.out.below HBX.out HX2.out.lt).drewN 1) (by have := HTX.out; have := HTJ.out; have := BSZ.out; have := BSJ.out; omega)).mono ?_)⟩
            rintro e w4 ⟨rfl, hb⟩
            have HB4 := Lib.hid (HBX.out.trans ((Below.mono (w := wx) (show Below wx.heap.size wx w4 from ⟨hb.os, hb.tape, hb.output, hb.size, hb.block⟩) szx)))
            have HNW4 := Lib.hid (HNEW.out.below (show Below wx.heap.size wx w4 from ⟨hb.os, hb.tape, hb.output, hb.size, hb.block⟩) HNEW.out.lt)
            have HO4 : Hid (Out w4 w2.heap.size u8 out) := Lib.hid (out_under HO2.out (show Below wx.heap.size wx w4 from ⟨hb.os, hb.tape, hb.output, hb.size, hb.block⟩))
            clear hb c0 c1 c2 b0 b1 b2
            have c1 := HNW4.out.cell 1
            simp only [List.getElem?_toArray, List.getElem?_cons_zero, List.getElem?_cons_succ] at c1
            have sz4 := HB4.out.size
            have HTI2 := Lib.hid (tight_more hlt HTI.out)
            rw [q4] at HTI2 ⊢
            have Q4 := Lib.hid q4
            clear q4
            gi_wp2
            go_wp2_with (at_builtin; refine wpList_append_own _ rfl _ _ 64 rfl w2.heap.size 5 i0 _ 1 1 Tryd.underlying64 hi hz0 hz1 hz2 rfl (by decide) u8 out.length (byteCells out) rfl (World.ownsRow.alloc HO4.out _) ⟨w4.heap.size, 0, none⟩ 1 1 [.int .u8 32] rfl rfl ?gw1 ?gw2 ?gw3 ?gw4 ?gw5 ?_)
            case gw1 => exact World.news_of_block (cs := #[.int .u8 32]) (t := 5) (fr := (0, 0)) (heap_alloc_new w4 _)
            case gw2 => simp [Value.oneCell']
            case gw3 => have := HLEN.out; unfold maxLen; omega
            case gw4 => have := HLEN.out; omega
            case gw5 => simp; omega
            intro v2 w6 hown2 hgrow _
            have ho5w := Lib.hid (out_snoc (b := 32) rfl hown2)
            obtain ⟨out5, H5⟩ : ∃ x : List UInt8, Hid (x = out ++ [32]) := ⟨_, Lib.hid rfl⟩
            have ho5 : Hid (Out w6 w2.heap.size v2 out5) := Lib.hid (by rw [H5.out]; exact ho5w.out)
            clear ho5w
            have hb5 := Lib.hid (out_below (HB4.out.alloc sz4 (.cells #[.int .u8 32] 5)) (by simp; omega) (World.ownsRow.alloc HO4.out _) hgrow)
            have hx5 := Lib.hid (box_kept (World.ownsRow.alloc HO4.out _) (HNW4.out.alloc _) hgrow)
            clear hown2 hgrow c1
            have c1 := hx5.out.cell 1
            simp only [List.getElem?_toArray, List.getElem?_cons_zero, List.getElem?_cons_succ] at c1
            have LO5 := Lib.hid (show out5.length = out.length + 1 by rw [H5.out]; simp)
            have szw6 := hb5.out.size
            go_wp2_with (at_builtin; refine Lib.wpList_append_own_string _ rfl _ _ 64 9 rfl w2.heap.size 5 i0 Tryd.underlying64 Tryd.underlying9 hi hz0 hz1 hz2 v2 out5.length (byteCells out5) rfl ho5.out (bs toks[j + 1].text) rfl ?hw1 ?hw2 ?hw3 ?_)
            case hw1 => have := HLEN.out; have := BSZ.out; have := HTX.out; have := LO5.out; unfold maxLen; omega
            case hw2 => have := HLEN.out; have := BSZ.out; have := HTX.out; have := LO5.out; omega
            case hw3 => first | assumption | omega
            intro v3 w5 hown3 hgrow _
            have ho6 := Lib.hid (out_text hown3)
            have hb6 := Lib.hid (out_below hb5.out szw6 ho5.out hgrow)
            clear hown3 hgrow c1
            go_wp2
            go_roundw
            case rel =>
              refine ⟨out5 ++ toks[j + 1].text, j + 2, by omega, ho6.out, by go_num, hb6.out, by have h := HTI2.out; simp only [if_true] at h; rw [H5.out]; exact h, ?_⟩
              have := HLEN.out; have := HTX.out; have := LO5.out; 
              simp only [List.length_append]; omega
            case measure => simp [intOf]; omega
      · have : k = toks.length := by omega
        subst this
        obtain ⟨ao8, cp8, rfl, hcv⟩ := out_conv HO1.out
        have kw := Lib.hid (k2.out.below HBW.out (by omega))
        have c0 := kw.out.cell 0
        have c1 := kw.out.cell 1
        have f0 := kw.out.frozen 0
        have f1 := kw.out.frozen 1
        simp only [List.getElem?_toArray, List.getElem?_cons_zero, List.getElem?_cons_succ] at c0 c1
        go_wp2
        refine bodyPost_ret (ret_fault rfl rfl (((kw.out).set_ 0 _).set_ 1 _)) rfl ?_
        refine ⟨?_, ((B2.out.trans (HBW.out.mono (by omega))).setCell (Nat.le_refl _) _).setCell (Nat.le_refl _) _⟩
        have := HTI.out
        rw [List.drop_length, tightA, List.append_nil] at this
        rw [tightR_ok HSC.out, ← this]
        rfl
  · have B2 := Lib.hid ((B1.out.trans (HB.out.mono (by have := HS.out; omega))).trans (hb.mono (by omega)))
    have k2 := Lib.hid ((k1.out.below HB.out (by have := HS.out; omega)).below hb (by omega))
    have hcz : ¬ c = 0 := by rcases scanT_err hs with h | h | h | h <;> omega
    have HSC := Lib.hid hs
    have hle2 : w1.heap.size ≤ w2.heap.size := hb.size
    have k3 := Lib.hid (k2.out.alloc (.cells #[Value.int .i64 c, Value.int .i64 ln] 31))
    have c0 := k3.out.cell 0
    have c1 := k3.out.cell 1
    have f0 := k3.out.frozen 0
    have f1 := k3.out.frozen 1
    simp only [List.getElem?_toArray, List.getElem?_cons_zero, List.getElem?_cons_succ] at c0 c1
    clear hb hs
    go_wp2
    go_region
    go_wp2
    refine bodyPost_ret (ret_fault rfl rfl ((((k3.out).set_ 0 _).set_ 1 _).drewN 1)) rfl ?_
    exact ⟨by rw [tightR_no HSC.out]; rfl, (((B2.out.alloc (by omega) _).setCell (Nat.le_refl _) _).setCell (Nat.le_refl _) _).drew⟩
end Go.Proofs.YtophcjkfhneghaaDoor
