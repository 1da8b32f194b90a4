/- The contract of package token's readsAs: whether a text has exactly these tokens. -/
import Derived.Test.YtophcjkfhneghaaDoorR
import Derived.Deep.LoopGhost
namespace Go.Proofs.YtophcjkfhneghaaDoor
open Go Go.RowKit

/-- Tokens lie in a row from a cell on. -/
def TokRow (w : World) (g o : Nat) (l : List Tok) : Prop := ∀ i t, l[i]? = some t → w.cell? ⟨g, o + i * 3, none⟩ = some (.int .u8 t.kind) ∧ w.cell? ⟨g, o + i * 3 + 1, none⟩ = some (.string (bs t.text)) ∧ w.cell? ⟨g, o + i * 3 + 2, none⟩ = some (.int .i64 t.line)

theorem TokRow.below {w w' : World} {g o B : Nat} {l : List Tok} (h : TokRow w g o l) (hb : Below B w w') (hg : g < B) : TokRow w' g o l := by
  intro i t ht
  obtain ⟨h1, h2, h3⟩ := h i t ht
  exact ⟨(World.cell?_of_block (a := ⟨g, o + i * 3, none⟩) (hb.block g hg)).trans h1, (World.cell?_of_block (a := ⟨g, o + i * 3 + 1, none⟩) (hb.block g hg)).trans h2, (World.cell?_of_block (a := ⟨g, o + i * 3 + 2, none⟩) (hb.block g hg)).trans h3⟩

theorem tokVs_at (l : List Tok) : ∀ (i : Nat) (t : Tok), l[i]? = some t → ∀ j, j < 3 → (tokVs l)[i * 3 + j]? = (tokCells t)[j]? := by
  induction l with
  | nil => intro i t h; simp at h
  | cons x l ih =>
    intro i t h j hj
    have e : tokVs (x :: l) = tokCells x ++ tokVs l := by simp [tokVs]
    cases i with
    | zero =>
      simp at h
      subst h
      rw [e, List.getElem?_append_left (by simp [tokCells]; omega)]
      simp
    | succ i =>
      simp at h
      rw [e, List.getElem?_append_right (by simp [tokCells]; omega), ← ih i t h j hj]
      congr 1
      simp [tokCells]
      omega

theorem own_toks {w : World} {base : Nat} {v : Value} {l : List Tok} (h : w.ownsRow base 38 3 v l.length (tokVs l)) (hn : 0 < l.length) : ∃ g cap, v = .slice (some ⟨g, 0, none⟩) l.length cap ∧ base ≤ g ∧ g < w.heap.size ∧ TokRow w g 0 l := by
  rcases h with ⟨h1, ⟨_, h0⟩ | ⟨g, cap, cur, hv, hg, hh, hc, _, hcs, ht⟩⟩
  · omega
  · refine ⟨g, cap, hv, hg, (Array.getElem?_eq_some_iff.1 hh).1, fun i t hi => ?_⟩
    have hil : i < l.length := (List.getElem?_eq_some_iff.1 hi).1
    have key : ∀ j, j < 3 → w.cell? ⟨g, i * 3 + j, none⟩ = (tokCells t)[j]? := by
      intro j hj
      rw [cell_of_row w g (i * 3 + j) cur 38 (0, 0) hh, ← tokVs_at l i t hi j hj, ← ht, List.getElem?_take, if_pos (by omega)]
      simp
    rw [Nat.zero_add]
    exact ⟨key 0 (by omega), key 1 (by omega), key 2 (by omega)⟩

/-- A token on the first line. -/
def Tok.one (t : Tok) : Tok := { t with line := 1 }
/-- A text has exactly these tokens, on its first line. -/
def readsB (s : ByteArray) (want : List Tok) : Bool :=
  match scanT s with
  | .ok (toks, _) => decide (toks = want.map Tok.one)
  | .error _ => false

theorem piece_bad {s : ByteArray} {i : Nat} {e : Int} (h : pieceAt s i = .bad e) : e = 10 ∨ e = 11 ∨ e = 12 := by
  unfold pieceAt at h
  split at h
  · cases h
  split at h
  · cases h
  split at h
  · split at h
    · injection h with h; omega
    · cases h
  split at h
  · cases hn : numB (s.extract i (i + lead isDig s i)) <;> rw [hn] at h <;> simp only [cond] at h
    · injection h with h; omega
    · cases h
  split at h
  · cases h
  · injection h with h; omega

theorem scanA_err (s : ByteArray) : ∀ (f i line : Nat) (toks : List Tok) (cs : List (List UInt8)) {c ln : Int}, scanA s f i line toks cs = .error (c, ln) → c = 10 ∨ c = 11 ∨ c = 12
  | 0, _, _, _, _, c, ln, h => by simp [scanA] at h
  | f + 1, i, line, toks, cs, c, ln, h => by
    rw [scanA] at h
    split at h
    · split at h
      · exact scanA_err s f _ _ _ _ h
      · exact scanA_err s f _ _ _ _ h
      · exact scanA_err s f _ _ _ _ h
      · rename_i e hp
        injection h with h
        injection h with h1 h2
        rw [← h1]
        exact piece_bad hp
    · cases h

theorem scanT_err {s : ByteArray} {c ln : Int} (h : scanT s = .error (c, ln)) : c = 2 ∨ c = 10 ∨ c = 11 ∨ c = 12 := by
  unfold scanT at h
  split at h
  · injection h with h
    injection h with h1 h2
    exact .inl h1.symm
  · exact .inr (scanA_err s _ _ _ _ _ h)

theorem own_len {w : World} {base n size : Nat} {e : TypeId} {v : Value} {xs : List Value} (h : w.ownsRow base e size v n xs) : ∃ ao cap, v = .slice ao n cap := by
  rcases h with ⟨_, ⟨h2, h3⟩ | ⟨g, cap, cur, h3, _⟩⟩
  · exact ⟨_, _, by rw [h2, h3]⟩
  · exact ⟨_, _, h3⟩

theorem readsB_ok {s : ByteArray} {want toks : List Tok} {cs : List (List UInt8)} (h : scanT s = .ok (toks, cs)) : readsB s want = decide (toks = want.map Tok.one) := by
  unfold readsB; rw [h]
theorem readsB_no {s : ByteArray} {want : List Tok} {c ln : Int} (h : scanT s = .error (c, ln)) : readsB s want = false := by
  unfold readsB; rw [h]

theorem reads_fail {s : ByteArray} {want toks : List Tok} {cs : List (List UInt8)} {k : Nat} (h : scanT s = .ok (toks, cs)) (hlt : k < want.length) (hlt2 : k < toks.length) (hne : toks[k] = want[k].one → False) : false = readsB s want := by
  rw [readsB_ok h]
  simp only [Bool.false_eq, decide_eq_false_iff_not]
  intro e
  apply hne
  have := congrArg (fun l => l[k]?) e
  simp only [List.getElem?_map, List.getElem?_eq_getElem hlt, List.getElem?_eq_getElem hlt2] at this
  simpa using this

theorem tok_one {t u : Tok} (h1 : t.kind = u.kind) (h2 : (bs t.text).toList = (bs u.text).toList) (h3 : t.line = 1) : t = u.one := by
  cases t; cases u
  simp only [Tok.one] at *
  rw [ByteArray.toList_eq, ByteArray.toList_eq, bs_data, bs_data] at h2
  simp [h1, h2, h3]

set_option maxRecDepth 100000 in
set_option maxHeartbeats 1000000 in
theorem readsAs_any (m : Nat) (s : ByteArray) (want : List Tok) (g o cap : Nat) (w : World) (he : Env w) (hx : Lex w m) (hw : TokRow w g o want) (hg : g < w.heap.size) (h1 : 1 ≤ want.length) (hl : want.length ≤ 2) :
    Calls Tryd.prog 55 #[.map (some m), .string s, .slice (some ⟨g, o, none⟩) want.length cap] w fun e w' => e = .returned (.bool (readsB s want)) ∧ Below w.heap.size w w' := by
  have HE := Lib.hid he
  have HX := Lib.hid hx
  have HW := Lib.hid hw
  clear he hx hw
  go_enter Tryd.func55, Tryd.ntmps55
  go_wp2_with fail
  refine (read_all m s w HE.out HX.out).mono ?_
  rintro e w2 (⟨toks, cs, vt, vc, hs, rfl, ho, hc, hb⟩ | ⟨c, ln, hs, rfl, hb⟩)
  · obtain ⟨ao2, nn2, cap2, rfl⟩ := own_shape hc
    have HO := Lib.hid ho
    have HS := Lib.hid hs
    have HB := Lib.hid hb
    clear ho hc hb hs
    by_cases hn : toks.length = want.length
    · obtain ⟨g2, cp2, rfl, hg2, hgl2, hr2⟩ := own_toks HO.out (by omega)
      have hn' : ((toks.length : Int) != (want.length : Int)) = false := by simp [hn]
      have HR2 := Lib.hid hr2
      have HN := Lib.hid hn
      clear hr2 hn
      go_wp2
      have HB2 := Lib.hid ((Below.refl _ w2).alloc (Nat.le_refl _) (.cells #[Value.int .i64 0, Value.int .i64 0] 31))
      generalize w2.alloc (.cells #[Value.int .i64 0, Value.int .i64 0] 31) = w3 at *
      go_loopw [31] (fun i wr => ∃ k : Nat, k ≤ want.length ∧ i = .int .i64 k ∧ Below w2.heap.size w2 wr ∧ ∀ j, j < k → toks[j]? = (want.map Tok.one)[j]?) (fun i _ => want.length - (intOf i).toNat)
      case atStart => exact ⟨0, by omega, rfl, HB2.out, fun j hj => by omega⟩
      case round =>
        obtain ⟨k, hk, rfl, hbw, hno⟩ := hrel
        have HNO := Lib.hid hno
        have HBW := Lib.hid hbw
        clear hno hbw
        have sz : w2.heap.size ≤ wr.heap.size := HBW.out.size
        by_cases hlt : k < want.length
        · have hlt2 : k < toks.length := by have := HN.out; omega
          have gw : g < w2.heap.size := by have := HB.out.size; omega
          obtain ⟨a0, a1, a2⟩ := ((HW.out.below HB.out hg).below HBW.out gw) k want[k] (List.getElem?_eq_getElem hlt)
          obtain ⟨d0, d1, d2⟩ := (HR2.out.below HBW.out hgl2) k toks[k] (List.getElem?_eq_getElem hlt2)
          go_wp2
          have HBX := Lib.hid (HBW.out.alloc sz (.cells #[Value.int .u8 want[k].kind, Value.string (bs want[k].text), Value.int .i64 1] 38))
          have HNEW := Lib.hid (Blk.new wr 38 #[Value.int .u8 want[k].kind, Value.string (bs want[k].text), Value.int .i64 1])
          have HSZ := Lib.hid sz
          generalize wr.alloc (.cells #[Value.int .u8 want[k].kind, Value.string (bs want[k].text), Value.int .i64 1] 38) = wx at *
          clear a0 a1 a2 d0 d1 d2
          obtain ⟨d0, d1, d2⟩ := (HR2.out.below HBX.out hgl2) k toks[k] (List.getElem?_eq_getElem hlt2)
          have e0 := HNEW.out.cell 0
          have e1 := HNEW.out.cell 1
          have e2 := HNEW.out.cell 2
          simp only [List.getElem?_toArray, List.getElem?_cons_zero, List.getElem?_cons_succ, Nat.zero_add] at d0 d1 d2 e0 e1 e2
          have HF := Lib.hid (reads_fail HS.out hlt hlt2)
          by_cases q1 : toks[k].kind = want[k].kind
          · by_cases q2 : (bs toks[k].text).toList = (bs want[k].text).toList
            · by_cases q3 : toks[k].line = 1
              · have HQ := Lib.hid (tok_one q1 q2 q3)
                go_region
                go_wp2
                go_roundw
                case rel =>
                  refine ⟨k + 1, by omega, by go_num, HBX.out.drew, fun j hj => ?_⟩
                  by_cases hjk : j = k
                  · subst hjk
                    rw [List.getElem?_map, List.getElem?_eq_getElem hlt, List.getElem?_eq_getElem hlt2, HQ.out]
                    rfl
                  · exact HNO.out j (by omega)
                case measure => simp [intOf]; omega
              · go_region
                go_wp2
                go_ret
                exact ⟨ret_bool (HF.out fun e => q3 (by rw [e]; rfl)), (HB.out.trans (HBX.out.mono (by have := HB.out.size; omega))).drew⟩
            · go_region
              go_wp2
              go_ret
              exact ⟨ret_bool (HF.out fun e => q2 (by rw [e]; rfl)), (HB.out.trans (HBX.out.mono (by have := HB.out.size; omega))).drew⟩
          · go_region
            go_wp2
            go_ret
            exact ⟨ret_bool (HF.out fun e => q1 (by rw [e]; rfl)), (HB.out.trans (HBX.out.mono (by have := HB.out.size; omega))).drew⟩
        · have : k = want.length := by omega
          subst this
          go_wp2
          go_ret
          refine ⟨ret_bool ?_, HB.out.trans (HBW.out.mono HB.out.size)⟩
          rw [readsB_ok HS.out]
          simp only [Bool.true_eq, decide_eq_true_eq]
          apply List.ext_getElem?
          intro j
          by_cases hj : j < want.length
          · exact HNO.out j hj
          · have := HN.out
            rw [List.getElem?_eq_none (by omega), List.getElem?_eq_none (by simp; omega)]
    · obtain ⟨ao, cp, rfl⟩ := own_len HO.out
      have hn' : ((toks.length : Int) != (want.length : Int)) = true := by simp; omega
      go_wp2
      go_ret
      refine ⟨ret_bool ?_, HB.out.alloc (HB.out.size) _⟩
      rw [readsB_ok HS.out]
      simp only [Bool.false_eq, decide_eq_false_iff_not]
      intro e
      apply hn
      rw [e, List.length_map]
  · have HS := Lib.hid hs
    have HB := Lib.hid hb
    clear hb hs
    have hc : ¬ c = 0 := by rcases scanT_err HS.out with h | h | h | h <;> omega
    go_wp2
    go_ret
    exact ⟨ret_bool (readsB_no HS.out).symm, HB.out.alloc HB.out.size _⟩
end Go.Proofs.YtophcjkfhneghaaDoor
