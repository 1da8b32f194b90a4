/- The reference's Tight. -/
import Derived.Test.YtophcjkfhneghaaDoorYv
namespace Go.Proofs.YtophcjkfhneghaaDoor
open Go Go.RowKit

theorem apartR_right {t u : Tok} (h1 : rightB t.kind (bs t.text) = true) (h2 : rightB u.kind (bs u.text) = true) : apartR t u = (apartB t u, 0) := by
  simp [apartR, isTokB_right, h1, h2]

set_option maxRecDepth 100000 in
set_option maxHeartbeats 12800000 in
theorem refTight_any (s : ByteArray) (w : World) :
    Calls Tryd.prog 36 #[.string s] w fun e w' => e = .returned (.tuple #[.string (bs (tightR s).1), .agg #[.int .i64 (tightR s).2.1, .int .i64 (tightR s).2.2]]) ∧ Below w.heap.size w w' := by
  have be1 := (Below.refl _ w).alloc (Nat.le_refl _) (.cells #[Value.int .i64 0, Value.int .i64 0] 31)
  have B1 := Lib.hid be1
  have k1 := Lib.hid (Blk.new w 31 #[Value.int .i64 0, Value.int .i64 0])
  clear be1
  go_enter Tryd.func36, Tryd.ntmps36
  go_wp2_with fail
  have hsz : (w.alloc (.cells #[Value.int .i64 0, Value.int .i64 0] 31)).heap.size = w.heap.size + 1 := by simp
  generalize w.alloc (.cells #[Value.int .i64 0, Value.int .i64 0] 31) = w0 at *
  have HS := Lib.hid hsz
  clear hsz
  have hle : w.heap.size < w0.heap.size := by have := HS.out; omega
  refine (refScan_any s w0).mono ?_
  rintro e w2 ⟨hb, (⟨toks, cs, vt, hs, rfl, ho⟩ | ⟨c, ln, hs, rfl⟩)⟩
  · obtain ⟨aoT, capT, rfl⟩ := own_len ho
    have B2 := Lib.hid (B1.out.trans (hb.mono (by omega)))
    have k2 := Lib.hid (k1.out.below hb (by omega))
    have HO := Lib.hid ho
    have HSC := Lib.hid hs
    have hle2 : w0.heap.size ≤ w2.heap.size := hb.size
    clear ho hb hs
    go_wp2_with fail
    have be3 := (Below.refl _ w2).alloc (Nat.le_refl _) (.cells #[Value.int .i64 0, Value.int .i64 0] 31)
    have HB3 := Lib.hid be3
    have HO3 := Lib.hid (World.ownsRow.alloc HO.out (.cells #[Value.int .i64 0, Value.int .i64 0] 31))
    have m3 := Lib.hid (Blk.new w2 31 #[Value.int .i64 0, Value.int .i64 0])
    clear be3
    generalize w2.alloc (.cells #[Value.int .i64 0, Value.int .i64 0] 31) = w3 at *
    have f0 := m3.out.cell 0
    have f1 := m3.out.cell 1
    simp only [List.getElem?_toArray, List.getElem?_cons_zero, List.getElem?_cons_succ] at f0 f1
    obtain ⟨sm1, sm2, _, sm3⟩ := scanT_small HSC.out
    have SM3 := Lib.hid sm3
    have RT := Lib.hid (scanT_right HSC.out)
    have sz23 := HB3.out.size
    clear sm3
    go_wp2
    clear f0 f1
    go_loopw [6, 7] (fun v i wr => ∃ (out : List UInt8) (k : Nat), k ≤ toks.length ∧ v = .string (bs out) ∧ i = .int .i64 k ∧ Below w3.heap.size w3 wr ∧
      out ++ tightA (if k = 0 then none else toks[k - 1]?) (toks.drop k) = tightA none toks ∧ out.length ≤ k * 20001) (fun _ i _ => toks.length - (intOf i).toNat)
    case atStart => exact ⟨[], 0, by omega, rfl, rfl, Below.refl _ _, rfl, by simp⟩
    case round =>
      obtain ⟨out, k, hk, rfl, rfl, hbw, hti, hlen⟩ := hrel
      have HBW := Lib.hid hbw
      have HTI := Lib.hid hti
      have HLEN := Lib.hid hlen
      clear hbw hti hlen
      have sz : w3.heap.size ≤ wr.heap.size := HBW.out.size
      by_cases hlt : k < toks.length
      · obtain ⟨g2, cp2, hv2, hg2, hgl2, hr2⟩ := own_toks HO3.out (by omega)
        injection hv2 with e1 e2 e3
        subst e1
        subst e3
        obtain ⟨a0, a1, a2⟩ := (hr2.below HBW.out hgl2) k toks[k] (List.getElem?_eq_getElem hlt)
        have HR2 := Lib.hid hr2
        have HTX := Lib.hid (SM3.out toks[k] (List.getElem_mem hlt))
        clear hr2
        simp only [Nat.zero_add] at a0 a1 a2
        have BSZ := Lib.hid (bs_size toks[k].text)
        have BO := Lib.hid (bs_size out)
        have z1 : ¬ 9223372036854775807 < (bs out).size + (bs toks[k].text).size := by have := BSZ.out; have := BO.out; have := HTX.out; have := HLEN.out; omega
        have z2 : ¬ 9223372036854775807 < (bs out).size + 1 := by have := BO.out; have := HLEN.out; omega
        have z3 : ¬ 9223372036854775807 < (bs out).size + 1 + (bs toks[k].text).size := by have := BSZ.out; have := BO.out; have := HTX.out; have := HLEN.out; omega
        rcases k with _ | j
        · simp only [Nat.zero_mul, Nat.zero_add] at a0 a1 a2
          go_wp2
          go_roundw
          case rel =>
            refine ⟨out ++ toks[0].text, 1, by omega, by rw [← bs_append], rfl, HBW.out, tight_zero hlt HTI.out, ?_⟩
            have := HLEN.out; have := HTX.out
            simp only [List.length_append]; omega
          case measure => simp [intOf]; omega
        · have hltj : j < toks.length := by omega
          have HTJ := Lib.hid (SM3.out toks[j] (List.getElem_mem hltj))
          obtain ⟨b0, b1, b2⟩ := (HR2.out.below HBW.out hgl2) j toks[j] (List.getElem?_eq_getElem hltj)
          simp only [Nat.zero_add] at b0 b1 b2
          have hwj : IntKind.i64.wrap (j : Int) = (j : Int) := by rw [IntKind.wrap_i64]; omega
          have hwj2 : IntKind.i64.wrap ((j : Int) + 1 - 1) = (j : Int) := by rw [IntKind.wrap_i64]; omega
          have hpj : (0 : Int) < (j : Int) + 1 := by omega
          have i0 : (0 : Int) ≤ (j : Int) := by omega
          have i1 : (j : Int) < (toks.length : Int) := by omega
          have i2 : (j : Int) + 1 < (toks.length : Int) := by omega
          have i3 : (0 : Int) ≤ (j : Int) + 1 := by omega
          have LG : g2 < wr.heap.size := by omega
          have HAP := Lib.hid (apartR_right (RT.out _ (List.getElem_mem hltj)) (RT.out _ (List.getElem_mem hlt)))
          have HTI2 := Lib.hid (tight_more hlt HTI.out)
          cases q4 : apartB toks[j] toks[j + 1]
          · go_wp2_with fail
            refine wp_region_held_drew (S := fun w' => ∀ p : Addr, p.block < wr.heap.size → w'.cell? p = wr.cell? p) (by kernel_rfl) (fun p _ => rfl) (fun hHeld => ?_)
            first
              | (refine take_no (i := 0) rfl (by kernel_rfl) (by kernel_rfl) (by kernel_rfl) (fun _ _ _ h => h) (by rfl) hHeld ?_; simp only [Act.put, List.getElem_toArray, List.getElem_cons_zero, List.getElem_cons_succ, List.setIfInBounds_toArray, List.set_cons_zero, List.set_cons_succ])
              | (refine take_yes (i := 0) (v := ?_) rfl (by kernel_rfl) (by kernel_rfl) (by kernel_rfl) (fun _ _ _ h => h) (by rfl) ?_ hHeld ?_; rotate_left; (intro wz hSw; (try dsimp only at hSw); go_simp; (try with_reducible rfl)); simp only [Act.put, List.getElem_toArray, List.getElem_cons_zero, List.setIfInBounds_toArray, List.set_cons_zero, List.set_cons_succ])
              | fail
            first
              | (refine take_no (i := 1) rfl (by kernel_rfl) (by kernel_rfl) (by kernel_rfl) (fun _ _ _ h => h) (by rfl) hHeld ?_; simp only [Act.put, List.getElem_toArray, List.getElem_cons_zero, List.getElem_cons_succ, List.setIfInBounds_toArray, List.set_cons_zero, List.set_cons_succ])
              | (refine take_yes (i := 1) (v := ?_) rfl (by kernel_rfl) (by kernel_rfl) (by kernel_rfl) (fun _ _ _ h => h) (by rfl) ?_ hHeld ?_; rotate_left; (intro wz hSw; (try dsimp only at hSw); go_simp; (try with_reducible rfl)); simp only [Act.put, List.getElem_toArray, List.getElem_cons_zero, List.getElem_cons_succ, List.setIfInBounds_toArray, List.set_cons_zero, List.set_cons_succ])
              | fail
            first
              | (refine take_no (i := 2) rfl (by kernel_rfl) (by kernel_rfl) (by kernel_rfl) (fun _ _ _ h => h) (by rfl) hHeld ?_; simp only [Act.put, List.getElem_toArray, List.getElem_cons_zero, List.getElem_cons_succ, List.setIfInBounds_toArray, List.set_cons_zero, List.set_cons_succ])
              | (refine take_yes (i := 2) (v := ?_) rfl (by kernel_rfl) (by kernel_rfl) (by kernel_rfl) (fun _ _ _ h => h) (by rfl) ?_ hHeld ?_; rotate_left; (intro wz hSw; (try dsimp only at hSw); go_simp; (try with_reducible rfl)); simp only [Act.put, List.getElem_toArray, List.getElem_cons_zero, List.getElem_cons_succ, List.setIfInBounds_toArray, List.set_cons_zero, List.set_cons_succ])
              | fail
            first
              | (refine take_no (i := 3) rfl (by kernel_rfl) (by kernel_rfl) (by kernel_rfl) (fun _ _ _ h => h) (by rfl) hHeld ?_; simp only [Act.put, List.getElem_toArray, List.getElem_cons_zero, List.getElem_cons_succ, List.setIfInBounds_toArray, List.set_cons_zero, List.set_cons_succ])
              | (refine take_yes (i := 3) (v := ?_) rfl (by kernel_rfl) (by kernel_rfl) (by kernel_rfl) (fun _ _ _ h => h) (by rfl) ?_ hHeld ?_; rotate_left; (intro wz hSw; (try dsimp only at hSw); go_simp; (try with_reducible rfl)); simp only [Act.put, List.getElem_toArray, List.getElem_cons_zero, List.getElem_cons_succ, List.setIfInBounds_toArray, List.set_cons_zero, List.set_cons_succ])
              | fail
            first
              | (refine take_no (i := 4) rfl (by kernel_rfl) (by kernel_rfl) (by kernel_rfl) (fun _ _ _ h => h) (by rfl) hHeld ?_; simp only [Act.put, List.getElem_toArray, List.getElem_cons_zero, List.getElem_cons_succ, List.setIfInBounds_toArray, List.set_cons_zero, List.set_cons_succ])
              | (refine take_yes (i := 4) (v := ?_) rfl (by kernel_rfl) (by kernel_rfl) (by kernel_rfl) (fun _ _ _ h => h) (by rfl) ?_ hHeld ?_; rotate_left; (intro wz hSw; (try dsimp only at hSw); go_simp; (try with_reducible rfl)); simp only [Act.put, List.getElem_toArray, List.getElem_cons_zero, List.getElem_cons_succ, List.setIfInBounds_toArray, List.set_cons_zero, List.set_cons_succ])
              | fail
            first
              | (refine take_no (i := 5) rfl (by kernel_rfl) (by kernel_rfl) (by kernel_rfl) (fun _ _ _ h => h) (by rfl) hHeld ?_; simp only [Act.put, List.getElem_toArray, List.getElem_cons_zero, List.getElem_cons_succ, List.setIfInBounds_toArray, List.set_cons_zero, List.set_cons_succ])
              | (refine take_yes (i := 5) (v := ?_) rfl (by kernel_rfl) (by kernel_rfl) (by kernel_rfl) (fun _ _ _ h => h) (by rfl) ?_ hHeld ?_; rotate_left; (intro wz hSw; (try dsimp only at hSw); go_simp; (try with_reducible rfl)); simp only [Act.put, List.getElem_toArray, List.getElem_cons_zero, List.getElem_cons_succ, List.setIfInBounds_toArray, List.set_cons_zero, List.set_cons_succ])
              | fail
            first
              | (refine take_no (i := 6) rfl (by kernel_rfl) (by kernel_rfl) (by kernel_rfl) (fun _ _ _ h => h) (by rfl) hHeld ?_; simp only [Act.put, List.getElem_toArray, List.getElem_cons_zero, List.getElem_cons_succ, List.setIfInBounds_toArray, List.set_cons_zero, List.set_cons_succ])
              | (refine take_yes (i := 6) (v := ?_) rfl (by kernel_rfl) (by kernel_rfl) (by kernel_rfl) (fun _ _ _ h => h) (by rfl) ?_ hHeld ?_; rotate_left; (intro wz hSw; (try dsimp only at hSw); go_simp; (try with_reducible rfl)); simp only [Act.put, List.getElem_toArray, List.getElem_cons_zero, List.getElem_cons_succ, List.setIfInBounds_toArray, List.set_cons_zero, List.set_cons_succ])
              | fail
            first
              | (refine take_no (i := 7) rfl (by kernel_rfl) (by kernel_rfl) (by kernel_rfl) (fun _ _ _ h => h) (by rfl) hHeld ?_; simp only [Act.put, List.getElem_toArray, List.getElem_cons_zero, List.getElem_cons_succ, List.setIfInBounds_toArray, List.set_cons_zero, List.set_cons_succ])
              | (refine take_yes (i := 7) (v := ?_) rfl (by kernel_rfl) (by kernel_rfl) (by kernel_rfl) (fun _ _ _ h => h) (by rfl) ?_ hHeld ?_; rotate_left; (intro wz hSw; (try dsimp only at hSw); go_simp; (try with_reducible rfl)); simp only [Act.put, List.getElem_toArray, List.getElem_cons_zero, List.getElem_cons_succ, List.setIfInBounds_toArray, List.set_cons_zero, List.set_cons_succ])
              | fail
            first
              | (refine take_no (i := 8) rfl (by kernel_rfl) (by kernel_rfl) (by kernel_rfl) (fun _ _ _ h => h) (by rfl) hHeld ?_; simp only [Act.put, List.getElem_toArray, List.getElem_cons_zero, List.getElem_cons_succ, List.setIfInBounds_toArray, List.set_cons_zero, List.set_cons_succ])
              | (refine take_yes (i := 8) (v := ?_) rfl (by kernel_rfl) (by kernel_rfl) (by kernel_rfl) (fun _ _ _ h => h) (by rfl) ?_ hHeld ?_; rotate_left; (intro wz hSw; (try dsimp only at hSw); go_simp; (try with_reducible rfl)); simp only [Act.put, List.getElem_toArray, List.getElem_cons_zero, List.getElem_cons_succ, List.setIfInBounds_toArray, List.set_cons_zero, List.set_cons_succ])
              | fail
            refine wpAnyH_ready (rs := [9]) (by kernel_rfl) (by simp) ?_
            refine AllReadyH.cons rfl (fun K hK => ?_) AllReadyH.nil
            go_simp
            refine (refApart_any toks[j] toks[j + 1] _ (by have := HTJ.out; omega) (by have := HTX.out; omega)).mono ?_
            rintro e w4 ⟨rfl, hb⟩
            rw [HAP.out, q4]
            have HB4 := Lib.hid (HBW.out.trans (Below.mono (w := wr) (show Below wr.heap.size wr w4 from ⟨hb.os, hb.tape, hb.output, hb.size, hb.block⟩) sz))
            have d1 : w4.cell? ⟨g2, (j + 1) * 3 + 1, none⟩ = some (.string (bs toks[j + 1].text)) := (hb.cell LG).trans a1
            refine hK.out _ _ (fun p hp => hb.cell hp) (fun hHeld => ?_)
            clear hK K hb
            first
              | (refine take_no (i := 10) rfl (by kernel_rfl) (by kernel_rfl) (by kernel_rfl) (fun _ _ _ h => h) (by rfl) hHeld ?_; simp only [Act.put, List.getElem_toArray, List.getElem_cons_zero, List.getElem_cons_succ, List.setIfInBounds_toArray, List.set_cons_zero, List.set_cons_succ])
              | (refine take_yes (i := 10) (v := ?_) rfl (by kernel_rfl) (by kernel_rfl) (by kernel_rfl) (fun _ _ _ h => h) (by rfl) ?_ hHeld ?_; rotate_left; (intro wz hSw; (try dsimp only at hSw); go_simp; (try with_reducible rfl)); simp only [Act.put, List.getElem_toArray, List.getElem_cons_zero, List.getElem_cons_succ, List.setIfInBounds_toArray, List.set_cons_zero, List.set_cons_succ])
              | fail
            first
              | (refine take_no (i := 11) rfl (by kernel_rfl) (by kernel_rfl) (by kernel_rfl) (fun _ _ _ h => h) (by rfl) hHeld ?_; simp only [Act.put, List.getElem_toArray, List.getElem_cons_zero, List.getElem_cons_succ, List.setIfInBounds_toArray, List.set_cons_zero, List.set_cons_succ])
              | (refine take_yes (i := 11) (v := ?_) rfl (by kernel_rfl) (by kernel_rfl) (by kernel_rfl) (fun _ _ _ h => h) (by rfl) ?_ hHeld ?_; rotate_left; (intro wz hSw; (try dsimp only at hSw); go_simp; (try with_reducible rfl)); simp only [Act.put, List.getElem_toArray, List.getElem_cons_zero, List.getElem_cons_succ, List.setIfInBounds_toArray, List.set_cons_zero, List.set_cons_succ])
              | fail
            first
              | (refine take_no (i := 12) rfl (by kernel_rfl) (by kernel_rfl) (by kernel_rfl) (fun _ _ _ h => h) (by rfl) hHeld ?_; simp only [Act.put, List.getElem_toArray, List.getElem_cons_zero, List.getElem_cons_succ, List.setIfInBounds_toArray, List.set_cons_zero, List.set_cons_succ])
              | (refine take_yes (i := 12) (v := ?_) rfl (by kernel_rfl) (by kernel_rfl) (by kernel_rfl) (fun _ _ _ h => h) (by rfl) ?_ hHeld ?_; rotate_left; (intro wz hSw; (try dsimp only at hSw); go_simp; (try with_reducible rfl)); simp only [Act.put, List.getElem_toArray, List.getElem_cons_zero, List.getElem_cons_succ, List.setIfInBounds_toArray, List.set_cons_zero, List.set_cons_succ])
              | fail
            first
              | (refine take_no (i := 13) rfl (by kernel_rfl) (by kernel_rfl) (by kernel_rfl) (fun _ _ _ h => h) (by rfl) hHeld ?_; simp only [Act.put, List.getElem_toArray, List.getElem_cons_zero, List.getElem_cons_succ, List.setIfInBounds_toArray, List.set_cons_zero, List.set_cons_succ])
              | (refine take_yes (i := 13) (v := ?_) rfl (by kernel_rfl) (by kernel_rfl) (by kernel_rfl) (fun _ _ _ h => h) (by rfl) ?_ hHeld ?_; rotate_left; (intro wz hSw; (try dsimp only at hSw); go_simp; (try with_reducible rfl)); simp only [Act.put, List.getElem_toArray, List.getElem_cons_zero, List.getElem_cons_succ, List.setIfInBounds_toArray, List.set_cons_zero, List.set_cons_succ])
              | fail
            first
              | (refine take_no (i := 14) rfl (by kernel_rfl) (by kernel_rfl) (by kernel_rfl) (fun _ _ _ h => h) (by rfl) hHeld ?_; simp only [Act.put, List.getElem_toArray, List.getElem_cons_zero, List.getElem_cons_succ, List.setIfInBounds_toArray, List.set_cons_zero, List.set_cons_succ])
              | (refine take_yes (i := 14) (v := ?_) rfl (by kernel_rfl) (by kernel_rfl) (by kernel_rfl) (fun _ _ _ h => h) (by rfl) ?_ hHeld ?_; rotate_left; (intro wz hSw; (try dsimp only at hSw); go_simp; (try with_reducible rfl)); simp only [Act.put, List.getElem_toArray, List.getElem_cons_zero, List.getElem_cons_succ, List.setIfInBounds_toArray, List.set_cons_zero, List.set_cons_succ])
              | fail
            refine wpAnyH_done (by kernel_rfl) ?_ _
            clear hHeld a0 a1 a2 b0 b1 b2
            rw [q4] at HTI2
            go_wp2
            go_roundw
            case rel =>
              refine ⟨out ++ toks[j + 1].text, j + 2, by omega, by rw [← bs_append], by go_num, HB4.out, ?_, ?_⟩
              · have h := HTI2.out
                simp only [Bool.false_eq_true, if_false, List.append_nil] at h
                exact h
              · have := HLEN.out; have := HTX.out
                simp only [List.length_append]; omega
            case measure => simp [intOf]; omega
          · go_wp2_with fail
            refine wp_region_held_drew (S := fun w' => ∀ p : Addr, p.block < wr.heap.size → w'.cell? p = wr.cell? p) (by kernel_rfl) (fun p _ => rfl) (fun hHeld => ?_)
            first
              | (refine take_no (i := 0) rfl (by kernel_rfl) (by kernel_rfl) (by kernel_rfl) (fun _ _ _ h => h) (by rfl) hHeld ?_; simp only [Act.put, List.getElem_toArray, List.getElem_cons_zero, List.getElem_cons_succ, List.setIfInBounds_toArray, List.set_cons_zero, List.set_cons_succ])
              | (refine take_yes (i := 0) (v := ?_) rfl (by kernel_rfl) (by kernel_rfl) (by kernel_rfl) (fun _ _ _ h => h) (by rfl) ?_ hHeld ?_; rotate_left; (intro wz hSw; (try dsimp only at hSw); go_simp; (try with_reducible rfl)); simp only [Act.put, List.getElem_toArray, List.getElem_cons_zero, List.setIfInBounds_toArray, List.set_cons_zero, List.set_cons_succ])
              | fail
            first
              | (refine take_no (i := 1) rfl (by kernel_rfl) (by kernel_rfl) (by kernel_rfl) (fun _ _ _ h => h) (by rfl) hHeld ?_; simp only [Act.put, List.getElem_toArray, List.getElem_cons_zero, List.getElem_cons_succ, List.setIfInBounds_toArray, List.set_cons_zero, List.set_cons_succ])
              | (refine take_yes (i := 1) (v := ?_) rfl (by kernel_rfl) (by kernel_rfl) (by kernel_rfl) (fun _ _ _ h => h) (by rfl) ?_ hHeld ?_; rotate_left; (intro wz hSw; (try dsimp only at hSw); go_simp; (try with_reducible rfl)); simp only [Act.put, List.getElem_toArray, List.getElem_cons_zero, List.getElem_cons_succ, List.setIfInBounds_toArray, List.set_cons_zero, List.set_cons_succ])
              | fail
            first
              | (refine take_no (i := 2) rfl (by kernel_rfl) (by kernel_rfl) (by kernel_rfl) (fun _ _ _ h => h) (by rfl) hHeld ?_; simp only [Act.put, List.getElem_toArray, List.getElem_cons_zero, List.getElem_cons_succ, List.setIfInBounds_toArray, List.set_cons_zero, List.set_cons_succ])
              | (refine take_yes (i := 2) (v := ?_) rfl (by kernel_rfl) (by kernel_rfl) (by kernel_rfl) (fun _ _ _ h => h) (by rfl) ?_ hHeld ?_; rotate_left; (intro wz hSw; (try dsimp only at hSw); go_simp; (try with_reducible rfl)); simp only [Act.put, List.getElem_toArray, List.getElem_cons_zero, List.getElem_cons_succ, List.setIfInBounds_toArray, List.set_cons_zero, List.set_cons_succ])
              | fail
            first
              | (refine take_no (i := 3) rfl (by kernel_rfl) (by kernel_rfl) (by kernel_rfl) (fun _ _ _ h => h) (by rfl) hHeld ?_; simp only [Act.put, List.getElem_toArray, List.getElem_cons_zero, List.getElem_cons_succ, List.setIfInBounds_toArray, List.set_cons_zero, List.set_cons_succ])
              | (refine take_yes (i := 3) (v := ?_) rfl (by kernel_rfl) (by kernel_rfl) (by kernel_rfl) (fun _ _ _ h => h) (by rfl) ?_ hHeld ?_; rotate_left; (intro wz hSw; (try dsimp only at hSw); go_simp; (try with_reducible rfl)); simp only [Act.put, List.getElem_toArray, List.getElem_cons_zero, List.getElem_cons_succ, List.setIfInBounds_toArray, List.set_cons_zero, List.set_cons_succ])
              | fail
            first
              | (refine take_no (i := 4) rfl (by kernel_rfl) (by kernel_rfl) (by kernel_rfl) (fun _ _ _ h => h) (by rfl) hHeld ?_; simp only [Act.put, List.getElem_toArray, List.getElem_cons_zero, List.getElem_cons_succ, List.setIfInBounds_toArray, List.set_cons_zero, List.set_cons_succ])
              | (refine take_yes (i := 4) (v := ?_) rfl (by kernel_rfl) (by kernel_rfl) (by kernel_rfl) (fun _ _ _ h => h) (by rfl) ?_ hHeld ?_; rotate_left; (intro wz hSw; (try dsimp only at hSw); go_simp; (try with_reducible rfl)); simp only [Act.put, List.getElem_toArray, List.getElem_cons_zero, List.getElem_cons_succ, List.setIfInBounds_toArray, List.set_cons_zero, List.set_cons_succ])
              | fail
            first
              | (refine take_no (i := 5) rfl (by kernel_rfl) (by kernel_rfl) (by kernel_rfl) (fun _ _ _ h => h) (by rfl) hHeld ?_; simp only [Act.put, List.getElem_toArray, List.getElem_cons_zero, List.getElem_cons_succ, List.setIfInBounds_toArray, List.set_cons_zero, List.set_cons_succ])
              | (refine take_yes (i := 5) (v := ?_) rfl (by kernel_rfl) (by kernel_rfl) (by kernel_rfl) (fun _ _ _ h => h) (by rfl) ?_ hHeld ?_; rotate_left; (intro wz hSw; (try dsimp only at hSw); go_simp; (try with_reducible rfl)); simp only [Act.put, List.getElem_toArray, List.getElem_cons_zero, List.getElem_cons_succ, List.setIfInBounds_toArray, List.set_cons_zero, List.set_cons_succ])
              | fail
            first
              | (refine take_no (i := 6) rfl (by kernel_rfl) (by kernel_rfl) (by kernel_rfl) (fun _ _ _ h => h) (by rfl) hHeld ?_; simp only [Act.put, List.getElem_toArray, List.getElem_cons_zero, List.getElem_cons_succ, List.setIfInBounds_toArray, List.set_cons_zero, List.set_cons_succ])
              | (refine take_yes (i := 6) (v := ?_) rfl (by kernel_rfl) (by kernel_rfl) (by kernel_rfl) (fun _ _ _ h => h) (by rfl) ?_ hHeld ?_; rotate_left; (intro wz hSw; (try dsimp only at hSw); go_simp; (try with_reducible rfl)); simp only [Act.put, List.getElem_toArray, List.getElem_cons_zero, List.getElem_cons_succ, List.setIfInBounds_toArray, List.set_cons_zero, List.set_cons_succ])
              | fail
            first
              | (refine take_no (i := 7) rfl (by kernel_rfl) (by kernel_rfl) (by kernel_rfl) (fun _ _ _ h => h) (by rfl) hHeld ?_; simp only [Act.put, List.getElem_toArray, List.getElem_cons_zero, List.getElem_cons_succ, List.setIfInBounds_toArray, List.set_cons_zero, List.set_cons_succ])
              | (refine take_yes (i := 7) (v := ?_) rfl (by kernel_rfl) (by kernel_rfl) (by kernel_rfl) (fun _ _ _ h => h) (by rfl) ?_ hHeld ?_; rotate_left; (intro wz hSw; (try dsimp only at hSw); go_simp; (try with_reducible rfl)); simp only [Act.put, List.getElem_toArray, List.getElem_cons_zero, List.getElem_cons_succ, List.setIfInBounds_toArray, List.set_cons_zero, List.set_cons_succ])
              | fail
            first
              | (refine take_no (i := 8) rfl (by kernel_rfl) (by kernel_rfl) (by kernel_rfl) (fun _ _ _ h => h) (by rfl) hHeld ?_; simp only [Act.put, List.getElem_toArray, List.getElem_cons_zero, List.getElem_cons_succ, List.setIfInBounds_toArray, List.set_cons_zero, List.set_cons_succ])
              | (refine take_yes (i := 8) (v := ?_) rfl (by kernel_rfl) (by kernel_rfl) (by kernel_rfl) (fun _ _ _ h => h) (by rfl) ?_ hHeld ?_; rotate_left; (intro wz hSw; (try dsimp only at hSw); go_simp; (try with_reducible rfl)); simp only [Act.put, List.getElem_toArray, List.getElem_cons_zero, List.getElem_cons_succ, List.setIfInBounds_toArray, List.set_cons_zero, List.set_cons_succ])
              | fail
            refine wpAnyH_ready (rs := [9]) (by kernel_rfl) (by simp) ?_
            refine AllReadyH.cons rfl (fun K hK => ?_) AllReadyH.nil
            go_simp
            refine (refApart_any toks[j] toks[j + 1] _ (by have := HTJ.out; omega) (by have := HTX.out; omega)).mono ?_
            rintro e w4 ⟨rfl, hb⟩
            rw [HAP.out, q4]
            have HB4 := Lib.hid (HBW.out.trans (Below.mono (w := wr) (show Below wr.heap.size wr w4 from ⟨hb.os, hb.tape, hb.output, hb.size, hb.block⟩) sz))
            have d1 : w4.cell? ⟨g2, (j + 1) * 3 + 1, none⟩ = some (.string (bs toks[j + 1].text)) := (hb.cell LG).trans a1
            refine hK.out _ _ (fun p hp => hb.cell hp) (fun hHeld => ?_)
            clear hK K hb
            first
              | (refine take_no (i := 10) rfl (by kernel_rfl) (by kernel_rfl) (by kernel_rfl) (fun _ _ _ h => h) (by rfl) hHeld ?_; simp only [Act.put, List.getElem_toArray, List.getElem_cons_zero, List.getElem_cons_succ, List.setIfInBounds_toArray, List.set_cons_zero, List.set_cons_succ])
              | (refine take_yes (i := 10) (v := ?_) rfl (by kernel_rfl) (by kernel_rfl) (by kernel_rfl) (fun _ _ _ h => h) (by rfl) ?_ hHeld ?_; rotate_left; (intro wz hSw; (try dsimp only at hSw); go_simp; (try with_reducible rfl)); simp only [Act.put, List.getElem_toArray, List.getElem_cons_zero, List.getElem_cons_succ, List.setIfInBounds_toArray, List.set_cons_zero, List.set_cons_succ])
              | fail
            first
              | (refine take_no (i := 11) rfl (by kernel_rfl) (by kernel_rfl) (by kernel_rfl) (fun _ _ _ h => h) (by rfl) hHeld ?_; simp only [Act.put, List.getElem_toArray, List.getElem_cons_zero, List.getElem_cons_succ, List.setIfInBounds_toArray, List.set_cons_zero, List.set_cons_succ])
              | (refine take_yes (i := 11) (v := ?_) rfl (by kernel_rfl) (by kernel_rfl) (by kernel_rfl) (fun _ _ _ h => h) (by rfl) ?_ hHeld ?_; rotate_left; (intro wz hSw; (try dsimp only at hSw); go_simp; (try with_reducible rfl)); simp only [Act.put, List.getElem_toArray, List.getElem_cons_zero, List.getElem_cons_succ, List.setIfInBounds_toArray, List.set_cons_zero, List.set_cons_succ])
              | fail
            first
              | (refine take_no (i := 12) rfl (by kernel_rfl) (by kernel_rfl) (by kernel_rfl) (fun _ _ _ h => h) (by rfl) hHeld ?_; simp only [Act.put, List.getElem_toArray, List.getElem_cons_zero, List.getElem_cons_succ, List.setIfInBounds_toArray, List.set_cons_zero, List.set_cons_succ])
              | (refine take_yes (i := 12) (v := ?_) rfl (by kernel_rfl) (by kernel_rfl) (by kernel_rfl) (fun _ _ _ h => h) (by rfl) ?_ hHeld ?_; rotate_left; (intro wz hSw; (try dsimp only at hSw); go_simp; (try with_reducible rfl)); simp only [Act.put, List.getElem_toArray, List.getElem_cons_zero, List.getElem_cons_succ, List.setIfInBounds_toArray, List.set_cons_zero, List.set_cons_succ])
              | fail
            first
              | (refine take_no (i := 13) rfl (by kernel_rfl) (by kernel_rfl) (by kernel_rfl) (fun _ _ _ h => h) (by rfl) hHeld ?_; simp only [Act.put, List.getElem_toArray, List.getElem_cons_zero, List.getElem_cons_succ, List.setIfInBounds_toArray, List.set_cons_zero, List.set_cons_succ])
              | (refine take_yes (i := 13) (v := ?_) rfl (by kernel_rfl) (by kernel_rfl) (by kernel_rfl) (fun _ _ _ h => h) (by rfl) ?_ hHeld ?_; rotate_left; (intro wz hSw; (try dsimp only at hSw); go_simp; (try with_reducible rfl)); simp only [Act.put, List.getElem_toArray, List.getElem_cons_zero, List.getElem_cons_succ, List.setIfInBounds_toArray, List.set_cons_zero, List.set_cons_succ])
              | fail
            first
              | (refine take_no (i := 14) rfl (by kernel_rfl) (by kernel_rfl) (by kernel_rfl) (fun _ _ _ h => h) (by rfl) hHeld ?_; simp only [Act.put, List.getElem_toArray, List.getElem_cons_zero, List.getElem_cons_succ, List.setIfInBounds_toArray, List.set_cons_zero, List.set_cons_succ])
              | (refine take_yes (i := 14) (v := ?_) rfl (by kernel_rfl) (by kernel_rfl) (by kernel_rfl) (fun _ _ _ h => h) (by rfl) ?_ hHeld ?_; rotate_left; (intro wz hSw; (try dsimp only at hSw); go_simp; (try with_reducible rfl)); simp only [Act.put, List.getElem_toArray, List.getElem_cons_zero, List.getElem_cons_succ, List.setIfInBounds_toArray, List.set_cons_zero, List.set_cons_succ])
              | fail
            refine wpAnyH_done (by kernel_rfl) ?_ _
            clear hHeld a0 a1 a2 b0 b1 b2
            rw [q4] at HTI2
            go_wp2
            go_roundw
            case rel =>
              refine ⟨out ++ [32] ++ toks[j + 1].text, j + 2, by omega, by rw [← bs_append, ← bs_append]; rfl, by go_num, HB4.out, ?_, ?_⟩
              · have h := HTI2.out
                simp only [if_true] at h
                exact h
              · have := HLEN.out; have := HTX.out
                simp only [List.length_append, List.length_cons, List.length_nil]; omega
            case measure => simp [intOf]; omega
      · obtain rfl : k = toks.length := by omega
        have kw := Lib.hid ((k2.out.below HB3.out (by omega)).below HBW.out (by omega))
        have c0 := kw.out.cell 0
        have c1 := kw.out.cell 1
        have f0 := kw.out.frozen 0
        have f1 := kw.out.frozen 1
        simp only [List.getElem?_toArray, List.getElem?_cons_zero, List.getElem?_cons_succ] at c0 c1
        go_wp2
        refine bodyPost_ret (ret_fault rfl rfl (((kw.out).set_ 0 _).set_ 1 _)) rfl ?_
        refine ⟨?_, ((B2.out.trans ((HB3.out.trans (HBW.out.mono sz23)).mono (by omega))).setCell (Nat.le_refl _) _).setCell (Nat.le_refl _) _⟩
        have := HTI.out
        rw [List.drop_length, tightA, List.append_nil] at this
        rw [tightR_ok HSC.out, ← this]
        rfl
  · have B2 := Lib.hid (B1.out.trans (hb.mono (by omega)))
    have k2 := Lib.hid (k1.out.below hb (by omega))
    have hcz : ¬ c = 0 := by rcases scanT_err hs with h | h | h | h <;> omega
    have HSC := Lib.hid hs
    have hle2 : w0.heap.size ≤ w2.heap.size := hb.size
    have k3 := Lib.hid (k2.out.alloc (.cells #[Value.int .i64 c, Value.int .i64 ln] 31))
    have c0 := k3.out.cell 0
    have c1 := k3.out.cell 1
    have f0 := k3.out.frozen 0
    have f1 := k3.out.frozen 1
    simp only [List.getElem?_toArray, List.getElem?_cons_zero, List.getElem?_cons_succ] at c0 c1
    clear hb hs
    go_wp2
    go_region
    go_wp2
    refine bodyPost_ret (ret_fault rfl rfl ((((k3.out).set_ 0 _).set_ 1 _).drewN 1)) rfl ?_
    exact ⟨by rw [tightR_no HSC.out]; rfl, (((B2.out.alloc (by omega) _).setCell (Nat.le_refl _) _).setCell (Nat.le_refl _) _).drew⟩
end Go.Proofs.YtophcjkfhneghaaDoor
