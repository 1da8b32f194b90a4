/- The reference's Apart. -/
import Derived.Test.YtophcjkfhneghaaDoorYr
namespace Go.Proofs.YtophcjkfhneghaaDoor
open Go Go.RowKit

theorem apart_err {t u : Tok} (h1 : rightB t.kind (bs t.text) = true) (h2 : rightB u.kind (bs u.text) = true) {c ln : Int} (h : scanT (bs t.text ++ bs u.text) = .error (c, ln)) : apartR t u = (true, 0) :=
  apartR_yes h1 h2 (by rw [readsB_no h]; rfl)
theorem apart_len {t u : Tok} (h1 : rightB t.kind (bs t.text) = true) (h2 : rightB u.kind (bs u.text) = true) {toks : List Tok} {cs : List (List UInt8)} (h : scanT (bs t.text ++ bs u.text) = .ok (toks, cs)) (hl : ¬ toks.length = 2) : apartR t u = (true, 0) :=
  apartR_yes h1 h2 (by
    rw [readsB_ok h]
    refine decide_eq_false fun e => hl ?_
    rw [e]; rfl)
theorem apart_two {t u x y : Tok} {cs : List (List UInt8)} (h1 : rightB t.kind (bs t.text) = true) (h2 : rightB u.kind (bs u.text) = true) (h : scanT (bs t.text ++ bs u.text) = .ok ([x, y], cs)) {b : Bool} (hb : (decide (x.text = t.text) && decide (y.text = u.text)) = !b) : apartR t u = (b, 0) :=
  apartR_yes h1 h2 (by rw [both_read h1 h2 h, hb])
theorem text_eq {a b : List UInt8} (h : (bs a).toList = (bs b).toList) : a = b := by
  simpa [bs] using h

set_option maxRecDepth 100000 in
set_option maxHeartbeats 12800000 in
theorem refApart_any (t u : Tok) (w : World) (h1 : t.text.length ≤ 1000000) (h2 : u.text.length ≤ 1000000) :
    Calls Tryd.prog 34 #[.agg #[.int .u8 t.kind, .string (bs t.text), .int .i64 t.line], .agg #[.int .u8 u.kind, .string (bs u.text), .int .i64 u.line]] w fun e w' => e = .returned (.tuple #[.bool (apartR t u).1, .int .i64 (apartR t u).2]) ∧ Below w.heap.size w w' := by
  have be := ((Below.refl _ w).alloc (Nat.le_refl _) (.cells #[.int .u8 t.kind, .string (bs t.text), .int .i64 t.line] 38)).alloc (by simp) (.cells #[.int .u8 u.kind, .string (bs u.text), .int .i64 u.line] 38)
  have HB := Lib.hid be
  have k1 := Lib.hid ((Blk.new w 38 #[.int .u8 t.kind, .string (bs t.text), .int .i64 t.line]).alloc (.cells #[.int .u8 u.kind, .string (bs u.text), .int .i64 u.line] 38))
  have k2 : Hid (Blk ((w.alloc (.cells #[.int .u8 t.kind, .string (bs t.text), .int .i64 t.line] 38)).alloc (.cells #[.int .u8 u.kind, .string (bs u.text), .int .i64 u.line] 38)) (w.heap.size + 1) 38 #[.int .u8 u.kind, .string (bs u.text), .int .i64 u.line]) := by
    have := Blk.new (w.alloc (.cells #[.int .u8 t.kind, .string (bs t.text), .int .i64 t.line] 38)) 38 #[.int .u8 u.kind, .string (bs u.text), .int .i64 u.line]
    rwa [World.size_alloc] at this
  have Z1 := Lib.hid (show (bs t.text).size ≤ 1000000 by rw [bs_size]; exact h1)
  have Z2 := Lib.hid (show (bs u.text).size ≤ 1000000 by rw [bs_size]; exact h2)
  have hs2 : ¬ 9223372036854775807 < (bs t.text).size + (bs u.text).size := by have := Z1.out; have := Z2.out; omega
  clear be h1 h2
  go_enter Tryd.func34, Tryd.ntmps34
  go_wp2_with fail
  generalize (w.alloc (.cells #[.int .u8 t.kind, .string (bs t.text), .int .i64 t.line] 38)).alloc (.cells #[.int .u8 u.kind, .string (bs u.text), .int .i64 u.line] 38) = w0 at *
  have lt0 : w.heap.size < w0.heap.size := k1.out.lt
  have lt1 : w.heap.size + 1 < w0.heap.size := k2.out.lt
  refine (refRight_any t.kind (bs t.text) w0 Z1.out).mono ?_
  rintro e w1 ⟨rfl, hb⟩
  have HB1 := Lib.hid (HB.out.trans (hb.mono (Nat.le_of_lt lt0)))
  have s1 := hb.size
  have p1 := Lib.hid (k1.out.below hb lt0)
  have p2 := Lib.hid (k2.out.below hb lt1)
  clear hb
  cases q1 : rightB t.kind (bs t.text)
  · have Q1 := Lib.hid q1
    clear q1
    go_wp2
    go_ret2
    exact ⟨by rw [apartR_no1 Q1.out]; rfl, HB1.out⟩
  · have Q1 := Lib.hid q1
    clear q1
    have b0 := p2.out.cell 0
    have b1 := p2.out.cell 1
    simp only [List.getElem?_toArray, List.getElem?_cons_zero, List.getElem?_cons_succ] at b0 b1
    go_wp2_with fail
    refine (refRight_any u.kind (bs u.text) w1 Z2.out).mono ?_
    rintro e w2 ⟨rfl, hb⟩
    have HB2 := Lib.hid (HB1.out.trans (hb.mono (by omega)))
    have s2 := hb.size
    have r1 := Lib.hid (p1.out.below hb (by omega))
    have r2 := Lib.hid (p2.out.below hb (by omega))
    clear hb b0 b1
    cases q2 : rightB u.kind (bs u.text)
    · have Q2 := Lib.hid q2
      clear q2
      go_wp2
      go_ret2
      exact ⟨by rw [apartR_no2 Q2.out]; rfl, HB2.out⟩
    · have Q2 := Lib.hid q2
      clear q2
      have a1 := r1.out.cell 1
      have b1 := r2.out.cell 1
      simp only [List.getElem?_toArray, List.getElem?_cons_zero, List.getElem?_cons_succ] at a1 b1
      go_wp2_with fail
      refine (refScan_any (bs t.text ++ bs u.text) w2).mono ?_
      rintro e w3 ⟨hb, (⟨toks, cs, vt, hsc, rfl, ho⟩ | ⟨c, ln, hsc, rfl⟩)⟩
      · have HB3 := Lib.hid (HB2.out.trans (hb.mono (by omega)))
        have s3 := hb.size
        have m1 := Lib.hid ((r1.out.below hb (by omega)).alloc (.cells #[Value.int .i64 0, Value.int .i64 0] 31))
        have m2 := Lib.hid ((r2.out.below hb (by omega)).alloc (.cells #[Value.int .i64 0, Value.int .i64 0] 31))
        have HSC := Lib.hid hsc
        have HO := Lib.hid ho
        clear hb hsc ho a1 b1
        obtain ⟨ao, cap, rfl⟩ := own_len HO.out
        go_wp2_with fail
        have HB4 := Lib.hid (HB3.out.alloc (by omega) (.cells #[Value.int .i64 0, Value.int .i64 0] 31))
        have m3 := Lib.hid (Blk.new w3 31 #[Value.int .i64 0, Value.int .i64 0])
        have HOX := Lib.hid (World.ownsRow.alloc HO.out (.cells #[Value.int .i64 0, Value.int .i64 0] 31))
        generalize w3.alloc (.cells #[Value.int .i64 0, Value.int .i64 0] 31) = w4 at *
        have f0 := m3.out.cell 0
        have f1 := m3.out.cell 1
        have a1 := m1.out.cell 1
        have b1 := m2.out.cell 1
        simp only [List.getElem?_toArray, List.getElem?_cons_zero, List.getElem?_cons_succ] at a1 b1 f0 f1
        by_cases hl : toks.length = 2
        · match toks, hl with
          | [x, y], _ =>
            obtain ⟨g, cp, hv, hg, hgl, hr⟩ := own_toks HOX.out (by simp)
            injection hv with e1 e2 e3
            subst e1 e3
            obtain ⟨_, x1, _⟩ := hr 0 x rfl
            obtain ⟨_, y1, _⟩ := hr 1 y rfl
            simp only [Nat.zero_mul, Nat.zero_add, Nat.one_mul] at x1 y1
            clear hr hg hgl
            by_cases n1 : (bs x.text).toList = (bs t.text).toList
            · by_cases n2 : (bs y.text).toList = (bs u.text).toList
              · have HF := Lib.hid (apart_two (b := false) Q1.out Q2.out HSC.out (by simp [text_eq n1, text_eq n2]))
                go_quiet (fail)
                go_wp2
                go_ret2
                exact ⟨by rw [HF.out]; rfl, HB4.out.trans ⟨rfl, rfl, rfl, Nat.le_refl _, fun _ _ => rfl⟩⟩
              · have HF := Lib.hid (apart_two (b := true) Q1.out Q2.out HSC.out (by
                  have : ¬ y.text = u.text := fun e => n2 (by rw [e])
                  simp [this]))
                have n2' : ((bs y.text).toList == (bs u.text).toList) = false := beq_false_of_ne n2
                go_quiet (fail)
                go_wp2
                go_ret2
                exact ⟨by rw [HF.out]; rfl, HB4.out.trans ⟨rfl, rfl, rfl, Nat.le_refl _, fun _ _ => rfl⟩⟩
            · have HF := Lib.hid (apart_two (b := true) Q1.out Q2.out HSC.out (by
                have : ¬ x.text = t.text := fun e => n1 (by rw [e])
                simp [this]))
              go_quiet (fail)
              go_wp2
              go_ret2
              exact ⟨by rw [HF.out]; rfl, HB4.out.trans ⟨rfl, rfl, rfl, Nat.le_refl _, fun _ _ => rfl⟩⟩
        · have HF := Lib.hid (apart_len Q1.out Q2.out HSC.out hl)
          have hl' : ((toks.length : Int) != 2) = true := by simp; omega
          clear hl
          go_quiet (fail)
          go_wp2
          go_ret2
          exact ⟨by rw [HF.out]; rfl, HB4.out.trans ⟨rfl, rfl, rfl, Nat.le_refl _, fun _ _ => rfl⟩⟩
      · have HB3 := Lib.hid (HB2.out.trans (hb.mono (by omega)))
        have s3 := hb.size
        have hcz : ¬ c = 0 := by rcases scanT_err hsc with h | h | h | h <;> omega
        have HF := Lib.hid (apart_err Q1.out Q2.out hsc)
        clear hb hsc a1 b1
        go_wp2_with fail
        have HB4 := Lib.hid (HB3.out.alloc (by omega) (.cells #[Value.int .i64 c, Value.int .i64 ln] 31))
        have m3 := Lib.hid (Blk.new w3 31 #[Value.int .i64 c, Value.int .i64 ln])
        generalize w3.alloc (.cells #[Value.int .i64 c, Value.int .i64 ln] 31) = w4 at *
        have f0 := m3.out.cell 0
        have f1 := m3.out.cell 1
        simp only [List.getElem?_toArray, List.getElem?_cons_zero, List.getElem?_cons_succ] at f0 f1
        go_quiet (fail)
        go_wp2
        go_ret2
        exact ⟨by rw [HF.out]; rfl, HB4.out.trans ⟨rfl, rfl, rfl, Nat.le_refl _, fun _ _ => rfl⟩⟩
end Go.Proofs.YtophcjkfhneghaaDoor
