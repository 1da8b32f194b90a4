/- Records and oneofs of parts. -/
import Derived.Test.YthcoppfdffhjfaaGreatDoorRa
namespace Go.Proofs.YthcoppfdffhjfaaGreatDoor
open Go Go.RowKit Go.Sort

def partTxt (p : Bys × Bys) : Bys := p.1 ++ 58 :: p.2
theorem partsTxt_join : ∀ m : List (Bys × Bys), partsTxt m = Lib.join (m.map partTxt) [44] ++ [93]
  | [] => rfl
  | [p] => by simp [partsTxt, Lib.join_one, partTxt]
  | p :: q :: m => by
    have ih := partsTxt_join (q :: m)
    simp only [partsTxt]
    rw [ih]
    simp [Lib.join, List.intercalate, partTxt]
theorem join_len : ∀ (m : List Bys) (n : Nat), (∀ x ∈ m, x.length ≤ n) → (Lib.join m [44]).length ≤ m.length * (n + 1)
  | [], _, _ => by simp [Lib.join]
  | [x], n, h => by have := h x (by simp); rw [Lib.join_one]; simp; omega
  | x :: y :: m, n, h => by
    have ih := join_len (y :: m) n fun z hz => h z (by simp [hz])
    have h1 := h x (by simp)
    have e : Lib.join (x :: y :: m) [44] = x ++ 44 :: Lib.join (y :: m) [44] := by simp [Lib.join, List.intercalate, List.intersperse]
    rw [e, List.length_append, List.length_cons, List.length_cons (a := x), Nat.succ_mul]
    omega
/-- Parts that are asked one by one make a text of the form of a type. -/
theorem parts_wf : ∀ (m : List (Bys × Bys)) (b : Bys), m ≠ [] → Asc Prod.fst m → (∀ p ∈ m, isNameL p.1 = true ∧ chk p.2 = 0) → (∀ p ∈ m, b < p.1) → ∃ F : Fs, F.pr = partsTxt m ∧ F.wf b ∧ F.count = m.length
  | [], _, h, _, _, _ => absurd rfl h
  | [p], b, _, _, hp, hb => by
    obtain ⟨h1, h2⟩ := hp p (by simp)
    obtain ⟨T, hT, e⟩ := chk_ok h2
    exact ⟨.one p.1 T, by simp [Fs.pr, partsTxt, e], ⟨h1, hb p (by simp), hT.wf⟩, rfl⟩
  | p :: q :: m, b, _, ha, hp, hb => by
    have ha' := List.pairwise_cons.1 ha
    obtain ⟨F, e1, e2, e3⟩ := parts_wf (q :: m) p.1 (by simp) ha'.2 (fun r hr => hp r (by simp [List.mem_cons.1 hr])) (fun r hr => ha'.1 r hr)
    obtain ⟨h1, h2⟩ := hp p (by simp)
    obtain ⟨T, hT, e⟩ := chk_ok h2
    exact ⟨.more p.1 T F, by simp [Fs.pr, partsTxt, e, e1], ⟨h1, hb p (by simp), hT.wf, e2⟩, by simp [Fs.count, e3]⟩
theorem chkParts_zero {l : List (Bys × Bys)} (h : chkParts l = 0) : 1 ≤ l.length ∧ l.length ≤ 6 ∧ ∀ p ∈ l, isNameL p.1 = true ∧ chk p.2 = 0 := by
  unfold chkParts at h
  by_cases h1 : l.length < 1 ∨ 6 < l.length
  · rw [if_pos h1] at h; cases h
  rw [if_neg h1] at h
  by_cases h2 : (l.all fun p => isNameL p.1) = false
  · rw [if_pos h2] at h; cases h
  rw [if_neg h2] at h
  cases h3 : l.find? fun p => chk p.2 != 0 with
  | some p =>
    rw [h3] at h
    have := List.find?_some h3
    simp only at h
    rw [h] at this
    simp at this
  | none =>
    refine ⟨by omega, by omega, fun p hp => ⟨?_, ?_⟩⟩
    · have h2' : (l.all fun p => isNameL p.1) = true := by simpa using h2
      exact List.all_eq_true.1 h2' p hp
    · have := List.find?_eq_none.1 h3 p hp
      simpa using this
theorem name_pos {n : Bys} (h : isNameL n = true) : ([] : Bys) < n := by
  cases n with
  | nil => exact absurd rfl (name_ne h)
  | cons c n => exact List.Lex.nil
theorem chk_len {s : Bys} (h : chk s = 0) : s.length ≤ 100 := by
  obtain ⟨T, hT, rfl⟩ := chk_ok h
  exact hT.len
theorem up_twice {m : List (Bys × Bys)} (_h : Up Prod.fst m) {k : Nat} (hk : k < m.length) (h0 : 0 < k) (e : (m[k - 1]'(by omega)).1 = m[k].1) : ¬ (m.map Prod.fst).Nodup := by
  intro hd
  unfold List.Nodup at hd
  rw [List.pairwise_map, List.pairwise_iff_getElem] at hd
  exact hd (k - 1) k (by omega) hk (by omega) e
theorem up_once {m : List (Bys × Bys)} (h : Up Prod.fst m) (hno : ∀ k (hk : k < m.length), 0 < k → (m[k - 1]'(by omega)).1 ≠ m[k].1) : Asc Prod.fst m := by
  unfold Asc
  unfold Up at h
  rw [List.pairwise_iff_getElem] at h ⊢
  intro i j hi hj hij
  have step : ∀ k (hk : k + 1 < m.length), (m[k]'(by omega)).1 < m[k + 1].1 := fun k hk => by
    by_cases a : (m[k]'(by omega)).1 < m[k + 1].1
    · exact a
    · exact absurd (bys_tri a (h k (k + 1) (by omega) hk (by omega))) (hno (k + 1) hk (by omega))
  have key : ∀ d (hd : i + 1 + d < m.length), m[i].1 < m[i + 1 + d].1 := fun d => by
    induction d with
    | zero => exact fun hd => step i hd
    | succ d ih => exact fun hd => bys_lt (ih (by omega)) (step (i + 1 + d) hd)
  have := key (j - (i + 1)) (by omega)
  have e : i + 1 + (j - (i + 1)) = j := by omega
  simp only [e] at this
  exact this
/-- What comes of the parts in order is what is asked. -/
theorem made_code {o : Bool} {l m : List (Bys × Bys)} (hc : chkParts l = 0) (hp : m.Perm l) (ha : Asc Prod.fst m) : inL (rcdWord o ++ 91 :: partsTxt m) = madeT o l := by
  obtain ⟨h1, h2, h3⟩ := chkParts_zero hc
  have hd : (l.map Prod.fst).Nodup := (hp.map Prod.fst).nodup_iff.1 ha.nodup
  rw [madeT_chk, if_neg (by omega), if_neg (fun h => h hd)]
  rw [sortK_unique hd ha fun z => (hp.mem_iff).symm]
  have hm : m ≠ [] := fun e => by rw [e] at hp; have := hp.length_eq; simp at this; omega
  obtain ⟨F, e1, e2, e3⟩ := parts_wf m [] hm ha (fun p hpm => h3 p (hp.mem_iff.1 hpm)) (fun p hpm => name_pos (h3 p (hp.mem_iff.1 hpm)).1)
  rw [← e1]
  exact inL_wf (T := .rcd o F) ⟨e2, by rw [e3, hp.length_eq]; exact h2⟩
theorem made_twice {o : Bool} {l m : List (Bys × Bys)} (hc : chkParts l = 0) (hp : m.Perm l) (hd : ¬ (m.map Prod.fst).Nodup) : madeT o l = ([], 6) := by
  rw [madeT_chk, if_neg (by omega), if_pos (fun h => hd ((hp.map Prod.fst).nodup_iff.2 h))]

theorem info9' : ∃ i, Tryz.prog.info? 9 = some i ∧ i.zero = some (.string { data := #[] }) ∧ i.size = 1 ∧ i.bytes = 16 := by
  have := info9
  cases h : Tryz.prog.info? 9 with
  | none => rw [h] at this; cases this
  | some i =>
    rw [h] at this
    simp only [Option.map_some, Option.some.injEq, Prod.mk.injEq] at this
    exact ⟨i, rfl, this.1, this.2.1, this.2.2⟩
theorem make_strs (n : Nat) (hn : n ≤ 1000) (w : World) : ∃ cs : Array Value, cs.size = n ∧ (Instr.makeSlice 48 (.int .i64 (n : Int)) (.int .i64 (n : Int))).run Tryz.prog w = .ok (.slice (some ⟨w.heap.size, 0, none⟩) n n) (w.alloc (.cells cs 9)) := by
  obtain ⟨i0, hi, hz0, hz1, hz2⟩ := info9'
  have t48 : Tryz.prog.underlying 48 = some (.slice 9) := by kernel_rfl
  have hr := run_make (P := Tryz.prog) w 48 9 i0 _ t48 hi hz0 .i64 .i64 (n : Int) (n : Int) (by omega) (by omega) (by rw [hz2]; omega) (by omega)
  rw [hz1] at hr
  simp only [Int.toNat_natCast, Nat.mul_one] at hr
  exact ⟨_, size_madeCells _ _, hr⟩
theorem strRow_of_blk {w : World} {g : Nat} {cs : Array Value} {l : List Bys} (hb : Blk w g 9 cs) (h : ∀ (i : Nat) (x : Bys), l[i]? = some x → cs[i]? = some (Value.string (bs x))) : StrRow w g 0 l := fun i x hi => by
  rw [hb.cell, Nat.zero_add]; exact h i x hi

set_option maxRecDepth 100000 in
set_option maxHeartbeats 12800000 in
theorem withParts_any (o : Bool) (l : List (Bys × Bys)) (v : Value) (w : World) (he : Env w) (hl : l.length ≤ 1000) (hnl : ∀ p ∈ l, p.1.length ≤ 1000) (hv : PtV w v l) :
    Calls Tryz.prog 62 #[.string (bs (rcdWord o)), v] w fun e w' => e = .returned (.tuple #[.string (bs (madeT o l).1), .int .i64 (madeT o l).2]) ∧ Below w.heap.size w w' := by
  have hcp := checkParts_any l v w he hl hnl hv
  have HE := Lib.hid he
  have HCP := Lib.hid hcp
  by_cases hc : chkParts l = 0
  · obtain ⟨z1, z2, z3⟩ := chkParts_zero hc
    rcases hv with ⟨rfl, _⟩ | ⟨g, off, cap, rfl, hg, hrow, hne, hcap⟩
    · simp at z1
    have HROW := Lib.hid hrow
    have HC := Lib.hid hc
    have Z3 := Lib.hid z3
    clear he hcp hrow hc hne hnl z3
    go_enter Tryz.func62, Tryz.ntmps62
    go_wp2_with fail
    refine HCP.out.mono ?_
    rintro e w1 ⟨rfl, hb1⟩
    rw [HC.out]
    have HB1 := Lib.hid hb1
    have HE1 := Lib.hid (HE.out.below hb1)
    have hrow1 := HROW.out.keep (hb1.block g hg)
    have HS := Lib.hid (sorted_parts l g off cap w1 hl z1 hrow1)
    clear hb1 hrow1
    go_wp2_with fail
    refine HS.out.mono ?_
    rintro e w2 ⟨m, g2, cap2, rfl, hperm, hup, hrow2, hg2, hb2⟩
    have HB2 := Lib.hid (HB1.out.trans (hb2.mono HB1.out.size))
    have HE2 := Lib.hid (HE1.out.below hb2)
    have HROW2 := Lib.hid hrow2
    have hml : m.length = l.length := hperm.length_eq
    have HPERM := Lib.hid hperm
    have HUP := Lib.hid hup
    clear hrow2 hb2 hperm hup HS HCP HB1 HE HE1
    obtain ⟨cs0, hcs0, hmk⟩ := make_strs l.length hl w2
    go_wp2
    go_loopw [22] (fun v22 wr => ∃ (k : Nat) (cs : Array Value), k ≤ l.length ∧ v22 = .int .i64 k ∧ cs.size = l.length ∧ Blk wr w2.heap.size 9 cs ∧ (∀ (i : Nat) (x : Bys), ((m.take k).map partTxt)[i]? = some x → cs[i]? = some (Value.string (bs x))) ∧ (∀ (i : Nat) (hi : i < m.length), i < k → 0 < i → (m[i - 1]'(by omega)).1 ≠ m[i].1) ∧ Below w2.heap.size w2 wr) (fun i _ => l.length - (intOf i).toNat)
    case atStart => exact ⟨0, cs0, Nat.zero_le _, rfl, hcs0, Blk.new _ _ _, by simp, by simp, (Below.refl _ _).alloc (Nat.le_refl _) _⟩
    case round =>
      obtain ⟨k, cs, hk, rfl, hcs, hblk, hin, hno, hb3⟩ := hrel
      have HBLK := Lib.hid hblk
      have HIN := Lib.hid hin
      have HNO := Lib.hid hno
      have HB3 := Lib.hid hb3
      clear hblk hin hno hb3
      by_cases hlt : k < l.length
      · have hltm : k < m.length := by omega
        have hpk : m[k]? = some m[k] := List.getElem?_eq_getElem hltm
        obtain ⟨q0, q1⟩ := (HROW2.out.keep (HB3.out.block g2 hg2)) k _ hpk
        have hgz : g2 < wr.heap.size := Nat.lt_of_lt_of_le hg2 HB3.out.size
        have HPK := Lib.hid hpk
        have hmk2 : ∀ p, m[k]? = some p → p = m[k] := fun p hp => by rw [hpk] at hp; exact (Option.some.inj hp).symm
        generalize hpe : m[k] = p at *
        obtain ⟨p1, p2⟩ := p
        have HPE := Lib.hid hpe
        rw [Nat.zero_add] at q0 q1
        have hgp := HBLK.out.lt
        have hA : Blk (wr.alloc (.cells #[.string (bs p1), .string (bs p2)] 42)) wr.heap.size 42 #[.string (bs p1), .string (bs p2)] := Blk.new _ _ _
        have hB := HBLK.out.alloc (.cells #[.string (bs p1), .string (bs p2)] 42)
        have hal : Below wr.heap.size wr (wr.alloc (.cells #[.string (bs p1), .string (bs p2)] 42)) := (Below.refl _ _).alloc (Nat.le_refl _) _
        have hC := HB3.out.trans (hal.mono HB3.out.size)
        have hI : ∀ (i : Nat) (x : Bys), ((m.take (k + 1)).map partTxt)[i]? = some x → (cs.setIfInBounds k (Value.string (bs (partTxt (p1, p2)))))[i]? = some (Value.string (bs x)) := fun i x hi => by
          rw [List.take_add_one, HPK.out, List.map_append, List.getElem?_append] at hi
          have hln : ((m.take k).map partTxt).length = k := by simp; omega
          rw [hln] at hi
          split at hi
          · rename_i hik
            rw [Array.getElem?_setIfInBounds, if_neg (by omega)]
            exact HIN.out i x hi
          · rename_i hik
            have : i = k := by
              have := (List.getElem?_eq_some_iff.1 hi).1
              simp at this
              omega
            subst this
            simp at hi
            subst hi
            rw [Array.getElem?_setIfInBounds, if_pos rfl, if_pos (by omega)]
        have hPC : (bs p1 ++ { data := #[58] }) ++ bs p2 = bs (partTxt (p1, p2)) := by rw [show ({ data := #[58] } : ByteArray) = bs [58] from rfl, bs_app, bs_app]; simp [partTxt]
        rw [← hPC] at hI
        have hz : isNameL p1 = true ∧ chk p2 = 0 := Z3.out (p1, p2) (HPERM.out.mem_iff.1 (List.mem_of_getElem? HPK.out))
        have hz1 : (bs p1).size ≤ 1000 := by rw [bs_size]; have := name_len hz.1; omega
        have hz2 : (bs p2).size ≤ 1000 := by rw [bs_size]; have := chk_len hz.2; omega
        have HI := Lib.hid hI
        have HB := Lib.hid hB
        have HCC := Lib.hid hC
        have hrow3 := Lib.hid (HROW2.out.keep (hC.block g2 hg2))
        clear hpk hmk2 hpe hI hB hC hal hPC hz
        by_cases hk0 : k = 0
        · subst hk0
          go_wp2
          have a0 := hA.cell 0
          have a1 := hA.cell 1
          generalize wr.alloc (.cells #[.string (bs p1), .string (bs p2)] 42) = w3 at *
          generalize wr.heap.size = pg at *
          go_quiet (fail)
          have b0 : (w3.drewN nq).cell? ⟨pg, 0, none⟩ = some (.string (bs p1)) := a0
          have b1 : (w3.drewN nq).cell? ⟨pg, 1, none⟩ = some (.string (bs p2)) := a1
          have HB4 : Hid (Blk (w3.drewN nq) w2.heap.size 9 cs) := Lib.hid (HB.out.drewN nq)
          have HC4 : Hid (Below w2.heap.size w2 (w3.drewN nq)) := Lib.hid ⟨HCC.out.os, HCC.out.tape, HCC.out.output, HCC.out.size, HCC.out.block⟩
          have c4 : (w3.drewN nq).cell? ⟨w2.heap.size, 0, none⟩ = some (cs[0]'(by omega)) := by rw [HB4.out.cell]; exact Array.getElem?_eq_getElem (by omega)
          have f4 := HB4.out.frozen 0
          clear hA a0 a1 HB HCC
          generalize w3.drewN nq = w4 at *
          go_wp2
          go_roundw
          case rel =>
            refine ⟨1, _, by omega, by go_num, ?_, HB4.out.set_ 0 _, HI.out, ?_, HC4.out.setCell (Nat.le_refl _) _⟩
            · simpa using hcs
            · intro i hi hik h0
              omega
          case measure => simp [intOf]; omega
        · have hkk : k - 1 < m.length := by omega
          have hpj : m[k - 1]? = some m[k - 1] := List.getElem?_eq_getElem hkk
          have z0 := (hrow3.out (k - 1) _ hpj).1
          rw [Nat.zero_add] at z0
          have e1 : ((k : Int) - 1).toNat = k - 1 := by omega
          have e2 : (0 : Int) ≤ (k : Int) - 1 := by omega
          have e3 : (k : Int) - 1 < (l.length : Int) := by omega
          have e4 : (0 : Int) < (k : Int) := by omega
          have e5 : decide (0 < k) = true := decide_eq_true (by omega)
          have hpj2 : ∀ (hi : k - 1 < m.length), m[k - 1].1 = m[k - 1].1 := fun _ => rfl
          generalize hpe2 : m[k - 1] = q at *
          obtain ⟨n1, n2⟩ := q
          have HPE2 := Lib.hid hpe2
          clear hpj hpj2 hpe2
          by_cases heq : n1 = p1
          · subst heq
            have hbq : (bs n1 == bs n1) = true := ba_beq.2 rfl
            go_wp2
            have a0 := hA.cell 0
            generalize wr.alloc (.cells #[.string (bs n1), .string (bs p2)] 42) = w3 at *
            generalize wr.heap.size = pg at *
            go_quiet (fail)
            go_wp2
            go_ret2
            rw [made_twice HC.out HPERM.out (up_twice HUP.out hltm (by omega) (by rw [HPE.out, HPE2.out]))]
            exact ⟨rfl, HB2.out.trans ((show RowKit.Below w2.heap.size w2 (w3.drewN nq) from ⟨HCC.out.os, HCC.out.tape, HCC.out.output, HCC.out.size, HCC.out.block⟩).mono HB2.out.size)⟩
          · have hbq : ((bs n1).toList == (bs p1).toList) = false := by rw [ByteArray.toList_eq, ByteArray.toList_eq, bs_data, bs_data]; simpa using heq
            go_wp2
            have a0 := hA.cell 0
            have a1 := hA.cell 1
            generalize wr.alloc (.cells #[.string (bs p1), .string (bs p2)] 42) = w3 at *
            generalize wr.heap.size = pg at *
            go_quiet (fail)
            have b0 : (w3.drewN nq).cell? ⟨pg, 0, none⟩ = some (.string (bs p1)) := a0
            have b1 : (w3.drewN nq).cell? ⟨pg, 1, none⟩ = some (.string (bs p2)) := a1
            have HB4 : Hid (Blk (w3.drewN nq) w2.heap.size 9 cs) := Lib.hid (HB.out.drewN nq)
            have HC4 : Hid (Below w2.heap.size w2 (w3.drewN nq)) := Lib.hid ⟨HCC.out.os, HCC.out.tape, HCC.out.output, HCC.out.size, HCC.out.block⟩
            have c4 : (w3.drewN nq).cell? ⟨w2.heap.size, k, none⟩ = some (cs[k]'(by omega)) := by rw [HB4.out.cell]; exact Array.getElem?_eq_getElem (by omega)
            have f4 := HB4.out.frozen k
            clear hA a0 a1 HB HCC
            generalize w3.drewN nq = w4 at *
            go_wp2
            refine ⟨⟨k + 1, _, by omega, by push_cast; rfl, ?_, HB4.out.set_ k _, HI.out, ?_, HC4.out.setCell (Nat.le_refl _) _⟩, ?_⟩
            · simpa using hcs
            · intro i hi hik h0
              by_cases e : i = k
              · subst e
                rw [HPE.out, HPE2.out]
                exact heq
              · exact HNO.out i hi (by omega) h0
            · simp only [intOf]; omega
      · have hkl : k = l.length := by omega
        subst hkl
        have hasc : Asc Prod.fst m := up_once HUP.out fun i hi h0 => HNO.out i hi (by omega) h0
        have hmade := made_code (o := o) HC.out HPERM.out hasc
        have htk : m.take l.length = m := List.take_of_length_le (by omega)
        have hjl : (Lib.join (m.map partTxt) [44]).length ≤ 1000 := by
          have := join_len (m.map partTxt) 113 (fun x hx => by
            obtain ⟨p, hp, rfl⟩ := List.mem_map.1 hx
            have hz := Z3.out p (HPERM.out.mem_iff.1 hp)
            have h1 := name_len hz.1
            have h2 := chk_len hz.2
            simp only [partTxt, List.length_append, List.length_cons]
            omega)
          rw [List.length_map, hml] at this
          have h6 := Nat.mul_le_mul_right (113 + 1) z2
          omega
        have hj : Calls Tryz.prog 92 #[.slice (some ⟨w2.heap.size, 0, none⟩) l.length l.length, .string { data := #[44] }] wr fun e w' => e = .returned (.string (bs (Lib.join (m.map partTxt) [44]))) ∧ RowKit.Below wr.heap.size wr w' := by
          have hx : ((m.map partTxt).map bs).map (·.data.toList) = m.map partTxt := by
            rw [List.map_map]
            conv => rhs; rw [← List.map_id (m.map partTxt)]
            refine List.map_congr_left fun x _ => ?_
            exact bs_data x
          have := Tryz.strings_Join w2.heap.size 0 l.length ((m.map partTxt).map bs) { data := #[44] } wr (fun j x hj => by
            rw [List.getElem?_map] at hj
            cases hjj : (m.map partTxt)[j]? with
            | none => rw [hjj] at hj; cases hj
            | some y =>
              rw [hjj] at hj
              simp only [Option.map_some, Option.some.injEq] at hj
              subst hj
              rw [Nat.zero_add, HBLK.out.cell]
              exact HIN.out j y (by rw [htk]; exact hjj)) HBLK.out.lt (by simp; omega) (by simp; omega) (by rw [hx]; show (Lib.join (m.map partTxt) [44]).length ≤ _; omega)
          rw [hx] at this
          have hln : ((m.map partTxt).map bs).length = l.length := by simp [hml]
          rw [hln] at this
          exact this
        rw [partsTxt_join] at hmade
        generalize hJ : Lib.join (m.map partTxt) [44] = J at *
        have HMADE := Lib.hid hmade
        have HJ := Lib.hid hj
        have hz1 : (bs (rcdWord o)).size ≤ 1000 := by rw [bs_size]; cases o <;> decide
        have hz2 : (bs J).size ≤ 1000 := by rw [bs_size]; exact hjl
        clear hmade hj hJ hjl hasc htk
        go_wp2_with fail
        refine HJ.out.mono ?_
        rintro e w4 ⟨rfl, hb4⟩
        have HE4 := Lib.hid ((HE2.out.below HB3.out).below hb4)
        have HB4 := Lib.hid (HB3.out.trans (hb4.mono HB3.out.size))
        clear hb4
        go_wp2_with fail
        refine (inLimits_q _ (rcdWord o ++ 91 :: (J ++ [93])) ?_ w4 HE4.out).mono ?_
        · show bs (rcdWord o) ++ bs [91] ++ bs J ++ bs [93] = _
          simp [bs_app]
        rintro e w5 ⟨rfl, hb5⟩
        rw [HMADE.out]
        have HB5 := Lib.hid (HB2.out.trans ((HB4.out.trans (hb5.mono HB4.out.size)).mono HB2.out.size))
        clear hb5
        go_wp2
        go_ret2
        exact ⟨rfl, HB5.out⟩
  · have hm : madeT o l = ([], chkParts l) := by rw [madeT_chk, if_pos hc]
    have HM := Lib.hid hm
    have hc2 : (chkParts l != 0) = true := by simpa using hc
    obtain ⟨ao, nv, cv, rfl⟩ : ∃ ao nv cv, v = .slice ao nv cv := by
      rcases hv with ⟨_, a, c, h⟩ | ⟨g, off, cap, h, _⟩
      · exact ⟨_, _, _, h⟩
      · exact ⟨_, _, _, h⟩
    clear he hcp hv hm hc hnl
    go_enter Tryz.func62, Tryz.ntmps62
    go_wp2_with fail
    refine HCP.out.mono ?_
    rintro e w1 ⟨rfl, hb1⟩
    go_wp2
    go_ret2
    rw [HM.out]
    exact ⟨rfl, hb1⟩

set_option maxHeartbeats 3200000 in
theorem Record_any (l : List (Bys × Bys)) (v : Value) (w : World) (he : Env w) (hl : l.length ≤ 1000) (hnl : ∀ p ∈ l, p.1.length ≤ 1000) (hv : PtV w v l) :
    Calls Tryz.prog 34 #[v] w fun e w' => e = .returned (.tuple #[.string (bs (madeT false l).1), .int .i64 (madeT false l).2]) ∧ Below w.heap.size w w' := by
  have h := Lib.hid (withParts_any false l v w he hl hnl hv)
  obtain ⟨ao, nv, cv, rfl⟩ : ∃ ao nv cv, v = .slice ao nv cv := by
    rcases hv with ⟨_, a, c, h⟩ | ⟨g, off, cap, h, _⟩
    · exact ⟨_, _, _, h⟩
    · exact ⟨_, _, _, h⟩
  clear he hl hnl hv
  go_enter Tryz.func34, Tryz.ntmps34
  go_wp2_with fail
  refine h.out.mono ?_
  rintro e w1 ⟨rfl, hb⟩
  go_wp2
  go_ret2
  exact ⟨rfl, hb⟩
set_option maxHeartbeats 3200000 in
theorem Oneof_any (l : List (Bys × Bys)) (v : Value) (w : World) (he : Env w) (hl : l.length ≤ 1000) (hnl : ∀ p ∈ l, p.1.length ≤ 1000) (hv : PtV w v l) :
    Calls Tryz.prog 36 #[v] w fun e w' => e = .returned (.tuple #[.string (bs (madeT true l).1), .int .i64 (madeT true l).2]) ∧ Below w.heap.size w w' := by
  have h := Lib.hid (withParts_any true l v w he hl hnl hv)
  obtain ⟨ao, nv, cv, rfl⟩ : ∃ ao nv cv, v = .slice ao nv cv := by
    rcases hv with ⟨_, a, c, h⟩ | ⟨g, off, cap, h, _⟩
    · exact ⟨_, _, _, h⟩
    · exact ⟨_, _, _, h⟩
  clear he hl hnl hv
  go_enter Tryz.func36, Tryz.ntmps36
  go_wp2_with fail
  refine h.out.mono ?_
  rintro e w1 ⟨rfl, hb⟩
  go_wp2
  go_ret2
  exact ⟨rfl, hb⟩
end Go.Proofs.YthcoppfdffhjfaaGreatDoor
