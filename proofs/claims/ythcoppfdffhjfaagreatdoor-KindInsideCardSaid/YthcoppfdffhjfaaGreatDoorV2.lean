/- The reference's reading: an array, or a name with a bracket. -/
import Derived.Test.YthcoppfdffhjfaaGreatDoorV1
import Derived.Deep.LoopGhost
namespace Go.Proofs.YthcoppfdffhjfaaGreatDoor
open Go Go.RowKit

theorem ret_two {a b c d : Int} (h1 : a = c) (h2 : b = d) : Ending.returned (.tuple #[.int .i64 a, .int .i64 b]) = .returned (.tuple #[.int .i64 c, .int .i64 d]) := by rw [h1, h2]

/-- What stands behind a bracket. -/
def bkN (n : Nat) : Option (Ty × Bys) → Int × Int
  | some (T, 93 :: _) => ((n + T.pr.length + 2 : Nat), (T.lev + 1 : Nat))
  | _ => (0, 0)

set_option maxRecDepth 100000 in
set_option maxHeartbeats 25600000 in
theorem read_bk (s r : Bys) (f : Nat) (deep : Int) (hP : OneOk f (deep + 1)) (hdp : deep ≤ 100) (hd0 : 0 ≤ deep) (hs : s.length ≤ 1000) (hnp : s.take 2 ≠ [63, 116]) (hm : hd s = kArray ∨ isNameL (hd s) = true) (hbr : tl s = 91 :: r) (w : World) :
    Calls Tryz.prog 51 #[.string (bs s), .int .i64 deep] w fun e w' => e = .returned (.tuple #[.int .i64 (bkN (hd s).length (rdT f r)).1, .int .i64 (bkN (hd s).length (rdT f r)).2]) ∧ Below w.heap.size w w' := by
  have hsz : (bs s).size = s.length := bs_size s
  have hc := cut_any s (by omega) w
  have hx : (bs s).extract 0 (hd s).length = bs (hd s) := by rw [bs_take, head_take]
  have hle : ((hd s).length : Int) ≤ ((bs s).size : Int) := by have := hd_le s; omega
  have hx2 : (bs s).extract 0 2 = bs (s.take 2) := bs_take s 2
  have ht2 : (bs (s.take 2)).toList = s.take 2 := by rw [ByteArray.toList_eq, bs_data]
  have q2 : (s.take 2 == [63, 116]) = false := beq_eq_false_iff_ne.2 hnp
  have hdp2 : ¬ (100 < deep) := by omega
  have hv : (2 : Int) ≤ ((bs s).size : Int) ∨ ¬ (2 : Int) ≤ ((bs s).size : Int) := Decidable.em _
  have ht : (bs (hd s)).toList = hd s := by rw [ByteArray.toList_eq, bs_data]
  have HC := Lib.hid hc
  obtain ⟨hl, hr, hg⟩ := bracket_yes hbr
  obtain ⟨hl2, hb⟩ := br_yes hbr
  have hlt : ((hd s).length : Int) < ((bs s).size : Int) := by omega
  have hx3 : (bs s).extract ((hd s).length + 1) (bs s).size = bs r := by rw [bs_drop s _ _ (by omega), hr]
  have hx4 : (bs s).extract ((hd s).length + 1) s.length = bs r := by rw [bs_drop s _ _ (by omega), hr]
  have hle3 : ((hd s).length : Int) + 1 ≤ ((bs s).size : Int) := by omega
  have hrl : r.length ≤ 1000 := by rw [← hr]; simp; omega
  have hrl2 : s.length = (hd s).length + 1 + r.length := by rw [← hr]; simp; omega
  have hn1 : (hd s).length ≤ 1000 := by omega
  have hp := fun w => hP r w hrl
  have hd1 : deep + 1 ≤ 9223372036854775807 := by omega
  have hin := refIsName_any (bs (hd s)) w (by rw [bs_size]; have := hd_le s; omega)
  rw [isNameB_L] at hin
  have hq : hd s = kArray ∨ (isNameL (hd s) = true ∧ (hd s).isEmpty = false ∧ (hd s == [105, 110, 116]) = false ∧ (hd s == [98, 111, 111, 108]) = false ∧ (hd s == [110, 117, 108, 108]) = false ∧ (hd s == [97, 114, 114, 97, 121]) = false ∧ (hd s == [114, 101, 99, 111, 114, 100]) = false ∧ (hd s == [111, 110, 101, 111, 102]) = false) := by
    rcases hm with h | h
    · exact .inl h
    · have q := name_not h
      exact .inr ⟨h, by have := name_ne h; simpa using this, beq_eq_false_iff_ne.2 q.1, beq_eq_false_iff_ne.2 q.2.1, beq_eq_false_iff_ne.2 q.2.2.1, beq_eq_false_iff_ne.2 q.2.2.2.1, beq_eq_false_iff_ne.2 q.2.2.2.2.1, beq_eq_false_iff_ne.2 q.2.2.2.2.2.1⟩
  have hget : ∀ k (h : (hd s).length + 1 + k < (bs s).size), ((((bs s)[(hd s).length + 1 + k]'h).toNat : Int)) = ((r[k]?.getD 0).toNat : Int) := fun k h => by
    have hk : (hd s).length + 1 + k < s.length := by omega
    rw [bs_at s _ hk h]
    have e : r[k]? = s[(hd s).length + 1 + k]? := by rw [← hr, List.getElem?_drop]
    rw [e, List.getElem?_eq_getElem hk]
    rfl
  generalize hd s = m at *
  generalize hn : m.length = n at *
  -- what read answers, and the test of what follows
  have hcase : (bkN n (rdT f r) = (0, 0) ∧ (rdN (rdT f r) = (0, 0))) ∨ ∃ k l : Nat, rdN (rdT f r) = ((k : Int), (l : Int)) ∧ 0 < k ∧ k ≤ 1000 ∧ l ≤ 1000 ∧
      ((bkN n (rdT f r) = (0, 0) ∧ ((bs s).size : Int) ≤ (n : Int) + 1 + (k : Int)) ∨ ∃ h : n + 1 + k < (bs s).size,
        (bkN n (rdT f r) = (0, 0) ∧ ((((bs s)[n + 1 + k]'h).toNat : Int) == 93) = false) ∨ (bkN n (rdT f r) = (((n + k + 2 : Nat) : Int), ((l + 1 : Nat) : Int)) ∧ ((((bs s)[n + 1 + k]'h).toNat : Int) == 93) = true)) := by
    cases hrd : rdT f r with
    | none => exact .inl ⟨rfl, rfl⟩
    | some p =>
      obtain ⟨T, r2⟩ := p
      obtain ⟨h1, h2, h3⟩ := rd_pos hrd
      have hlen : r.length = T.pr.length + r2.length := by rw [h2]; simp
      have hlv := T.lev_len h3
      refine .inr ⟨T.pr.length, T.lev, rfl, h1, by omega, by omega, ?_⟩
      cases r2 with
      | nil => exact .inl ⟨rfl, by simp at hlen; omega⟩
      | cons c r3 =>
        simp at hlen
        have hlt3 : n + 1 + T.pr.length < (bs s).size := by omega
        refine .inr ⟨hlt3, ?_⟩
        have hgc : r[T.pr.length]?.getD 0 = c := by rw [h2]; simp
        rw [hget _ hlt3, hgc]
        by_cases h93 : c = 93
        · subst h93
          exact .inr ⟨rfl, by decide⟩
        · refine .inl ⟨?_, ?_⟩
          · unfold bkN
            split
            · rename_i heq
              injection heq with heq
              injection heq with _ heq
              injection heq with heq _
              exact absurd heq h93
            · rfl
          · rw [beq_eq_false_iff_ne]
            intro e
            apply h93
            have : c.toNat = 93 := by omega
            exact UInt8.toNat_inj.1 this
  have HIN := Lib.hid hin
  clear hin hget hm
  rcases hcase with ⟨e1, e2⟩ | ⟨k, l, e2, hk0, hk1, hl1, e1⟩
  · simp only [e2] at hp
    rw [e1]
    have HP := Lib.hid hp
    clear hc hnp hdp hs hn hP hp hr hg hl hbr e1 e2 hrl2
    rcases hq with rfl | ⟨hq, q0, q1, q3, q4, q5, q6, q7⟩
    · have ht' := ht
      simp only [kArray] at ht'
      rcases hv with h2 | h2
      all_goals
        go_enter Tryz.func51, Tryz.ntmps51
        go_wp2_with fail
        refine HC.out.mono ?_
        rintro e w' ⟨rfl, rfl⟩
        go_wp2_with fail
        refine (HP.out _).mono ?_
        rintro e w1 ⟨rfl, hb1⟩
        have HB1 := Lib.hid hb1
        clear hb1
        go_wp2
        go_ret2
        exact ⟨rfl, HB1.out⟩
    · rw [hq] at HIN
      rcases hv with h2 | h2
      all_goals
        go_enter Tryz.func51, Tryz.ntmps51
        go_wp2_with fail
        refine HC.out.mono ?_
        rintro e w' ⟨rfl, rfl⟩
        go_wp2_with fail
        refine HIN.out.mono ?_
        rintro e w0 ⟨rfl, hb0⟩
        have HB0 := Lib.hid hb0
        clear hb0
        go_wp2_with fail
        refine (HP.out _).mono ?_
        rintro e w1 ⟨rfl, hb1⟩
        have HB1 := Lib.hid (HB0.out.trans (hb1.mono HB0.out.size))
        clear hb1
        go_wp2
        go_ret2
        exact ⟨rfl, HB1.out⟩
  · simp only [e2] at hp
    have HP := Lib.hid hp
    have hkz : ((k : Int) == 0) = false := beq_eq_false_iff_ne.2 (by omega)
    have hk3 : ((n : Int) + 1 + (k : Int)).toNat = n + 1 + k := by omega
    clear hc hnp hdp hs hn hP hp hr hg hl hbr e2 hrl2
    rcases e1 with ⟨e1, hge⟩ | ⟨hlt3, ⟨e1, h93⟩ | ⟨e1, h93⟩⟩
    · rw [e1]
      clear e1
      rcases hq with rfl | ⟨hq, q0, q1, q3, q4, q5, q6, q7⟩
      · have ht' := ht
        simp only [kArray] at ht'
        rcases hv with h2 | h2
        all_goals
          go_enter Tryz.func51, Tryz.ntmps51
          go_wp2_with fail
          refine HC.out.mono ?_
          rintro e w' ⟨rfl, rfl⟩
          go_wp2_with fail
          refine (HP.out _).mono ?_
          rintro e w1 ⟨rfl, hb1⟩
          have HB1 := Lib.hid hb1
          clear hb1
          go_wp2
          go_ret2
          exact ⟨rfl, HB1.out⟩
      · rw [hq] at HIN
        rcases hv with h2 | h2
        all_goals
          go_enter Tryz.func51, Tryz.ntmps51
          go_wp2_with fail
          refine HC.out.mono ?_
          rintro e w' ⟨rfl, rfl⟩
          go_wp2_with fail
          refine HIN.out.mono ?_
          rintro e w0 ⟨rfl, hb0⟩
          have HB0 := Lib.hid hb0
          clear hb0
          go_wp2_with fail
          refine (HP.out _).mono ?_
          rintro e w1 ⟨rfl, hb1⟩
          have HB1 := Lib.hid (HB0.out.trans (hb1.mono HB0.out.size))
          clear hb1
          go_wp2
          go_ret2
          exact ⟨rfl, HB1.out⟩
    · rw [e1]
      clear e1
      have h2 : (2 : Int) ≤ ((bs s).size : Int) := by omega
      have hlt5 : ¬ (s.length : Int) ≤ (n : Int) + 1 + (k : Int) := by omega
      have h94 := h93
      rw [beq_eq_false_iff_ne] at h94
      have h95 : ((((bs s)[n + 1 + k]'hlt3).toNat : Int) != 93) = true := by simpa using h94
      clear h94 hv
      rcases hq with rfl | ⟨hq, q0, q1, q3, q4, q5, q6, q7⟩
      · have ht' := ht
        simp only [kArray] at ht'
        all_goals
          go_enter Tryz.func51, Tryz.ntmps51
          go_wp2_with fail
          refine HC.out.mono ?_
          rintro e w' ⟨rfl, rfl⟩
          go_wp2_with fail
          refine (HP.out _).mono ?_
          rintro e w1 ⟨rfl, hb1⟩
          have HB1 := Lib.hid hb1
          clear hb1
          go_wp2
          go_ret2
          exact ⟨rfl, HB1.out⟩
      · rw [hq] at HIN
        all_goals
          go_enter Tryz.func51, Tryz.ntmps51
          go_wp2_with fail
          refine HC.out.mono ?_
          rintro e w' ⟨rfl, rfl⟩
          go_wp2_with fail
          refine HIN.out.mono ?_
          rintro e w0 ⟨rfl, hb0⟩
          have HB0 := Lib.hid hb0
          clear hb0
          go_wp2_with fail
          refine (HP.out _).mono ?_
          rintro e w1 ⟨rfl, hb1⟩
          have HB1 := Lib.hid (HB0.out.trans (hb1.mono HB0.out.size))
          clear hb1
          go_wp2
          go_ret2
          exact ⟨rfl, HB1.out⟩
    · rw [e1]
      clear e1
      have h2 : (2 : Int) ≤ ((bs s).size : Int) := by omega
      have hlt5 : ¬ (s.length : Int) ≤ (n : Int) + 1 + (k : Int) := by omega
      have h94 := h93
      rw [beq_iff_eq] at h94
      have h95 : ((((bs s)[n + 1 + k]'hlt3).toNat : Int) != 93) = false := by simpa using h94
      clear h94 hv
      rcases hq with rfl | ⟨hq, q0, q1, q3, q4, q5, q6, q7⟩
      · have ht' := ht
        simp only [kArray] at ht'
        all_goals
          go_enter Tryz.func51, Tryz.ntmps51
          go_wp2_with fail
          refine HC.out.mono ?_
          rintro e w' ⟨rfl, rfl⟩
          go_wp2_with fail
          refine (HP.out _).mono ?_
          rintro e w1 ⟨rfl, hb1⟩
          have HB1 := Lib.hid hb1
          clear hb1
          go_wp2
          go_ret2
          exact ⟨ret_two (by omega) (by omega), HB1.out⟩
      · rw [hq] at HIN
        all_goals
          go_enter Tryz.func51, Tryz.ntmps51
          go_wp2_with fail
          refine HC.out.mono ?_
          rintro e w' ⟨rfl, rfl⟩
          go_wp2_with fail
          refine HIN.out.mono ?_
          rintro e w0 ⟨rfl, hb0⟩
          have HB0 := Lib.hid hb0
          clear hb0
          go_wp2_with fail
          refine (HP.out _).mono ?_
          rintro e w1 ⟨rfl, hb1⟩
          have HB1 := Lib.hid (HB0.out.trans (hb1.mono HB0.out.size))
          clear hb1
          go_wp2
          go_ret2
          exact ⟨ret_two (by omega) (by omega), HB1.out⟩
end Go.Proofs.YthcoppfdffhjfaaGreatDoor
/- The reference's parts. -/
namespace Go.Proofs.YthcoppfdffhjfaaGreatDoor
open Go Go.RowKit

/-- What parts answers when a bytes are read, with lv levels. -/
def comb (a lv : Nat) : Option (Fs × Bys) → Int × Int
  | some (F, _) => ((a + F.pr.length : Nat), (max lv F.lev : Nat))
  | none => (0, 0)
theorem comb_map (a lv : Nat) (n : Bys) (t : Ty) (o : Option (Fs × Bys)) : comb a lv (o.map fun p => (Fs.more n t p.1, p.2)) = comb (a + n.length + 1 + t.pr.length + 1) (max lv t.lev) o := by
  cases o with
  | none => rfl
  | some p =>
    obtain ⟨F, r⟩ := p
    simp only [Option.map_some, comb, Fs.pr, Fs.lev, List.length_append, List.length_cons]
    refine Prod.ext ?_ ?_
    · simp only; omega
    · simp only; omega

/-- What a round of parts may meet. -/
theorem parts_case (f j a lv : Nat) (s b : Bys) (hs : s.length ≤ 1000) (_ha : a ≤ s.length) (n : Nat) (nm : Bys) (hnm : hd (s.drop a) = nm) (hn : nm.length = n) :
    (isNameL nm = false ∧ comb a lv (rdF (rdT f) (j + 1) b (s.drop a)) = (0, 0)) ∨
    (isNameL nm = true ∧ (Op.bytesLess (bs nm).toList (bs b).toList = true ∨ (Op.bytesLess (bs nm).toList (bs b).toList = false ∧ ((bs nm).toList == (bs b).toList) = true)) ∧ comb a lv (rdF (rdT f) (j + 1) b (s.drop a)) = (0, 0)) ∨
    (isNameL nm = true ∧ (Op.bytesLess (bs nm).toList (bs b).toList = false ∧ ((bs nm).toList == (bs b).toList) = false) ∧
      ((((bs s).size : Int) ≤ (a : Int) + (n : Int) ∧ comb a lv (rdF (rdT f) (j + 1) b (s.drop a)) = (0, 0)) ∨
      ∃ h : a + n < (bs s).size, (((((bs s)[a + n]'h).toNat : Int) == 58) = false ∧ comb a lv (rdF (rdT f) (j + 1) b (s.drop a)) = (0, 0)) ∨
        (((((bs s)[a + n]'h).toNat : Int) == 58) = true ∧
          ((rdN (rdT f (s.drop (a + n + 1))) = (0, 0) ∧ comb a lv (rdF (rdT f) (j + 1) b (s.drop a)) = (0, 0)) ∨
          ∃ m l : Nat, rdN (rdT f (s.drop (a + n + 1))) = ((m : Int), (l : Int)) ∧ 0 < m ∧ a + n + 1 + m ≤ s.length ∧ l ≤ 1000 ∧
            ((((bs s).size : Int) ≤ (a : Int) + (n : Int) + 1 + (m : Int) ∧ comb a lv (rdF (rdT f) (j + 1) b (s.drop a)) = (0, 0)) ∨
            ∃ h2 : a + n + 1 + m < (bs s).size,
              (((((bs s)[a + n + 1 + m]'h2).toNat : Int) == 93) = true ∧ comb a lv (rdF (rdT f) (j + 1) b (s.drop a)) = (((a + n + 1 + m + 1 : Nat) : Int), ((max lv l : Nat) : Int))) ∨
              (((((bs s)[a + n + 1 + m]'h2).toNat : Int) == 93) = false ∧ ((((bs s)[a + n + 1 + m]'h2).toNat : Int) == 44) = false ∧ comb a lv (rdF (rdT f) (j + 1) b (s.drop a)) = (0, 0)) ∨
              (((((bs s)[a + n + 1 + m]'h2).toNat : Int) == 93) = false ∧ ((((bs s)[a + n + 1 + m]'h2).toNat : Int) == 44) = true ∧
                comb a lv (rdF (rdT f) (j + 1) b (s.drop a)) = comb (a + n + 1 + m + 1) (max lv l) (rdF (rdT f) j nm (s.drop (a + n + 1 + m + 1))))))))) := by
  have hsz : (bs s).size = s.length := bs_size s
  have hget : ∀ k (h : k < (bs s).size), ((((bs s)[k]'h).toNat : Int)) = ((s[k]?.getD 0).toNat : Int) := fun k h => by
    have hk : k < s.length := by omega
    rw [bs_at s _ hk h, List.getElem?_eq_getElem hk]
    rfl
  have heq : ∀ (c : UInt8) (v : Nat), v < 256 → (((c.toNat : Int) == (v : Int)) = decide (c = UInt8.ofNat v)) := fun c v hv => by
    rw [Bool.eq_iff_iff, beq_iff_eq, decide_eq_true_iff]
    constructor
    · intro h
      apply UInt8.toNat_inj.1
      rw [UInt8.toNat_ofNat_of_lt' (by simpa using hv)]
      omega
    · rintro rfl
      rw [UInt8.toNat_ofNat_of_lt' (by simpa using hv)]
  have hlt2 : Op.bytesLess (bs nm).toList (bs b).toList = decide (nm < b) := bytesLess_bs nm b _ rfl
  have heq2 : ((bs nm).toList == (bs b).toList) = decide (nm = b) := by
    rw [ByteArray.toList_eq, ByteArray.toList_eq, bs_data, bs_data, Bool.eq_iff_iff, beq_iff_eq, decide_eq_true_iff]
  rw [hlt2, heq2]
  cases hq : isNameL nm with
  | false =>
    refine .inl ⟨rfl, ?_⟩
    rw [rdF, hnm, hq, if_neg (by simp)]
    rfl
  | true =>
    refine .inr ?_
    by_cases hb : b < nm
    · refine .inr ⟨rfl, ⟨decide_eq_false (bys_asym hb), decide_eq_false (fun e => by rw [e] at hb; exact bys_irr _ hb)⟩, ?_⟩
      have e0 : rdF (rdT f) (j + 1) b (s.drop a) = match tl (s.drop a) with
          | 58 :: r => match rdT f r with
            | some (t, 93 :: r') => some (.one nm t, r')
            | some (t, 44 :: r') => (rdF (rdT f) j nm r').map fun p => (.more nm t p.1, p.2)
            | _ => none
          | _ => none := by
        rw [rdF, hnm, hq, if_pos ⟨rfl, hb⟩]
        rfl
      rw [e0]
      have htl : tl (s.drop a) = s.drop (a + n) := by rw [tl_drop, hnm, hn, List.drop_drop]
      rcases Nat.lt_or_ge (a + n) s.length with hl | hl
      · refine .inr ⟨by omega, ?_⟩
        have hdr : s.drop (a + n) = s[a + n] :: s.drop (a + n + 1) := List.drop_eq_getElem_cons hl
        have hg : s[a + n]?.getD 0 = s[a + n] := by rw [List.getElem?_eq_getElem hl]; rfl
        rw [hget, hg, htl, hdr, show (58 : Int) = ((58 : Nat) : Int) from rfl, heq _ 58 (by decide)]
        by_cases h58 : s[a + n] = 58
        · refine .inr ⟨decide_eq_true h58, ?_⟩
          rw [h58]
          simp only
          cases hrd : rdT f (s.drop (a + n + 1)) with
          | none => exact .inl ⟨rfl, rfl⟩
          | some p =>
            obtain ⟨T, r2⟩ := p
            obtain ⟨h1, h2, h3⟩ := rd_pos hrd
            have hlv := T.lev_len h3
            have hlen : s.length - (a + n + 1) = T.pr.length + r2.length := by have := congrArg List.length h2; simpa using this
            have hr2 : r2 = s.drop (a + n + 1 + T.pr.length) := by
              rw [← List.drop_drop, h2]
              exact List.drop_left.symm
            refine .inr ⟨T.pr.length, T.lev, rfl, h1, by omega, by omega, ?_⟩
            rcases Nat.lt_or_ge (a + n + 1 + T.pr.length) s.length with hl3 | hl3
            · refine .inr ⟨by omega, ?_⟩
              have hdr3 : r2 = s[a + n + 1 + T.pr.length] :: s.drop (a + n + 1 + T.pr.length + 1) := by rw [hr2]; exact List.drop_eq_getElem_cons hl3
              have hg3 : s[a + n + 1 + T.pr.length]?.getD 0 = s[a + n + 1 + T.pr.length] := by rw [List.getElem?_eq_getElem hl3]; rfl
              rw [hget, hg3, show (93 : Int) = ((93 : Nat) : Int) from rfl, heq _ 93 (by decide), show (44 : Int) = ((44 : Nat) : Int) from rfl, heq _ 44 (by decide), hdr3]
              generalize s[a + n + 1 + T.pr.length] = c at *
              by_cases c1 : c = 93
              · subst c1
                refine .inl ⟨rfl, ?_⟩
                simp only [comb, Fs.pr, Fs.lev, List.length_append, List.length_cons, List.length_nil, hn]
                refine Prod.ext ?_ rfl
                simp only; omega
              · by_cases c2 : c = 44
                · subst c2
                  refine .inr (.inr ⟨rfl, rfl, ?_⟩)
                  simp only
                  rw [comb_map, hn]
                · refine .inr (.inl ⟨decide_eq_false c1, decide_eq_false c2, ?_⟩)
                  have : (match some (T, c :: s.drop (a + n + 1 + T.pr.length + 1)) with
                    | some (t, 93 :: r') => some (Fs.one nm t, r')
                    | some (t, 44 :: r') => (rdF (rdT f) j nm r').map fun p => (.more nm t p.1, p.2)
                    | _ => none) = none := by
                    split
                    · rename_i h; injection h with h; injection h with _ h; injection h with h _; exact absurd h c1
                    · rename_i h; injection h with h; injection h with _ h; injection h with h _; exact absurd h c2
                    · rfl
                  rw [this]
                  rfl
            · refine .inl ⟨by omega, ?_⟩
              have : r2 = [] := List.length_eq_zero_iff.1 (by omega)
              subst this
              rfl
        · refine .inl ⟨decide_eq_false h58, ?_⟩
          have : (match s[a + n] :: s.drop (a + n + 1) with
            | 58 :: r => match rdT f r with
              | some (t, 93 :: r') => some (Fs.one nm t, r')
              | some (t, 44 :: r') => (rdF (rdT f) j nm r').map fun p => (.more nm t p.1, p.2)
              | _ => none
            | _ => none) = none := by
            split
            · rename_i h; injection h with h _; exact absurd h h58
            · rfl
          rw [this]
          rfl
      · refine .inl ⟨by omega, ?_⟩
        rw [htl, List.drop_of_length_le hl]
        rfl
    · refine .inl ⟨rfl, ?_, ?_⟩
      · by_cases h2 : nm < b
        · exact .inl (decide_eq_true h2)
        · exact .inr ⟨decide_eq_false h2, decide_eq_true (bys_tri h2 hb)⟩
      · rw [rdF, hnm, hq, if_neg (fun h => hb h.2)]
        rfl
end Go.Proofs.YthcoppfdffhjfaaGreatDoor
/- The reference's parts: the walk. -/
namespace Go.Proofs.YthcoppfdffhjfaaGreatDoor
open Go Go.RowKit

theorem bs_mid (s : Bys) (a n : Nat) : (bs s).extract a (a + n) = bs ((s.drop a).take n) := by
  apply ByteArray.ext
  simp [bs, List.take_drop]

set_option maxRecDepth 100000 in
set_option maxHeartbeats 25600000 in
theorem parts_ok (f : Nat) (deep : Int) (hO : OneOk f deep) (_hd0 : 0 ≤ deep) : PartsOk f deep := by
  intro s w hs
  have hsz : (bs s).size = s.length := bs_size s
  have HO := Lib.hid hO
  have HS := Lib.hid hs
  clear hO hs
  go_enter Tryz.func80, Tryz.ntmps80
  go_wp2
  go_loopg [6, 7, 8, 9] 7 (fun k v6 v7 v8 v9 wr => ∃ (a lv i : Nat) (b : Bys), v6 = .int .i64 a ∧ v7 = .int .i64 lv ∧ v8 = .string (bs b) ∧ v9 = .int .i64 ((i : Int) + 1) ∧ i ≤ 6 ∧ k + i = 7 ∧ a ≤ s.length ∧ lv ≤ 1000 ∧ Hid (Below w.heap.size w wr) ∧
    Hid (pfN (rdF (rdT f) 6 [] s) = comb a lv (rdF (rdT f) (6 - i) b (s.drop a))))
  case atStart =>
    refine ⟨0, 0, 0, [], rfl, rfl, rfl, rfl, by omega, by omega, by omega, by omega, Lib.hid (Below.refl _ _), Lib.hid ?_⟩
    rw [show 6 - 0 = 6 from rfl, List.drop_zero]
    cases h : rdF (rdT f) 6 [] s with
    | none => simp [comb, pfN]
    | some p => simp [comb, pfN]
  case round =>
    obtain ⟨a, lv, i, b, rfl, rfl, rfl, rfl, hi, hk, ha, hlv, HB, hpf⟩ := hrel
    by_cases h6 : i < 6
    · have h6' : (i : Int) + 1 ≤ 6 := by omega
      have e6 : 6 - i = (5 - i) + 1 := by omega
      rw [e6] at hpf
      have hx1 : (bs s).extract a (bs s).size = bs (s.drop a) := bs_drop s _ _ (by omega)
      have hx1' : (bs s).extract a s.length = bs (s.drop a) := bs_drop s _ _ (by omega)
      have hc := cut_any (s.drop a) (by have := HS.out; simp; omega) wr
      have HC := Lib.hid hc
      have hcase := parts_case f (5 - i) a lv s b HS.out ha _ _ rfl rfl
      have hnl : (hd (s.drop a)).length ≤ s.length - a := by have := hd_le (s.drop a); simpa using this
      have hx2 : (bs s).extract a (a + (hd (s.drop a)).length) = bs (hd (s.drop a)) := by rw [bs_mid, head_take]
      have hin := fun w => refIsName_any (bs (hd (s.drop a))) w (by rw [bs_size]; have := HS.out; omega)
      simp only [isNameB_L] at hin
      have HIN := Lib.hid hin
      clear hin hc e6
      generalize hd (s.drop a) = nm at *
      generalize hn : nm.length = n at *
      have HN := Lib.hid hn
      have hale : (a : Int) ≤ ((bs s).size : Int) := by omega
      have hanle : (a : Int) + (n : Int) ≤ ((bs s).size : Int) := by omega
      have hHS := HS.out
      have han63 : (a : Int) + (n : Int) ≤ 1000 := by omega
      have hanl : (a : Int) + (n : Int) ≤ (s.length : Int) := by omega
      have hal : (a : Int) ≤ (s.length : Int) := by omega
      clear hn
      rcases hcase with ⟨hq, hco⟩ | ⟨hq, hlt, hco⟩ | ⟨hq, hlt, hrest⟩
      · have HCO := Lib.hid (hpf.out.trans hco)
        rw [hq] at HIN
        clear hco hq
        go_wp2_with fail
        refine HC.out.mono ?_
        rintro e w' ⟨rfl, rfl⟩
        go_wp2_with fail
        refine (HIN.out _).mono ?_
        rintro e w1 ⟨rfl, hb1⟩
        have HB1 := Lib.hid (HB.out.trans (hb1.mono HB.out.size))
        clear hb1
        go_wp2
        go_ret2
        exact ⟨by rw [HCO.out]; rfl, HB1.out⟩
      · have HCO := Lib.hid (hpf.out.trans hco)
        rw [hq] at HIN
        clear hco hq
        rcases hlt with hlt | ⟨hlt, heq⟩
        all_goals
          go_wp2_with fail
          refine HC.out.mono ?_
          rintro e w' ⟨rfl, rfl⟩
          go_wp2_with fail
          refine (HIN.out _).mono ?_
          rintro e w1 ⟨rfl, hb1⟩
          have HB1 := Lib.hid (HB.out.trans (hb1.mono HB.out.size))
          clear hb1
          go_wp2
          go_ret2
          exact ⟨by rw [HCO.out]; rfl, HB1.out⟩
      · rw [hq] at HIN
        obtain ⟨hlt, heq⟩ := hlt
        clear hq
        rcases hrest with ⟨hge, hco⟩ | ⟨hlt1, ⟨h58, hco⟩ | ⟨h58, hrest⟩⟩
        · have HCO := Lib.hid (hpf.out.trans hco)
          have hge2 : (s.length : Int) ≤ (a : Int) + (n : Int) := by omega
          clear hco
          go_wp2_with fail
          refine HC.out.mono ?_
          rintro e w' ⟨rfl, rfl⟩
          go_wp2_with fail
          refine (HIN.out _).mono ?_
          rintro e w1 ⟨rfl, hb1⟩
          have HB1 := Lib.hid (HB.out.trans (hb1.mono HB.out.size))
          clear hb1
          go_wp2
          go_ret2
          exact ⟨by rw [HCO.out]; rfl, HB1.out⟩
        · have HCO := Lib.hid (hpf.out.trans hco)
          have hge2 : ¬ (s.length : Int) ≤ (a : Int) + (n : Int) := by omega
          have h58b : ((((bs s)[a + n]'hlt1).toNat : Int) != 58) = true := by simpa using h58
          clear hco
          go_wp2_with fail
          refine HC.out.mono ?_
          rintro e w' ⟨rfl, rfl⟩
          go_wp2_with fail
          refine (HIN.out _).mono ?_
          rintro e w1 ⟨rfl, hb1⟩
          have HB1 := Lib.hid (HB.out.trans (hb1.mono HB.out.size))
          clear hb1
          go_wp2
          go_ret2
          exact ⟨by rw [HCO.out]; rfl, HB1.out⟩
        · have hge2 : ¬ (s.length : Int) ≤ (a : Int) + (n : Int) := by omega
          have h58b : ((((bs s)[a + n]'hlt1).toNat : Int) != 58) = false := by simpa using h58
          have hx5 : (bs s).extract (a + n + 1) (bs s).size = bs (s.drop (a + n + 1)) := bs_drop s _ _ (by omega)
          have hx5' : (bs s).extract (a + n + 1) s.length = bs (s.drop (a + n + 1)) := bs_drop s _ _ (by omega)
          have hle5 : (a : Int) + (n : Int) + 1 ≤ (s.length : Int) := by omega
          have hrd := fun w => HO.out (s.drop (a + n + 1)) w (by have := HS.out; simp; omega)
          rcases hrest with ⟨e2, hco⟩ | ⟨m, l, e2, hm0, hml, hl1, hrest⟩
          · have HCO := Lib.hid (hpf.out.trans hco)
            simp only [e2] at hrd
            have HRD := Lib.hid hrd
            clear hco hrd e2
            go_wp2_with fail
            refine HC.out.mono ?_
            rintro e w' ⟨rfl, rfl⟩
            go_wp2_with fail
            refine (HIN.out _).mono ?_
            rintro e w1 ⟨rfl, hb1⟩
            have HB1 := Lib.hid (HB.out.trans (hb1.mono HB.out.size))
            clear hb1
            go_wp2_with fail
            refine (HRD.out _).mono ?_
            rintro e w2 ⟨rfl, hb2⟩
            have HB2 := Lib.hid (HB1.out.trans (hb2.mono HB1.out.size))
            clear hb2
            go_wp2
            go_ret2
            exact ⟨by rw [HCO.out]; rfl, HB2.out⟩
          · simp only [e2] at hrd
            have HRD := Lib.hid hrd
            have hmz : ((m : Int) == 0) = false := beq_eq_false_iff_ne.2 (by omega)
            have hm63 : (a : Int) + (n : Int) + 1 + (m : Int) ≤ 1000 := by omega
            have hmnn : (0 : Int) ≤ (m : Int) := by omega
            have hmle : (m : Int) ≤ 1000 := by omega
            have hidx : ((a : Int) + (n : Int) + 1 + (m : Int)).toNat = a + n + 1 + m := by omega
            clear hrd e2
            rcases hrest with ⟨hge3, hco⟩ | ⟨hlt3, ⟨h93, hco⟩ | ⟨h93, h44, hco⟩ | ⟨h93, h44, hco⟩⟩
            · have HCO := Lib.hid (hpf.out.trans hco)
              have hge4 : (s.length : Int) ≤ (a : Int) + (n : Int) + 1 + (m : Int) := by omega
              clear hco
              go_wp2_with fail
              refine HC.out.mono ?_
              rintro e w' ⟨rfl, rfl⟩
              go_wp2_with fail
              refine (HIN.out _).mono ?_
              rintro e w1 ⟨rfl, hb1⟩
              have HB1 := Lib.hid (HB.out.trans (hb1.mono HB.out.size))
              clear hb1
              go_wp2_with fail
              refine (HRD.out _).mono ?_
              rintro e w2 ⟨rfl, hb2⟩
              have HB2 := Lib.hid (HB1.out.trans (hb2.mono HB1.out.size))
              clear hb2
              go_wp2
              go_ret2
              exact ⟨by rw [HCO.out]; rfl, HB2.out⟩
            · have HCO := Lib.hid (hpf.out.trans hco)
              have hge4 : ¬ (s.length : Int) ≤ (a : Int) + (n : Int) + 1 + (m : Int) := by omega
              clear hco
              go_wp2_with fail
              refine HC.out.mono ?_
              rintro e w' ⟨rfl, rfl⟩
              go_wp2_with fail
              refine (HIN.out _).mono ?_
              rintro e w1 ⟨rfl, hb1⟩
              have HB1 := Lib.hid (HB.out.trans (hb1.mono HB.out.size))
              clear hb1
              go_wp2_with fail
              refine (HRD.out _).mono ?_
              rintro e w2 ⟨rfl, hb2⟩
              have HB2 := Lib.hid (HB1.out.trans (hb2.mono HB1.out.size))
              clear hb2
              go_wp2
              go_ret2
              exact ⟨by rw [HCO.out]; exact ret_two (by omega) (by omega), HB2.out⟩
            · have HCO := Lib.hid (hpf.out.trans hco)
              have hge4 : ¬ (s.length : Int) ≤ (a : Int) + (n : Int) + 1 + (m : Int) := by omega
              have h44b : ((((bs s)[a + n + 1 + m]'hlt3).toNat : Int) != 44) = true := by simpa using h44
              clear hco
              go_wp2_with fail
              refine HC.out.mono ?_
              rintro e w' ⟨rfl, rfl⟩
              go_wp2_with fail
              refine (HIN.out _).mono ?_
              rintro e w1 ⟨rfl, hb1⟩
              have HB1 := Lib.hid (HB.out.trans (hb1.mono HB.out.size))
              clear hb1
              go_wp2_with fail
              refine (HRD.out _).mono ?_
              rintro e w2 ⟨rfl, hb2⟩
              have HB2 := Lib.hid (HB1.out.trans (hb2.mono HB1.out.size))
              clear hb2
              go_wp2
              go_ret2
              exact ⟨by rw [HCO.out]; rfl, HB2.out⟩
            · have HCO := Lib.hid (hpf.out.trans hco)
              have hge4 : ¬ (s.length : Int) ≤ (a : Int) + (n : Int) + 1 + (m : Int) := by omega
              have h44b : ((((bs s)[a + n + 1 + m]'hlt3).toNat : Int) != 44) = false := by simpa using h44
              have HNX : Hid (i < 6 ∧ gk + i = 7 ∧ a + n + 1 + m + 1 ≤ s.length ∧ lv ≤ 1000 ∧ l ≤ 1000) := Lib.hid ⟨h6, hk, by omega, hlv, hl1⟩
              clear hco
              go_wp2_with fail
              refine HC.out.mono ?_
              rintro e w' ⟨rfl, rfl⟩
              go_wp2_with fail
              refine (HIN.out _).mono ?_
              rintro e w1 ⟨rfl, hb1⟩
              have HB1 := Lib.hid (HB.out.trans (hb1.mono HB.out.size))
              clear hb1
              go_wp2_with fail
              refine (HRD.out _).mono ?_
              rintro e w2 ⟨rfl, hb2⟩
              have HB2 := Lib.hid (HB1.out.trans (hb2.mono HB1.out.size))
              clear hb2
              go_wp2
              go_roundg (gk - 1)
              case measure => have := HNX.out; omega
              case rel =>
                have hnx := HNX.out
                refine ⟨a + n + 1 + m + 1, max lv l, i + 1, nm, by go_num, by go_num, rfl, by go_num, by omega, by omega, by omega, by omega, HB2, Lib.hid ?_⟩
                rw [HCO.out, show 6 - (i + 1) = 5 - i by omega]
    · have hi6 : i = 6 := by omega
      subst hi6
      clear h6
      go_wp2
      go_ret2
      exact ⟨by rw [hpf.out]; rfl, HB.out⟩
end Go.Proofs.YthcoppfdffhjfaaGreatDoor
/- The reference's read, at any depth, and Check. -/
namespace Go.Proofs.YthcoppfdffhjfaaGreatDoor
open Go Go.RowKit

theorem ret_pair {a b : Int} {p : Int × Int} (h : (a, b) = p) : Ending.returned (.tuple #[.int .i64 a, .int .i64 b]) = .returned (.tuple #[.int .i64 p.1, .int .i64 p.2]) := by rw [← h]
theorem rdN_bk (n : Bys) (f : Nat) (r : Bys) (mk : Ty → Ty) (hmk : ∀ T : Ty, (mk T).pr.length = n.length + T.pr.length + 2 ∧ (mk T).lev = T.lev + 1) :
    rdN ((rdB (rdT f) (91 :: r)).map fun p => (mk p.1, p.2)) = bkN n.length (rdT f r) := by
  have e0 : rdB (rdT f) (91 :: r) = match rdT f r with | some (t, 93 :: r') => some (t, r') | _ => none := rfl
  rw [e0]
  generalize rdT f r = q
  cases q with
  | none => rfl
  | some p =>
    obtain ⟨T, r2⟩ := p
    cases r2 with
    | nil => rfl
    | cons c r3 =>
      by_cases h93 : c = 93
      · subst h93
        simp only [Option.map_some, rdN, bkN, hmk]
      · have e2 : bkN n.length (some (T, c :: r3)) = (0, 0) := by
          unfold bkN
          split
          · rename_i heq
            injection heq with heq
            injection heq with _ heq
            injection heq with heq _
            exact absurd heq h93
          · rfl
        rw [e2]
        split
        · rename_i heq
          injection heq with heq
          injection heq with _ heq
          injection heq with heq _
          exact absurd heq h93
        · rfl
theorem tl_cases (s : Bys) : (∃ r, tl s = 91 :: r) ∨ ∀ r, tl s ≠ 91 :: r := by
  cases h : tl s with
  | nil => exact .inr fun r e => by cases e
  | cons c r =>
    by_cases hc : c = 91
    · subst hc; exact .inl ⟨r, rfl⟩
    · exact .inr fun r' e => by injection e with e _; exact hc e

theorem read_ok : ∀ f : Nat, f ≤ 101 → OneOk f (101 - f)
  | 0, _ => fun s w _ => by
    refine (read_deep s (101 - (0 : Nat)) (by omega) w).mono ?_
    rintro e w' ⟨rfl, hb⟩
    exact ⟨rfl, hb⟩
  | f + 1, hf => fun s w hs => by
    have ih := read_ok f (by omega)
    have hp := parts_ok f (101 - f) ih (by omega)
    have hd1 : ((101 : Int) - ((f + 1 : Nat) : Int)) + 1 = 101 - (f : Nat) := by omega
    have hdp : (101 : Int) - ((f + 1 : Nat) : Int) ≤ 100 := by omega
    have hd0 : (0 : Int) ≤ 101 - ((f + 1 : Nat) : Int) := by omega
    have ih' : OneOk f ((101 - ((f + 1 : Nat) : Int)) + 1) := by rw [hd1]; exact ih
    have hp' : PartsOk f ((101 - ((f + 1 : Nat) : Int)) + 1) := by rw [hd1]; exact hp
    by_cases h0 : s.take 2 = [63, 116]
    · have e : rdT (f + 1) s = some (.par, s.drop 2) := by rw [rdT, if_pos h0]
      rw [e]
      exact read_par s _ hdp h0 w
    · by_cases h1 : hd s = kInt
      · have e : rdT (f + 1) s = some (.int, tl s) := by rw [rdT, if_neg h0, if_pos h1]
        rw [e]
        refine (read_const s _ hdp hd0 hs h0 (.inl h1) w).mono ?_
        rintro e w' ⟨rfl, hb⟩
        exact ⟨by rw [h1]; rfl, hb⟩
      · by_cases h2 : hd s = kBool
        · have e : rdT (f + 1) s = some (.bool, tl s) := by rw [rdT, if_neg h0, if_neg h1, if_pos h2]
          rw [e]
          refine (read_const s _ hdp hd0 hs h0 (.inr (.inl h2)) w).mono ?_
          rintro e w' ⟨rfl, hb⟩
          exact ⟨by rw [h2]; rfl, hb⟩
        · by_cases h3 : hd s = kNull
          · have e : rdT (f + 1) s = some (.null, tl s) := by rw [rdT, if_neg h0, if_neg h1, if_neg h2, if_pos h3]
            rw [e]
            refine (read_const s _ hdp hd0 hs h0 (.inr (.inr h3)) w).mono ?_
            rintro e w' ⟨rfl, hb⟩
            exact ⟨by rw [h3]; rfl, hb⟩
          · by_cases h4 : hd s = kRecord ∨ hd s = kOneof
            · rcases tl_cases s with ⟨r, hr⟩ | hr
              · have e : rdT (f + 1) s = (rdF (rdT f) 6 [] r).map fun p => (.rcd (decide (hd s = kOneof)) p.1, p.2) := by
                  rw [rdT, if_neg h0, if_neg h1, if_neg h2, if_neg h3, if_pos h4, hr]
                  rfl
                rw [e]
                refine (read_rcd s r f _ hp' hdp hd0 hs h0 h4 hr w).mono ?_
                rintro e w' ⟨rfl, hb⟩
                refine ⟨?_, hb⟩
                have hw : rcdWord (decide (hd s = kOneof)) = hd s := by
                  rcases h4 with h | h
                  · rw [h]; rfl
                  · rw [h]; rfl
                cases rdF (rdT f) 6 [] r with
                | none => rfl
                | some p =>
                  refine ret_pair (p := rdN (some (Ty.rcd (decide (hd s = kOneof)) p.1, p.2))) ?_
                  simp only [rdN, Ty.pr, Ty.lev, hw, List.length_append, List.length_cons]
                  refine Prod.ext ?_ rfl
                  simp only
                  omega
              · have e : rdT (f + 1) s = none := by
                  rw [rdT, if_neg h0, if_neg h1, if_neg h2, if_neg h3, if_pos h4]
                  split
                  · rename_i r heq
                    exact absurd heq (hr r)
                  · rfl
                rw [e]
                exact read_rcd_no s _ hdp hd0 hs h0 h4 hr w
            · by_cases h5 : hd s = kArray
              · have e : rdT (f + 1) s = (rdB (rdT f) (tl s)).map fun p => (.arr p.1, p.2) := by
                  rw [rdT, if_neg h0, if_neg h1, if_neg h2, if_neg h3, if_neg h4, if_pos h5]
                rw [e]
                rcases tl_cases s with ⟨r, hr⟩ | hr
                · rw [hr, rdN_bk (hd s) f r Ty.arr fun T => ⟨by rw [h5]; simp [Ty.pr]; omega, rfl⟩]
                  exact read_bk s r f _ ih' hdp hd0 hs h0 (.inl h5) hr w
                · have e2 : rdB (rdT f) (tl s) = none := by
                    unfold rdB
                    split
                    · rename_i r heq
                      exact absurd heq (hr r)
                    · rfl
                  rw [e2]
                  exact read_arr_no s _ hdp hd0 hs h0 h5 hr w
              · cases h6 : isNameL (hd s) with
                | true =>
                  rcases tl_cases s with ⟨r, hr⟩ | hr
                  · have e : rdT (f + 1) s = (rdB (rdT f) (91 :: r)).map fun p => (.app (hd s) p.1, p.2) := by
                      rw [rdT, if_neg h0, if_neg h1, if_neg h2, if_neg h3, if_neg h4, if_neg h5, if_pos h6, hr]
                      rfl
                    rw [e, rdN_bk (hd s) f r (Ty.app (hd s)) fun T => ⟨by simp [Ty.pr]; omega, rfl⟩]
                    exact read_bk s r f _ ih' hdp hd0 hs h0 (.inr h6) hr w
                  · have e : rdT (f + 1) s = some (.nam (hd s), tl s) := by
                      rw [rdT, if_neg h0, if_neg h1, if_neg h2, if_neg h3, if_neg h4, if_neg h5, if_pos h6]
                      split
                      · rename_i r heq
                        exact absurd heq (hr r)
                      · rfl
                    rw [e]
                    refine (read_nam s _ hdp hd0 hs h0 h6 hr w).mono ?_
                    rintro e w' ⟨rfl, hb⟩
                    exact ⟨rfl, hb⟩
                | false =>
                  have e : rdT (f + 1) s = none := by
                    rw [rdT, if_neg h0, if_neg h1, if_neg h2, if_neg h3, if_neg h4, if_neg h5, h6, if_neg (by decide)]
                  rw [e]
                  exact read_none s _ hdp hd0 hs h0 h6 h1 h2 h3 h5 (fun h => h4 (.inl h)) (fun h => h4 (.inr h)) w
/-- read of the reference, at its top. -/
theorem read_top (s : Bys) (hs : s.length ≤ 1000) (w : World) : Calls Tryz.prog 51 #[.string (bs s), .int .i64 0] w fun e w' => e = .returned (.tuple #[.int .i64 (rdN (rdT 101 s)).1, .int .i64 (rdN (rdT 101 s)).2]) ∧ Below w.heap.size w w' :=
  read_ok 101 (Nat.le_refl _) s w hs
end Go.Proofs.YthcoppfdffhjfaaGreatDoor
/- The reference's Check, Kind, Level, Open, Arg, Base. -/
namespace Go.Proofs.YthcoppfdffhjfaaGreatDoor
open Go Go.RowKit

/-- What read says of a short text, and what Check makes of it. -/
theorem chk_read (s : Bys) (h : s.length ≤ 100) :
    (rdN (rdT 101 s) = (0, 0) ∧ chk s = 4) ∨ ∃ n l : Nat, rdN (rdT 101 s) = ((n : Int), (l : Int)) ∧ 0 < n ∧ ((n ≠ s.length ∧ chk s = 4) ∨ (n = s.length ∧ ((6 < l ∧ chk s = 2) ∨ (l ≤ 6 ∧ chk s = 0)))) := by
  have e : chk s = match tyOf s with | none => 4 | some T => if 6 < T.lev then 2 else 0 := by
    unfold chk
    rw [if_neg (by omega)]
    rfl
  rw [e]
  cases hr : rdT 101 s with
  | none =>
    refine .inl ⟨rfl, ?_⟩
    unfold tyOf
    rw [hr]
  | some p =>
    obtain ⟨T, r⟩ := p
    obtain ⟨h1, h2, _⟩ := rd_pos hr
    refine .inr ⟨T.pr.length, T.lev, rfl, h1, ?_⟩
    cases r with
    | nil =>
      have ht : tyOf s = some T := by unfold tyOf; rw [hr]
      rw [ht]
      refine .inr ⟨by rw [h2]; simp, ?_⟩
      by_cases h6 : 6 < T.lev
      · exact .inl ⟨h6, if_pos h6⟩
      · exact .inr ⟨by omega, if_neg h6⟩
    | cons c r =>
      have ht : tyOf s = none := by unfold tyOf; rw [hr]
      rw [ht]
      exact .inl ⟨by rw [h2]; simp, rfl⟩

set_option maxRecDepth 100000 in
set_option maxHeartbeats 6400000 in
/-- Check of the reference. -/
theorem refCheck_any (s : Bys) (w : World) : Calls Tryz.prog 22 #[.string (bs s)] w fun e w' => e = .returned (.int .i64 (chk s)) ∧ Below w.heap.size w w' := by
  have hsz : (bs s).size = s.length := bs_size s
  by_cases h1 : 100 < s.length
  · have h2 : (100 : Int) < (s.length : Int) := by omega
    have hc : Hid (chk s = 2) := Lib.hid (by unfold chk; rw [if_pos h1])
    clear h1
    go_enter Tryz.func22, Tryz.ntmps22
    go_wp2
    go_ret
    exact ⟨ret_int hc.out.symm, Below.refl _ _⟩
  · have h2 : ¬ (100 : Int) < (s.length : Int) := by omega
    have hr := read_top s (by omega) w
    rcases chk_read s (by omega) with ⟨e1, e2⟩ | ⟨n, l, e1, hn0, ⟨hne, e2⟩ | ⟨he, ⟨h6, e2⟩ | ⟨h6, e2⟩⟩⟩
    all_goals
      rw [e1] at hr
      have HR := Lib.hid hr
      have HC := Lib.hid e2
      clear hr e1 e2 h1
    · go_enter Tryz.func22, Tryz.ntmps22
      go_wp2_with fail
      refine HR.out.mono ?_
      rintro e w1 ⟨rfl, hb⟩
      have HB := Lib.hid hb
      clear hb
      go_wp2
      go_ret
      exact ⟨ret_int HC.out.symm, HB.out⟩
    · have z1 : ((n : Int) == 0) = false := beq_eq_false_iff_ne.2 (by omega)
      have z2 : ((n : Int) != (s.length : Int)) = true := bne_iff_ne.2 (by omega)
      clear hne
      go_enter Tryz.func22, Tryz.ntmps22
      go_wp2_with fail
      refine HR.out.mono ?_
      rintro e w1 ⟨rfl, hb⟩
      have HB := Lib.hid hb
      clear hb
      go_wp2
      go_ret
      exact ⟨ret_int HC.out.symm, HB.out⟩
    · have z1 : ((n : Int) == 0) = false := beq_eq_false_iff_ne.2 (by omega)
      have z2 : ((n : Int) != (s.length : Int)) = false := by rw [he]; simp
      have z3 : (6 : Int) < (l : Int) := by omega
      clear he
      go_enter Tryz.func22, Tryz.ntmps22
      go_wp2_with fail
      refine HR.out.mono ?_
      rintro e w1 ⟨rfl, hb⟩
      have HB := Lib.hid hb
      clear hb
      go_wp2
      go_ret
      exact ⟨ret_int HC.out.symm, HB.out⟩
    · have z1 : ((n : Int) == 0) = false := beq_eq_false_iff_ne.2 (by omega)
      have z2 : ((n : Int) != (s.length : Int)) = false := by rw [he]; simp
      have z3 : ¬ (6 : Int) < (l : Int) := by omega
      clear he
      go_enter Tryz.func22, Tryz.ntmps22
      go_wp2_with fail
      refine HR.out.mono ?_
      rintro e w1 ⟨rfl, hb⟩
      have HB := Lib.hid hb
      clear hb
      go_wp2
      go_ret
      exact ⟨ret_int HC.out.symm, HB.out⟩

set_option maxRecDepth 100000 in
set_option maxHeartbeats 6400000 in
theorem refKindT_any (s : Bys) (w : World) : Calls Tryz.prog 16 #[.string (bs s)] w fun e w' => e = .returned (.tuple #[.int .u8 (kindT s).1, .int .i64 (kindT s).2]) ∧ Below w.heap.size w w' := by
  by_cases hc : chk s = 0
  · obtain ⟨T, hT, rfl⟩ := chk_ok hc
    have HC := Lib.hid hc
    have HK := Lib.hid (show kindT T.pr = (T.kind, 0) from ofT_good hT)
    have HT := Lib.hid hT
    clear hc hT
    go_enter Tryz.func16, Tryz.ntmps16
    go_wp2_with fail
    refine (refCheck_any T.pr w).mono ?_
    rintro e w1 ⟨rfl, hb⟩
    have HB := Lib.hid hb
    clear hb
    rw [HC.out]
    go_wp2_with fail
    refine (refKind_any T HT.out.wf (by have := HT.out.len; omega) w1).mono ?_
    rintro e w2 ⟨rfl, rfl⟩
    go_wp2
    go_ret2
    rw [HK.out]
    exact ⟨rfl, HB.out⟩
  · have HK := Lib.hid (show kindT s = (0, chk s) from ofT_err hc)
    have z2 : (chk s != 0) = true := bne_iff_ne.2 hc
    clear hc
    go_enter Tryz.func16, Tryz.ntmps16
    go_wp2_with fail
    refine (refCheck_any s w).mono ?_
    rintro e w1 ⟨rfl, hb⟩
    have HB := Lib.hid hb
    clear hb
    go_wp2
    go_ret2
    rw [HK.out]
    exact ⟨rfl, HB.out⟩

theorem rd_good {T : Ty} (h : Good T) : rdN (rdT 101 T.pr) = (((T.pr.length : Nat) : Int), ((T.lev : Nat) : Int)) := by
  have := rdT_back 101 T h.wf (by have := h.lev; omega) [] stop_nil
  rw [List.append_nil] at this
  rw [this]
  rfl

set_option maxRecDepth 100000 in
set_option maxHeartbeats 6400000 in
theorem refLevel_any (s : Bys) (w : World) : Calls Tryz.prog 18 #[.string (bs s)] w fun e w' => e = .returned (.tuple #[.int .i64 (levT s).1, .int .i64 (levT s).2]) ∧ Below w.heap.size w w' := by
  by_cases hc : chk s = 0
  · obtain ⟨T, hT, rfl⟩ := chk_ok hc
    have HC := Lib.hid hc
    have HK := Lib.hid (levT_good hT)
    have hr := fun w => read_top T.pr (by have := hT.len; omega) w
    simp only [rd_good hT] at hr
    have HR := Lib.hid hr
    clear hc hT hr
    go_enter Tryz.func18, Tryz.ntmps18
    go_wp2_with fail
    refine (refCheck_any T.pr w).mono ?_
    rintro e w1 ⟨rfl, hb⟩
    have HB := Lib.hid hb
    clear hb
    rw [HC.out]
    go_wp2_with fail
    refine (HR.out w1).mono ?_
    rintro e w2 ⟨rfl, hb⟩
    have HB2 := Lib.hid (HB.out.trans (hb.mono HB.out.size))
    clear hb
    go_wp2
    go_ret2
    rw [HK.out]
    exact ⟨rfl, HB2.out⟩
  · have HK : Hid (levT s = (0, chk s)) := Lib.hid (by unfold levT; rw [if_pos hc])
    have z2 : (chk s != 0) = true := bne_iff_ne.2 hc
    clear hc
    go_enter Tryz.func18, Tryz.ntmps18
    go_wp2_with fail
    refine (refCheck_any s w).mono ?_
    rintro e w1 ⟨rfl, hb⟩
    have HB := Lib.hid hb
    clear hb
    go_wp2
    go_ret2
    rw [HK.out]
    exact ⟨rfl, HB.out⟩

set_option maxRecDepth 100000 in
set_option maxHeartbeats 6400000 in
theorem refOpenT_any (s : Bys) (w : World) : Calls Tryz.prog 20 #[.string (bs s)] w fun e w' => e = .returned (.tuple #[.bool (openT s).1, .int .i64 (openT s).2]) ∧ Below w.heap.size w w' := by
  by_cases hc : chk s = 0
  · have hl : s.length ≤ 100 := by
      obtain ⟨T, hT, rfl⟩ := chk_ok hc
      exact hT.len
    have HC := Lib.hid hc
    have HL := Lib.hid hl
    have HO : Hid (openT s = (openB s, 0)) := Lib.hid (by unfold openT; rw [hc]; rfl)
    clear hc hl
    go_enter Tryz.func20, Tryz.ntmps20
    go_wp2_with fail
    refine (refCheck_any s w).mono ?_
    rintro e w1 ⟨rfl, hb⟩
    have HB := Lib.hid hb
    clear hb
    rw [HC.out]
    go_wp2_with fail
    refine (refOpen_any s (by have := HL.out; omega) w1).mono ?_
    rintro e w2 ⟨rfl, rfl⟩
    go_wp2
    go_ret2
    rw [HO.out]
    exact ⟨rfl, HB.out⟩
  · have z1 : (chk s == 0) = false := beq_eq_false_iff_ne.2 hc
    have HO : Hid (openT s = (false, chk s)) := Lib.hid (by unfold openT; rw [z1]; rfl)
    clear hc
    go_enter Tryz.func20, Tryz.ntmps20
    go_wp2_with fail
    refine (refCheck_any s w).mono ?_
    rintro e w1 ⟨rfl, hb⟩
    have HB := Lib.hid hb
    clear hb
    go_wp2
    go_ret2
    rw [HO.out]
    exact ⟨rfl, HB.out⟩
end Go.Proofs.YthcoppfdffhjfaaGreatDoor
