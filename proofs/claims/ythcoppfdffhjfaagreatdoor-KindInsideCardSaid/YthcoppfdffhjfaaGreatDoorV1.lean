/- The reference: small functions. -/
import Derived.Test.YthcoppfdffhjfaaGreatDoorRm
namespace Go.Proofs.YthcoppfdffhjfaaGreatDoor
open Go Go.RowKit

theorem hd_next {s : Bys} {k : Nat} {c : UInt8} (hk : s[k]? = some c) (h : (s.take k).all ld = true) (hc : ld c = false) : (hd s).length = k := by
  have hlt := (List.getElem?_eq_some_iff.1 hk).1
  have e : s = s.take k ++ c :: s.drop (k + 1) := by
    conv => lhs; rw [← List.take_append_drop k s]
    rw [List.drop_eq_getElem_cons hlt, (List.getElem?_eq_some_iff.1 hk).2]
  have hx : hd (s.take k ++ c :: s.drop (k + 1)) = s.take k := hd_app (fun d hd' => List.all_eq_true.1 h d hd') (fun d r' he => by injection he with he _; rw [← he]; exact hc)
  rw [← e] at hx
  rw [hx, List.length_take]
  omega
theorem hd_all {s : Bys} (h : s.all ld = true) : (hd s).length = s.length := by
  have : hd s = s := by
    have := hd_app (n := s) (r := []) (fun d hd' => List.all_eq_true.1 h d hd') (fun d r' he => by cases he)
    simpa using this
  rw [this]
theorem bs_at (s : Bys) (k : Nat) (_h : k < s.length) (h2 : k < (bs s).size) : (((bs s)[k]'h2).toNat : Int) = (s[k].toNat : Int) := by
  simp [bs]
  rfl

set_option maxRecDepth 100000 in
set_option maxHeartbeats 12800000 in
theorem cut_any (s : Bys) (hs : s.length ≤ 100000) (w : World) : Calls Tryz.prog 56 #[.string (bs s)] w fun e w' => e = .returned (.int .i64 ((hd s).length : Nat)) ∧ w = w' := by
  have hsz : (bs s).size = s.length := bs_size s
  go_enter Tryz.func56, Tryz.ntmps56
  go_wp2
  go_loopw [3] (fun v3 wr => ∃ k : Nat, k ≤ s.length ∧ v3 = .int .i64 k ∧ (s.take k).all ld = true ∧ wr = w) (fun i _ => s.length - (intOf i).toNat)
  case atStart => exact ⟨0, Nat.zero_le _, rfl, by simp, rfl⟩
  case round =>
    obtain ⟨k, hk, rfl, hall, rfl⟩ := hrel
    have HALL := Lib.hid hall
    clear hall
    by_cases hlt : k < s.length
    · have hlt2 : k < (bs s).size := by omega
      have hpk : s[k]? = some s[k] := List.getElem?_eq_getElem hlt
      have hb := bs_at s k hlt hlt2
      have yes : ld s[k] = true → (s.take (k + 1)).all ld = true := fun h => (all_upto hpk HALL.out).trans h
      have no : ld s[k] = false → (hd s).length = k := fun h => hd_next hpk HALL.out h
      have YES := Lib.hid yes
      have NO := Lib.hid no
      have hldd : ld s[k] = isLD (s[k].toNat : Int) := rfl
      have HLD := Lib.hid hldd
      rw [← hb] at HLD
      have hk63 : (k : Int) + 1 ≤ 9223372036854775807 := by omega
      clear hpk yes no hb hldd
      by_cases g1 : (97 : Int) ≤ (((bs s)[k]'hlt2).toNat : Int)
      · by_cases g2 : (((bs s)[k]'hlt2).toNat : Int) ≤ 122
        · go_wp2
          go_roundw
          case rel => exact ⟨k + 1, by omega, by go_num, YES.out (by rw [HLD.out]; simp [isLD, isLet, isDig]; omega), trivial⟩
          case measure => simp [intOf]; omega
        · have g3 : (48 : Int) ≤ (((bs s)[k]'hlt2).toNat : Int) := by omega
          have g4 : ¬ (((bs s)[k]'hlt2).toNat : Int) ≤ 57 := by omega
          go_wp2
          go_ret
          exact ⟨ret_int (by rw [NO.out (by rw [HLD.out]; simp [isLD, isLet, isDig]; omega)]), rfl⟩
      · by_cases g3 : (48 : Int) ≤ (((bs s)[k]'hlt2).toNat : Int)
        · by_cases g4 : (((bs s)[k]'hlt2).toNat : Int) ≤ 57
          · go_wp2
            go_roundw
            case rel => exact ⟨k + 1, by omega, by go_num, YES.out (by rw [HLD.out]; simp [isLD, isLet, isDig]; omega), trivial⟩
            case measure => simp [intOf]; omega
          · go_wp2
            go_ret
            exact ⟨ret_int (by rw [NO.out (by rw [HLD.out]; simp [isLD, isLet, isDig]; omega)]), rfl⟩
        · go_wp2
          go_ret
          exact ⟨ret_int (by rw [NO.out (by rw [HLD.out]; simp [isLD, isLet, isDig]; omega)]), rfl⟩
    · have hkl : k = s.length := by omega
      subst hkl
      rw [List.take_length] at HALL
      have hkk : ¬ ((s.length : Int) < ((bs s).size : Int)) := by omega
      go_wp2
      go_ret
      exact ⟨ret_int (by rw [hd_all HALL.out]), rfl⟩

set_option maxRecDepth 100000 in
set_option maxHeartbeats 12800000 in
theorem refOpen_any (s : Bys) (hs : s.length ≤ 100000) (w : World) : Calls Tryz.prog 53 #[.string (bs s)] w fun e w' => e = .returned (.bool (openB s)) ∧ w = w' := by
  have hsz : (bs s).size = s.length := bs_size s
  go_enter Tryz.func53, Tryz.ntmps53
  go_wp2
  go_loopw [3] (fun v3 wr => ∃ k : Nat, k ≤ s.length ∧ v3 = .int .i64 k ∧ openB (s.take k) = false ∧ wr = w) (fun i _ => s.length - (intOf i).toNat)
  case atStart => exact ⟨0, Nat.zero_le _, rfl, rfl, rfl⟩
  case round =>
    obtain ⟨k, hk, rfl, hall, rfl⟩ := hrel
    have HALL := Lib.hid hall
    clear hall
    by_cases hlt : k < s.length
    · have hlt2 : k < (bs s).size := by omega
      have hpk : s[k]? = some s[k] := List.getElem?_eq_getElem hlt
      have hb := bs_at s k hlt hlt2
      have yes : s[k] = 63 → openB s = true := fun h => by
        unfold openB
        rw [List.contains_iff_mem, ← h]
        exact List.getElem_mem hlt
      have no : s[k] ≠ 63 → openB (s.take (k + 1)) = false := fun h => by
        have h0 := HALL.out
        unfold openB at h0 ⊢
        rw [List.take_add_one, hpk]
        simp only [Option.toList_some, List.contains_append, h0, Bool.false_or]
        simp
        exact fun e => h e.symm
      have YES := Lib.hid yes
      have NO := Lib.hid no
      have h63 : ((bs s)[k]'hlt2).toNat = 63 ↔ s[k] = 63 := by
        have hb' : ((bs s)[k]'hlt2).toNat = s[k].toNat := by omega
        rw [hb']
        constructor
        · intro h
          exact UInt8.toNat_inj.1 h
        · intro h; rw [h]; rfl
      have H63 := Lib.hid h63
      clear hpk yes no hb h63
      by_cases g1 : ((bs s)[k]'hlt2).toNat = 63
      · have g2 : ((((bs s)[k]'hlt2).toNat : Int) == 63) = true := by rw [g1]; rfl
        have h63 := H63.out.1 g1
        have HY := Lib.hid (YES.out h63)
        clear h63 g1
        go_wp2
        go_ret
        exact ⟨ret_bool HY.out.symm, rfl⟩
      · have g2 : ((((bs s)[k]'hlt2).toNat : Int) == 63) = false := beq_eq_false_iff_ne.2 (by omega)
        have HY := Lib.hid (NO.out fun h => g1 (H63.out.2 h))
        clear g1
        go_wp2
        go_roundw
        case rel => exact ⟨k + 1, by omega, by go_num, HY.out, trivial⟩
        case measure => simp [intOf]; omega
    · have hkl : k = s.length := by omega
      subst hkl
      rw [List.take_length] at HALL
      have hkk : ¬ ((s.length : Int) < ((bs s).size : Int)) := by omega
      go_wp2
      go_ret
      exact ⟨ret_bool HALL.out.symm, rfl⟩
end Go.Proofs.YthcoppfdffhjfaaGreatDoor
/- The reference: kind and argument of a text that is a type. -/
namespace Go.Proofs.YthcoppfdffhjfaaGreatDoor
open Go Go.RowKit

/-- The name that a type begins with. -/
def headOf : Ty → Bys
  | .par => []
  | T => frontOf T
theorem hd_front (T : Ty) (h : T.wf) : hd T.pr = headOf T := by
  have k1 : ∀ k : Bys, (∀ c ∈ k, ld c = true) → hd k = k := fun k hk => by
    have := hd_app (n := k) (r := []) hk (fun d r' he => by cases he)
    simpa using this
  cases T with
  | int => decide
  | bool => decide
  | null => decide
  | par => decide
  | nam n => exact k1 n (name_ld h)
  | arr t => exact hd_app (n := kArray) (words_ld _ kArray_mem) (noLd_91 _)
  | app n t => exact hd_app (name_ld h.1) (noLd_91 _)
  | rcd o F => exact hd_app (rcdWord_ld o) (noLd_91 _)
theorem bs_take (s : Bys) (n : Nat) : (bs s).extract 0 n = bs (s.take n) := by
  apply ByteArray.ext
  simp [bs]
theorem head_take (s : Bys) : s.take (hd s).length = hd s := by
  conv => lhs; arg 2; rw [← hd_tl s]
  exact List.take_left

set_option maxRecDepth 100000 in
set_option maxHeartbeats 3200000 in
theorem refKind_any (T : Ty) (h : T.wf) (hl : T.pr.length ≤ 100000) (w : World) : Calls Tryz.prog 49 #[.string (bs T.pr)] w fun e w' => e = .returned (.int .u8 T.kind) ∧ w = w' := by
  have hc := cut_any T.pr hl w
  have hx : (bs T.pr).extract 0 (hd T.pr).length = bs (headOf T) := by rw [bs_take, head_take, hd_front T h]
  have hle : (hd T.pr).length ≤ (bs T.pr).size := by rw [bs_size]; exact (List.takeWhile_prefix _).length_le
  generalize hn : (hd T.pr).length = n at *
  have HC := Lib.hid hc
  clear hc hn
  go_enter Tryz.func49, Tryz.ntmps49
  go_wp2_with fail
  refine HC.out.mono ?_
  rintro e w' ⟨rfl, rfl⟩
  have hle2 : (n : Int) ≤ ((bs T.pr).size : Int) := by omega
  have hcases : (T = .int) ∨ (T = .bool) ∨ (T = .null) ∨ (T = .par) ∨ (∃ t, T = .arr t) ∨ (∃ F, T = .rcd false F) ∨ (∃ F, T = .rcd true F) ∨ (∃ m, isNameL m = true ∧ headOf T = m ∧ T.kind = 7) := by
    cases T with
    | int => simp
    | bool => simp
    | null => simp
    | par => simp
    | arr t => simp
    | rcd o F => cases o <;> simp
    | nam m => exact .inr (.inr (.inr (.inr (.inr (.inr (.inr ⟨m, h, rfl, rfl⟩))))))
    | app m t => exact .inr (.inr (.inr (.inr (.inr (.inr (.inr ⟨m, h.1, rfl, rfl⟩))))))
  rcases hcases with hT | hT | hT | hT | ⟨t, hT⟩ | ⟨F, hT⟩ | ⟨F, hT⟩ | ⟨m, hq, hT, hk⟩
  · have HT := Lib.hid hT
    have ht : (bs (headOf T)).toList = [105, 110, 116] := by rw [hT, ByteArray.toList_eq, bs_data]; rfl
    clear hT
    go_wp2
    go_ret
    exact ⟨ret_int (by rw [HT.out]; rfl), rfl⟩
  · have HT := Lib.hid hT
    have ht : (bs (headOf T)).toList = [98, 111, 111, 108] := by rw [hT, ByteArray.toList_eq, bs_data]; rfl
    clear hT
    go_wp2
    go_ret
    exact ⟨ret_int (by rw [HT.out]; rfl), rfl⟩
  · have HT := Lib.hid hT
    have ht : (bs (headOf T)).toList = [110, 117, 108, 108] := by rw [hT, ByteArray.toList_eq, bs_data]; rfl
    clear hT
    go_wp2
    go_ret
    exact ⟨ret_int (by rw [HT.out]; rfl), rfl⟩
  · have HT := Lib.hid hT
    have ht : (bs (headOf T)).toList = ([] : Bys) := by rw [hT, ByteArray.toList_eq, bs_data]; rfl
    clear hT
    go_wp2
    go_ret
    exact ⟨ret_int (by rw [HT.out]; rfl), rfl⟩
  · have HT := Lib.hid hT
    have ht : (bs (headOf T)).toList = [97, 114, 114, 97, 121] := by rw [hT, ByteArray.toList_eq, bs_data]; rfl
    clear hT
    go_wp2
    go_ret
    exact ⟨ret_int (by rw [HT.out]; rfl), rfl⟩
  · have HT := Lib.hid hT
    have ht : (bs (headOf T)).toList = [114, 101, 99, 111, 114, 100] := by rw [hT, ByteArray.toList_eq, bs_data]; rfl
    clear hT
    go_wp2
    go_ret
    exact ⟨ret_int (by rw [HT.out]; rfl), rfl⟩
  · have HT := Lib.hid hT
    have ht : (bs (headOf T)).toList = [111, 110, 101, 111, 102] := by rw [hT, ByteArray.toList_eq, bs_data]; rfl
    clear hT
    go_wp2
    go_ret
    exact ⟨ret_int (by rw [HT.out]; rfl), rfl⟩
  · have q := name_not hq
    have ht : (bs (headOf T)).toList = m := by rw [hT, ByteArray.toList_eq, bs_data]
    have q0 : m.isEmpty = false := by have := name_ne hq; simpa using this
    have q0' : ¬ m = [] := name_ne hq
    have q1 : (m == [105, 110, 116]) = false := beq_eq_false_iff_ne.2 q.1
    have q2 : (m == [98, 111, 111, 108]) = false := beq_eq_false_iff_ne.2 q.2.1
    have q3 : (m == [110, 117, 108, 108]) = false := beq_eq_false_iff_ne.2 q.2.2.1
    have q4 : (m == [97, 114, 114, 97, 121]) = false := beq_eq_false_iff_ne.2 q.2.2.2.1
    have q5 : (m == [114, 101, 99, 111, 114, 100]) = false := beq_eq_false_iff_ne.2 q.2.2.2.2.1
    have q6 : (m == [111, 110, 101, 111, 102]) = false := beq_eq_false_iff_ne.2 q.2.2.2.2.2.1
    have HK := Lib.hid hk
    clear q hT hk
    go_wp2
    go_ret
    exact ⟨ret_int (by rw [HK.out]), rfl⟩
end Go.Proofs.YthcoppfdffhjfaaGreatDoor
/- The reference's reading: plain words. -/
namespace Go.Proofs.YthcoppfdffhjfaaGreatDoor
open Go Go.RowKit

/-- What the reference's read answers. -/
def rdN : Option (Ty × Bys) → Int × Int
  | some (T, _) => ((T.pr.length : Nat), (T.lev : Nat))
  | none => (0, 0)
def pfN : Option (Fs × Bys) → Int × Int
  | some (F, _) => ((F.pr.length : Nat), (F.lev : Nat))
  | none => (0, 0)
/-- read keeps its word at a depth. -/
def OneOk (f : Nat) (deep : Int) : Prop := ∀ (s : Bys) (w : World), s.length ≤ 1000 → Calls Tryz.prog 51 #[.string (bs s), .int .i64 deep] w fun e w' => e = .returned (.tuple #[.int .i64 (rdN (rdT f s)).1, .int .i64 (rdN (rdT f s)).2]) ∧ Below w.heap.size w w'
def PartsOk (f : Nat) (deep : Int) : Prop := ∀ (s : Bys) (w : World), s.length ≤ 1000 → Calls Tryz.prog 80 #[.string (bs s), .int .i64 deep] w fun e w' => e = .returned (.tuple #[.int .i64 (pfN (rdF (rdT f) 6 [] s)).1, .int .i64 (pfN (rdF (rdT f) 6 [] s)).2]) ∧ Below w.heap.size w w'

theorem bs_drop (s : Bys) (n k : Nat) (h : s.length ≤ k) : (bs s).extract n k = bs (s.drop n) := by
  have e : (bs s).extract n k = (bs s).extract n (max n k) := by
    apply ByteArray.ext
    simp [bs]
    omega
  rw [e]
  apply ByteArray.ext
  simp [bs]
  exact List.take_of_length_le (by rw [List.length_drop]; omega)
theorem hd_le (s : Bys) : (hd s).length ≤ s.length := (List.takeWhile_prefix _).length_le
theorem tl_drop (s : Bys) : tl s = s.drop (hd s).length := by
  conv => rhs; arg 2; rw [← hd_tl s]
  exact List.drop_left.symm
theorem bracket_yes {s : Bys} {r : Bys} (h : tl s = 91 :: r) : (hd s).length < s.length ∧ s.drop ((hd s).length + 1) = r ∧ s[(hd s).length]? = some 91 := by
  rw [tl_drop] at h
  have hlt : (hd s).length < s.length := by
    rcases Nat.lt_or_ge (hd s).length s.length with h1 | h1
    · exact h1
    · rw [List.drop_of_length_le h1] at h; cases h
  rw [List.drop_eq_getElem_cons hlt] at h
  injection h with h1 h2
  exact ⟨hlt, h2, by rw [List.getElem?_eq_getElem hlt, h1]⟩
theorem bracket_no {s : Bys} (h : ∀ r, tl s ≠ 91 :: r) : s.length ≤ (hd s).length ∨ ∃ c, s[(hd s).length]? = some c ∧ c ≠ 91 := by
  rcases Nat.lt_or_ge (hd s).length s.length with h1 | h1
  · refine .inr ⟨_, List.getElem?_eq_getElem h1, fun e => h (s.drop ((hd s).length + 1)) ?_⟩
    rw [tl_drop, List.drop_eq_getElem_cons h1, e]
  · exact .inl h1
theorem rd_pos {f : Nat} {s r : Bys} {T : Ty} (h : rdT f s = some (T, r)) : 0 < T.pr.length ∧ s = T.pr ++ r ∧ T.wf := by
  obtain ⟨h1, h2⟩ := rdT_sound f s T r h
  exact ⟨List.length_pos_iff.2 (pr_ne T h2), h1, h2⟩

set_option maxRecDepth 100000 in
set_option maxHeartbeats 12800000 in
theorem read_deep (s : Bys) (deep : Int) (hd : 100 < deep) (w : World) : Calls Tryz.prog 51 #[.string (bs s), .int .i64 deep] w fun e w' => e = .returned (.tuple #[.int .i64 0, .int .i64 0]) ∧ Below w.heap.size w w' := by
  go_enter Tryz.func51, Tryz.ntmps51
  go_wp2
  go_ret2
  exact ⟨rfl, Below.refl _ _⟩

set_option maxRecDepth 100000 in
set_option maxHeartbeats 12800000 in
theorem read_par (s : Bys) (deep : Int) (hdp : deep ≤ 100) (hs : s.take 2 = [63, 116]) (w : World) : Calls Tryz.prog 51 #[.string (bs s), .int .i64 deep] w fun e w' => e = .returned (.tuple #[.int .i64 2, .int .i64 1]) ∧ Below w.heap.size w w' := by
  have hl : 2 ≤ s.length := by have := congrArg List.length hs; simp at this; omega
  have hsz : (bs s).size = s.length := bs_size s
  have hx : (bs s).extract 0 2 = bs [63, 116] := by rw [bs_take, hs]
  have ht : (bs [63, 116]).toList = [63, 116] := by rw [ByteArray.toList_eq, bs_data]
  have hdp2 : ¬ (100 < deep) := by omega
  have h2 : (2 : Int) ≤ ((bs s).size : Int) := by omega
  clear hs hl hsz hdp
  go_enter Tryz.func51, Tryz.ntmps51
  go_wp2
  go_ret2
  exact ⟨rfl, Below.refl _ _⟩
end Go.Proofs.YthcoppfdffhjfaaGreatDoor
/- The reference's reading: the ways through read. -/
namespace Go.Proofs.YthcoppfdffhjfaaGreatDoor
open Go Go.RowKit

theorem br_no {s : Bys} (hbn : ∀ r, tl s ≠ 91 :: r) : (¬ ((hd s).length : Int) < ((bs s).size : Int)) ∨ ∃ h : (hd s).length < (bs s).size, ((((bs s)[(hd s).length]'h).toNat : Int) == 91) = false := by
  have hsz : (bs s).size = s.length := bs_size s
  rcases bracket_no hbn with h | ⟨c, h1, h2⟩
  · exact .inl (by omega)
  · obtain ⟨hl, e2⟩ := List.getElem?_eq_some_iff.1 h1
    have hl2 : (hd s).length < (bs s).size := by omega
    have e0 := bs_at s (hd s).length hl hl2
    refine .inr ⟨hl2, ?_⟩
    rw [beq_eq_false_iff_ne, e0]
    intro e
    refine h2 ?_
    rw [← e2]
    exact UInt8.toNat_inj.1 (by rw [show (91 : UInt8).toNat = 91 from rfl]; omega)
theorem br_yes {s r : Bys} (hbr : tl s = 91 :: r) : ∃ h : (hd s).length < (bs s).size, ((((bs s)[(hd s).length]'h).toNat : Int) == 91) = true := by
  have hsz : (bs s).size = s.length := bs_size s
  obtain ⟨hl, hr, hg⟩ := bracket_yes hbr
  have hl2 : (hd s).length < (bs s).size := by omega
  have e0 := bs_at s (hd s).length hl hl2
  have e2 := (List.getElem?_eq_some_iff.1 hg).2
  refine ⟨hl2, ?_⟩
  rw [e0]
  have e3 := congrArg UInt8.toNat e2
  rw [show (91 : UInt8).toNat = 91 from rfl] at e3
  exact beq_iff_eq.2 (by exact_mod_cast e3)

set_option maxRecDepth 100000 in
set_option maxHeartbeats 12800000 in
theorem read_const (s : Bys) (deep : Int) (hdp : deep ≤ 100) (hd0 : 0 ≤ deep) (hs : s.length ≤ 1000) (hnp : s.take 2 ≠ [63, 116]) (hm : hd s = kInt ∨ hd s = kBool ∨ hd s = kNull) (w : World) :
    Calls Tryz.prog 51 #[.string (bs s), .int .i64 deep] w fun e w' => e = .returned (.tuple #[.int .i64 ((hd s).length : Nat), .int .i64 1]) ∧ Below w.heap.size w w' := by
  have hsz : (bs s).size = s.length := bs_size s
  have hc := cut_any s (by omega) w
  have hx : (bs s).extract 0 (hd s).length = bs (hd s) := by rw [bs_take, head_take]
  have hle : ((hd s).length : Int) ≤ ((bs s).size : Int) := by have := hd_le s; omega
  have hx2 : (bs s).extract 0 2 = bs (s.take 2) := bs_take s 2
  have ht2 : (bs (s.take 2)).toList = s.take 2 := by rw [ByteArray.toList_eq, bs_data]
  have q2 : (s.take 2 == [63, 116]) = false := beq_eq_false_iff_ne.2 hnp
  have hdp2 : ¬ (100 < deep) := by omega
  have hv : (2 : Int) ≤ ((bs s).size : Int) ∨ ¬ (2 : Int) ≤ ((bs s).size : Int) := Decidable.em _
  have ht : (bs (hd s)).toList = hd s := by rw [ByteArray.toList_eq, bs_data]
  have HC := Lib.hid hc
  generalize hd s = m at *
  generalize hn : m.length = n at *
  clear hc hnp hdp hs hn
  rcases hm with rfl | rfl | rfl
  all_goals
    have ht' := ht
    simp only [kInt, kBool, kNull] at ht'
    rcases hv with h2 | h2
    all_goals
      go_enter Tryz.func51, Tryz.ntmps51
      go_wp2_with fail
      refine HC.out.mono ?_
      rintro e w' ⟨rfl, rfl⟩
      go_wp2
      go_ret2
      exact ⟨rfl, Below.refl _ _⟩

set_option maxRecDepth 100000 in
set_option maxHeartbeats 25600000 in
theorem read_rcd_no (s : Bys) (deep : Int) (hdp : deep ≤ 100) (hd0 : 0 ≤ deep) (hs : s.length ≤ 1000) (hnp : s.take 2 ≠ [63, 116]) (hm : hd s = kRecord ∨ hd s = kOneof) (hbn : ∀ r, tl s ≠ 91 :: r) (w : World) :
    Calls Tryz.prog 51 #[.string (bs s), .int .i64 deep] w fun e w' => e = .returned (.tuple #[.int .i64 0, .int .i64 0]) ∧ Below w.heap.size w w' := by
  have hsz : (bs s).size = s.length := bs_size s
  have hc := cut_any s (by omega) w
  have hx : (bs s).extract 0 (hd s).length = bs (hd s) := by rw [bs_take, head_take]
  have hle : ((hd s).length : Int) ≤ ((bs s).size : Int) := by have := hd_le s; omega
  have hx2 : (bs s).extract 0 2 = bs (s.take 2) := bs_take s 2
  have ht2 : (bs (s.take 2)).toList = s.take 2 := by rw [ByteArray.toList_eq, bs_data]
  have q2 : (s.take 2 == [63, 116]) = false := beq_eq_false_iff_ne.2 hnp
  have hdp2 : ¬ (100 < deep) := by omega
  have hv : (2 : Int) ≤ ((bs s).size : Int) ∨ ¬ (2 : Int) ≤ ((bs s).size : Int) := Decidable.em _
  have ht : (bs (hd s)).toList = hd s := by rw [ByteArray.toList_eq, bs_data]
  have HC := Lib.hid hc
  have hbr := br_no hbn
  clear hbn
  generalize hd s = m at *
  generalize hn : m.length = n at *
  clear hc hnp hdp hs hn
  rcases hm with rfl | rfl
  all_goals
    have ht' := ht
    simp only [kRecord, kOneof] at ht'
    rcases hbr with hbr | ⟨hlt, hbr⟩
    all_goals
      rcases hv with h2 | h2
      all_goals
        go_enter Tryz.func51, Tryz.ntmps51
        go_wp2_with fail
        refine HC.out.mono ?_
        rintro e w' ⟨rfl, rfl⟩
        go_wp2
        go_ret2
        exact ⟨rfl, Below.refl _ _⟩

end Go.Proofs.YthcoppfdffhjfaaGreatDoor
/- The reference's reading: records and oneofs. -/
namespace Go.Proofs.YthcoppfdffhjfaaGreatDoor
open Go Go.RowKit

set_option maxRecDepth 100000 in
set_option maxHeartbeats 25600000 in
theorem read_rcd (s r : Bys) (f : Nat) (deep : Int) (hP : PartsOk f (deep + 1)) (hdp : deep ≤ 100) (hd0 : 0 ≤ deep) (hs : s.length ≤ 1000) (hnp : s.take 2 ≠ [63, 116]) (hm : hd s = kRecord ∨ hd s = kOneof) (hbr : tl s = 91 :: r) (w : World) :
    Calls Tryz.prog 51 #[.string (bs s), .int .i64 deep] w fun e w' => e = .returned (.tuple #[.int .i64 (match rdF (rdT f) 6 [] r with | some (F, _) => (((hd s).length + 1 + F.pr.length : Nat) : Int) | none => 0), .int .i64 (match rdF (rdT f) 6 [] r with | some (F, _) => ((F.lev + 1 : Nat) : Int) | none => 0)]) ∧ Below w.heap.size w w' := by
  have hsz : (bs s).size = s.length := bs_size s
  have hc := cut_any s (by omega) w
  have hx : (bs s).extract 0 (hd s).length = bs (hd s) := by rw [bs_take, head_take]
  have hle : ((hd s).length : Int) ≤ ((bs s).size : Int) := by have := hd_le s; omega
  have hx2 : (bs s).extract 0 2 = bs (s.take 2) := bs_take s 2
  have ht2 : (bs (s.take 2)).toList = s.take 2 := by rw [ByteArray.toList_eq, bs_data]
  have q2 : (s.take 2 == [63, 116]) = false := beq_eq_false_iff_ne.2 hnp
  have hdp2 : ¬ (100 < deep) := by omega
  have hv : (2 : Int) ≤ ((bs s).size : Int) ∨ ¬ (2 : Int) ≤ ((bs s).size : Int) := Decidable.em _
  have ht : (bs (hd s)).toList = hd s := by rw [ByteArray.toList_eq, bs_data]
  have HC := Lib.hid hc
  obtain ⟨hl, hr, hg⟩ := bracket_yes hbr
  obtain ⟨hl2, hb⟩ := br_yes hbr
  have hlt : ((hd s).length : Int) < ((bs s).size : Int) := by omega
  have hx3 : (bs s).extract ((hd s).length + 1) (bs s).size = bs r := by rw [bs_drop s _ _ (by omega), hr]
  have hx4 : (bs s).extract ((hd s).length + 1) s.length = bs r := by rw [bs_drop s _ _ (by omega), hr]
  have hle3 : ((hd s).length : Int) + 1 ≤ ((bs s).size : Int) := by omega
  have hrl : r.length ≤ 1000 := by rw [← hr]; simp; omega
  have hn1 : (hd s).length ≤ 1000 := by omega
  have hp := hP r w hrl
  have hd1 : deep + 1 ≤ 9223372036854775807 := by omega
  generalize hd s = m at *
  generalize hn : m.length = n at *
  cases hrd : rdF (rdT f) 6 [] r with
  | none =>
    rw [hrd] at hp
    have HP := Lib.hid hp
    clear hc hnp hdp hs hn hP hp hrd hr hg hl hbr
    rcases hm with rfl | rfl
    all_goals
      have ht' := ht
      simp only [kRecord, kOneof] at ht'
      rcases hv with h2 | h2
      all_goals
        go_enter Tryz.func51, Tryz.ntmps51
        go_wp2_with fail
        refine HC.out.mono ?_
        rintro e w' ⟨rfl, rfl⟩
        go_wp2_with fail
        refine HP.out.mono ?_
        rintro e w1 ⟨rfl, hb1⟩
        have HB1 := Lib.hid hb1
        clear hb1
        simp only [pfN]
        go_wp2
        go_ret2
        exact ⟨rfl, HB1.out⟩
  | some p =>
    obtain ⟨F, r'⟩ := p
    rw [hrd] at hp
    obtain ⟨hsnd, hwf⟩ := rdF_sound (fun s T r h => rdT_sound f s T r h) 6 [] r F r' hrd
    have hpos : 0 < F.pr.length := by
      cases F <;> simp [Fs.pr] <;> omega
    have hfl : F.pr.length ≤ 1000 := by have := congrArg List.length hsnd; simp at this; omega
    have hlv : F.lev ≤ 1000 := by have := F.lev_len [] hwf.1; omega
    have hp' : Calls Tryz.prog 80 #[.string (bs r), .int .i64 (deep + 1)] w fun e w' => e = .returned (.tuple #[.int .i64 (F.pr.length : Nat), .int .i64 (F.lev : Nat)]) ∧ Below w.heap.size w w' := hp
    have HP := Lib.hid hp'
    generalize hfp : F.pr.length = fl at *
    generalize hfv : F.lev = fv at *
    have HFP := Lib.hid hfp
    have HFV := Lib.hid hfv
    clear hfp hfv
    have hz : ((fl : Int) == 0) = false := beq_eq_false_iff_ne.2 (by omega)
    clear hc hnp hdp hs hn hP hp hp' hrd hr hg hl hbr hsnd hwf
    rcases hm with rfl | rfl
    all_goals
      have ht' := ht
      simp only [kRecord, kOneof] at ht'
      rcases hv with h2 | h2
      all_goals
        go_enter Tryz.func51, Tryz.ntmps51
        go_wp2_with fail
        refine HC.out.mono ?_
        rintro e w' ⟨rfl, rfl⟩
        go_wp2_with fail
        refine HP.out.mono ?_
        rintro e w1 ⟨rfl, hb1⟩
        have HB1 := Lib.hid hb1
        clear hb1
        go_wp2
        go_ret2
        exact ⟨by simp [HFP.out, HFV.out], HB1.out⟩
end Go.Proofs.YthcoppfdffhjfaaGreatDoor
/- The reference's reading: names without a bracket. -/
namespace Go.Proofs.YthcoppfdffhjfaaGreatDoor
open Go Go.RowKit

set_option maxRecDepth 100000 in
set_option maxHeartbeats 25600000 in
theorem read_nam (s : Bys) (deep : Int) (hdp : deep ≤ 100) (hd0 : 0 ≤ deep) (hs : s.length ≤ 1000) (hnp : s.take 2 ≠ [63, 116]) (hq : isNameL (hd s) = true) (hbn : ∀ r, tl s ≠ 91 :: r) (w : World) :
    Calls Tryz.prog 51 #[.string (bs s), .int .i64 deep] w fun e w' => e = .returned (.tuple #[.int .i64 ((hd s).length : Nat), .int .i64 1]) ∧ Below w.heap.size w w' := by
  have hsz : (bs s).size = s.length := bs_size s
  have hc := cut_any s (by omega) w
  have hx : (bs s).extract 0 (hd s).length = bs (hd s) := by rw [bs_take, head_take]
  have hle : ((hd s).length : Int) ≤ ((bs s).size : Int) := by have := hd_le s; omega
  have hx2 : (bs s).extract 0 2 = bs (s.take 2) := bs_take s 2
  have ht2 : (bs (s.take 2)).toList = s.take 2 := by rw [ByteArray.toList_eq, bs_data]
  have q2 : (s.take 2 == [63, 116]) = false := beq_eq_false_iff_ne.2 hnp
  have hdp2 : ¬ (100 < deep) := by omega
  have hv : (2 : Int) ≤ ((bs s).size : Int) ∨ ¬ (2 : Int) ≤ ((bs s).size : Int) := Decidable.em _
  have ht : (bs (hd s)).toList = hd s := by rw [ByteArray.toList_eq, bs_data]
  have HC := Lib.hid hc
  have hbr := br_no hbn
  have q := name_not hq
  have q0 : (hd s).isEmpty = false := by have := name_ne hq; simpa using this
  have q1 : (hd s == [105, 110, 116]) = false := beq_eq_false_iff_ne.2 q.1
  have q2' : (hd s == [98, 111, 111, 108]) = false := beq_eq_false_iff_ne.2 q.2.1
  have q3 : (hd s == [110, 117, 108, 108]) = false := beq_eq_false_iff_ne.2 q.2.2.1
  have q4 : (hd s == [97, 114, 114, 97, 121]) = false := beq_eq_false_iff_ne.2 q.2.2.2.1
  have q5 : (hd s == [114, 101, 99, 111, 114, 100]) = false := beq_eq_false_iff_ne.2 q.2.2.2.2.1
  have q6 : (hd s == [111, 110, 101, 111, 102]) = false := beq_eq_false_iff_ne.2 q.2.2.2.2.2.1
  have hin := refIsName_any (bs (hd s)) w (by rw [bs_size]; have := hd_le s; omega)
  rw [isNameB_L, hq] at hin
  have HIN := Lib.hid hin
  clear hbn hq q hin
  generalize hd s = m at *
  generalize hn : m.length = n at *
  clear hc hnp hdp hs hn
  rcases hbr with hbr | ⟨hlt, hbr⟩
  all_goals
    rcases hv with h2 | h2
    all_goals
      go_enter Tryz.func51, Tryz.ntmps51
      go_wp2_with fail
      refine HC.out.mono ?_
      rintro e w' ⟨rfl, rfl⟩
      go_wp2_with fail
      refine HIN.out.mono ?_
      rintro e w1 ⟨rfl, hb1⟩
      have HB1 := Lib.hid hb1
      clear hb1
      go_wp2
      go_ret2
      exact ⟨rfl, HB1.out⟩

set_option maxRecDepth 100000 in
set_option maxHeartbeats 25600000 in
theorem read_none (s : Bys) (deep : Int) (hdp : deep ≤ 100) (hd0 : 0 ≤ deep) (hs : s.length ≤ 1000) (hnp : s.take 2 ≠ [63, 116]) (hq : isNameL (hd s) = false) (h1 : hd s ≠ kInt) (h2' : hd s ≠ kBool) (h3 : hd s ≠ kNull) (h4 : hd s ≠ kArray) (h5 : hd s ≠ kRecord) (h6 : hd s ≠ kOneof) (w : World) :
    Calls Tryz.prog 51 #[.string (bs s), .int .i64 deep] w fun e w' => e = .returned (.tuple #[.int .i64 0, .int .i64 0]) ∧ Below w.heap.size w w' := by
  have hsz : (bs s).size = s.length := bs_size s
  have hc := cut_any s (by omega) w
  have hx : (bs s).extract 0 (hd s).length = bs (hd s) := by rw [bs_take, head_take]
  have hle : ((hd s).length : Int) ≤ ((bs s).size : Int) := by have := hd_le s; omega
  have hx2 : (bs s).extract 0 2 = bs (s.take 2) := bs_take s 2
  have ht2 : (bs (s.take 2)).toList = s.take 2 := by rw [ByteArray.toList_eq, bs_data]
  have q2 : (s.take 2 == [63, 116]) = false := beq_eq_false_iff_ne.2 hnp
  have hdp2 : ¬ (100 < deep) := by omega
  have hv : (2 : Int) ≤ ((bs s).size : Int) ∨ ¬ (2 : Int) ≤ ((bs s).size : Int) := Decidable.em _
  have ht : (bs (hd s)).toList = hd s := by rw [ByteArray.toList_eq, bs_data]
  have HC := Lib.hid hc
  have hbr : (¬ ((hd s).length : Int) < ((bs s).size : Int)) ∨ ∃ h : (hd s).length < (bs s).size, ((((bs s)[(hd s).length]'h).toNat : Int) == 91) = false ∨ ((((bs s)[(hd s).length]'h).toNat : Int) == 91) = true := by
    rcases Nat.lt_or_ge (hd s).length (bs s).size with h | h
    · refine .inr ⟨h, ?_⟩
      cases ((((bs s)[(hd s).length]'h).toNat : Int) == 91) <;> simp
    · exact .inl (by omega)
  have q1 : (hd s == [105, 110, 116]) = false := beq_eq_false_iff_ne.2 h1
  have q2' : (hd s == [98, 111, 111, 108]) = false := beq_eq_false_iff_ne.2 h2'
  have q3 : (hd s == [110, 117, 108, 108]) = false := beq_eq_false_iff_ne.2 h3
  have q4 : (hd s == [97, 114, 114, 97, 121]) = false := beq_eq_false_iff_ne.2 h4
  have q5 : (hd s == [114, 101, 99, 111, 114, 100]) = false := beq_eq_false_iff_ne.2 h5
  have q6 : (hd s == [111, 110, 101, 111, 102]) = false := beq_eq_false_iff_ne.2 h6
  have hin := refIsName_any (bs (hd s)) w (by rw [bs_size]; have := hd_le s; omega)
  rw [isNameB_L, hq] at hin
  have HIN := Lib.hid hin
  clear hq hin h1 h2' h3 h4 h5 h6
  generalize hd s = m at *
  generalize hn : m.length = n at *
  clear hc hnp hdp hs hn
  rcases hbr with hbr | ⟨hlt, hbr | hbr⟩
  all_goals
    rcases hv with h2 | h2
    all_goals
      go_enter Tryz.func51, Tryz.ntmps51
      go_wp2_with fail
      refine HC.out.mono ?_
      rintro e w' ⟨rfl, rfl⟩
      go_wp2_with fail
      refine HIN.out.mono ?_
      rintro e w1 ⟨rfl, hb1⟩
      have HB1 := Lib.hid hb1
      clear hb1
      go_wp2
      go_ret2
      exact ⟨rfl, HB1.out⟩

set_option maxRecDepth 100000 in
set_option maxHeartbeats 25600000 in
theorem read_arr_no (s : Bys) (deep : Int) (hdp : deep ≤ 100) (hd0 : 0 ≤ deep) (hs : s.length ≤ 1000) (hnp : s.take 2 ≠ [63, 116]) (hm : hd s = kArray) (hbn : ∀ r, tl s ≠ 91 :: r) (w : World) :
    Calls Tryz.prog 51 #[.string (bs s), .int .i64 deep] w fun e w' => e = .returned (.tuple #[.int .i64 0, .int .i64 0]) ∧ Below w.heap.size w w' := by
  have hsz : (bs s).size = s.length := bs_size s
  have hc := cut_any s (by omega) w
  have hx : (bs s).extract 0 (hd s).length = bs (hd s) := by rw [bs_take, head_take]
  have hle : ((hd s).length : Int) ≤ ((bs s).size : Int) := by have := hd_le s; omega
  have hx2 : (bs s).extract 0 2 = bs (s.take 2) := bs_take s 2
  have ht2 : (bs (s.take 2)).toList = s.take 2 := by rw [ByteArray.toList_eq, bs_data]
  have q2 : (s.take 2 == [63, 116]) = false := beq_eq_false_iff_ne.2 hnp
  have hdp2 : ¬ (100 < deep) := by omega
  have hv : (2 : Int) ≤ ((bs s).size : Int) ∨ ¬ (2 : Int) ≤ ((bs s).size : Int) := Decidable.em _
  have ht : (bs (hd s)).toList = hd s := by rw [ByteArray.toList_eq, bs_data]
  have HC := Lib.hid hc
  have hbr := br_no hbn
  clear hbn
  generalize hd s = m at *
  generalize hn : m.length = n at *
  clear hc hnp hdp hs hn
  subst hm
  have ht' := ht
  simp only [kArray] at ht'
  rcases hbr with hbr | ⟨hlt, hbr⟩
  all_goals
    rcases hv with h2 | h2
    all_goals
      go_enter Tryz.func51, Tryz.ntmps51
      go_wp2_with fail
      refine HC.out.mono ?_
      rintro e w' ⟨rfl, rfl⟩
      go_wp2
      go_ret2
      exact ⟨rfl, Below.refl _ _⟩
end Go.Proofs.YthcoppfdffhjfaaGreatDoor
