/- The reference's Inside: its plain half: the places where a type begins. -/
import Derived.Test.YthcoppfdffhjfaaGreatDoorV4
import Derived.Test.YthcoppfdffhjfaaGreatDoorWa
import Derived.Deep.LoopGhost
import Derived.Laws.AppendOwnNone
import Derived.Deep.QuietTactic
import Derived.BigQuiet
namespace Go.Proofs.YthcoppfdffhjfaaGreatDoor
open Go Go.RowKit

/-- The type that a text begins with, unless a name with a colon stands there. -/
def begAt (s : Bys) : Option Bys :=
  match rdT 101 s with
  | none => none
  | some (U, _) =>
    match tl s with
    | 58 :: _ => none
    | _ => some U.pr
/-- Whether a type may begin behind this sign. -/
def opens (c : UInt8) : Bool := decide (c = 91) || decide (c = 58)
/-- All types that begin in a text; ok: whether one may begin at its front. -/
def scanI : Bool → Bys → List Bys
  | _, [] => []
  | ok, c :: r => (if ok then (begAt (c :: r)).toList else []) ++ scanI (opens c) r
theorem scan_skip : ∀ (x r : Bys), (∀ c ∈ x, opens c = false) → scanI false (x ++ r) = scanI false r
  | [], _, _ => rfl
  | c :: x, r, h => by
    simp only [List.cons_append, scanI, h c (by simp), Bool.false_eq_true, if_false, List.nil_append]
    exact scan_skip x r fun d hd_ => h d (by simp [hd_])
theorem scan_word {c : UInt8} {x r : Bys} (h : ∀ d ∈ c :: x, opens d = false) : scanI true ((c :: x) ++ r) = (begAt ((c :: x) ++ r)).toList ++ scanI false r := by
  simp only [List.cons_append, scanI, if_true, h c (by simp)]
  rw [scan_skip x r fun d hd_ => h d (by simp [hd_])]
theorem opens_ld {c : UInt8} (h : ld c = true) : opens c = false := by
  unfold opens
  rw [Bool.or_eq_false_iff, decide_eq_false_iff_not, decide_eq_false_iff_not]
  exact ⟨fun e => by rw [e] at h; revert h; decide, fun e => by rw [e] at h; revert h; decide⟩
theorem opens_name {n : Bys} (h : isNameL n = true) : ∀ c ∈ n, opens c = false := fun c hc => opens_ld (name_ld h c hc)
theorem beg_type {T : Ty} (h : T.wf) (hl : T.lev ≤ 101) {r : Bys} (hr : Stop r) (ht : ∀ z, tl (T.pr ++ r) ≠ 58 :: z) : begAt (T.pr ++ r) = some T.pr := by
  unfold begAt
  rw [rdT_back 101 T h hl r hr]
  simp only
  try split
  all_goals first
    | rfl
    | (rename_i heq; exact absurd heq (ht _))
theorem beg_colon {n r : Bys} (hn : ∀ c ∈ n, ld c = true) : begAt (n ++ 58 :: r) = none := by
  unfold begAt
  rw [tl_app hn (noLd_58 r)]
  split <;> rfl
theorem stop_no58 {r : Bys} (h : Stop r) : ∀ z, r ≠ 58 :: z := fun z e => by
  rcases h 58 z e with h | h <;> exact absurd h (by decide)
theorem name_cons {n : Bys} (h : n ≠ []) : ∃ c x, n = c :: x := by
  cases n with
  | nil => exact absurd rfl h
  | cons c x => exact ⟨c, x, rfl⟩
/-- A word, its whole text being a type, with or without something behind it. -/
theorem scan_front {T : Ty} (h : T.wf) (hl : T.lev ≤ 101) {r n z : Bys} (hr : Stop r) (hn : ∀ c ∈ n, ld c = true) (hne : n ≠ []) (he : T.pr ++ r = n ++ z) (hz : NoLd z) (h58 : ∀ y, z ≠ 58 :: y) :
    scanI true (T.pr ++ r) = T.pr :: scanI false z := by
  obtain ⟨c, x, rfl⟩ := name_cons hne
  have hb : begAt (T.pr ++ r) = some T.pr := beg_type h hl hr fun y => by rw [he, tl_app hn hz]; exact h58 y
  rw [he] at hb ⊢
  rw [scan_word (fun d hd_ => opens_ld (hn d hd_)), hb]
  rfl
theorem scan_par {r : Bys} (hr : Stop r) : scanI true (Ty.par.pr ++ r) = Ty.par.pr :: scanI false r := by
  have hb : begAt (Ty.par.pr ++ r) = some Ty.par.pr := beg_type (T := .par) trivial (by decide) hr fun y => by
    show tl (63 :: 116 :: r) ≠ _
    intro e
    have : tl (63 :: 116 :: r) = 63 :: 116 :: r := rfl
    rw [this] at e
    injection e with e _
    exact absurd e (by decide)
  show scanI true ([63, 116] ++ r) = _
  rw [scan_word (c := 63) (x := [116]) (by decide)]
  show (begAt (Ty.par.pr ++ r)).toList ++ _ = _
  rw [hb]
  rfl
theorem scan_name (ok : Bool) {n z : Bys} (h : isNameL n = true) : scanI ok (n ++ 58 :: z) = scanI true z := by
  have e1 : scanI false (58 :: z) = scanI true z := by simp [scanI, opens]
  cases ok with
  | false => rw [scan_skip n _ (opens_name h), e1]
  | true =>
    obtain ⟨c, x, rfl⟩ := name_cons (name_ne h)
    rw [scan_word (opens_name h), beg_colon (name_ld h), e1]
    rfl
mutual
theorem Ty.scan : ∀ (T : Ty) (r : Bys), T.wf → T.lev ≤ 101 → Stop r → scanI true (T.pr ++ r) = T.all.map Ty.pr ++ scanI false r
  | .int, r, h, l, hr => by
    rw [scan_front (T := .int) h l hr (n := kInt) (z := r) (by decide) (by decide) rfl (stop_noLd hr) (stop_no58 hr)]
    rfl
  | .bool, r, h, l, hr => by
    rw [scan_front (T := .bool) h l hr (n := kBool) (z := r) (by decide) (by decide) rfl (stop_noLd hr) (stop_no58 hr)]
    rfl
  | .null, r, h, l, hr => by
    rw [scan_front (T := .null) h l hr (n := kNull) (z := r) (by decide) (by decide) rfl (stop_noLd hr) (stop_no58 hr)]
    rfl
  | .nam n, r, h, l, hr => by
    rw [scan_front (T := .nam n) h l hr (n := n) (z := r) (name_ld h) (name_ne h) rfl (stop_noLd hr) (stop_no58 hr)]
    rfl
  | .par, r, _, _, hr => by rw [scan_par hr]; rfl
  | .arr t, r, h, l, hr => by
    rw [scan_front (T := .arr t) h l hr (n := kArray) (z := 91 :: (t.pr ++ 93 :: r)) (by decide) (by decide) (by simp [Ty.pr]) (noLd_91 _) (fun y e => by injection e with e _; exact absurd e (by decide))]
    have ih := Ty.scan t (93 :: r) h (by simp only [Ty.lev] at l; omega) (stop_93 r)
    have e1 : scanI false (91 :: (t.pr ++ 93 :: r)) = scanI true (t.pr ++ 93 :: r) := by simp [scanI, opens]
    have e2 : scanI false (93 :: r) = scanI false r := by simp [scanI, opens]
    rw [e1, ih, e2]
    simp [Ty.all]
  | .app n t, r, h, l, hr => by
    rw [scan_front (T := .app n t) h l hr (n := n) (z := 91 :: (t.pr ++ 93 :: r)) (name_ld h.1) (name_ne h.1) (by simp [Ty.pr]) (noLd_91 _) (fun y e => by injection e with e _; exact absurd e (by decide))]
    have ih := Ty.scan t (93 :: r) h.2 (by simp only [Ty.lev] at l; omega) (stop_93 r)
    have e1 : scanI false (91 :: (t.pr ++ 93 :: r)) = scanI true (t.pr ++ 93 :: r) := by simp [scanI, opens]
    have e2 : scanI false (93 :: r) = scanI false r := by simp [scanI, opens]
    rw [e1, ih, e2]
    simp [Ty.all]
  | .rcd o F, r, h, l, hr => by
    rw [scan_front (T := .rcd o F) h l hr (n := rcdWord o) (z := 91 :: (F.pr ++ r)) (by cases o <;> decide) (by cases o <;> decide) (by simp [Ty.pr]) (noLd_91 _) (fun y e => by injection e with e _; exact absurd e (by decide))]
    have ih := Fs.scan F [] true r h.1 (by simp only [Ty.lev] at l; omega)
    have e1 : scanI false (91 :: (F.pr ++ r)) = scanI true (F.pr ++ r) := by simp [scanI, opens]
    rw [e1, ih]
    simp [Ty.all]
theorem Fs.scan : ∀ (F : Fs) (b : Bys) (ok : Bool) (r : Bys), F.wf b → F.lev ≤ 101 → scanI ok (F.pr ++ r) = F.all.map Ty.pr ++ scanI false r
  | .one n t, b, ok, r, h, l => by
    have ih := Ty.scan t (93 :: r) h.2.2 (by simp only [Fs.lev] at l; omega) (stop_93 r)
    have e2 : scanI false (93 :: r) = scanI false r := by simp [scanI, opens]
    rw [show (Fs.one n t).pr ++ r = n ++ 58 :: (t.pr ++ 93 :: r) by simp [Fs.pr], scan_name ok h.1, ih, e2]
    rfl
  | .more n t fs, b, ok, r, h, l => by
    have ih := Ty.scan t (44 :: (fs.pr ++ r)) h.2.2.1 (by simp only [Fs.lev] at l; omega) (stop_44 _)
    have ih2 := Fs.scan fs n false r h.2.2.2 (by simp only [Fs.lev] at l; omega)
    have e2 : scanI false (44 :: (fs.pr ++ r)) = scanI false (fs.pr ++ r) := by simp [scanI, opens]
    rw [show (Fs.more n t fs).pr ++ r = n ++ 58 :: (t.pr ++ 44 :: (fs.pr ++ r)) by simp [Fs.pr], scan_name ok h.1, ih, e2, ih2]
    simp [Fs.all]
end
end Go.Proofs.YthcoppfdffhjfaaGreatDoor
/- The reference's Inside. -/
namespace Go.Proofs.YthcoppfdffhjfaaGreatDoor
open Go Go.RowKit

set_option maxRecDepth 100000 in
set_option maxHeartbeats 3200000 in
/-- has of the reference. -/
theorem refHas_any (l : List Bys) (s : Bys) (v : Value) (w : World) (hv : StV w v l) (hl : l.length ≤ 1000) :
    Calls Tryz.prog 69 #[v, .string (bs s)] w fun e w' => e = .returned (.bool (decide (s ∈ l))) ∧ w = w' := by
  rcases hv with ⟨rfl, a, c, rfl⟩ | ⟨g, o, cap, rfl, _, hr⟩
  · go_enter Tryz.func69, Tryz.ntmps69
    go_wp2
    refine wp_loop_rounds 1 ?_
    rw [rounds_succ]
    go_wp2
    go_ret
    exact ⟨rfl, rfl⟩
  · have HR := Lib.hid hr
    clear hr
    go_enter Tryz.func69, Tryz.ntmps69
    go_wp2
    go_loop [5] (fun i => ∃ k : Nat, k ≤ l.length ∧ i = .int .i64 k ∧ ∀ j x, j < k → l[j]? = some x → x ≠ s) (fun i => l.length - (intOf i).toNat)
    case atStart => exact ⟨0, by omega, rfl, fun j x hj => by omega⟩
    case round =>
      obtain ⟨k, hk, rfl, hno⟩ := hrel
      have HNO := Lib.hid hno
      clear hno
      by_cases hlt : k < l.length
      · have a0 := HR.out k l[k] (List.getElem?_eq_getElem hlt)
        by_cases h1 : l[k] = s
        · have i1 : ((bs l[k]).toList == (bs s).toList) = true := by rw [h1]; simp
          have HF : Hid (decide (s ∈ l) = true) := by
            refine Lib.hid ?_
            rw [decide_eq_true_iff, ← h1]
            exact List.getElem_mem hlt
          clear h1
          go_wp2
          go_ret
          exact ⟨ret_bool HF.out.symm, rfl⟩
        · have i1 : ((bs l[k]).toList == (bs s).toList) = false := by
            rw [beq_eq_false_iff_ne, ByteArray.toList_eq, ByteArray.toList_eq, bs_data, bs_data]; exact h1
          have HS : Hid (∀ j x, j < k + 1 → l[j]? = some x → x ≠ s) := by
            refine Lib.hid fun j x hj hx => ?_
            by_cases hjk : j = k
            · subst hjk
              rw [List.getElem?_eq_getElem hlt] at hx
              injection hx with hx
              rw [← hx]
              exact h1
            · exact HNO.out j x (by omega) hx
          clear h1
          go_wp2
          go_round
          case rel => exact ⟨k + 1, by omega, by go_num, HS.out⟩
          case measure => simp [intOf]; omega
      · have hk2 : k = l.length := by omega
        subst hk2
        go_wp2
        go_ret
        refine ⟨ret_bool ?_, rfl⟩
        symm
        rw [decide_eq_false_iff_not]
        intro hx
        obtain ⟨j, hj⟩ := List.mem_iff_getElem?.1 hx
        exact HNO.out j s (List.getElem?_eq_some_iff.1 hj).1 hj rfl

/-- Whether a type may begin at a place. -/
def okB (s : Bys) (i : Nat) : Bool := if i = 0 then true else opens (s.getD (i - 1) 0)
theorem byte_eq (c : UInt8) (v : Nat) (hv : v < 256) : ((c.toNat : Int) == (v : Int)) = decide (c = UInt8.ofNat v) := by
  rw [Bool.eq_iff_iff, beq_iff_eq, decide_eq_true_iff]
  constructor
  · intro h
    apply UInt8.toNat_inj.1
    rw [UInt8.toNat_ofNat_of_lt' (by simpa using hv)]
    omega
  · rintro rfl
    rw [UInt8.toNat_ofNat_of_lt' (by simpa using hv)]
/-- The byte ahead of a place, as the reference tests it. -/
theorem ok_cases (s : Bys) (i : Nat) (hi : i < s.length) : (okB s i = true ∧ ¬ (0 : Int) < (i : Int)) ∨ ((0 : Int) < (i : Int) ∧ ∃ h : i - 1 < (bs s).size,
    (okB s i = true ∧ ((((bs s)[i - 1]'h).toNat : Int) != 91) = false) ∨ (okB s i = true ∧ ((((bs s)[i - 1]'h).toNat : Int) != 91) = true ∧ ((((bs s)[i - 1]'h).toNat : Int) != 58) = false) ∨
    (okB s i = false ∧ ((((bs s)[i - 1]'h).toNat : Int) != 91) = true ∧ ((((bs s)[i - 1]'h).toNat : Int) != 58) = true)) := by
  have hsz := bs_size s
  by_cases h0 : i = 0
  · exact .inl ⟨by unfold okB; rw [if_pos h0], by omega⟩
  · refine .inr ⟨by omega, by omega, ?_⟩
    have hk : i - 1 < s.length := by omega
    have hb := bs_at s (i - 1) hk (by omega)
    have hg : s.getD (i - 1) 0 = s[i - 1]'hk := by simp [List.getD, hk]
    unfold okB
    rw [if_neg h0, hg, hb]
    generalize s[i - 1]'hk = c
    have e1 := byte_eq c 91 (by decide)
    have e2 := byte_eq c 58 (by decide)
    have f1 : ((c.toNat : Int) != 91) = !((c.toNat : Int) == ((91 : Nat) : Int)) := rfl
    have f2 : ((c.toNat : Int) != 58) = !((c.toNat : Int) == ((58 : Nat) : Int)) := rfl
    rw [f1, f2, e1, e2]
    unfold opens
    by_cases h1 : c = 91
    · subst h1; exact .inl ⟨rfl, rfl⟩
    · by_cases h2 : c = 58
      · subst h2; exact .inr (.inl ⟨rfl, rfl, rfl⟩)
      · refine .inr (.inr ⟨?_, ?_, ?_⟩)
        · simp [h1, h2]
        · rw [decide_eq_false (show ¬ c = UInt8.ofNat 91 from h1)]; rfl
        · rw [decide_eq_false (show ¬ c = UInt8.ofNat 58 from h2)]; rfl
def stepD (acc : List Bys) (x : Bys) : List Bys := if x ∈ acc then acc else acc ++ [x]
theorem scan_step (s : Bys) (i : Nat) (hi : i < s.length) : scanI (okB s i) (s.drop i) = (if okB s i then (begAt (s.drop i)).toList else []) ++ scanI (okB s (i + 1)) (s.drop (i + 1)) := by
  have e : s.drop i = s[i] :: s.drop (i + 1) := List.drop_eq_getElem_cons hi
  have e2 : okB s (i + 1) = opens s[i] := by
    unfold okB
    rw [if_neg (by omega)]
    simp [List.getD, hi]
  rw [e2]
  conv => lhs; rw [e]
  rw [scanI]
  rw [← e]
/-- What the reference finds of a type at a place. -/
theorem beg_cases (s : Bys) (i : Nat) (hs : s.length ≤ 100) (hi : i < s.length) : ∃ n l : Nat, rdN (rdT 101 (s.drop i)) = ((n : Int), (l : Int)) ∧ i + n ≤ s.length ∧
    ((n = 0 ∧ begAt (s.drop i) = none) ∨ (0 < n ∧ ((((bs s).size : Int) ≤ (i : Int) + ((hd (s.drop i)).length : Int) ∧ begAt (s.drop i) = some ((s.drop i).take n)) ∨
      ∃ h : i + (hd (s.drop i)).length < (bs s).size, (((((bs s)[i + (hd (s.drop i)).length]'h).toNat : Int) == 58) = true ∧ begAt (s.drop i) = none) ∨ (((((bs s)[i + (hd (s.drop i)).length]'h).toNat : Int) == 58) = false ∧ begAt (s.drop i) = some ((s.drop i).take n))))) := by
  have hsz := bs_size s
  unfold begAt
  cases hr : rdT 101 (s.drop i) with
  | none => exact ⟨0, 0, rfl, by omega, .inl ⟨rfl, rfl⟩⟩
  | some q =>
    obtain ⟨U, r⟩ := q
    obtain ⟨h1, h2, _⟩ := rd_pos hr
    have hlen := congrArg List.length h2
    simp at hlen
    refine ⟨U.pr.length, U.lev, rfl, by omega, .inr ⟨h1, ?_⟩⟩
    have ht : (s.drop i).take U.pr.length = U.pr := by rw [h2, List.take_left' rfl]
    rw [ht]
    have htl : tl (s.drop i) = s.drop (i + (hd (s.drop i)).length) := by rw [tl_drop, List.drop_drop]
    simp only
    rw [htl]
    rcases Nat.lt_or_ge (i + (hd (s.drop i)).length) s.length with h3 | h3
    · refine .inr ⟨by omega, ?_⟩
      obtain ⟨c, e3, e4⟩ : ∃ c, s.drop (i + (hd (s.drop i)).length) = c :: s.drop (i + (hd (s.drop i)).length + 1) ∧ ∀ h2 : i + (hd (s.drop i)).length < (bs s).size, ((((bs s)[i + (hd (s.drop i)).length]'h2).toNat : Int)) = (c.toNat : Int) := ⟨_, List.drop_eq_getElem_cons h3, fun h2 => bs_at s _ h3 h2⟩
      rw [e4, e3]
      have e1 := byte_eq c 58 (by decide)
      have f1 : ((c.toNat : Int) == 58) = ((c.toNat : Int) == ((58 : Nat) : Int)) := rfl
      rw [f1, e1]
      by_cases hc : c = 58
      · subst hc; exact .inl ⟨rfl, rfl⟩
      · refine .inr ⟨decide_eq_false hc, ?_⟩
        split
        · rename_i heq; injection heq with heq _; exact absurd heq hc
        · rfl
    · refine .inl ⟨by omega, ?_⟩
      rw [List.drop_of_length_le h3]
end Go.Proofs.YthcoppfdffhjfaaGreatDoor
/- The reference's Inside: the walk. -/
namespace Go.Proofs.YthcoppfdffhjfaaGreatDoor
open Go Go.RowKit

theorem step_in {acc : List Bys} {x : Bys} (h : x ∈ acc) : stepD acc x = acc := if_pos h
theorem step_out {acc : List Bys} {x : Bys} (h : x ∉ acc) : stepD acc x = acc ++ [x] := if_neg h

set_option maxRecDepth 100000 in
set_option maxHeartbeats 25600000 in
theorem refInside_any (s : Bys) (w : World) : Calls Tryz.prog 43 #[.string (bs s)] w fun e w' => ∃ v, e = .returned (.tuple #[v, .int .i64 (insideT s).2]) ∧ StV w' v (insideT s).1 ∧ Below w.heap.size w w' := by
  by_cases hc : chk s = 0
  rotate_left
  · have HK := Lib.hid (show insideT s = ([], chk s) by unfold insideT; rw [if_pos hc])
    have z2 : (chk s != 0) = true := bne_iff_ne.2 hc
    clear hc
    go_enter Tryz.func43, Tryz.ntmps43
    go_wp2_with fail
    refine (refCheck_any s w).mono ?_
    rintro e w1 ⟨rfl, hb⟩
    have HB := Lib.hid hb
    clear hb
    go_wp2
    go_ret2
    rw [HK.out]
    exact ⟨_, rfl, .inl ⟨rfl, _, _, rfl⟩, HB.out⟩
  obtain ⟨T, hT, rfl⟩ := chk_ok hc
  have HC0 := Lib.hid hc
  have HIN : Hid (insideT T.pr = (dedup (scanI true T.pr), 0)) := Lib.hid (by
    have h := Ty.scan T [] hT.wf (by have := hT.lev; omega) stop_nil
    rw [List.append_nil] at h
    rw [insideT_good hT, h]
    simp [scanI])
  have hsl := hT.len
  have HSL := Lib.hid hsl
  clear hT hc
  generalize T.pr = s at *
  have hsz : (bs s).size = s.length := bs_size s
  obtain ⟨i0, hi, hz0, hz1, hz2⟩ := info9'
  clear hsl
  go_enter Tryz.func43, Tryz.ntmps43
  go_wp2_with fail
  refine (refCheck_any s w).mono ?_
  rintro e w1 ⟨rfl, hb⟩
  have HB0 := Lib.hid hb
  clear hb
  rw [HC0.out]
  go_wp2
  go_loopg [5, 6] s.length (fun q v5 v6 wr => ∃ (i : Nat) (out : List Bys), v6 = .int .i64 i ∧ Hid (i + q = s.length) ∧ Hid (wr.ownsRow w.heap.size 9 1 v5 out.length (strVs out)) ∧ Hid ((scanI (okB s i) (s.drop i)).foldl stepD out = dedup (scanI true s)) ∧ Hid (out.length ≤ i) ∧ Hid (Below w.heap.size w wr))
  case atStart => exact ⟨0, [], rfl, Lib.hid (by omega), Lib.hid (World.ownsRow_nil _ _ _ _), Lib.hid rfl, Lib.hid (Nat.le_refl _), HB0⟩
  case round =>
    obtain ⟨i, out, rfl, HI, HOWN, HF, HOL, HB⟩ := hrel
    obtain ⟨av, cv, rfl⟩ := own_len HOWN.out
    have hib : (i : Int) ≤ 100 := by have := HI.out; have := HSL.out; omega
    by_cases hlt : i < s.length
    · have HSTEP := Lib.hid (scan_step s i hlt)
      have hok := ok_cases s i hlt
      obtain ⟨n, l, e1, e2, hbeg⟩ := beg_cases s i HSL.out hlt
      have hnm := hd_le (s.drop i)
      have hx1 : (bs s).extract i s.length = bs (s.drop i) := bs_drop s _ _ (by omega)
      have hx6 : (bs s).extract i (i + n) = bs ((s.drop i).take n) := bs_mid s i n
      have hcut := fun w => cut_any (s.drop i) (by have := HSL.out; simp; omega) w
      have hrd := fun w => read_top (s.drop i) (by have := HSL.out; simp; omega) w
      simp only [e1] at hrd
      have HCUT := Lib.hid hcut
      have HRD := Lib.hid hrd
      have HLT := Lib.hid hlt
      have hli : (i : Int) < (s.length : Int) := by omega
      have hle : (i : Int) ≤ (s.length : Int) := by omega
      have hin : (i : Int) + (n : Int) ≤ (s.length : Int) := by omega
      have hsl1 : (s.length : Int) ≤ 100 := by have := HSL.out; omega
      have hn1 : (n : Int) ≤ 100 := by omega
      have hm1 : ((hd (s.drop i)).length : Int) ≤ 100 := by have := HSL.out; simp at hnm; omega
      have hidx : ((i : Int) - 1).toNat = i - 1 := by omega
      have HBEG := Lib.hid hbeg
      generalize hmm : (hd (s.drop i)).length = m at *
      generalize hta : (s.drop i).take n = a at *
      clear hcut hrd e1 hnm hlt hmm hta e2 hbeg
      rcases hok with ⟨hok, h1⟩ | ⟨h1, h2, ⟨hok, h3⟩ | ⟨hok, h3, h4⟩ | ⟨hok, h3, h4⟩⟩
      · skip
        have HOK := Lib.hid hok
        clear hok
        rcases HBEG.out with ⟨hn0, hbg⟩ | ⟨hn0, ⟨hge, hbg⟩ | ⟨hlt5, ⟨h58, hbg⟩ | ⟨h58, hbg⟩⟩⟩
        · have z1 : ((n : Int) == 0) = true := by rw [hn0]; rfl
          have HBG := Lib.hid hbg
          clear hbg hn0
          go_wp2_with fail
          refine (HRD.out wr).mono ?_
          rintro e w2 ⟨rfl, hb2⟩
          have HB2 := Lib.hid (HB.out.trans (hb2.mono HB.out.size))
          have HOWN2 := Lib.hid (own_below HOWN.out hb2)
          clear hb2
          go_wp2_with fail
          refine (HCUT.out w2).mono ?_
          rintro e w3 ⟨rfl, rfl⟩
          go_wp2
          go_roundg (gk - 1)
          case measure => have := HI.out; have := HLT.out; omega
          case rel =>
            refine ⟨i + 1, out, by go_num, Lib.hid (by have := HI.out; have := HLT.out; omega), HOWN2, Lib.hid ?_, Lib.hid (by have := HOL.out; omega), HB2⟩
            have h := HF.out
            rw [HSTEP.out, if_pos HOK.out, HBG.out] at h
            exact h
        · have z1 : ((n : Int) == 0) = false := beq_eq_false_iff_ne.2 (by omega)
          have z2 : ¬ (i : Int) + (m : Int) < (s.length : Int) := by omega
          have HBG := Lib.hid hbg
          clear hbg hn0 hge
          go_wp2_with fail
          refine (HRD.out wr).mono ?_
          rintro e w2 ⟨rfl, hb2⟩
          have HB2 := Lib.hid (HB.out.trans (hb2.mono HB.out.size))
          have HOWN2 := Lib.hid (own_below HOWN.out hb2)
          clear hb2
          go_wp2_with fail
          refine (HCUT.out w2).mono ?_
          rintro e w3 ⟨rfl, rfl⟩
          have HOL2 : Hid (out.length ≤ 100) := Lib.hid (by have := HOL.out; have := HLT.out; have := HSL.out; omega)
          have HS2 := Lib.hid HB2.out.size
          go_wp2_with fail
          refine (refHas_any out a _ w2 (stV_own HOWN2.out) (by have := HOL2.out; omega)).mono ?_
          rintro e w3 ⟨rfl, rfl⟩
          by_cases hmem : a ∈ out
          · rw [decide_eq_true hmem]
            have HM := Lib.hid hmem
            clear hmem
            go_wp2
            go_roundg (gk - 1)
            case measure => have := HI.out; have := HLT.out; omega
            case rel =>
              refine ⟨i + 1, out, by go_num, Lib.hid (by have := HI.out; have := HLT.out; omega), HOWN2, Lib.hid ?_, Lib.hid (by have := HOL.out; omega), HB2⟩
              have h := HF.out
              rw [HSTEP.out, if_pos HOK.out, HBG.out] at h
              simp only [Option.toList, List.cons_append, List.nil_append, List.foldl_cons] at h
              rw [step_in HM.out] at h
              exact h
          · rw [decide_eq_false hmem]
            have HM := Lib.hid hmem
            clear hmem
            go_wp2_with (at_builtin; (refine wpList_append_own _ rfl _ _ 48 rfl w.heap.size 9 i0 _ 1 16 Tryz.underlying48 hi hz0 hz1 hz2 rfl (by decide) (.slice av out.length cv) out.length (strVs out) rfl (HOWN2.out.alloc _) ⟨w2.heap.size, 0, none⟩ 1 1 [.string (bs a)] rfl rfl (World.news_of_block (cs := #[.string (bs a)]) (t := 9) (fr := (0, 0)) (heap_alloc_new w2 _)) (by simp [Value.oneCell']) (by have := HOL2.out; unfold maxLen; omega) (by have := HOL2.out; omega) (by have := HS2.out; simp; omega) ?_))
            intro v' w9 hown9 hgrow9 _
            have HB9 := Lib.hid ((HB2.out.alloc HS2.out (.cells #[.string (bs a)] 9)).grown hgrow9 (by have := HS2.out; simp; omega) (fun b e => (HOWN2.out.lt b e).1))
            obtain ⟨av', cv', rfl⟩ := own_len hown9
            have HOWN9 := Lib.hid hown9
            clear hown9 hgrow9
            go_wp2
            go_roundg (gk - 1)
            case measure => have := HI.out; have := HLT.out; omega
            case rel =>
              refine ⟨i + 1, out ++ [a], by go_num, Lib.hid (by have := HI.out; have := HLT.out; omega), Lib.hid ?_, Lib.hid ?_, Lib.hid (by have := HOL.out; simp; omega), HB9⟩
              · rw [strVs_snoc, List.length_append]
                exact HOWN9.out
              · have h := HF.out
                rw [HSTEP.out, if_pos HOK.out, HBG.out] at h
                simp only [Option.toList, List.cons_append, List.nil_append, List.foldl_cons] at h
                rw [step_out HM.out] at h
                exact h
        · have z1 : ((n : Int) == 0) = false := beq_eq_false_iff_ne.2 (by omega)
          have z2 : (i : Int) + (m : Int) < (s.length : Int) := by omega
          have HBG := Lib.hid hbg
          clear hbg hn0
          go_wp2_with fail
          refine (HRD.out wr).mono ?_
          rintro e w2 ⟨rfl, hb2⟩
          have HB2 := Lib.hid (HB.out.trans (hb2.mono HB.out.size))
          have HOWN2 := Lib.hid (own_below HOWN.out hb2)
          clear hb2
          go_wp2_with fail
          refine (HCUT.out w2).mono ?_
          rintro e w3 ⟨rfl, rfl⟩
          go_wp2
          go_roundg (gk - 1)
          case measure => have := HI.out; have := HLT.out; omega
          case rel =>
            refine ⟨i + 1, out, by go_num, Lib.hid (by have := HI.out; have := HLT.out; omega), HOWN2, Lib.hid ?_, Lib.hid (by have := HOL.out; omega), HB2⟩
            have h := HF.out
            rw [HSTEP.out, if_pos HOK.out, HBG.out] at h
            exact h
        · have z1 : ((n : Int) == 0) = false := beq_eq_false_iff_ne.2 (by omega)
          have z2 : (i : Int) + (m : Int) < (s.length : Int) := by omega
          have HBG := Lib.hid hbg
          clear hbg hn0
          go_wp2_with fail
          refine (HRD.out wr).mono ?_
          rintro e w2 ⟨rfl, hb2⟩
          have HB2 := Lib.hid (HB.out.trans (hb2.mono HB.out.size))
          have HOWN2 := Lib.hid (own_below HOWN.out hb2)
          clear hb2
          go_wp2_with fail
          refine (HCUT.out w2).mono ?_
          rintro e w3 ⟨rfl, rfl⟩
          have HOL2 : Hid (out.length ≤ 100) := Lib.hid (by have := HOL.out; have := HLT.out; have := HSL.out; omega)
          have HS2 := Lib.hid HB2.out.size
          go_wp2_with fail
          refine (refHas_any out a _ w2 (stV_own HOWN2.out) (by have := HOL2.out; omega)).mono ?_
          rintro e w3 ⟨rfl, rfl⟩
          by_cases hmem : a ∈ out
          · rw [decide_eq_true hmem]
            have HM := Lib.hid hmem
            clear hmem
            go_wp2
            go_roundg (gk - 1)
            case measure => have := HI.out; have := HLT.out; omega
            case rel =>
              refine ⟨i + 1, out, by go_num, Lib.hid (by have := HI.out; have := HLT.out; omega), HOWN2, Lib.hid ?_, Lib.hid (by have := HOL.out; omega), HB2⟩
              have h := HF.out
              rw [HSTEP.out, if_pos HOK.out, HBG.out] at h
              simp only [Option.toList, List.cons_append, List.nil_append, List.foldl_cons] at h
              rw [step_in HM.out] at h
              exact h
          · rw [decide_eq_false hmem]
            have HM := Lib.hid hmem
            clear hmem
            go_wp2_with (at_builtin; (refine wpList_append_own _ rfl _ _ 48 rfl w.heap.size 9 i0 _ 1 16 Tryz.underlying48 hi hz0 hz1 hz2 rfl (by decide) (.slice av out.length cv) out.length (strVs out) rfl (HOWN2.out.alloc _) ⟨w2.heap.size, 0, none⟩ 1 1 [.string (bs a)] rfl rfl (World.news_of_block (cs := #[.string (bs a)]) (t := 9) (fr := (0, 0)) (heap_alloc_new w2 _)) (by simp [Value.oneCell']) (by have := HOL2.out; unfold maxLen; omega) (by have := HOL2.out; omega) (by have := HS2.out; simp; omega) ?_))
            intro v' w9 hown9 hgrow9 _
            have HB9 := Lib.hid ((HB2.out.alloc HS2.out (.cells #[.string (bs a)] 9)).grown hgrow9 (by have := HS2.out; simp; omega) (fun b e => (HOWN2.out.lt b e).1))
            obtain ⟨av', cv', rfl⟩ := own_len hown9
            have HOWN9 := Lib.hid hown9
            clear hown9 hgrow9
            go_wp2
            go_roundg (gk - 1)
            case measure => have := HI.out; have := HLT.out; omega
            case rel =>
              refine ⟨i + 1, out ++ [a], by go_num, Lib.hid (by have := HI.out; have := HLT.out; omega), Lib.hid ?_, Lib.hid ?_, Lib.hid (by have := HOL.out; simp; omega), HB9⟩
              · rw [strVs_snoc, List.length_append]
                exact HOWN9.out
              · have h := HF.out
                rw [HSTEP.out, if_pos HOK.out, HBG.out] at h
                simp only [Option.toList, List.cons_append, List.nil_append, List.foldl_cons] at h
                rw [step_out HM.out] at h
                exact h
      · skip
        have p0 : (0 : Int) ≤ (i : Int) - 1 := by omega
        have p1 : (i : Int) - 1 < (s.length : Int) := by omega
        have HOK := Lib.hid hok
        clear hok
        rcases HBEG.out with ⟨hn0, hbg⟩ | ⟨hn0, ⟨hge, hbg⟩ | ⟨hlt5, ⟨h58, hbg⟩ | ⟨h58, hbg⟩⟩⟩
        · have z1 : ((n : Int) == 0) = true := by rw [hn0]; rfl
          have HBG := Lib.hid hbg
          clear hbg hn0
          go_wp2_with fail
          refine (HRD.out wr).mono ?_
          rintro e w2 ⟨rfl, hb2⟩
          have HB2 := Lib.hid (HB.out.trans (hb2.mono HB.out.size))
          have HOWN2 := Lib.hid (own_below HOWN.out hb2)
          clear hb2
          go_wp2_with fail
          refine (HCUT.out w2).mono ?_
          rintro e w3 ⟨rfl, rfl⟩
          go_wp2
          go_roundg (gk - 1)
          case measure => have := HI.out; have := HLT.out; omega
          case rel =>
            refine ⟨i + 1, out, by go_num, Lib.hid (by have := HI.out; have := HLT.out; omega), HOWN2, Lib.hid ?_, Lib.hid (by have := HOL.out; omega), HB2⟩
            have h := HF.out
            rw [HSTEP.out, if_pos HOK.out, HBG.out] at h
            exact h
        · have z1 : ((n : Int) == 0) = false := beq_eq_false_iff_ne.2 (by omega)
          have z2 : ¬ (i : Int) + (m : Int) < (s.length : Int) := by omega
          have HBG := Lib.hid hbg
          clear hbg hn0 hge
          go_wp2_with fail
          refine (HRD.out wr).mono ?_
          rintro e w2 ⟨rfl, hb2⟩
          have HB2 := Lib.hid (HB.out.trans (hb2.mono HB.out.size))
          have HOWN2 := Lib.hid (own_below HOWN.out hb2)
          clear hb2
          go_wp2_with fail
          refine (HCUT.out w2).mono ?_
          rintro e w3 ⟨rfl, rfl⟩
          have HOL2 : Hid (out.length ≤ 100) := Lib.hid (by have := HOL.out; have := HLT.out; have := HSL.out; omega)
          have HS2 := Lib.hid HB2.out.size
          go_wp2_with fail
          refine (refHas_any out a _ w2 (stV_own HOWN2.out) (by have := HOL2.out; omega)).mono ?_
          rintro e w3 ⟨rfl, rfl⟩
          by_cases hmem : a ∈ out
          · rw [decide_eq_true hmem]
            have HM := Lib.hid hmem
            clear hmem
            go_wp2
            go_roundg (gk - 1)
            case measure => have := HI.out; have := HLT.out; omega
            case rel =>
              refine ⟨i + 1, out, by go_num, Lib.hid (by have := HI.out; have := HLT.out; omega), HOWN2, Lib.hid ?_, Lib.hid (by have := HOL.out; omega), HB2⟩
              have h := HF.out
              rw [HSTEP.out, if_pos HOK.out, HBG.out] at h
              simp only [Option.toList, List.cons_append, List.nil_append, List.foldl_cons] at h
              rw [step_in HM.out] at h
              exact h
          · rw [decide_eq_false hmem]
            have HM := Lib.hid hmem
            clear hmem
            go_wp2_with (at_builtin; (refine wpList_append_own _ rfl _ _ 48 rfl w.heap.size 9 i0 _ 1 16 Tryz.underlying48 hi hz0 hz1 hz2 rfl (by decide) (.slice av out.length cv) out.length (strVs out) rfl (HOWN2.out.alloc _) ⟨w2.heap.size, 0, none⟩ 1 1 [.string (bs a)] rfl rfl (World.news_of_block (cs := #[.string (bs a)]) (t := 9) (fr := (0, 0)) (heap_alloc_new w2 _)) (by simp [Value.oneCell']) (by have := HOL2.out; unfold maxLen; omega) (by have := HOL2.out; omega) (by have := HS2.out; simp; omega) ?_))
            intro v' w9 hown9 hgrow9 _
            have HB9 := Lib.hid ((HB2.out.alloc HS2.out (.cells #[.string (bs a)] 9)).grown hgrow9 (by have := HS2.out; simp; omega) (fun b e => (HOWN2.out.lt b e).1))
            obtain ⟨av', cv', rfl⟩ := own_len hown9
            have HOWN9 := Lib.hid hown9
            clear hown9 hgrow9
            go_wp2
            go_roundg (gk - 1)
            case measure => have := HI.out; have := HLT.out; omega
            case rel =>
              refine ⟨i + 1, out ++ [a], by go_num, Lib.hid (by have := HI.out; have := HLT.out; omega), Lib.hid ?_, Lib.hid ?_, Lib.hid (by have := HOL.out; simp; omega), HB9⟩
              · rw [strVs_snoc, List.length_append]
                exact HOWN9.out
              · have h := HF.out
                rw [HSTEP.out, if_pos HOK.out, HBG.out] at h
                simp only [Option.toList, List.cons_append, List.nil_append, List.foldl_cons] at h
                rw [step_out HM.out] at h
                exact h
        · have z1 : ((n : Int) == 0) = false := beq_eq_false_iff_ne.2 (by omega)
          have z2 : (i : Int) + (m : Int) < (s.length : Int) := by omega
          have HBG := Lib.hid hbg
          clear hbg hn0
          go_wp2_with fail
          refine (HRD.out wr).mono ?_
          rintro e w2 ⟨rfl, hb2⟩
          have HB2 := Lib.hid (HB.out.trans (hb2.mono HB.out.size))
          have HOWN2 := Lib.hid (own_below HOWN.out hb2)
          clear hb2
          go_wp2_with fail
          refine (HCUT.out w2).mono ?_
          rintro e w3 ⟨rfl, rfl⟩
          go_wp2
          go_roundg (gk - 1)
          case measure => have := HI.out; have := HLT.out; omega
          case rel =>
            refine ⟨i + 1, out, by go_num, Lib.hid (by have := HI.out; have := HLT.out; omega), HOWN2, Lib.hid ?_, Lib.hid (by have := HOL.out; omega), HB2⟩
            have h := HF.out
            rw [HSTEP.out, if_pos HOK.out, HBG.out] at h
            exact h
        · have z1 : ((n : Int) == 0) = false := beq_eq_false_iff_ne.2 (by omega)
          have z2 : (i : Int) + (m : Int) < (s.length : Int) := by omega
          have HBG := Lib.hid hbg
          clear hbg hn0
          go_wp2_with fail
          refine (HRD.out wr).mono ?_
          rintro e w2 ⟨rfl, hb2⟩
          have HB2 := Lib.hid (HB.out.trans (hb2.mono HB.out.size))
          have HOWN2 := Lib.hid (own_below HOWN.out hb2)
          clear hb2
          go_wp2_with fail
          refine (HCUT.out w2).mono ?_
          rintro e w3 ⟨rfl, rfl⟩
          have HOL2 : Hid (out.length ≤ 100) := Lib.hid (by have := HOL.out; have := HLT.out; have := HSL.out; omega)
          have HS2 := Lib.hid HB2.out.size
          go_wp2_with fail
          refine (refHas_any out a _ w2 (stV_own HOWN2.out) (by have := HOL2.out; omega)).mono ?_
          rintro e w3 ⟨rfl, rfl⟩
          by_cases hmem : a ∈ out
          · rw [decide_eq_true hmem]
            have HM := Lib.hid hmem
            clear hmem
            go_wp2
            go_roundg (gk - 1)
            case measure => have := HI.out; have := HLT.out; omega
            case rel =>
              refine ⟨i + 1, out, by go_num, Lib.hid (by have := HI.out; have := HLT.out; omega), HOWN2, Lib.hid ?_, Lib.hid (by have := HOL.out; omega), HB2⟩
              have h := HF.out
              rw [HSTEP.out, if_pos HOK.out, HBG.out] at h
              simp only [Option.toList, List.cons_append, List.nil_append, List.foldl_cons] at h
              rw [step_in HM.out] at h
              exact h
          · rw [decide_eq_false hmem]
            have HM := Lib.hid hmem
            clear hmem
            go_wp2_with (at_builtin; (refine wpList_append_own _ rfl _ _ 48 rfl w.heap.size 9 i0 _ 1 16 Tryz.underlying48 hi hz0 hz1 hz2 rfl (by decide) (.slice av out.length cv) out.length (strVs out) rfl (HOWN2.out.alloc _) ⟨w2.heap.size, 0, none⟩ 1 1 [.string (bs a)] rfl rfl (World.news_of_block (cs := #[.string (bs a)]) (t := 9) (fr := (0, 0)) (heap_alloc_new w2 _)) (by simp [Value.oneCell']) (by have := HOL2.out; unfold maxLen; omega) (by have := HOL2.out; omega) (by have := HS2.out; simp; omega) ?_))
            intro v' w9 hown9 hgrow9 _
            have HB9 := Lib.hid ((HB2.out.alloc HS2.out (.cells #[.string (bs a)] 9)).grown hgrow9 (by have := HS2.out; simp; omega) (fun b e => (HOWN2.out.lt b e).1))
            obtain ⟨av', cv', rfl⟩ := own_len hown9
            have HOWN9 := Lib.hid hown9
            clear hown9 hgrow9
            go_wp2
            go_roundg (gk - 1)
            case measure => have := HI.out; have := HLT.out; omega
            case rel =>
              refine ⟨i + 1, out ++ [a], by go_num, Lib.hid (by have := HI.out; have := HLT.out; omega), Lib.hid ?_, Lib.hid ?_, Lib.hid (by have := HOL.out; simp; omega), HB9⟩
              · rw [strVs_snoc, List.length_append]
                exact HOWN9.out
              · have h := HF.out
                rw [HSTEP.out, if_pos HOK.out, HBG.out] at h
                simp only [Option.toList, List.cons_append, List.nil_append, List.foldl_cons] at h
                rw [step_out HM.out] at h
                exact h
      · skip
        have p0 : (0 : Int) ≤ (i : Int) - 1 := by omega
        have p1 : (i : Int) - 1 < (s.length : Int) := by omega
        have HOK := Lib.hid hok
        clear hok
        rcases HBEG.out with ⟨hn0, hbg⟩ | ⟨hn0, ⟨hge, hbg⟩ | ⟨hlt5, ⟨h58, hbg⟩ | ⟨h58, hbg⟩⟩⟩
        · have z1 : ((n : Int) == 0) = true := by rw [hn0]; rfl
          have HBG := Lib.hid hbg
          clear hbg hn0
          go_wp2_with fail
          refine (HRD.out wr).mono ?_
          rintro e w2 ⟨rfl, hb2⟩
          have HB2 := Lib.hid (HB.out.trans (hb2.mono HB.out.size))
          have HOWN2 := Lib.hid (own_below HOWN.out hb2)
          clear hb2
          go_wp2_with fail
          refine (HCUT.out w2).mono ?_
          rintro e w3 ⟨rfl, rfl⟩
          go_wp2
          go_roundg (gk - 1)
          case measure => have := HI.out; have := HLT.out; omega
          case rel =>
            refine ⟨i + 1, out, by go_num, Lib.hid (by have := HI.out; have := HLT.out; omega), HOWN2, Lib.hid ?_, Lib.hid (by have := HOL.out; omega), HB2⟩
            have h := HF.out
            rw [HSTEP.out, if_pos HOK.out, HBG.out] at h
            exact h
        · have z1 : ((n : Int) == 0) = false := beq_eq_false_iff_ne.2 (by omega)
          have z2 : ¬ (i : Int) + (m : Int) < (s.length : Int) := by omega
          have HBG := Lib.hid hbg
          clear hbg hn0 hge
          go_wp2_with fail
          refine (HRD.out wr).mono ?_
          rintro e w2 ⟨rfl, hb2⟩
          have HB2 := Lib.hid (HB.out.trans (hb2.mono HB.out.size))
          have HOWN2 := Lib.hid (own_below HOWN.out hb2)
          clear hb2
          go_wp2_with fail
          refine (HCUT.out w2).mono ?_
          rintro e w3 ⟨rfl, rfl⟩
          have HOL2 : Hid (out.length ≤ 100) := Lib.hid (by have := HOL.out; have := HLT.out; have := HSL.out; omega)
          have HS2 := Lib.hid HB2.out.size
          go_wp2_with fail
          refine (refHas_any out a _ w2 (stV_own HOWN2.out) (by have := HOL2.out; omega)).mono ?_
          rintro e w3 ⟨rfl, rfl⟩
          by_cases hmem : a ∈ out
          · rw [decide_eq_true hmem]
            have HM := Lib.hid hmem
            clear hmem
            go_wp2
            go_roundg (gk - 1)
            case measure => have := HI.out; have := HLT.out; omega
            case rel =>
              refine ⟨i + 1, out, by go_num, Lib.hid (by have := HI.out; have := HLT.out; omega), HOWN2, Lib.hid ?_, Lib.hid (by have := HOL.out; omega), HB2⟩
              have h := HF.out
              rw [HSTEP.out, if_pos HOK.out, HBG.out] at h
              simp only [Option.toList, List.cons_append, List.nil_append, List.foldl_cons] at h
              rw [step_in HM.out] at h
              exact h
          · rw [decide_eq_false hmem]
            have HM := Lib.hid hmem
            clear hmem
            go_wp2_with (at_builtin; (refine wpList_append_own _ rfl _ _ 48 rfl w.heap.size 9 i0 _ 1 16 Tryz.underlying48 hi hz0 hz1 hz2 rfl (by decide) (.slice av out.length cv) out.length (strVs out) rfl (HOWN2.out.alloc _) ⟨w2.heap.size, 0, none⟩ 1 1 [.string (bs a)] rfl rfl (World.news_of_block (cs := #[.string (bs a)]) (t := 9) (fr := (0, 0)) (heap_alloc_new w2 _)) (by simp [Value.oneCell']) (by have := HOL2.out; unfold maxLen; omega) (by have := HOL2.out; omega) (by have := HS2.out; simp; omega) ?_))
            intro v' w9 hown9 hgrow9 _
            have HB9 := Lib.hid ((HB2.out.alloc HS2.out (.cells #[.string (bs a)] 9)).grown hgrow9 (by have := HS2.out; simp; omega) (fun b e => (HOWN2.out.lt b e).1))
            obtain ⟨av', cv', rfl⟩ := own_len hown9
            have HOWN9 := Lib.hid hown9
            clear hown9 hgrow9
            go_wp2
            go_roundg (gk - 1)
            case measure => have := HI.out; have := HLT.out; omega
            case rel =>
              refine ⟨i + 1, out ++ [a], by go_num, Lib.hid (by have := HI.out; have := HLT.out; omega), Lib.hid ?_, Lib.hid ?_, Lib.hid (by have := HOL.out; simp; omega), HB9⟩
              · rw [strVs_snoc, List.length_append]
                exact HOWN9.out
              · have h := HF.out
                rw [HSTEP.out, if_pos HOK.out, HBG.out] at h
                simp only [Option.toList, List.cons_append, List.nil_append, List.foldl_cons] at h
                rw [step_out HM.out] at h
                exact h
        · have z1 : ((n : Int) == 0) = false := beq_eq_false_iff_ne.2 (by omega)
          have z2 : (i : Int) + (m : Int) < (s.length : Int) := by omega
          have HBG := Lib.hid hbg
          clear hbg hn0
          go_wp2_with fail
          refine (HRD.out wr).mono ?_
          rintro e w2 ⟨rfl, hb2⟩
          have HB2 := Lib.hid (HB.out.trans (hb2.mono HB.out.size))
          have HOWN2 := Lib.hid (own_below HOWN.out hb2)
          clear hb2
          go_wp2_with fail
          refine (HCUT.out w2).mono ?_
          rintro e w3 ⟨rfl, rfl⟩
          go_wp2
          go_roundg (gk - 1)
          case measure => have := HI.out; have := HLT.out; omega
          case rel =>
            refine ⟨i + 1, out, by go_num, Lib.hid (by have := HI.out; have := HLT.out; omega), HOWN2, Lib.hid ?_, Lib.hid (by have := HOL.out; omega), HB2⟩
            have h := HF.out
            rw [HSTEP.out, if_pos HOK.out, HBG.out] at h
            exact h
        · have z1 : ((n : Int) == 0) = false := beq_eq_false_iff_ne.2 (by omega)
          have z2 : (i : Int) + (m : Int) < (s.length : Int) := by omega
          have HBG := Lib.hid hbg
          clear hbg hn0
          go_wp2_with fail
          refine (HRD.out wr).mono ?_
          rintro e w2 ⟨rfl, hb2⟩
          have HB2 := Lib.hid (HB.out.trans (hb2.mono HB.out.size))
          have HOWN2 := Lib.hid (own_below HOWN.out hb2)
          clear hb2
          go_wp2_with fail
          refine (HCUT.out w2).mono ?_
          rintro e w3 ⟨rfl, rfl⟩
          have HOL2 : Hid (out.length ≤ 100) := Lib.hid (by have := HOL.out; have := HLT.out; have := HSL.out; omega)
          have HS2 := Lib.hid HB2.out.size
          go_wp2_with fail
          refine (refHas_any out a _ w2 (stV_own HOWN2.out) (by have := HOL2.out; omega)).mono ?_
          rintro e w3 ⟨rfl, rfl⟩
          by_cases hmem : a ∈ out
          · rw [decide_eq_true hmem]
            have HM := Lib.hid hmem
            clear hmem
            go_wp2
            go_roundg (gk - 1)
            case measure => have := HI.out; have := HLT.out; omega
            case rel =>
              refine ⟨i + 1, out, by go_num, Lib.hid (by have := HI.out; have := HLT.out; omega), HOWN2, Lib.hid ?_, Lib.hid (by have := HOL.out; omega), HB2⟩
              have h := HF.out
              rw [HSTEP.out, if_pos HOK.out, HBG.out] at h
              simp only [Option.toList, List.cons_append, List.nil_append, List.foldl_cons] at h
              rw [step_in HM.out] at h
              exact h
          · rw [decide_eq_false hmem]
            have HM := Lib.hid hmem
            clear hmem
            go_wp2_with (at_builtin; (refine wpList_append_own _ rfl _ _ 48 rfl w.heap.size 9 i0 _ 1 16 Tryz.underlying48 hi hz0 hz1 hz2 rfl (by decide) (.slice av out.length cv) out.length (strVs out) rfl (HOWN2.out.alloc _) ⟨w2.heap.size, 0, none⟩ 1 1 [.string (bs a)] rfl rfl (World.news_of_block (cs := #[.string (bs a)]) (t := 9) (fr := (0, 0)) (heap_alloc_new w2 _)) (by simp [Value.oneCell']) (by have := HOL2.out; unfold maxLen; omega) (by have := HOL2.out; omega) (by have := HS2.out; simp; omega) ?_))
            intro v' w9 hown9 hgrow9 _
            have HB9 := Lib.hid ((HB2.out.alloc HS2.out (.cells #[.string (bs a)] 9)).grown hgrow9 (by have := HS2.out; simp; omega) (fun b e => (HOWN2.out.lt b e).1))
            obtain ⟨av', cv', rfl⟩ := own_len hown9
            have HOWN9 := Lib.hid hown9
            clear hown9 hgrow9
            go_wp2
            go_roundg (gk - 1)
            case measure => have := HI.out; have := HLT.out; omega
            case rel =>
              refine ⟨i + 1, out ++ [a], by go_num, Lib.hid (by have := HI.out; have := HLT.out; omega), Lib.hid ?_, Lib.hid ?_, Lib.hid (by have := HOL.out; simp; omega), HB9⟩
              · rw [strVs_snoc, List.length_append]
                exact HOWN9.out
              · have h := HF.out
                rw [HSTEP.out, if_pos HOK.out, HBG.out] at h
                simp only [Option.toList, List.cons_append, List.nil_append, List.foldl_cons] at h
                rw [step_out HM.out] at h
                exact h
      · have p0 : (0 : Int) ≤ (i : Int) - 1 := by omega
        have p1 : (i : Int) - 1 < (s.length : Int) := by omega
        have HOK := Lib.hid hok
        clear hok
        go_wp2
        go_roundg (gk - 1)
        case measure => have := HI.out; have := HLT.out; omega
        case rel =>
          refine ⟨i + 1, out, by go_num, Lib.hid (by have := HI.out; have := HLT.out; omega), HOWN, Lib.hid ?_, Lib.hid (by have := HOL.out; omega), HB⟩
          have h := HF.out
          rw [HSTEP.out, HOK.out] at h
          exact h
    · have hli : ¬ (i : Int) < (s.length : Int) := by omega
      have HE : Hid (out = dedup (scanI true s)) := Lib.hid (by
        have h := HF.out
        rw [List.drop_of_length_le (by omega)] at h
        simpa [scanI] using h)
      clear hlt
      go_wp2
      go_ret2
      refine ⟨_, by rw [HIN.out]; rfl, ?_, HB.out⟩
      rw [HIN.out, ← HE.out]
      exact stV_own HOWN.out
end Go.Proofs.YthcoppfdffhjfaaGreatDoor
/- The reference's Names: a list that is kept in order, as rows that are cut and joined. -/
namespace Go.Proofs.YthcoppfdffhjfaaGreatDoor
open Go Go.RowKit

/-- One name put where it belongs. -/
theorem ins_asc {out : List Bys} {name : Bys} {at_ : Nat} (ha : Asc id out) (hn : name ∉ out) (h1 : at_ ≤ out.length) (h2 : ∀ (j : Nat) (x : Bys), at_ ≤ j → out[j]? = some x → name < x) (h3 : at_ = 0 ∨ ∃ x, out[at_ - 1]? = some x ∧ ¬ name < x) :
    Asc id (out.take at_ ++ [name] ++ out.drop at_) ∧ ∀ x, x ∈ out.take at_ ++ [name] ++ out.drop at_ ↔ x = name ∨ x ∈ out := by
  constructor
  · have hsplit := List.take_append_drop at_ out
    have hd : ∀ x ∈ out.drop at_, name < x := fun x hx => by
      obtain ⟨j, hj⟩ := List.mem_iff_getElem?.1 hx
      rw [List.getElem?_drop] at hj
      exact h2 _ x (by omega) hj
    have ht : ∀ x ∈ out.take at_, x < name := fun x hx => by
      obtain ⟨j, hj⟩ := List.mem_iff_getElem?.1 hx
      rw [List.getElem?_take] at hj
      split at hj
      · rename_i hja
        rcases h3 with h3 | ⟨y, hy, hyn⟩
        · omega
        · have hyo : y ∈ out := List.mem_of_getElem? hy
          have hyl : y < name := by
            by_cases k : y < name
            · exact k
            · exact absurd (bys_tri k hyn) (fun e => hn (e ▸ hyo))
          by_cases e : j = at_ - 1
          · subst e
            rw [hy] at hj
            injection hj with hj
            exact hj ▸ hyl
          · have hp := List.pairwise_iff_getElem.1 ha j (at_ - 1) (List.getElem?_eq_some_iff.1 hj).1 (List.getElem?_eq_some_iff.1 hy).1 (by omega)
            rw [(List.getElem?_eq_some_iff.1 hj).2, (List.getElem?_eq_some_iff.1 hy).2] at hp
            exact bys_lt hp hyl
      · cases hj
    unfold Asc at ha ⊢
    rw [← hsplit, List.pairwise_append] at ha
    rw [List.append_assoc, List.pairwise_append]
    refine ⟨ha.1, ?_, fun a hx b hb => ?_⟩
    · exact List.pairwise_cons.2 ⟨hd, ha.2.1⟩
    · rcases List.mem_cons.1 hb with rfl | hb
      · exact ht a hx
      · exact ha.2.2 a hx b hb
  · intro x
    have hsplit : x ∈ out ↔ x ∈ out.take at_ ∨ x ∈ out.drop at_ := by
      rw [← List.mem_append, List.take_append_drop]
    rw [hsplit]
    simp only [List.mem_append, List.mem_singleton]
    constructor
    · rintro ((h | h) | h)
      · exact .inr (.inl h)
      · exact .inl h
      · exact .inr (.inr h)
    · rintro (h | h | h)
      · exact .inl (.inr h)
      · exact .inl (.inl h)
      · exact .inr h

/-- The types that stand in a type, once each, as their texts stand. -/
theorem inside_types {T : Ty} (h : Good T) : ∃ Ls : List Ty, Ls.map Ty.pr = (insideT T.pr).1 ∧ (∀ U ∈ Ls, Good U) ∧ ∀ x, x ∈ nmsL Ls ↔ x ∈ T.nms := by
  rw [insideT_good h]
  have key : ∀ m : List Bys, (∀ x ∈ m, x ∈ T.all.map Ty.pr) → ∃ Ls : List Ty, Ls.map Ty.pr = m ∧ ∀ U ∈ Ls, U ∈ T.all := by
    intro m
    induction m with
    | nil => exact fun _ => ⟨[], rfl, by simp⟩
    | cons a m ih =>
      intro hm
      obtain ⟨Ls, e, hL⟩ := ih fun x hx => hm x (by simp [hx])
      obtain ⟨U, hU, rfl⟩ := List.mem_map.1 (hm a (by simp))
      refine ⟨U :: Ls, by simp [e], fun V hV => ?_⟩
      rcases List.mem_cons.1 hV with rfl | hV
      · exact hU
      · exact hL V hV
  obtain ⟨Ls, e, hL⟩ := key (dedup (T.all.map Ty.pr)) fun x hx => (dedup_mem _ x).1 hx
  refine ⟨Ls, e, fun U hU => h.inside (hL U hU), fun x => ?_⟩
  rw [T.nms_all]
  have mem : ∀ l : List Ty, x ∈ nmsL l ↔ ∃ U ∈ l, U.kind = 7 ∧ frontOf U = x := fun l => by
    unfold nmsL
    rw [List.mem_flatMap]
    constructor
    · rintro ⟨U, hU, hx⟩
      split at hx
      · rename_i hk
        exact ⟨U, hU, hk, (List.mem_singleton.1 hx).symm⟩
      · cases hx
    · rintro ⟨U, hU, hk, rfl⟩
      exact ⟨U, hU, by rw [if_pos hk]; simp⟩
  rw [mem, mem]
  constructor
  · rintro ⟨U, hU, hk⟩
    exact ⟨U, hL U hU, hk⟩
  · rintro ⟨U, hU, hk⟩
    have : U.pr ∈ Ls.map Ty.pr := by rw [e]; exact (dedup_mem _ _).2 (List.mem_map_of_mem hU)
    obtain ⟨V, hV, ev⟩ := List.mem_map.1 this
    have := pr_inj (h.inside (hL V hV)).wf (h.inside hU).wf ev
    exact ⟨V, hV, this ▸ hk⟩
theorem nmsL_take (Ls : List Ty) (i : Nat) (U : Ty) (h : Ls[i]? = some U) : nmsL (Ls.take (i + 1)) = if U.kind = 7 then nmsL (Ls.take i) ++ [frontOf U] else nmsL (Ls.take i) := by
  rw [List.take_add_one, h]
  exact nmsL_snoc _ _

/-- What can be appended to a row of texts. -/
def SrcS (w : World) (v : Value) (ys : List Bys) : Prop := (v = .slice none 0 0 ∧ ys = []) ∨ ∃ g o c, v = .slice (some ⟨g, o, none⟩) ys.length c ∧ g < w.heap.size ∧ StrRow w g o ys
theorem SrcS.keep {w w' : World} {v : Value} {ys : List Bys} (h : SrcS w v ys) (hb : Below w.heap.size w w') : SrcS w' v ys := by
  rcases h with h | ⟨g, o, c, h1, h2, h3⟩
  · exact .inl h
  · exact .inr ⟨g, o, c, h1, Nat.lt_of_lt_of_le h2 hb.size, h3.keep (hb.block g h2)⟩
theorem wpList_append_strs {w : World} {ops : Array Oper} {rest : List Oper} {o : Oper} {a : Act} {Q : Exit → Act → World → Prop} (hgd : o.guard = none) (s x : Operand)
    (ho : o.op = .call { callee := .builtin .append, args := #[s, x], argTypes := #[48, 48] }) (base : Nat) (v : Value) (n : Nat) (xs : List Value) (hs : a.eval s = v) (hown : w.ownsRow base 9 1 v n xs) (v2 : Value) (ys : List Bys) (hx : a.eval x = v2)
    (hsrc : SrcS w v2 ys) (hn : n + ys.length ≤ 100000) (hbase : base ≤ w.heap.size)
    (h : ∀ v' w', w'.ownsRow base 9 1 v' (n + ys.length) (xs ++ strVs ys) → w.grownBy w' v.ownBlock → wpList Tryz.prog ops Q rest (a.put o.dst v') w') : wpList Tryz.prog ops Q (o :: rest) a w := by
  obtain ⟨i0, hi, hz0, hz1, hz2⟩ := info9'
  rcases hsrc with ⟨rfl, rfl⟩ | ⟨g, off, c, rfl, _, hr⟩
  · refine wpList_append_own_none hgd s x 48 ho base 9 i0 1 Tryz.underlying48 hi v n xs hs hown hx ?_
    have := h v w (by simpa [strVs] using hown) ⟨rfl, rfl, rfl, Nat.le_refl _, fun _ _ _ => rfl⟩
    exact this
  · refine wpList_append_own _ hgd s x 48 ho base 9 i0 _ 1 16 Tryz.underlying48 hi hz0 hz1 hz2 rfl (by decide) v n xs hs hown ⟨g, off, none⟩ ys.length c (strVs ys) hx (by simp [strVs]) (fun j u hj => ?_) (fun u hu => ?_) (by unfold maxLen; omega) (by omega) hbase (fun v' w' h1 h2 _ => h v' w' h1 h2)
    · unfold strVs at hj
      rw [List.getElem?_map] at hj
      cases hy : ys[j]? with
      | none => rw [hy] at hj; cases hj
      | some y =>
        rw [hy] at hj
        simp only [Option.map_some, Option.some.injEq] at hj
        subst hj
        rw [Addr.add_lit]
        exact hr j y hy
    · unfold strVs at hu
      obtain ⟨y, _, rfl⟩ := List.mem_map.1 hu
      rfl
/-- The head and the rest of a row of texts of one's own. -/
theorem own_cut {w : World} {base : Nat} {v : Value} {out : List Bys} (h : w.ownsRow base 9 1 v out.length (strVs out)) (at_ : Nat) (hat : at_ ≤ out.length) (hlen : out.length ≤ 1000) :
    ∃ a1 c1 a2 c2, (∀ w', (Instr.slice 48 v none (some (.int .i64 at_)) none).run Tryz.prog w' = .ok (.slice a1 at_ c1) w') ∧ SrcS w (.slice a1 at_ c1) (out.take at_) ∧
      (∀ w', (Instr.slice 48 v (some (.int .i64 at_)) none none).run Tryz.prog w' = .ok (.slice a2 (out.length - at_) c2) w') ∧ SrcS w (.slice a2 (out.length - at_) c2) (out.drop at_) := by
  have t48 := Tryz.underlying48
  have z9 := Tryz.sizeOf9
  rcases h with ⟨hx, ⟨rfl, h0⟩ | ⟨g, cap, cur, rfl, hg, hh, hc, hm, hcs, ht⟩⟩
  · have ho : out = [] := List.length_eq_zero_iff.1 h0
    subst ho
    have : at_ = 0 := by simpa using hat
    subst this
    refine ⟨none, 0, none, 0, fun w' => ?_, .inl ⟨rfl, rfl⟩, fun w' => ?_, .inl ⟨rfl, rfl⟩⟩
    · simp [Instr.slice, run_underlying t48, Instr.sliceBounds, Instr.sliceBound, asIntOf, go_sem]
    · simp [Instr.slice, run_underlying t48, Instr.sliceBounds, Instr.sliceBound, asIntOf, go_sem]
  · have hgl := (Array.getElem?_eq_some_iff.1 hh).1
    have hrow : StrRow w g 0 out := fun i x hi => by
      have hi2 : i < out.length := (List.getElem?_eq_some_iff.1 hi).1
      rw [cell_of_row w g (0 + i) cur 9 (0, 0) hh]
      have : (strVs out)[i]? = some (.string (bs x)) := by unfold strVs; rw [List.getElem?_map, hi]; rfl
      rw [← ht, List.getElem?_take] at this
      rw [if_pos (by omega)] at this
      simpa using this
    refine ⟨some ⟨g, 0, none⟩, cap, some ⟨g, if cap = at_ then 0 else at_, none⟩, cap - at_, fun w' => ?_, .inr ⟨g, 0, cap, by rw [List.length_take, Nat.min_eq_left hat], hgl, fun i x hi => ?_⟩, fun w' => ?_, .inr ⟨g, _, cap - at_, by rw [List.length_drop], hgl, fun i x hi => ?_⟩⟩
    · simp [Instr.slice, run_underlying t48, Instr.sliceBounds, Instr.sliceBound, asIntOf, go_sem]
      intro h; omega
    · rw [List.getElem?_take] at hi
      split at hi
      · exact hrow i x hi
      · cases hi
    · simp [Instr.slice, run_underlying t48, Instr.sliceBounds, Instr.sliceBound, asIntOf, go_sem]
      rw [if_pos hat]
      split <;> rfl
    · rw [List.getElem?_drop] at hi
      have hi2 := (List.getElem?_eq_some_iff.1 hi).1
      rw [if_neg (by omega)]
      have := hrow _ x hi
      rw [Nat.zero_add] at this
      exact this
theorem own_empty (w : World) : (w.alloc (.cells #[] 9)).ownsRow w.heap.size 9 1 (.slice (some ⟨w.heap.size, 0, none⟩) 0 0) 0 [] :=
  ⟨rfl, .inr ⟨w.heap.size, 0, #[], rfl, Nat.le_refl _, heap_alloc_new w _, Nat.le_refl _, by unfold maxLen; omega, rfl, rfl⟩⟩
end Go.Proofs.YthcoppfdffhjfaaGreatDoor
/- The reference's Names: the walk. -/
namespace Go.Proofs.YthcoppfdffhjfaaGreatDoor
open Go Go.RowKit

theorem own_mono {w : World} {base base' : Nat} {e : TypeId} {size : Nat} {v : Value} {n : Nat} {xs : List Value} (h : w.ownsRow base e size v n xs) (hb : base' ≤ base) : w.ownsRow base' e size v n xs := by
  obtain ⟨h1, h2 | ⟨g, cap, cur, h3, h4, h5⟩⟩ := h
  · exact ⟨h1, .inl h2⟩
  · exact ⟨h1, .inr ⟨g, cap, cur, h3, Nat.le_trans hb h4, h5⟩⟩
set_option maxRecDepth 100000 in
set_option maxHeartbeats 25600000 in
theorem refNames_any (s : Bys) (w : World) : Calls Tryz.prog 45 #[.string (bs s)] w fun e w' => ∃ v, e = .returned (.tuple #[v, .int .i64 (namesT s).2]) ∧ StV w' v (namesT s).1 ∧ Below w.heap.size w w' := by
  by_cases hc : chk s = 0
  rotate_left
  · have HK := Lib.hid (show insideT s = ([], chk s) by unfold insideT; rw [if_pos hc])
    have HN := Lib.hid (show namesT s = ([], chk s) by unfold namesT; rw [if_pos hc])
    have z2 : (chk s != 0) = true := bne_iff_ne.2 hc
    clear hc
    go_enter Tryz.func45, Tryz.ntmps45
    go_wp2_with fail
    refine (refInside_any s w).mono ?_
    rw [HK.out]
    rintro e w1 ⟨v, rfl, _, hb⟩
    have HB := Lib.hid hb
    clear hb
    go_wp2
    go_ret2
    rw [HN.out]
    exact ⟨_, rfl, .inl ⟨rfl, _, _, rfl⟩, HB.out⟩
  obtain ⟨T, hT, rfl⟩ := chk_ok hc
  have hins := refInside_any T.pr w
  rw [show insideT T.pr = ((insideT T.pr).1, 0) by rw [insideT_good hT]] at hins
  obtain ⟨Ls, hLs, hLg, hLm⟩ := inside_types hT
  have hcount : (insideT T.pr).1.length ≤ 101 := by
    rw [insideT_good hT]
    have h1 := dedup_len (T.all.map Ty.pr)
    have h2 := T.all_len
    have := hT.len
    simp at h1 ⊢
    omega
  have hpos : 0 < (insideT T.pr).1.length := by
    refine List.length_pos_iff_exists_mem.2 ⟨T.pr, ?_⟩
    rw [insideT_good hT]
    refine (dedup_mem _ _).2 (List.mem_map_of_mem ?_)
    cases T <;> simp [Ty.all]
  have HN : Hid (namesT T.pr = (ascOf T.nms, 0)) := Lib.hid (namesT_good hT)
  generalize (insideT T.pr).1 = l at *
  have HINS := Lib.hid hins
  have HLS := Lib.hid hLs
  have HLG := Lib.hid hLg
  have HLM := Lib.hid hLm
  have HLEN : Hid (l.length ≤ 101) := Lib.hid hcount
  have HPOS := Lib.hid hpos
  have hlc : (l.length : Int) ≤ 101 := by omega
  obtain ⟨i0, hi, hz0, hz1, hz2⟩ := info9'
  clear hins hLs hLg hLm hcount hpos hc
  go_enter Tryz.func45, Tryz.ntmps45
  go_wp2_with fail
  refine HINS.out.mono ?_
  rintro e w1 ⟨v, rfl, hst, hb⟩
  obtain ⟨g, o, cap, rfl, hgl, hrow⟩ : ∃ g o cap, v = .slice (some ⟨g, o, none⟩) l.length cap ∧ g < w1.heap.size ∧ StrRow w1 g o l := by
    rcases hst with ⟨h0, _⟩ | h
    · have := HPOS.out; rw [h0] at this; cases this
    · exact h
  have HB0 := Lib.hid hb
  have HROW := Lib.hid hrow
  have HGL := Lib.hid hgl
  clear hb hst hrow hgl HINS
  go_wp2
  go_loopg [6, 7] l.length (fun q v6 v7 wr => ∃ (i : Nat) (out : List Bys), v7 = .int .i64 i ∧ Hid (i + q = l.length) ∧ Hid (wr.ownsRow w1.heap.size 9 1 v6 out.length (strVs out)) ∧ Hid (Asc id out ∧ ∀ x, x ∈ out ↔ x ∈ nmsL (Ls.take i)) ∧ Hid (out.length ≤ i) ∧ Hid (Below w1.heap.size w1 wr))
  case atStart => exact ⟨0, [], rfl, Lib.hid (by omega), Lib.hid (World.ownsRow_nil _ _ _ _), Lib.hid ⟨List.Pairwise.nil, by simp [nmsL]⟩, Lib.hid (Nat.le_refl _), Lib.hid (Below.refl _ _)⟩
  case round =>
    obtain ⟨i, out, rfl, HI, HOWN, HINV, HOL, HB⟩ := hrel
    obtain ⟨av, cv, rfl⟩ := own_len HOWN.out
    have hib : (i : Int) ≤ 101 := by have := HI.out; have := HLEN.out; omega
    by_cases hlt : i < l.length
    · have hlm : Ls.length = l.length := by rw [← HLS.out]; simp
      obtain ⟨U, HLU⟩ : ∃ U, Hid (Ls[i]? = some U) := ⟨_, Lib.hid (List.getElem?_eq_getElem (by omega))⟩
      have hli : l[i]? = some U.pr := by rw [← HLS.out, List.getElem?_map, HLU.out]; rfl
      have HG : Hid (Good U) := Lib.hid (HLG.out U (List.mem_of_getElem? HLU.out))
      have a0 := (HROW.out.keep (HB.out.block g HGL.out)) i _ hli
      have hcut : ∀ w, Calls Tryz.prog 56 #[.string (bs U.pr)] w fun e w' => e = .returned (.int .i64 ((hd U.pr).length : Nat)) ∧ w' = w := fun w => (cut_any U.pr (by have := HG.out.len; omega) w).mono fun _ _ ⟨h1, h2⟩ => ⟨h1, h2.symm⟩
      have hx : (bs U.pr).extract 0 (hd U.pr).length = bs (headOf U) := by rw [bs_take, head_take, hd_front U HG.out.wf]
      have hle : (hd U.pr).length ≤ (bs U.pr).size := by rw [bs_size]; exact (List.takeWhile_prefix _).length_le
      have hsz : (bs U.pr).size ≤ 100 := by rw [bs_size]; exact HG.out.len
      have HLT := Lib.hid hlt
      have hlti : (i : Int) < (l.length : Int) := by omega
      have HF : Hid (U.kind = 7 → frontOf U = headOf U) := Lib.hid (fun h => by cases U <;> first | rfl | (exact absurd h (by decide)))
      have hmi : ((hd U.pr).length : Int) ≤ 100 := by omega
      have hmi2 : ((hd U.pr).length : Int) ≤ ((bs U.pr).size : Int) := by omega
      have HKN := Lib.hid (fun w => refKind_any U HG.out.wf (by have := HG.out.len; omega) w)
      generalize hmm : (hd U.pr).length = m at *
      generalize hnn : headOf U = nm at *
      have HCUT := Lib.hid hcut
      have hcv := HOWN.out
      clear hlt hli hcut hmm hnn hlm hcv
      go_wp2
      go_quiet ((go_at_call 56; exact Calls.quiet_of_same (HCUT.out _)))
      go_wp2_with fail
      have HB2 := Lib.hid (below_drewN HB.out nq)
      have HOWN2 := Lib.hid (own_below HOWN.out (below_drewN (Below.refl wr.heap.size wr) nq))
      have a0 := (HROW.out.keep (HB2.out.block g HGL.out)) i _ (show l[i]? = some U.pr by rw [← HLS.out, List.getElem?_map, HLU.out]; rfl)
      generalize wr.drewN nq = w2 at *
      have HOL2 : Hid (out.length ≤ 101) := Lib.hid (by have := HOL.out; have := HLT.out; have := HLEN.out; omega)
      refine (refHas_any out nm _ w2 (stV_own HOWN2.out) (by have := HOL2.out; omega)).mono ?_
      rintro e w3 ⟨rfl, rfl⟩
      by_cases hk : U.kind = 7
      · have HK := Lib.hid hk
        have z7 : (U.kind != 7) = false := by rw [hk]; rfl
        clear hk
        by_cases hmem : nm ∈ out
        · have HM := Lib.hid hmem
          rw [decide_eq_true hmem]
          clear hmem
          go_wp2_with fail
          refine (HKN.out w2).mono ?_
          rintro e w3 ⟨rfl, rfl⟩
          go_wp2
          go_roundg (gk - 1)
          case measure => have := HI.out; have := HLT.out; omega
          case rel =>
            refine ⟨i + 1, out, by go_num, Lib.hid (by have := HI.out; have := HLT.out; omega), HOWN2, Lib.hid ⟨HINV.out.1, fun x => ?_⟩, Lib.hid (by have := HOL.out; omega), HB2⟩
            rw [nmsL_take Ls i U HLU.out, if_pos HK.out, List.mem_append, List.mem_singleton, HINV.out.2, HF.out HK.out]
            refine ⟨.inl, ?_⟩
            rintro (h | rfl)
            · exact h
            · exact (HINV.out.2 _).1 HM.out
        · have HM := Lib.hid hmem
          rw [decide_eq_false hmem]
          clear hmem
          go_wp2_with fail
          refine (HKN.out w2).mono ?_
          rintro e w3 ⟨rfl, rfl⟩
          have HF := Lib.hid (HF.out HK.out)
          obtain ⟨zz, HZ0⟩ : ∃ z, Hid (gk - 1 = z) := ⟨_, Lib.hid rfl⟩
          have HRG : Hid (i + gk = l.length) := HI
          clear a0 z7 hx hle hsz hmi hmi2
          go_wp2
          go_loopg [10] out.length (fun q v10 wv => ∃ at_ : Nat, v10 = .int .i64 at_ ∧ Hid (at_ = q) ∧ Hid (at_ ≤ out.length) ∧ Hid (∀ (j : Nat) (x : Bys), at_ ≤ j → out[j]? = some x → nm < x) ∧ w2 = wv)
          case atStart => exact ⟨out.length, rfl, Lib.hid rfl, Lib.hid (Nat.le_refl _), Lib.hid (fun j x hj hx => by have := (List.getElem?_eq_some_iff.1 hx).1; omega), rfl⟩
          case round =>
            obtain ⟨at_, rfl, HQ, HAT, HUP, rfl⟩ := hrel
            have hatb : (at_ : Int) ≤ 101 := by have := HAT.out; have := HOL2.out; omega
            by_cases h0 : at_ = 0
            · have HLO : Hid (at_ = 0 ∨ ∃ x, out[at_ - 1]? = some x ∧ ¬ nm < x) := Lib.hid (.inl h0)
              have z0 : ¬ (0 : Int) < (at_ : Int) := by omega
              clear h0
              obtain ⟨a1, c1, a2, c2, s1, k1, s2, k2⟩ := own_cut HOWN2.out at_ HAT.out (by have := HOL2.out; omega)
              have K1 := Lib.hid k1
              have K2 := Lib.hid k2
              have HIN := Lib.hid (ins_asc HINV.out.1 HM.out HAT.out HUP.out HLO.out)
              have hat := HAT.out
              clear k1 k2
              go_wp2_with (at_builtin; (refine wpList_append_strs rfl _ _ rfl w2.heap.size (.slice (some ⟨w2.heap.size, 0, none⟩) 0 0) 0 [] rfl (own_empty w2) (.slice a1 at_ c1) (out.take at_) rfl (K1.out.keep ((Below.refl w2.heap.size w2).alloc (Nat.le_refl _) _)) (by have := HOL2.out; simp; omega) (by simp) ?_))
              intro v3 w3 hown3 hgrow3
              have HB3 : Hid (Below w2.heap.size w2 w3) := Lib.hid (((Below.refl w2.heap.size w2).alloc (Nat.le_refl _) (.cells #[] 9)).grown hgrow3 (by simp) (fun b e => by simp [Value.ownBlock] at e; omega))
              have hl3 : (out.take at_).length = at_ := by rw [List.length_take]; exact Nat.min_eq_left hat
              obtain ⟨av3, cv3, rfl⟩ := own_len hown3
              have HOWN3 := Lib.hid hown3
              have HS3 := Lib.hid HB3.out.size
              have HL3 := Lib.hid hl3
              clear hown3 hgrow3 s1 hl3
              go_wp2_with (at_builtin; (refine wpList_append_own _ rfl _ _ 48 rfl w2.heap.size 9 i0 _ 1 16 Tryz.underlying48 hi hz0 hz1 hz2 rfl (by decide) (.slice av3 at_ cv3) at_ (strVs (out.take at_)) rfl (HOWN3.out.alloc _) ⟨w3.heap.size, 0, none⟩ 1 1 [.string (bs nm)] rfl rfl (World.news_of_block (cs := #[.string (bs nm)]) (t := 9) (fr := (0, 0)) (heap_alloc_new w3 _)) (by simp [Value.oneCell']) (by have := HOL2.out; unfold maxLen; omega) (by have := HOL2.out; omega) (by have := HS3.out; simp; omega) ?_))
              intro v4 w4 hown4 hgrow4 _
              have HB4 : Hid (Below w2.heap.size w2 w4) := Lib.hid ((HB3.out.alloc HS3.out (.cells #[.string (bs nm)] 9)).grown hgrow4 (by have := HS3.out; simp; omega) (fun b e => (HOWN3.out.lt b e).1))
              obtain ⟨av4, cv4, rfl⟩ := own_len hown4
              have HOWN4 := Lib.hid hown4
              have HS4 := Lib.hid HB4.out.size
              clear hown4 hgrow4
              go_wp2_with (at_builtin; (refine wpList_append_strs rfl _ _ rfl w2.heap.size (.slice av4 (at_ + 1) cv4) (at_ + 1) _ rfl HOWN4.out (.slice a2 (out.length - at_) c2) (out.drop at_) rfl (K2.out.keep HB4.out) (by have := HOL2.out; simp; omega) HS4.out ?_))
              intro v5 w5 hown5 hgrow5
              have HB5 : Hid (Below w2.heap.size w2 w5) := Lib.hid (HB4.out.grown hgrow5 HS4.out (fun b e => (HOWN4.out.lt b e).1))
              have HOWN5 := Lib.hid hown5
              clear hown5 hgrow5
              obtain ⟨av5, cv5, rfl⟩ := own_len HOWN5.out
              go_wp2
              go_roundg (zz)
              case measure => have := HI.out; have := HLT.out; have := HZ0.out; omega
              case rel =>
                refine ⟨i + 1, out.take at_ ++ [nm] ++ out.drop at_, by go_num, Lib.hid (by have := HI.out; have := HLT.out; have := HZ0.out; omega), Lib.hid ?_, Lib.hid ⟨HIN.out.1, fun x => ?_⟩, Lib.hid (by have := HOL.out; simp; omega), Lib.hid (HB2.out.trans (HB5.out.mono HB2.out.size))⟩
                · have h : w5.ownsRow w1.heap.size 9 1 (.slice av5 (at_ + 1 + (out.length - at_)) cv5) (at_ + 1 + (out.length - at_)) (strVs (out.take at_) ++ .string (bs nm) :: strVs (out.drop at_)) := own_mono HOWN5.out HB2.out.size
                  have e1 : strVs (out.take at_) ++ .string (bs nm) :: strVs (out.drop at_) = strVs (out.take at_ ++ [nm] ++ out.drop at_) := by simp [strVs]
                  have e2 : at_ + 1 + (out.length - at_) = (out.take at_ ++ [nm] ++ out.drop at_).length := by rw [List.length_append, List.length_append, HL3.out, List.length_drop]; rfl
                  rw [e1] at h
                  rw [← e2]
                  exact h
                · rw [HIN.out.2, nmsL_take Ls i U HLU.out, if_pos HK.out, List.mem_append, List.mem_singleton, HINV.out.2, HF.out]
                  exact or_comm
            · have z0 : (0 : Int) < (at_ : Int) := by omega
              have p0 : (0 : Int) ≤ (at_ : Int) - 1 := by omega
              have hlo : at_ - 1 < out.length := by have := HAT.out; omega
              have p1 : (at_ : Int) - 1 < (out.length : Int) := by omega
              have hidx : ((at_ : Int) - 1).toNat = at_ - 1 := by omega
              have hox : out[at_ - 1]? = some out[at_ - 1] := List.getElem?_eq_getElem hlo
              obtain ⟨g6, cap6, e6, _, hg6, hrow6⟩ := own_strs HOWN2.out (by omega)
              injection e6 with e61 e62 e63
              subst e61 e63
              have b0 := hrow6 _ _ hox
              rw [Nat.zero_add] at b0
              have HOX := Lib.hid hox
              have H0 := Lib.hid h0
              generalize out[at_ - 1] = x at *
              clear hox hrow6 e62 hlo h0
              by_cases hnx : nm < x
              · have q1 : Op.bytesLess (bs x).toList (bs nm).toList = false := bytesLess_bs _ _ _ (decide_eq_false (bys_asym hnx))
                have q2 := (ne_lists2 (a := x) (b := nm) (fun e => by rw [e] at hnx; exact bys_irr _ hnx)).1
                have HNX := Lib.hid hnx
                clear hnx
                go_wp2
                go_roundg (gk - 1)
                case measure => have := HQ.out; have := H0.out; omega
                case rel =>
                  refine ⟨at_ - 1, by go_num, Lib.hid (by have := HQ.out; omega), Lib.hid (by have := HAT.out; omega), Lib.hid (fun j y hj hy => ?_), rfl⟩
                  by_cases hja : j = at_ - 1
                  · subst hja
                    rw [HOX.out] at hy
                    injection hy with hy
                    exact hy ▸ HNX.out
                  · exact HUP.out j y (by omega) hy
              · have HLO : Hid (at_ = 0 ∨ ∃ x, out[at_ - 1]? = some x ∧ ¬ nm < x) := Lib.hid (.inr ⟨x, HOX.out, hnx⟩)
                have q1 : Op.bytesLess (bs x).toList (bs nm).toList = true ∨ (Op.bytesLess (bs x).toList (bs nm).toList = false ∧ ((bs x).toList == (bs nm).toList) = true) := by
                  by_cases h2 : x < nm
                  · exact .inl (bytesLess_bs _ _ _ (decide_eq_true h2))
                  · exact .inr ⟨bytesLess_bs _ _ _ (decide_eq_false h2), by rw [bys_tri h2 hnx]; simp⟩
                clear hnx
                rcases q1 with q1 | ⟨q1, q2⟩
                all_goals
                  obtain ⟨a1, c1, a2, c2, s1, k1, s2, k2⟩ := own_cut HOWN2.out at_ HAT.out (by have := HOL2.out; omega)
                  have K1 := Lib.hid k1
                  have K2 := Lib.hid k2
                  have HIN := Lib.hid (ins_asc HINV.out.1 HM.out HAT.out HUP.out HLO.out)
                  have hat := HAT.out
                  clear k1 k2
                  go_wp2_with (at_builtin; (refine wpList_append_strs rfl _ _ rfl w2.heap.size (.slice (some ⟨w2.heap.size, 0, none⟩) 0 0) 0 [] rfl (own_empty w2) (.slice a1 at_ c1) (out.take at_) rfl (K1.out.keep ((Below.refl w2.heap.size w2).alloc (Nat.le_refl _) _)) (by have := HOL2.out; simp; omega) (by simp) ?_))
                  intro v3 w3 hown3 hgrow3
                  have HB3 : Hid (Below w2.heap.size w2 w3) := Lib.hid (((Below.refl w2.heap.size w2).alloc (Nat.le_refl _) (.cells #[] 9)).grown hgrow3 (by simp) (fun b e => by simp [Value.ownBlock] at e; omega))
                  have hl3 : (out.take at_).length = at_ := by rw [List.length_take]; exact Nat.min_eq_left hat
                  obtain ⟨av3, cv3, rfl⟩ := own_len hown3
                  have HOWN3 := Lib.hid hown3
                  have HS3 := Lib.hid HB3.out.size
                  have HL3 := Lib.hid hl3
                  clear hown3 hgrow3 s1 hl3
                  go_wp2_with (at_builtin; (refine wpList_append_own _ rfl _ _ 48 rfl w2.heap.size 9 i0 _ 1 16 Tryz.underlying48 hi hz0 hz1 hz2 rfl (by decide) (.slice av3 at_ cv3) at_ (strVs (out.take at_)) rfl (HOWN3.out.alloc _) ⟨w3.heap.size, 0, none⟩ 1 1 [.string (bs nm)] rfl rfl (World.news_of_block (cs := #[.string (bs nm)]) (t := 9) (fr := (0, 0)) (heap_alloc_new w3 _)) (by simp [Value.oneCell']) (by have := HOL2.out; unfold maxLen; omega) (by have := HOL2.out; omega) (by have := HS3.out; simp; omega) ?_))
                  intro v4 w4 hown4 hgrow4 _
                  have HB4 : Hid (Below w2.heap.size w2 w4) := Lib.hid ((HB3.out.alloc HS3.out (.cells #[.string (bs nm)] 9)).grown hgrow4 (by have := HS3.out; simp; omega) (fun b e => (HOWN3.out.lt b e).1))
                  obtain ⟨av4, cv4, rfl⟩ := own_len hown4
                  have HOWN4 := Lib.hid hown4
                  have HS4 := Lib.hid HB4.out.size
                  clear hown4 hgrow4
                  go_wp2_with (at_builtin; (refine wpList_append_strs rfl _ _ rfl w2.heap.size (.slice av4 (at_ + 1) cv4) (at_ + 1) _ rfl HOWN4.out (.slice a2 (out.length - at_) c2) (out.drop at_) rfl (K2.out.keep HB4.out) (by have := HOL2.out; simp; omega) HS4.out ?_))
                  intro v5 w5 hown5 hgrow5
                  have HB5 : Hid (Below w2.heap.size w2 w5) := Lib.hid (HB4.out.grown hgrow5 HS4.out (fun b e => (HOWN4.out.lt b e).1))
                  have HOWN5 := Lib.hid hown5
                  clear hown5 hgrow5
                  obtain ⟨av5, cv5, rfl⟩ := own_len HOWN5.out
                  go_wp2
                  go_roundg (zz)
                  case measure => have := HI.out; have := HLT.out; have := HZ0.out; omega
                  case rel =>
                    refine ⟨i + 1, out.take at_ ++ [nm] ++ out.drop at_, by go_num, Lib.hid (by have := HI.out; have := HLT.out; have := HZ0.out; omega), Lib.hid ?_, Lib.hid ⟨HIN.out.1, fun x => ?_⟩, Lib.hid (by have := HOL.out; simp; omega), Lib.hid (HB2.out.trans (HB5.out.mono HB2.out.size))⟩
                    · have h : w5.ownsRow w1.heap.size 9 1 (.slice av5 (at_ + 1 + (out.length - at_)) cv5) (at_ + 1 + (out.length - at_)) (strVs (out.take at_) ++ .string (bs nm) :: strVs (out.drop at_)) := own_mono HOWN5.out HB2.out.size
                      have e1 : strVs (out.take at_) ++ .string (bs nm) :: strVs (out.drop at_) = strVs (out.take at_ ++ [nm] ++ out.drop at_) := by simp [strVs]
                      have e2 : at_ + 1 + (out.length - at_) = (out.take at_ ++ [nm] ++ out.drop at_).length := by rw [List.length_append, List.length_append, HL3.out, List.length_drop]; rfl
                      rw [e1] at h
                      rw [← e2]
                      exact h
                    · rw [HIN.out.2, nmsL_take Ls i U HLU.out, if_pos HK.out, List.mem_append, List.mem_singleton, HINV.out.2, HF.out]
                      exact or_comm
      · have z7 : (U.kind != 7) = true := bne_iff_ne.2 hk
        have HK := Lib.hid hk
        clear hk
        go_wp2_with fail
        refine (HKN.out w2).mono ?_
        rintro e w3 ⟨rfl, rfl⟩
        go_wp2
        go_roundg (gk - 1)
        case measure => have := HI.out; have := HLT.out; omega
        case rel =>
          refine ⟨i + 1, out, by go_num, Lib.hid (by have := HI.out; have := HLT.out; omega), HOWN2, Lib.hid ⟨HINV.out.1, fun x => ?_⟩, Lib.hid (by have := HOL.out; omega), HB2⟩
          rw [nmsL_take Ls i U HLU.out, if_neg HK.out]
          exact HINV.out.2 x
    · have HE : Hid (Ls.take i = Ls) := Lib.hid (List.take_of_length_le (by have := HLS.out; rw [← this] at hlt; simp at hlt; exact hlt))
      have hge : ¬ (i : Int) < (l.length : Int) := by omega
      clear hlt
      go_wp2
      go_ret2
      rw [HN.out]
      refine ⟨_, rfl, ?_, HB0.out.trans (HB.out.mono HB0.out.size)⟩
      rw [ascOf_unique HINV.out.1 fun x => (HLM.out x).symm.trans (by rw [HINV.out.2 x, HE.out])]
      exact stV_own HOWN.out
end Go.Proofs.YthcoppfdffhjfaaGreatDoor
