/- Whether parts may stand. -/
import Derived.Test.YthcoppfdffhjfaaGreatDoorF
namespace Go.Proofs.YthcoppfdffhjfaaGreatDoor
open Go Go.RowKit

theorem takeWhile_all {α : Type} {p : α → Bool} : ∀ {l : List α}, (∀ x ∈ l, p x = true) → l.takeWhile p = l
  | [], _ => rfl
  | x :: l, h => by rw [List.takeWhile_cons, if_pos (h x (by simp)), takeWhile_all fun y hy => h y (by simp [hy])]
theorem isNameB_L (l : Bys) : isNameB (bs l) = isNameL l := by
  have h1 : isWordB (bs l) = wordL.contains l := by
    unfold isWordB
    rw [Bool.eq_iff_iff, List.any_eq_true, List.contains_iff_mem]
    constructor
    · rintro ⟨x, hx, e⟩
      rw [ba_beq, bs_inj] at e
      exact e ▸ hx
    · exact fun h => ⟨l, h, by rw [ba_beq]⟩
  have h2 : lead isLD (bs l) 0 = (l.takeWhile ld).length := by
    unfold lead leadL
    rw [List.drop_zero, bs_data]
    rfl
  have h3 : (l.takeWhile ld).length = l.length ↔ l.all ld = true := by
    constructor
    · intro h
      have := List.takeWhile_prefix (l := l) ld
      rw [List.all_eq_true]
      have e := this.eq_of_length h
      exact fun x hx => (List.all_eq_true.1 (List.all_takeWhile (p := ld) (l := l))) x (by rw [e]; exact hx)
    · intro h
      rw [takeWhile_all (fun x hx => List.all_eq_true.1 h x hx)]
  have h4 : byteAt (bs l) 0 = ((l.headD 0).toNat : Int) := by
    unfold byteAt
    rw [bs_data]
    cases l <;> simp
  have h5 : decide (lead isLD (bs l) 0 = (bs l).size) = l.all ld := by
    rw [h2, bs_size, Bool.eq_iff_iff, decide_eq_true_eq, h3]
  have h6 : decide (0 < (bs l).size) = !l.isEmpty := by
    rw [bs_size]
    cases l <;> simp
  have h7 : decide ((bs l).size ≤ 12) = decide (l.length ≤ 12) := by rw [bs_size]
  unfold isNameB isNameL
  rw [h5, h6, h7, h4, h1]
  cases l.isEmpty <;> cases decide (l.length ≤ 12) <;> cases l.all ld <;> cases isLet ((l.headD 0).toNat : Int) <;> cases wordL.contains l <;> rfl

theorem IsName_v (l : Bys) (v : Bool) (hv : isNameL l = v) (w : World) (he : Env w) : Calls Tryz.prog 60 #[.string (bs l)] w fun e w' => e = .returned (.bool v) ∧ w = w' := by
  have := IsName_any (bs l) w he
  rw [isNameB_L, hv] at this
  exact this

theorem bytesLess_lt : ∀ a b : Bys, Op.bytesLess a b = decide (a < b)
  | [], [] => by simp [Op.bytesLess]
  | [], b :: l => by simp [Op.bytesLess]
  | a :: k, [] => by simp [Op.bytesLess]
  | a :: k, b :: l => by
    have ih := bytesLess_lt k l
    simp only [Op.bytesLess, ih, List.cons_lt_cons_iff]
    by_cases h : a < b
    · simp [h]
    · by_cases h2 : a = b
      · subst h2; simp [h]
      · simp [h, h2]
theorem bytesLess_bs (a b : Bys) (v : Bool) (h : decide (a < b) = v) : Op.bytesLess (bs a).toList (bs b).toList = v := by
  rw [ByteArray.toList_eq, ByteArray.toList_eq, bs_data, bs_data, bytesLess_lt, h]

/-- A name may stand at place k. -/
def mayAt (l : List Bys) (k : Nat) : Bool := isNameL (l.getD k []) && (decide (k = 0) || decide (l.getD (k - 1) [] < l.getD k []))
theorem mayL_iff : ∀ l : List Bys, mayL l = true ↔ ∀ k, k < l.length → mayAt l k = true
  | [] => by simp [mayL]
  | [n] => by simp [mayL, mayAt]
  | n :: m :: l => by
    have ih := mayL_iff (m :: l)
    rw [show mayL (n :: m :: l) = (isNameL n && decide (n < m) && mayL (m :: l)) from rfl, Bool.and_eq_true, Bool.and_eq_true, ih]
    constructor
    · rintro ⟨⟨h1, h2⟩, h3⟩ k hk
      cases k with
      | zero => simp [mayAt, h1]
      | succ k =>
        have := h3 k (by simp at hk ⊢; omega)
        cases k with
        | zero => simp [mayAt] at this h2 ⊢; exact ⟨this, h2⟩
        | succ k => simpa [mayAt] using this
    · intro h
      have h0 := h 0 (by simp)
      have h1 := h 1 (by simp)
      simp [mayAt] at h0 h1
      refine ⟨⟨h0, by simpa using h1.2⟩, fun k hk => ?_⟩
      have := h (k + 1) (by simp at hk ⊢; omega)
      cases k with
      | zero => simp [mayAt] at this ⊢; exact this.1
      | succ k => simpa [mayAt] using this

set_option maxRecDepth 100000 in
set_option maxHeartbeats 6400000 in
theorem mayStand_any (l : List Bys) (g cap : Nat) (w : World) (he : Env w) (hr : StrRow w g 0 l) (hn : l.length ≤ 1000) :
    Calls Tryz.prog 104 #[.slice (some ⟨g, 0, none⟩) l.length cap] w fun e w' => e = .returned (.bool (mayL l && decide (l.length ≤ 6))) ∧ ∃ n, w' = w.drewN n := by
  have HE := Lib.hid he
  have HR := Lib.hid hr
  clear he hr
  go_enter Tryz.func104, Tryz.ntmps104
  go_wp2
  go_loopw [7] (fun i wr => ∃ k n : Nat, k ≤ l.length ∧ i = .int .i64 k ∧ wr = w.drewN n ∧ ∀ j, j < k → mayAt l j = true) (fun i _ => l.length - (intOf i).toNat)
  case atStart => exact ⟨0, 0, by omega, rfl, rfl, fun j hj => by omega⟩
  case round =>
    obtain ⟨k, n, hk, rfl, rfl, hno⟩ := hrel
    have HNO := Lib.hid hno
    clear hno
    by_cases hlt : k < l.length
    · have a0 := HR.out k l[k] (List.getElem?_eq_getElem hlt)
      rw [Nat.zero_add] at a0
      have hgd := Lib.hid (show l.getD k [] = l[k] by simp [List.getD, hlt])
      have no : mayAt l k = false → false = (mayL l && decide (l.length ≤ 6)) := fun h => by
        have : mayL l = false := by
          rw [← Bool.not_eq_true, mayL_iff]
          intro q
          have := q k hlt
          rw [h] at this
          cases this
        rw [this]; rfl
      have NO := Lib.hid no
      clear no
      have next : mayAt l k = true → ∀ j, j < k + 1 → mayAt l j = true := fun h j hj => by
        by_cases e : j = k
        · subst e; exact h
        · exact HNO.out j (by omega)
      have NEXT := Lib.hid next
      clear next
      cases hq : isNameL l[k]
      · go_wp2_with (go_at_call 60; refine (IsName_v _ _ hq _ (HE.out.drewN _)).mono ?_; rintro e w' ⟨rfl, rfl⟩)
        go_ret
        exact ⟨ret_bool (NO.out (by unfold mayAt; rw [hgd.out, hq]; rfl)), n, rfl⟩
      · by_cases hk0 : k = 0
        · subst hk0
          go_wp2_with (go_at_call 60; refine (IsName_v _ _ hq _ (HE.out.drewN _)).mono ?_; rintro e w' ⟨rfl, rfl⟩)
          go_roundw
          case rel => exact ⟨1, n, by omega, by go_num, rfl, NEXT.out (by unfold mayAt; rw [hgd.out, hq]; rfl)⟩
          case measure => simp [intOf]; omega
        · have a1 := HR.out (k - 1) l[k - 1] (List.getElem?_eq_getElem (by omega))
          have hgd1 := Lib.hid (show l.getD (k - 1) [] = l[k - 1] by simp [List.getD, show k - 1 < l.length by omega])
          rw [Nat.zero_add] at a1
          have e1 : ((k : Int) - 1).toNat = k - 1 := by omega
          have e2 : (0 : Int) ≤ (k : Int) - 1 := by omega
          have e3 : (k : Int) - 1 < (l.length : Int) := by omega
          have e4 : (0 : Int) < (k : Int) := by omega
          cases hb : decide (l[k - 1] < l[k])
          · have hb2 := bytesLess_bs _ _ _ hb
            have HB := Lib.hid hb
            clear hb
            go_wp2_with (go_at_call 60; refine (IsName_v _ _ hq _ (HE.out.drewN _)).mono ?_; rintro e w' ⟨rfl, rfl⟩)
            go_ret
            exact ⟨ret_bool (NO.out (by unfold mayAt; rw [hgd.out, hgd1.out, hq, HB.out, decide_eq_false hk0]; rfl)), n, rfl⟩
          · have hb2 := bytesLess_bs _ _ _ hb
            have HB := Lib.hid hb
            clear hb
            go_wp2_with (go_at_call 60; refine (IsName_v _ _ hq _ (HE.out.drewN _)).mono ?_; rintro e w' ⟨rfl, rfl⟩)
            go_roundw
            case rel => exact ⟨k + 1, n, by omega, by go_num, rfl, NEXT.out (by unfold mayAt; rw [hgd.out, hgd1.out, hq, HB.out]; simp)⟩
            case measure => simp [intOf]; omega
    · have : k = l.length := by omega
      subst this
      go_wp2
      go_ret
      refine ⟨ret_bool ?_, n, rfl⟩
      have : mayL l = true := (mayL_iff l).2 HNO.out
      rw [this, Bool.true_and]
      by_cases h6 : l.length ≤ 6
      · simp [h6]; omega
      · simp [h6]; omega
end Go.Proofs.YthcoppfdffhjfaaGreatDoor
