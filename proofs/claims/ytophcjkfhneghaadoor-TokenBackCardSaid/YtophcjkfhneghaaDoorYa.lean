/- Digits as numbers: the program's way (parse, write, compare) and the reference's way (length, leading zero) agree. -/
import Derived.Test.YtophcjkfhneghaaDoorY
namespace Go.Proofs.YtophcjkfhneghaaDoor
open Go Go.RowKit

def digL (l : List UInt8) : Prop := ∀ c ∈ l, 48 ≤ c.toNat ∧ c.toNat ≤ 57
def decStep (a : Nat) (c : UInt8) : Nat := a * 10 + (c.toNat - 48)
def decV (a : Nat) (l : List UInt8) : Nat := l.foldl decStep a
theorem decV_nil (a : Nat) : decV a [] = a := rfl
theorem decV_cons (a : Nat) (c : UInt8) (r : List UInt8) : decV a (c :: r) = decV (a * 10 + (c.toNat - 48)) r := by simp only [decV, List.foldl_cons, decStep]

theorem decV_ge : ∀ (l : List UInt8) (a : Nat), a * 10 ^ l.length ≤ decV a l
  | [], a => by simp [decV_nil]
  | c :: r, a => by
    have h := decV_ge r (a * 10 + (c.toNat - 48))
    rw [decV_cons, List.length_cons, Nat.pow_succ]
    refine Nat.le_trans ?_ h
    rw [Nat.mul_comm (10 ^ r.length) 10, ← Nat.mul_assoc]
    exact Nat.mul_le_mul_right _ (by omega)
theorem decV_lt : ∀ (l : List UInt8) (a : Nat), digL l → decV a l < (a + 1) * 10 ^ l.length
  | [], a, _ => by simp [decV_nil]
  | c :: r, a, hd => by
    have h := decV_lt r (a * 10 + (c.toNat - 48)) (fun x hx => hd x (List.mem_cons_of_mem _ hx))
    have hc := hd c List.mem_cons_self
    rw [decV_cons, List.length_cons, Nat.pow_succ]
    refine Nat.lt_of_lt_of_le h ?_
    rw [Nat.mul_comm (10 ^ r.length) 10, ← Nat.mul_assoc]
    exact Nat.mul_le_mul_right _ (by omega)
theorem decV_snoc : ∀ (l : List UInt8) (a : Nat) (c : UInt8), decV a (l ++ [c]) = decV a l * 10 + (c.toNat - 48)
  | [], a, c => by simp [decV_nil, decV_cons]
  | x :: r, a, c => by
    rw [List.cons_append, decV_cons, decV_cons]
    exact decV_snoc r _ c

theorem parse_dig : ∀ (l : List UInt8) (a : Nat), digL l → Lib.parseUint10 a l = .ok (decV a l) ∨ (Lib.parseUint10 a l = .range ∧ 18446744073709551616 ≤ decV a l)
  | [], a, _ => .inl rfl
  | c :: r, a, hd => by
    have hc := hd c List.mem_cons_self
    have ge := decV_ge r (a * 10 + (c.toNat - 48))
    have hp : 1 ≤ 10 ^ r.length := Nat.one_le_pow _ _ (by decide)
    have ge2 : a * 10 + (c.toNat - 48) ≤ decV (a * 10 + (c.toNat - 48)) r := Nat.le_trans (Nat.le_mul_of_pos_right _ hp) ge
    simp only [Lib.parseUint10, decV_cons, if_pos hc]
    split
    · exact .inr ⟨rfl, by omega⟩
    · split
      · exact .inr ⟨rfl, by omega⟩
      · exact parse_dig r _ (fun x hx => hd x (List.mem_cons_of_mem _ hx))

theorem atoiAll_dig {l : List UInt8} (hd : digL l) (hn : l ≠ []) : Lib.atoiAll l = if 9223372036854775808 ≤ decV 0 l then .range else .ok (decV 0 l : Int) := by
  cases l with
  | nil => exact absurd rfl hn
  | cons c r =>
    have hc := hd c List.mem_cons_self
    rw [Lib.atoiAll_plain c r (by omega) (by omega)]
    have hm : Lib.parseMag (c :: r) = Lib.parseUint10 0 (c :: r) := by simp [Lib.parseMag]
    rw [hm]
    rcases parse_dig (c :: r) 0 hd with h | ⟨h, h2⟩
    · rw [h]; rfl
    · rw [h, if_pos (by omega)]; rfl

theorem ofNat_dig {c : UInt8} (h : 48 ≤ c.toNat) (d : Nat) (hd : d = c.toNat - 48) : UInt8.ofNat (48 + d) = c := by
  subst hd
  rw [Nat.add_sub_cancel' h]
  exact UInt8.ofNat_toNat

theorem decDigits_decV : ∀ (n : Nat) (l : List UInt8), l.length = n → digL l → l ≠ [] → (l.length = 1 ∨ l.head? ≠ some 48) → Lib.decDigits (decV 0 l) = l
  | 0, l, hn, _, h, _ => absurd (List.eq_nil_of_length_eq_zero hn) h
  | n + 1, l, hn, hd, h, hz => by
    obtain ⟨l', c, rfl⟩ : ∃ l' c, l = l' ++ [c] := ⟨l.dropLast, l.getLast h, (List.dropLast_concat_getLast h).symm⟩
    have hc := hd c (by simp)
    rw [decV_snoc]
    cases l' with
    | nil =>
      simp only [decV_nil, Nat.zero_mul, Nat.zero_add, List.nil_append]
      rw [Lib.decDigits_one (by omega), ofNat_dig hc.1 _ rfl]
    | cons x r =>
      have hx := hd x (by simp)
      have hx48 : x.toNat ≠ 48 := by
        rcases hz with hz | hz
        · simp at hz
        · intro e
          apply hz
          simp
          exact UInt8.toNat_inj.1 e
      have ih := decDigits_decV n (x :: r) (by simp at hn ⊢; omega) (fun y hy => hd y (by simp at hy ⊢; rcases hy with hy | hy <;> simp [hy])) (by simp) (.inr (by simp; intro e; exact hx48 (by rw [e]; rfl)))
      have ge := decV_ge r (x.toNat - 48)
      have hp : 1 ≤ 10 ^ r.length := Nat.one_le_pow _ _ (by decide)
      have e1 : decV 0 (x :: r) = decV (x.toNat - 48) r := by simp [decV_cons]
      have pos : 1 ≤ decV 0 (x :: r) := by
        rw [e1]
        exact Nat.le_trans (Nat.le_trans (by omega) (Nat.le_mul_of_pos_right (x.toNat - 48) hp)) ge
      rw [Lib.decDigits, dif_neg (by omega), show (decV 0 (x :: r) * 10 + (c.toNat - 48)) / 10 = decV 0 (x :: r) by omega, ih, ofNat_dig hc.1 _ (by omega)]

theorem decDigits_zero {v : Nat} : ∀ {r : List UInt8}, Lib.decDigits v = 48 :: r → v = 0 := by
  induction v using Nat.strongRecOn with
  | _ v ih =>
    intro r h
    by_cases hv : v < 10
    · rw [Lib.decDigits_one hv] at h
      injection h with h1 h2
      have := congrArg UInt8.toNat h1
      rw [UInt8.toNat_ofNat'] at this
      have e48 : (48 : UInt8).toNat = 48 := rfl
      omega
    · rw [Lib.decDigits, dif_neg hv] at h
      have hne : 0 < (Lib.decDigits (v / 10)).length := by rw [Lib.decDigits_length]; exact Lib.nDigits_pos _
      cases hq : Lib.decDigits (v / 10) with
      | nil => rw [hq] at hne; simp at hne
      | cons x r' =>
        rw [hq] at h
        injection h with h1 h2
        have := ih (v / 10) (by omega) (r := r') (by rw [hq, h1])
        omega

def billion : List UInt8 := [49, 48, 48, 48, 48, 48, 48, 48, 48, 48]
theorem billion_dec : Lib.decDigits 1000000000 = billion := by decide +kernel
theorem billion_val : decV 0 billion = 1000000000 := by decide

def numL (l : List UInt8) : Bool := decide (l.length ≤ 10) && !(decide (1 < l.length) && (l.head? == some 48)) && (decide (l.length < 10) || l == billion)

theorem numB_list {l : List UInt8} (hd : digL l) (hn : l ≠ []) : numB (bs l) = numL l := by
  have hlen : 0 < l.length := List.length_pos_iff.2 hn
  unfold numB
  rw [bs_data, atoiAll_dig hd hn]
  have key : ∀ v : Nat, v = decV 0 l → ((bs (Lib.itoa (v : Int)) == bs l) = decide (Lib.decDigits v = l)) := by
    intro v _
    rw [Lib.itoa_nonneg, beq_toListBytes, Bool.eq_iff_iff, beq_iff_eq, ByteArray.toList_eq, ByteArray.toList_eq, bs_data, bs_data, decide_eq_true_eq]
  by_cases hz : 1 < l.length ∧ l.head? = some 48
  · have e1 : numL l = false := by simp [numL, hz.1, hz.2]
    rw [e1]
    split
    · rename_i v heq
      split at heq
      · cases heq
      · injection heq with heq
        subst heq
        rw [key _ rfl]
        have hno : ¬ Lib.decDigits (decV 0 l) = l := by
          intro e
          cases l with
          | nil => exact hn rfl
          | cons c r =>
            simp at hz
            obtain ⟨h1, rfl⟩ := hz
            have h0 := decDigits_zero e
            rw [h0] at e
            rw [Lib.decDigits_one (by omega)] at e
            injection e with e1 e2
            subst e2
            simp at h1
        simp [hno]
    · rfl
  · have hz' : l.length = 1 ∨ l.head? ≠ some 48 := by
      by_cases h1 : l.length = 1
      · exact .inl h1
      · refine .inr fun e => hz ⟨by omega, e⟩
    have hdec := decDigits_decV _ l rfl hd hn hz'
    have hlt := decV_lt l 0 hd
    rw [Nat.zero_add, Nat.one_mul] at hlt
    have hz2 : (decide (1 < l.length) && (l.head? == some 48)) = false := by
      rw [Bool.and_eq_false_iff]
      by_cases h1 : 1 < l.length
      · right
        simpa using fun e => hz ⟨h1, e⟩
      · left
        simpa using h1
    have hb : l = billion ↔ decV 0 l = 1000000000 := ⟨fun e => by rw [e, billion_val], fun e => by rw [← hdec, e, billion_dec]⟩
    have hge : l.length ≠ 1 → 10 ^ (l.length - 1) ≤ decV 0 l := by
      intro h1
      cases l with
      | nil => exact absurd rfl hn
      | cons c r =>
        have hc := hd c List.mem_cons_self
        have hc48 : c.toNat ≠ 48 := by
          rcases hz' with h | h
          · exact absurd h h1
          · intro e
            apply h
            simp
            exact UInt8.toNat_inj.1 e
        have ge := decV_ge r (c.toNat - 48)
        have e1 : decV 0 (c :: r) = decV (c.toNat - 48) r := by simp [decV_cons]
        rw [e1, List.length_cons, Nat.add_sub_cancel]
        exact Nat.le_trans (Nat.le_mul_of_pos_left _ (by omega)) ge
    have e9 : (10 : Nat) ^ 9 = 1000000000 := by decide
    have e10 : (10 : Nat) ^ 10 = 10000000000 := by decide
    by_cases h10 : l.length ≤ 10
    · have hp : 10 ^ l.length ≤ 10 ^ 10 := Nat.pow_le_pow_right (by decide) h10
      rw [if_neg (by omega)]
      simp only [key _ rfl, hdec, decide_true, Bool.and_true]
      unfold numL
      rw [hz2]
      simp only [h10, decide_true, Bool.not_false, Bool.true_and]
      by_cases h9 : l.length < 10
      · have hp : 10 ^ l.length ≤ 10 ^ 9 := Nat.pow_le_pow_right (by decide) (by omega)
        simp only [h9, decide_true, Bool.true_or, decide_eq_true_eq]
        omega
      · have hl : l.length = 10 := by omega
        have hg := hge (by omega)
        rw [hl] at hg
        simp only [h9, decide_false, Bool.false_or]
        rw [Bool.eq_iff_iff]
        simp only [decide_eq_true_eq, beq_iff_eq]
        rw [hb]
        have e9' : (10 : Nat) ^ (10 - 1) = 1000000000 := by decide
        omega
    · have e1 : numL l = false := by simp [numL, h10]
      rw [e1]
      have hg := hge (by omega)
      have hp : 10 ^ 10 ≤ 10 ^ (l.length - 1) := Nat.pow_le_pow_right (by decide) (by omega)
      split
      · rename_i v heq
        split at heq
        · cases heq
        · injection heq with heq
          subst heq
          have : ¬ ((decV 0 l : Int) ≤ 1000000000) := by omega
          simp [this]
      · rfl
end Go.Proofs.YtophcjkfhneghaaDoor
