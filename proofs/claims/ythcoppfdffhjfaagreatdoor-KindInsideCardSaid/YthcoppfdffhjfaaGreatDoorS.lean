/- The plain words of the proofs over layer 1: kinds of bytes, tokens, and what a text is read as. Nothing here speaks of a program. -/
namespace Go.Proofs.YthcoppfdffhjfaaGreatDoor

def isLet (b : Int) : Bool := decide (97 ≤ b) && decide (b ≤ 122)
def isDig (b : Int) : Bool := decide (48 ≤ b) && decide (b ≤ 57)
def isLD (b : Int) : Bool := isLet b || isDig b
def notNl (b : Int) : Bool := !(b == 10)

/-- The byte at a place, as a number (0 behind the end). -/
def byteAt (s : ByteArray) (i : Nat) : Int := ((s.data.toList[i]?.map (·.toNat)).getD 0 : Nat)

/-- How many bytes a list begins with that fit. -/
def leadL (p : Int → Bool) (l : List UInt8) : Nat := (l.takeWhile (fun c => p (c.toNat : Int))).length
/-- The same from a place of a text on. -/
def lead (p : Int → Bool) (s : ByteArray) (i : Nat) : Nat := leadL p (s.data.toList.drop i)

theorem leadL_in (p : Int → Bool) (l : List UInt8) : ∀ k, k < leadL p l → ∃ c, l[k]? = some c ∧ p (c.toNat : Int) = true := by
  induction l with
  | nil => intro k hk; simp [leadL] at hk
  | cons c l ih =>
    intro k hk
    unfold leadL at hk
    rw [List.takeWhile_cons] at hk
    split at hk
    · rename_i hp
      cases k with
      | zero => exact ⟨c, rfl, hp⟩
      | succ k =>
        obtain ⟨d, h1, h2⟩ := ih k (by unfold leadL; simpa using hk)
        exact ⟨d, by simpa using h1, h2⟩
    · simp at hk

theorem leadL_stop (p : Int → Bool) (l : List UInt8) : ∀ c, l[leadL p l]? = some c → p (c.toNat : Int) = false := by
  induction l with
  | nil => intro c hc; simp [leadL] at hc
  | cons d l ih =>
    intro c hc
    unfold leadL at hc
    rw [List.takeWhile_cons] at hc
    split at hc
    · simp only [List.length_cons, List.getElem?_cons_succ] at hc
      exact ih c hc
    · rename_i hp
      simp at hc
      subst hc
      simpa using hp

theorem leadL_le (p : Int → Bool) (l : List UInt8) : leadL p l ≤ l.length := by
  unfold leadL
  exact (List.takeWhile_prefix (l := l) _).length_le

theorem data_length (s : ByteArray) : s.data.toList.length = s.size := by simp

theorem byteAt_some {s : ByteArray} {i : Nat} {c : UInt8} (h : s.data.toList[i]? = some c) : byteAt s i = (c.toNat : Int) := by
  simp [byteAt, h]

theorem lead_in {p : Int → Bool} {s : ByteArray} {i k : Nat} (h : k < lead p s i) : i + k < s.size ∧ p (byteAt s (i + k)) = true := by
  obtain ⟨c, h1, h2⟩ := leadL_in p _ k h
  rw [List.getElem?_drop] at h1
  have hlt := (List.getElem?_eq_some_iff.1 h1).1
  rw [data_length] at hlt
  exact ⟨hlt, by rw [byteAt_some h1]; exact h2⟩

theorem lead_stop {p : Int → Bool} {s : ByteArray} {i : Nat} (h : i + lead p s i < s.size) : p (byteAt s (i + lead p s i)) = false := by
  have hlt : i + lead p s i < s.data.toList.length := by rw [data_length]; exact h
  have h1 : s.data.toList[i + lead p s i]? = some s.data.toList[i + lead p s i] := List.getElem?_eq_getElem hlt
  rw [byteAt_some h1]
  refine leadL_stop p (s.data.toList.drop i) _ ?_
  rw [List.getElem?_drop]
  exact h1

theorem lead_le {p : Int → Bool} {s : ByteArray} {i : Nat} (hi : i ≤ s.size) : i + lead p s i ≤ s.size := by
  have := leadL_le p (s.data.toList.drop i)
  rw [List.length_drop, data_length] at this
  unfold lead
  omega

/-- A text out of its bytes. -/
def bs (l : List UInt8) : ByteArray := ⟨l.toArray⟩
theorem bs_toList (s : ByteArray) : bs s.data.toList = s := by simp [bs]
theorem bs_data (l : List UInt8) : (bs l).data.toList = l := rfl
theorem bs_inj {a b : List UInt8} : bs a = bs b ↔ a = b := ⟨fun h => by have := congrArg (fun s : ByteArray => s.data.toList) h; simpa [bs] using this, fun h => by rw [h]⟩
theorem bs_eq {a : List UInt8} {s : ByteArray} : bs a = s ↔ a = s.data.toList := by
  rw [← bs_inj, bs_toList]
theorem bs_size (l : List UInt8) : (bs l).size = l.length := by simp [bs, ByteArray.size]

/-- The reserved words and the signs, in ascending order. -/
def wordL : List (List UInt8) := [[97, 110, 100], [97, 114, 114, 97, 121], [98, 101, 103, 105, 110], [98, 111, 111, 108], [98, 114, 101, 97, 107], [99, 108, 117, 115, 116, 101, 114], [100, 111], [100, 111, 119, 110], [101, 108, 115, 101], [101, 108, 115, 101, 105, 102], [101, 110, 100], [101, 120, 99, 101, 112, 116], [102, 97, 108, 115, 101], [102, 111, 114], [104, 97, 115], [105, 102], [105, 110], [105, 110, 116], [105, 115], [105, 116, 101, 114], [109, 111, 100], [110, 105, 108], [110, 111, 116], [110, 117, 108, 108], [111, 110, 101, 111, 102], [111, 114], [111, 116, 104, 101, 114, 115], [112, 114, 111, 99], [112, 117, 116], [114, 101, 99, 111, 114, 100], [114, 101, 112], [114, 101, 116, 117, 114, 110], [114, 101, 116, 117, 114, 110, 115], [115, 105, 103, 110, 97, 108], [115, 105, 103, 110, 97, 108, 115], [116, 97, 103], [116, 97, 103, 99, 97, 115, 101], [116, 104, 101, 110], [116, 114, 117, 101], [117, 112], [118, 97, 114], [119, 104, 101, 110], [119, 104, 101, 114, 101], [119, 104, 105, 108, 101], [121, 105, 101, 108, 100], [121, 105, 101, 108, 100, 115]]
def signL : List (List UInt8) := [[36], [40], [41], [42], [43], [44], [45], [46], [47], [58], [58, 61], [59], [60], [60, 61], [61], [63], [91], [93], [95], [123], [125]]
def isWordB (s : ByteArray) : Bool := wordL.any fun l => bs l == s
def isSignB (s : ByteArray) : Bool := signL.any fun l => bs l == s

theorem any_getD {l : List (List UInt8)} {s : ByteArray} {k : Nat} (hk : k < l.length) (h : (bs (l.getD k []) == s) = true) : (l.any fun x => bs x == s) = true := by
  rw [List.any_eq_true]
  exact ⟨l[k], List.getElem_mem hk, by simpa [List.getD, hk] using h⟩
theorem any_none {l : List (List UInt8)} {s : ByteArray} (h : ∀ j, j < l.length → (bs (l.getD j []) == s) = false) : (l.any fun x => bs x == s) = false := by
  rw [List.any_eq_false]
  intro x hx
  obtain ⟨j, hj, rfl⟩ := List.getElem_of_mem hx
  have := h j hj
  simpa [List.getD, hj] using this

def lineUp (c : Int) (line : Nat) : Nat := if c = 10 then line + 1 else line

/-- How many bytes the sign has that begins at a place. -/
def signLen (s : ByteArray) (i : Nat) : Nat := if i + 1 < s.size ∧ isSignB (s.extract i (i + 2)) = true then 2 else 1

theorem isSignB_mem {s : ByteArray} (h : isSignB s = true) : ∃ l ∈ signL, s = bs l := by
  unfold isSignB at h
  rw [List.any_eq_true] at h
  obtain ⟨l, hl, h⟩ := h
  refine ⟨l, hl, ?_⟩
  have hh : ((bs l).data == s.data) = true := h
  rw [beq_iff_eq] at hh
  cases s
  simp only [bs] at hh ⊢
  rw [hh]
theorem signL_short : ∀ l ∈ signL, l.length ≤ 2 ∧ ∀ c ∈ l, c ≠ 10 := by decide +kernel
theorem isSignB_size {s : ByteArray} (h : isSignB s = true) : s.size ≤ 2 := by
  obtain ⟨l, hl, rfl⟩ := isSignB_mem h
  rw [bs_size]
  exact (signL_short l hl).1
theorem isSignB_nl {s : ByteArray} (h : isSignB s = true) : ∀ c ∈ s.data.toList, c ≠ 10 := by
  obtain ⟨l, hl, rfl⟩ := isSignB_mem h
  exact (signL_short l hl).2

theorem extract_list (s : ByteArray) (i j : Nat) : (s.extract i j).data.toList = (s.data.toList.drop i).take (j - i) := by
  rw [ByteArray.data_extract]
  simp [List.extract_eq_take_drop]

theorem byteAt_ne_nl {s : ByteArray} {i j k : Nat} (h : isSignB (s.extract i j) = true) (hik : i ≤ k) (hkj : k < j) (hk : k < s.size) : byteAt s k ≠ 10 := by
  have hlt : k < s.data.toList.length := by rw [data_length]; exact hk
  have h1 : s.data.toList[k]? = some s.data.toList[k] := List.getElem?_eq_getElem hlt
  rw [byteAt_some h1]
  have hm : s.data.toList[k] ∈ (s.extract i j).data.toList := by
    rw [extract_list]
    refine List.mem_of_getElem? (i := k - i) ?_
    rw [List.getElem?_take, if_pos (by omega), List.getElem?_drop, show i + (k - i) = k by omega]
    exact h1
  have := isSignB_nl h _ hm
  intro e
  apply this
  apply UInt8.toNat_inj.1
  have : (s.data.toList[k]).toNat = 10 := by omega
  rw [this]; rfl

theorem signLen_cases (s : ByteArray) (i : Nat) : signLen s i = 1 ∨ signLen s i = 2 := by unfold signLen; split <;> simp
theorem sign_in {s : ByteArray} {i k : Nat} (h1 : 1 ≤ k) (h : k < signLen s i) : i + k < s.size ∧ isSignB (s.extract i (i + k + 1)) = true ∧ byteAt s (i + k) ≠ 10 := by
  unfold signLen at h
  split at h
  · rename_i hc
    have : k = 1 := by omega
    subst this
    exact ⟨hc.1, hc.2, byteAt_ne_nl hc.2 (by omega) (by omega) hc.1⟩
  · omega
theorem sign_stop {s : ByteArray} {i : Nat} (h : i + signLen s i < s.size) : isSignB (s.extract i (i + signLen s i + 1)) = false := by
  cases hq : isSignB (s.extract i (i + signLen s i + 1)) with
  | false => rfl
  | true =>
    have hz := isSignB_size hq
    rw [ByteArray.size_extract] at hz
    rcases signLen_cases s i with e | e
    · rw [e] at hq h
      have : signLen s i = 2 := by unfold signLen; rw [if_pos ⟨h, hq⟩]
      omega
    · omega
theorem signLen_le {s : ByteArray} {i : Nat} (h : i < s.size) : i + signLen s i ≤ s.size := by
  unfold signLen; split <;> omega
end Go.Proofs.YthcoppfdffhjfaaGreatDoor
