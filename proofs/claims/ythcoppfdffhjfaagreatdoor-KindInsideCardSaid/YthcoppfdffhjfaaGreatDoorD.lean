/- strings.IndexAny over the four signs of a type, whatever the bytes of the text are. -/
import Derived.Test.YthcoppfdffhjfaaGreatDoorC
import Derived.Test.YthcoppfdffhjfaaGreatDoorShelf
import Derived.Laws.RangeAny
import Derived.Laws.Runes
import Derived.Lib.SpaceUEq
import Derived.Lib.QuoteLoop
namespace Go.Proofs.YthcoppfdffhjfaaGreatDoor
open Go Go.RowKit

def signsB : ByteArray := { data := #[91, 93, 44, 58] }

theorem signs_ascii : ∀ (j : Nat) b, signsB.data.toList[j]? = some b → b.toNat < 128 := by
  intro j b h
  have : b ∈ signsB.data.toList := List.mem_of_getElem? h
  simp [signsB] at this
  rcases this with rfl | rfl | rfl | rfl <;> decide

set_option maxRecDepth 100000 in
set_option maxHeartbeats 8000000 in
/-- The rune that stands for a wrong byte is no sign. -/
theorem indexRune_err (w : World) : Calls Tryz.prog 123 #[.string signsB, .int .i32 65533] w fun e w' => e = .returned (.int .i64 (-1)) ∧ Below w.heap.size w w' := by
  have hA : ∀ i (h : i < signsB.size), (signsB[i]'h).toNat < 128 := fun i h => signs_ascii i _ (Lib.data_getElem? signsB i h)
  have HA := Lib.hid hA
  clear hA
  have hz : signsB.size = 4 := rfl
  have HZ := Lib.hid hz
  clear hz
  generalize signsB = s at *
  go_enter Tryz.func123, Tryz.ntmps123
  go_wp2
  go_loopg [5, 6] s.size (fun g _ _ wx => ∃ i : Nat, i + g = s.size ∧ wx = w.iter s i)
  case atStart => exact ⟨0, by omega, rfl⟩
  case round =>
    obtain ⟨i, hig, rfl⟩ := hrel
    cases gk with
    | zero =>
      obtain rfl : i = s.size := by omega
      have hnx := run_next_end (P := Tryz.prog) w s s.size
      go_wp2
      go_ret
      exact ⟨rfl, (Below.refl _ _).alloc (Nat.le_refl _) _⟩
    | succ g =>
      have hi : i < s.size := by omega
      have hx128 := HA.out i hi
      obtain ⟨x, hx⟩ : ∃ x : UInt8, s[i]'hi = x := ⟨_, rfl⟩
      have hnx := fun ty => run_next_ascii (P := Tryz.prog) w s i ty hi (by rw [hx]; rw [hx] at hx128; exact hx128)
      rw [hx] at hnx hx128
      clear hx
      have hne : ((x.toNat : Int) == 65533) = false := by simp; omega
      go_wp2
      go_roundg g
      case measure => omega
      case rel => exact ⟨i + 1, by omega, rfl⟩

theorem indexByte_absent : ∀ (l : List UInt8) (c : UInt8), (∀ b ∈ l, b ≠ c) → Lib.indexByte l c = -1
  | [], _, _ => rfl
  | b :: l, c, h => by
    have h1 : (b == c) = false := by simpa using h b (by simp)
    simp only [Lib.indexByte, h1, indexByte_absent l c (fun x hx => h x (by simp [hx]))]
    rfl
theorem noByte (k : Nat) (c : UInt8) (h : 128 ≤ c.toNat) : Lib.indexByte (signsB.extract k 4).data.toList ((c.toNat : Int).toNat.toUInt8) = -1 := by
  refine indexByte_absent _ _ fun b hb e => ?_
  have h1 := mem_extract hb
  obtain ⟨j, hj⟩ := List.mem_iff_getElem?.1 h1
  have := signs_ascii j b hj
  have h2 : ((c.toNat : Int).toNat.toUInt8) = c := by simp
  rw [h2] at e
  subst e
  omega
theorem indexByte_no (s : ByteArray) (c : Int) (h : Lib.indexByte s.data.toList c.toNat.toUInt8 = -1) (w : World) : Calls Tryz.prog 145 #[.string s, .int .u8 c] w fun e w' => e = .returned (.int .i64 (-1)) ∧ w' = w := by
  have := Tryz.strings_IndexByte s c w
  rwa [h] at this
theorem Below.drewN2 (w : World) (a b : Nat) : Below w.heap.size w ((w.drewN a).drewN b) := ⟨rfl, rfl, rfl, Nat.le_refl _, fun _ _ => rfl⟩

set_option maxRecDepth 100000 in
set_option maxHeartbeats 8000000 in
/-- A rune beyond ASCII is no sign. -/
theorem indexRune_high (r : Int) (h128 : 128 ≤ r) (hr : r ≤ 2147483647) (w : World) : Calls Tryz.prog 123 #[.string signsB, .int .i32 r] w fun e w' => e = .returned (.int .i64 (-1)) ∧ Below w.heap.size w w' := by
  by_cases he : r = 65533
  · subst he; exact indexRune_err w
  have hne : (r == 65533) = false := by simpa using he
  cases hv : Lib.validRune r
  · go_enter Tryz.func123, Tryz.ntmps123
    go_wp2_with (go_at_call 146; refine (Tryz.utf8_ValidRune _ _).mono ?_; rintro e w' ⟨rfl, hw⟩; rw [hw, hv])
    go_ret
    exact ⟨rfl, Below.refl _ _⟩
  · have hval : Utf8.valid r = true := (validRune_eq r).trans hv
    obtain ⟨e1, e2, e3⟩ := encode_facts r hval h128
    have e4 : ∀ i (h : i < (Utf8.encode r).size), i + 1 = (Utf8.encode r).size → 128 ≤ ((Utf8.encode r)[i]'h).toNat := fun i h hi => by
      have : i = (Utf8.encode r).size - 1 := by omega
      subst this
      exact e3 h
    have hk : (Utf8.encode r).size = 2 ∨ (Utf8.encode r).size = 3 ∨ (Utf8.encode r).size = 4 := by omega
    have hsg : ∀ i (h : i < signsB.size), (signsB[i]'h).toNat < 128 := fun i h => signs_ascii i _ (Lib.data_getElem? signsB i h)
    have HSG := Lib.hid hsg
    have H4 := Lib.hid e4
    clear e1 e2 e3 e4 hsg he
    have hz : signsB.size = 4 := rfl
    rcases hk with hk | hk | hk
    · have b1 := HSG.out 1 (by omega)
      have b2 := H4.out 1 (by omega) (by omega)
      have t : (((signsB[1]'(by omega)).toNat : Int) != (((Utf8.encode r)[1]'(by omega)).toNat : Int)) = true := by simp; omega
      have nb := Lib.hid (noByte 2 ((Utf8.encode r)[1]'(by omega)) b2)
      clear b1 b2
      go_enter Tryz.func123, Tryz.ntmps123
      go_wp2_with (go_at_call 146; refine (Tryz.utf8_ValidRune _ _).mono ?_; rintro e w' ⟨rfl, hw⟩; rw [hw, hv])
      go_step3
      go_wp2
      refine wp_loop_rounds 1 ?_
      rw [rounds_succ]
      go_wp2
      go_step3
      go_wp2
      go_quiet (fail)
      go_wp2
      have hb : Below w.heap.size w (w.drewN nq) := ⟨rfl, rfl, rfl, Nat.le_refl _, fun _ _ => rfl⟩
      have HB := Lib.hid hb
      clear hb
      generalize w.drewN nq = w2 at *
      go_quiet ((go_at_call 145; exact Calls.quiet_of_same (indexByte_no _ _ nb.out _)))
      go_wp2
      rw [Exit.noGoto_ret]
      go_wp2
      rw [Exit.noGoto_ret]
      go_ret
      exact ⟨rfl, HB.out.trans ⟨rfl, rfl, rfl, Nat.le_refl _, fun _ _ => rfl⟩⟩
    · have b1 := HSG.out 2 (by omega)
      have b2 := H4.out 2 (by omega) (by omega)
      have t : (((signsB[2]'(by omega)).toNat : Int) != (((Utf8.encode r)[2]'(by omega)).toNat : Int)) = true := by simp; omega
      have nb := Lib.hid (noByte 3 ((Utf8.encode r)[2]'(by omega)) b2)
      clear b1 b2
      go_enter Tryz.func123, Tryz.ntmps123
      go_wp2_with (go_at_call 146; refine (Tryz.utf8_ValidRune _ _).mono ?_; rintro e w' ⟨rfl, hw⟩; rw [hw, hv])
      go_step3
      go_wp2
      refine wp_loop_rounds 1 ?_
      rw [rounds_succ]
      go_wp2
      go_step3
      go_wp2
      go_quiet (fail)
      go_wp2
      have hb : Below w.heap.size w (w.drewN nq) := ⟨rfl, rfl, rfl, Nat.le_refl _, fun _ _ => rfl⟩
      have HB := Lib.hid hb
      clear hb
      generalize w.drewN nq = w2 at *
      go_quiet ((go_at_call 145; exact Calls.quiet_of_same (indexByte_no _ _ nb.out _)))
      go_wp2
      rw [Exit.noGoto_ret]
      go_wp2
      rw [Exit.noGoto_ret]
      go_ret
      exact ⟨rfl, HB.out.trans ⟨rfl, rfl, rfl, Nat.le_refl _, fun _ _ => rfl⟩⟩
    · have b1 := HSG.out 3 (by omega)
      have b2 := H4.out 3 (by omega) (by omega)
      have t : (((signsB[3]'(by omega)).toNat : Int) != (((Utf8.encode r)[3]'(by omega)).toNat : Int)) = true := by simp; omega
      have nb := Lib.hid (noByte 4 ((Utf8.encode r)[3]'(by omega)) b2)
      clear b1 b2
      go_enter Tryz.func123, Tryz.ntmps123
      go_wp2_with (go_at_call 146; refine (Tryz.utf8_ValidRune _ _).mono ?_; rintro e w' ⟨rfl, hw⟩; rw [hw, hv])
      go_step3
      go_wp2
      refine wp_loop_rounds 1 ?_
      rw [rounds_succ]
      go_wp2
      go_step3
      go_wp2
      go_quiet (fail)
      go_wp2
      have hb : Below w.heap.size w (w.drewN nq) := ⟨rfl, rfl, rfl, Nat.le_refl _, fun _ _ => rfl⟩
      have HB := Lib.hid hb
      clear hb
      generalize w.drewN nq = w2 at *
      go_quiet ((go_at_call 145; exact Calls.quiet_of_same (indexByte_no _ _ nb.out _)))
      go_wp2
      rw [Exit.noGoto_ret]
      go_wp2
      rw [Exit.noGoto_ret]
      go_ret
      exact ⟨rfl, HB.out.trans ⟨rfl, rfl, rfl, Nat.le_refl _, fun _ _ => rfl⟩⟩

theorem conts_high (s : ByteArray) (pos : Nat) (h : pos < s.size) : pos + (Utf8.decode s pos).2 ≤ s.size ∧ ∀ j, pos < j → j < pos + (Utf8.decode s pos).2 → ∀ b, s.data.toList[j]? = some b → 128 ≤ b.toNat := by
  have hl : s.data.toList.length = s.size := data_length s
  rw [Lib.decode_N]
  have hc := Lib.decodeN_conts (s.data.toList.length - pos) (s.data.toList.getD pos 0).toNat (s.data.toList.getD (pos + 1) 0).toNat (s.data.toList.getD (pos + 2) 0).toNat (s.data.toList.getD (pos + 3) 0).toNat
  have hw := Lib.decodeN_ge1 (s.data.toList.length - pos) (s.data.toList.getD pos 0).toNat (s.data.toList.getD (pos + 1) 0).toNat (s.data.toList.getD (pos + 2) 0).toNat (s.data.toList.getD (pos + 3) 0).toNat
  generalize (Lib.decodeN (s.data.toList.length - pos) (s.data.toList.getD pos 0).toNat (s.data.toList.getD (pos + 1) 0).toNat (s.data.toList.getD (pos + 2) 0).toNat (s.data.toList.getD (pos + 3) 0).toNat).2 = n at *
  obtain ⟨c2, c3, c4, c5⟩ := hc
  refine ⟨by omega, fun j h1 h2 b hb => ?_⟩
  have g : ∀ k, j = pos + k → (s.data.toList.getD (pos + k) 0).toNat = b.toNat := fun k hk => by
    subst hk
    simp [List.getD, hb]
  rcases (show j = pos + 1 ∨ j = pos + 2 ∨ j = pos + 3 by omega) with e | e | e
  · have := g 1 e; have := c2 (by omega); omega
  · have := g 2 e; have := c3 (by omega); omega
  · have := g 3 e; have := c4 (by omega); omega

set_option maxRecDepth 100000 in
set_option maxHeartbeats 8000000 in
theorem indexAny_short (s : ByteArray) (h8 : s.size ≤ 8) (w : World) :
    Calls Tryz.prog 100 #[.string s, .string signsB] w fun e w' => e = .returned (.int .i64 (Lib.indexAny s.data.toList signsB.data.toList)) ∧ Below w.heap.size w w' := by
  have hemp : signsB.toList.isEmpty = false := by rw [Lib.toList_data]; rfl
  have hn1 : ((signsB.size : Int) == 1) = false := rfl
  have h8z : decide ((8 : Int) < (s.size : Int)) = false := decide_eq_false (by omega)
  have hno : ∀ b : UInt8, 128 ≤ b.toNat → signsB.data.toList.contains b = false := fun b hb => by
    rw [← Bool.not_eq_true, List.contains_iff_mem]
    intro h
    obtain ⟨j, hj⟩ := List.mem_iff_getElem?.1 h
    have := signs_ascii j b hj
    omega
  have HNO := Lib.hid hno
  clear hno
  go_enter Tryz.func100, Tryz.ntmps100
  go_wp2_with (go_at_call 124; refine (Tryz.strings_shouldUseASCIISet _ _).mono ?_; rintro e w' ⟨rfl, hw⟩; rw [hw, h8z])
  go_loopg [9, 10] s.size (fun g _ _ wx => ∃ i : Nat, i + g = s.size ∧ Below w.heap.size w wx ∧ wx.heap[w.heap.size]? = some (.stringIter s i) ∧ Lib.NoAny s.data.toList signsB.data.toList i)
  case atStart => exact ⟨0, by omega, (Below.refl _ _).alloc (Nat.le_refl _) _, heap_alloc_new w _, Lib.NoAny.zero _ _⟩
  case round =>
    obtain ⟨i, hig, hb, hk, hna⟩ := hrel
    have HN := Lib.hid hna
    have HB := Lib.hid hb
    have HK := Lib.hid hk
    have hwz : w.heap.size < wr.heap.size := (Array.getElem?_eq_some_iff.1 hk).1
    clear hna hb
    cases gk with
    | zero =>
      obtain rfl : i = s.size := by omega
      have hnx := Lib.run_next_end_at (P := Tryz.prog) wr w.heap.size s s.size
      have hnx := fun ty => hnx ty hk (by omega)
      clear hk
      go_wp2
      go_ret
      exact ⟨by rw [Lib.indexAny_none (by rw [← Lib.size_eq]; exact HN.out)]; rfl, HB.out⟩
    | succ g =>
      have hi : i < s.size := by omega
      obtain ⟨x, hx⟩ : ∃ x : UInt8, s[i]'hi = x := ⟨_, rfl⟩
      have hxl : s.data.toList[i]? = some x := by rw [← hx]; exact Lib.data_getElem? s i hi
      have Hx := Lib.hid hxl
      by_cases ha : x.toNat < 128
      · have hnx := fun ty => Lib.run_next_ascii_at (P := Tryz.prog) wr w.heap.size s i ty hk hi (by rw [hx]; exact ha)
        rw [hx] at hnx
        have hk' := Lib.hid (Lib.iterAt_heap wr w.heap.size s i (i + 1) hk)
        have hb' : Hid (Below w.heap.size w (wr.iterAt w.heap.size s (i + 1))) := Lib.hid (HB.out.trans ⟨rfl, rfl, rfl, by simp [World.iterAt], fun k hk => Array.getElem?_setIfInBounds_ne (by omega)⟩)
        clear hk hxl hx
        have hcon := Lib.contains_iff_indexByte signsB.data.toList x
        have hback : ((x.toNat : Int)).toNat.toUInt8 = x := by simp
        generalize hW : wr.iterAt w.heap.size s (i + 1) = W at *
        clear hW
        cases hin : signsB.data.toList.contains x
        · rw [hin] at hcon
          have hlt : ¬ ((0 : Int) ≤ Lib.indexByte signsB.data.toList x) := of_decide_eq_false hcon.symm
          clear hcon
          go_wp2_with (go_at_call 123; refine (Tryz.strings_IndexRune_ascii _ _ _ (by omega) (by omega)).mono ?_; rintro e w' ⟨rfl, hw⟩; rw [hw, hback])
          go_roundg g
          case measure => omega
          case rel => exact ⟨i + 1, by omega, hb'.out, hk'.out, HN.out.succ Hx.out hin⟩
        · rw [hin] at hcon
          have hge : (0 : Int) ≤ Lib.indexByte signsB.data.toList x := of_decide_eq_true hcon.symm
          clear hcon
          go_wp2_with (go_at_call 123; refine (Tryz.strings_IndexRune_ascii _ _ _ (by omega) (by omega)).mono ?_; rintro e w' ⟨rfl, hw⟩; rw [hw, hback])
          go_ret
          exact ⟨by rw [Lib.indexAny_hit HN.out Hx.out hin]; rfl, hb'.out⟩
      · have hnx := fun ty => Lib.run_next_any_at (P := Tryz.prog) wr w.heap.size s i ty hk hi
        have hd := decode_high s i hi (by rw [hx]; omega)
        have hle := decode_le s i
        have hc := conts_high s i hi
        have hn' : Lib.NoAny s.data.toList signsB.data.toList (i + (Utf8.decode s i).2) := fun j b hj hb => by
          by_cases h1 : j < i
          · exact HN.out j b h1 hb
          · by_cases h2 : j = i
            · subst h2
              rw [Hx.out] at hb
              cases hb
              exact HNO.out _ (by omega)
            · exact HNO.out _ (hc.2 j (by omega) hj b hb)
        have HN' := Lib.hid hn'
        have hcl := hc.1
        generalize hr : (Utf8.decode s i).1 = r at *
        generalize hwd : (Utf8.decode s i).2 = wd at *
        have hk' := Lib.hid (Lib.iterAt_heap wr w.heap.size s i (i + wd) hk)
        have hb' : Hid (Below w.heap.size w (wr.iterAt w.heap.size s (i + wd))) := Lib.hid (HB.out.trans ⟨rfl, rfl, rfl, by simp [World.iterAt], fun k hk => Array.getElem?_setIfInBounds_ne (by omega)⟩)
        have hsz : w.heap.size < (wr.iterAt w.heap.size s (i + wd)).heap.size := by simp [World.iterAt]; exact hwz
        clear hk hxl hx hc hn' hr hwd
        generalize hW : wr.iterAt w.heap.size s (i + wd) = W at *
        clear hW
        go_wp2_with fail
        refine (indexRune_high _ (by omega) (by omega) _).mono ?_
        rintro e w' ⟨rfl, hb2⟩
        have HB2 := Lib.hid hb2
        clear hb2
        go_wp2
        go_roundg (s.size - (i + wd))
        case measure => omega
        case rel => exact ⟨i + wd, by omega, hb'.out.trans (HB2.out.mono (by omega)), (HB2.out.block _ hsz).trans hk'.out, HN'.out⟩

theorem zero127 (w : World) : (zeroValue 127).run Tryz.prog w = .ok (.agg (Array.replicate 256 (.bool false))) w := by kernel_rfl

/-- strings.IndexAny over the signs, for every text. -/
theorem indexAny_any (s : ByteArray) (hs : s.size ≤ 1000000) (w : World) :
    Calls Tryz.prog 100 #[.string s, .string signsB] w fun e w' => e = .returned (.int .i64 (Lib.indexAny s.data.toList signsB.data.toList)) ∧ Below w.heap.size w w' := by
  by_cases h8 : s.size ≤ 8
  · exact indexAny_short s h8 w
  · refine (Tryz.strings_IndexAny_long zero127 s signsB w (by decide) (by omega) (by omega) (by decide) signs_ascii).mono fun e w' ⟨h1, h2⟩ => ⟨h1, ?_⟩
    rw [h2]
    exact ((Below.refl _ _).alloc (Nat.le_refl _) _).alloc (by simp) _
end Go.Proofs.YthcoppfdffhjfaaGreatDoor
