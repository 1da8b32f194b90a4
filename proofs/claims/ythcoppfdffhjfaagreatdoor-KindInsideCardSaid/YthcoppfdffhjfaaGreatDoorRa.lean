/- Sorting of names and of parts: the plain order, the closure, the copies. -/
import Derived.Test.YthcoppfdffhjfaaGreatDoorR
import Derived.Test.YthcoppfdffhjfaaGreatDoorShelf2
namespace Go.Proofs.YthcoppfdffhjfaaGreatDoor
open Go Go.RowKit Go.Sort

theorem cmp_lt : ∀ a b : Bys, (Lib.compareBytes a b < 0) ↔ a < b
  | [], [] => by simp [Lib.compareBytes]
  | [], y :: b => by simp [Lib.compareBytes]
  | x :: a, [] => by simp [Lib.compareBytes]
  | x :: a, y :: b => by
    unfold Lib.compareBytes
    rw [List.cons_lt_cons_iff]
    by_cases h1 : x < y
    · simp [h1]
    · rw [if_neg h1]
      by_cases h2 : y < x
      · rw [if_pos h2]
        have h3 : ¬ x = y := fun e => by subst e; exact h1 h2
        simp [h1, h3]
      · rw [if_neg h2, cmp_lt a b]
        have h3 : x = y := UInt8.le_antisymm (UInt8.not_lt.1 h2) (UInt8.not_lt.1 h1)
        simp [h3]
section
variable {α : Type} (key : α → Bys)
def cmpK (x y : α) : Int := Lib.compareBytes (key x) (key y)
theorem lt_cmpK (x y : α) : ltOf (cmpK key) x y = decide (key x < key y) := by
  unfold ltOf cmpK
  by_cases h : key x < key y
  · rw [decide_eq_true h, decide_eq_true ((cmp_lt _ _).2 h)]
  · rw [decide_eq_false h, decide_eq_false (fun k => h ((cmp_lt _ _).1 k))]
theorem swo_cmpK : SWO (ltOf (cmpK key)) where
  irrefl x := by rw [lt_cmpK]; exact decide_eq_false (bys_irr _)
  trans x y z h1 h2 := by
    rw [lt_cmpK] at *
    exact decide_eq_true (bys_lt (of_decide_eq_true h1) (of_decide_eq_true h2))
  ntrans x y z h1 h2 := by
    rw [lt_cmpK] at *
    have h1 := of_decide_eq_false h1
    have h2 := of_decide_eq_false h2
    exact decide_eq_false fun h => by
      by_cases a : key y < key x
      · exact h2 (bys_lt a h)
      · rw [bys_tri h1 a] at h
        exact h2 h
/-- Not descending by a key. -/
def Up (l : List α) : Prop := l.Pairwise fun p q => ¬ key q < key p
variable {key}
theorem sorted_list [Inhabited α] {l : List α} {d : Array α} (hp : PermIn 0 l.toArray.size l.toArray d) (hs : SortedIn (ltOf (cmpK key)) 0 l.toArray.size d) : d.toList.Perm l ∧ Up key d.toList ∧ d.size = l.length := by
  obtain ⟨h1, _, h3⟩ := hp
  have h1' : d.size = l.length := by simpa using h1
  refine ⟨?_, ?_, h1'⟩
  · have e1 : d.extract 0 l.toArray.size = d := by rw [← h1]; exact Array.extract_size
    have e2 : l.toArray.extract 0 l.toArray.size = l.toArray := Array.extract_size
    rw [e1, e2] at h3
    simpa using h3
  · unfold Up
    rw [List.pairwise_iff_getElem]
    intro i j hi hj hij
    have hj' : j < d.size := by simpa using hj
    have hi' : i < d.size := by simpa using hi
    have := hs i j (Nat.zero_le _) hij (by rw [← h1]; exact hj')
    rw [lt_cmpK, getElem!_pos d j hj', getElem!_pos d i hi'] at this
    simpa using of_decide_eq_false this
theorem up_asc {l : List α} (h : Up key l) (hd : (l.map key).Nodup) : Asc key l := by
  unfold Asc
  unfold Up at h
  unfold List.Nodup at hd
  rw [List.pairwise_map] at hd
  exact h.imp₂ (fun {a b} h1 h2 => by
    by_cases h3 : key a < key b
    · exact h3
    · exact absurd (bys_tri h3 h1) h2) hd
end

def partVs (l : List (Bys × Bys)) : List Value := l.flatMap fun p => [.string (bs p.1), .string (bs p.2)]
theorem partVs_len : ∀ l : List (Bys × Bys), (partVs l).length = l.length * 2
  | [] => rfl
  | p :: l => by
    have := partVs_len l
    simp only [partVs, List.flatMap_cons, List.length_append, List.length_cons, List.length_nil] at this ⊢
    omega
theorem partVs_at : ∀ (l : List (Bys × Bys)) (i : Nat) (p : Bys × Bys), l[i]? = some p → (partVs l)[i * 2]? = some (.string (bs p.1)) ∧ (partVs l)[i * 2 + 1]? = some (.string (bs p.2))
  | [], i, p, h => by simp at h
  | q :: l, 0, p, h => by
    simp at h; subst h
    exact ⟨rfl, rfl⟩
  | q :: l, i + 1, p, h => by
    have := partVs_at l i p (by simpa using h)
    rw [show (i + 1) * 2 = i * 2 + 1 + 1 by omega]
    exact this
theorem partVs_get (l : List (Bys × Bys)) (t : Nat) (u : Value) (h : (partVs l)[t]? = some u) : ∃ p, l[t / 2]? = some p ∧ ((t % 2 = 0 ∧ u = .string (bs p.1)) ∨ (t % 2 = 1 ∧ u = .string (bs p.2))) := by
  have hlt := (List.getElem?_eq_some_iff.1 h).1
  rw [partVs_len] at hlt
  have hl : t / 2 < l.length := by omega
  have e := partVs_at l (t / 2) _ (List.getElem?_eq_getElem hl)
  refine ⟨_, List.getElem?_eq_getElem hl, ?_⟩
  rcases Nat.mod_two_eq_zero_or_one t with hm | hm
  · left
    refine ⟨hm, ?_⟩
    have : t / 2 * 2 = t := by omega
    rw [this] at e
    rw [e.1] at h
    exact (Option.some.inj h).symm
  · right
    refine ⟨hm, ?_⟩
    have : t / 2 * 2 + 1 = t := by omega
    rw [this] at e
    rw [e.2] at h
    exact (Option.some.inj h).symm
theorem own_parts {w : World} {base : Nat} {v : Value} {l : List (Bys × Bys)} (h : w.ownsRow base 42 2 v l.length (partVs l)) (hn : 0 < l.length) : ∃ g cap, v = .slice (some ⟨g, 0, none⟩) l.length cap ∧ base ≤ g ∧ g < w.heap.size ∧ PartRow w g 0 l ∧ l.length ≤ cap ∧ ∃ cs, Blk w g 42 cs := by
  rcases h with ⟨h1, ⟨_, h0⟩ | ⟨g, cap, cur, hv, hg, hh, hc, hc2, hcs, ht⟩⟩
  · omega
  · refine ⟨g, cap, hv, hg, (Array.getElem?_eq_some_iff.1 hh).1, fun i p hi => ?_, by omega, cur, hh⟩
    have hil : i < l.length := (List.getElem?_eq_some_iff.1 hi).1
    obtain ⟨e1, e2⟩ := partVs_at l i p hi
    have k1 := (List.getElem?_eq_some_iff.1 e1).1
    have k2 := (List.getElem?_eq_some_iff.1 e2).1
    rw [partVs_len] at k1 k2
    constructor
    · rw [Nat.zero_add, cell_of_row w g (i * 2) cur 42 (0, 0) hh, ← e1, ← ht, List.getElem?_take, if_pos (by omega)]
      simp
    · rw [Nat.zero_add, cell_of_row w g (i * 2 + 1) cur 42 (0, 0) hh, ← e2, ← ht, List.getElem?_take, if_pos (by omega)]
      simp
theorem info42 : (Tryz.prog.info? 42).map (fun i => (i.zero, i.size, i.bytes)) = some (some (.agg #[.string ByteArray.empty, .string ByteArray.empty]), 2, 32) := by kernel_rfl
theorem info42' : ∃ i, Tryz.prog.info? 42 = some i ∧ i.zero = some (.agg #[.string { data := #[] }, .string { data := #[] }]) ∧ i.size = 2 ∧ i.bytes = 32 := by
  have := info42
  cases h : Tryz.prog.info? 42 with
  | none => rw [h] at this; cases this
  | some i =>
    rw [h] at this
    simp only [Option.map_some, Option.some.injEq, Prod.mk.injEq] at this
    exact ⟨i, rfl, this.1, this.2.1, this.2.2⟩

set_option maxRecDepth 100000 in
set_option maxHeartbeats 3200000 in
/-- A copy of a list of parts. -/
theorem clone_parts (l : List (Bys × Bys)) (g o cap : Nat) (w : World) (hl : l.length ≤ 1000) (hrow : PartRow w g o l) :
    Calls Tryz.prog 111 #[.slice (some ⟨g, o, none⟩) l.length cap] w fun e w' => ∃ v', e = .returned v' ∧ w'.ownsRow w.heap.size 42 2 v' l.length (partVs l) ∧ Below w.heap.size w w' := by
  obtain ⟨i0, hi, hz0, hz1, hz2⟩ := info42'
  have mixed : Tryz.prog.follows .mixedOrders = true := by kernel_rfl
  have t37 : Tryz.prog.underlying 37 = some (.slice 42) := by kernel_rfl
  have q37 : ∀ (w : World) (a : Option Addr) (n c n' c' : Nat), (binOp .eql 37 (.slice a n c) (.slice none n' c')).run Tryz.prog w = .ok (.bool a.isNone) w := fun w a n c n' c' => Lib.run_eql_slice_nil w _ _ a n c n' c' t37
  have HROW := Lib.hid hrow
  clear hrow
  go_enter Tryz.func111, Tryz.ntmps111
  go_wp2_with (at_builtin; refine wpList_append_own _ rfl _ _ 37 rfl w.heap.size 42 i0 (.agg #[.string { data := #[] }, .string { data := #[] }]) 2 32 t37 hi hz0 hz1 hz2 rfl (by decide) _ _ _ rfl (World.ownsRow_made w #[] 0 (Nat.le_refl _) (Nat.zero_le _) rfl) ⟨g, o, none⟩ l.length cap (partVs l) rfl ?qc1 ?qc2 ?qc3 ?qc4 ?qc5 ?qc6 ?_)
  case qc1 => exact partVs_len l
  case qc2 =>
    intro j u hj
    rw [Addr.add_lit]
    refine Lib.cell?_alloc_some _ ?_
    obtain ⟨p, hp, ⟨hm, rfl⟩ | ⟨hm, rfl⟩⟩ := partVs_get l j u hj
    · have e : o + j = o + j / 2 * 2 := by omega
      rw [e]
      exact (HROW.out _ _ hp).1
    · have e : o + j = o + j / 2 * 2 + 1 := by omega
      rw [e]
      exact (HROW.out _ _ hp).2
  case qc3 =>
    intro u hu
    obtain ⟨p, _, hp⟩ := List.mem_flatMap.1 hu
    simp at hp
    rcases hp with rfl | rfl <;> rfl
  case qc4 => unfold maxLen; omega
  case qc5 => omega
  case qc6 => simp
  intro v' w1 hown hgrow hnil
  go_wp2
  go_ret
  exact ⟨v', rfl, hown, ((Below.refl _ w).alloc (Nat.le_refl _) _).grown hgrow (by simp) (by intro k hk; simp [Value.ownBlock] at hk; omega)⟩

/-- The cells of a part. -/
def encP (x : Bys × Bys) : List Value := [.string (bs x.1), .string (bs x.2)]
set_option maxHeartbeats 1000000 in
theorem closure91 (x y : Bys × Bys) (W : World) : Calls Tryz.prog 91 #[.agg #[.string (bs x.1), .string (bs x.2)], .agg #[.string (bs y.1), .string (bs y.2)]] W fun e w' => e = .returned (.int .i64 (cmpK Prod.fst x y)) ∧ ∃ q os', w' = grow (W.drewN q) os' := by
  have hcon := fun W' => Tryz.strings_Compare (bs x.1) (bs y.1) W'
  rw [bs_data, bs_data] at hcon
  unfold cmpK
  generalize Lib.compareBytes x.1 y.1 = r at hcon ⊢
  go_enter Tryz.func91, Tryz.ntmps91
  go_wp2_with (go_at_call 72; refine (hcon _).mono ?_; rintro e w' ⟨rfl, rfl⟩)
  go_ret
  exact ⟨rfl, 0, _, by rw [alloc_eq_grow, alloc_eq_grow, grow_grow]; rfl⟩

theorem holdsK_parts {w : World} {g : Nat} {l : List (Bys × Bys)} {cs : Array Value} (h : PartRow w g 0 l) (hb : Blk w g 42 cs) : HoldsK encP 2 w g 0 l.toArray := by
  intro j hj
  have hj' : j < l.length * 2 := by simpa using hj
  rw [get_flatK encP 2 l.toArray j (by simpa using hj')]
  refine ⟨?_, hb.frozen _⟩
  have hl : j / 2 < l.length := by omega
  obtain ⟨h1, h2⟩ := h (j / 2) _ (List.getElem?_eq_getElem hl)
  have e : l.toArray[j / 2]! = l[j / 2] := by rw [getElem!_pos _ _ (by simpa using hl)]; simp
  rw [e]
  rcases Nat.mod_two_eq_zero_or_one j with hm | hm
  · rw [hm]
    have : 0 + j / 2 * 2 = 0 + j := by omega
    rw [this] at h1
    exact h1
  · rw [hm]
    have : 0 + j / 2 * 2 + 1 = 0 + j := by omega
    rw [this] at h2
    exact h2
theorem parts_holdsK {w : World} {g : Nat} {d : Array (Bys × Bys)} (h : HoldsK encP 2 w g 0 d) : PartRow w g 0 d.toList := by
  intro i p hi
  have hl : i < d.size := by simpa using (List.getElem?_eq_some_iff.1 hi).1
  have e : d[i]! = p := by
    rw [getElem!_pos d i hl]
    simpa [hl] using hi
  have h1 := (h (i * 2) (by simp; omega)).1
  have h2 := (h (i * 2 + 1) (by simp; omega)).1
  rw [get_flatK encP 2 d _ (by omega)] at h1 h2
  have a1 : i * 2 / 2 = i := by omega
  have a2 : i * 2 % 2 = 0 := by omega
  have a3 : (i * 2 + 1) / 2 = i := by omega
  have a4 : (i * 2 + 1) % 2 = 1 := by omega
  rw [a1, a2, e] at h1
  rw [a3, a4, e] at h2
  exact ⟨h1, h2⟩
theorem below_sortK {w : World} {B g n : Nat} {d : Array (Bys × Bys)} {os : Array Obj} (hg : B ≤ g) (hB : B ≤ w.heap.size) : Below B w (sortWorldK encP 2 w g 0 n d os) := by
  refine ⟨rfl, rfl, rfl, ?_, fun i hi => ?_⟩
  · simp [sortWorldK, grow, putRowK, putRow, mapBlock, Sort.ahead]
  · have hi2 : i < w.heap.size := by omega
    simp only [sortWorldK, grow, putRowK, putRow, mapBlock, Sort.ahead]
    rw [Array.getElem?_append_left (by simpa using hi2), Array.getElem?_modify, if_neg (by omega)]

set_option maxRecDepth 100000 in
set_option maxHeartbeats 3200000 in
/-- Parts by their names, in memory of their own. -/
theorem sorted_parts (l : List (Bys × Bys)) (g o cap : Nat) (w : World) (hl : l.length ≤ 1000) (hn : 0 < l.length) (hrow : PartRow w g o l) :
    Calls Tryz.prog 90 #[.slice (some ⟨g, o, none⟩) l.length cap, .func (.func 91) #[] #[]] w fun e w' => ∃ m g' cap', e = .returned (.slice (some ⟨g', 0, none⟩) l.length cap') ∧ m.Perm l ∧ Up Prod.fst m ∧ PartRow w' g' 0 m ∧ g' < w'.heap.size ∧ Below w.heap.size w w' := by
  have eg : ∀ args w, (callFunc 91 args).run Tryz.prog w = .ok (.enter 91 args) w := enters_of Tryz.func91 (by kernel_rfl) rfl
  have hclone := clone_parts l g o cap w hl hrow
  have HCL := Lib.hid hclone
  clear hclone hrow
  go_enter Tryz.func90, Tryz.ntmps90
  go_wp2_with fail
  refine HCL.out.mono ?_
  rintro e w1 ⟨v', rfl, hown, hb⟩
  obtain ⟨g1, cap1, rfl, hg1, hg1l, hrow1, hcap1, cs, hblk⟩ := own_parts hown hn
  have hH := holdsK_parts hrow1 hblk
  have hcon := AnyQ.slices_SortFunc Tryz.sortPart 2 Tryz.isAgg42 Tryz.sizeOf42 encP (fun _ => rfl) (fun x v hv => by simp [encP] at hv; rcases hv with rfl | rfl <;> rfl) (cmpK Prod.fst) (swo_cmpK Prod.fst) 91 #[] g1 0 cap1 l.toArray w1 eg (fun _ _ _ _ x y => closure91 x y _) hH hg1l (by simp; omega)
  change Calls Tryz.prog 112 _ _ _ at hcon
  have hsz : l.toArray.size = l.length := by simp
  rw [hsz] at hcon
  have HH := Lib.hid hH
  have HB := Lib.hid hb
  have HC := Lib.hid hcon
  clear hown hrow1 hH hb hcon HCL
  go_wp2_with fail
  refine HC.out.mono ?_
  rintro e w2 ⟨rfl, d', n, os, hp, hs, rfl⟩
  go_wp2
  go_ret
  rw [← hsz] at hp hs
  obtain ⟨k1, k2, k3⟩ := sorted_list hp hs
  refine ⟨d'.toList, g1, cap1, rfl, k1, k2, ?_, ?_, ?_⟩
  · exact parts_holdsK (holdsK_grow encP 2 _ _ _ _ _ (by simpa [putRowK, Sort.ahead] using hg1l) (holdsK_putRowK encP 2 _ _ _ l.toArray d' (holdsK_ahead encP 2 _ _ _ _ _ HH.out) (by rw [k3]; simp)))
  · simp [sortWorldK, grow, putRowK, putRow, mapBlock, Sort.ahead]; omega
  · exact HB.out.trans (below_sortK hg1 HB.out.size)
end Go.Proofs.YthcoppfdffhjfaaGreatDoor
