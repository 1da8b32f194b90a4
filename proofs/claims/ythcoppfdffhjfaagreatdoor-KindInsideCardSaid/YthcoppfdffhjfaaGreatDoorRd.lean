/- Two lists of types behind one another. -/
import Derived.Test.YthcoppfdffhjfaaGreatDoorRc
import Derived.Laws.AppendOwnNone
namespace Go.Proofs.YthcoppfdffhjfaaGreatDoor
open Go Go.RowKit

/-- The shape of the cells of a type. -/
def Four (vs : List Value) : Prop := ∃ s k an nn cn ak nk ck, vs = [.string s, .int .u8 k, .slice an nn cn, .slice ak nk ck]
theorem Four.len {vs : List Value} (h : Four vs) : vs.length = 4 := by obtain ⟨_, _, _, _, _, _, _, _, rfl⟩ := h; rfl
theorem Four.one {vs : List Value} (h : Four vs) : ∀ u ∈ vs, u.oneCell' = true := by
  obtain ⟨_, _, _, _, _, _, _, _, rfl⟩ := h
  intro u hu
  simp at hu
  rcases hu with rfl | rfl | rfl | rfl <;> rfl
theorem TyV.Four {w : World} {S : Nat → Prop} {T : Ty} {vs : List Value} (h : TyV w S T vs) : Four vs := by
  obtain ⟨an, nn, cn, ak, nk, ck, rfl⟩ := h.four
  exact ⟨_, _, _, _, _, _, _, _, rfl⟩
/-- A slice of types, from wherever in its row. -/
def SrcV (w : World) (v : Value) (kss : List (List Value)) : Prop :=
  (kss = [] ∧ v = .slice none 0 0) ∨ ∃ g o cap, v = .slice (some ⟨g, o, none⟩) kss.length cap ∧ g < w.heap.size ∧ TyRow w g o kss
theorem flat_len : ∀ (kss : List (List Value)), (∀ vs ∈ kss, Four vs) → kss.flatten.length = kss.length * 4
  | [], _ => rfl
  | x :: kss, h => by
    have := flat_len kss fun y hy => h y (by simp [hy])
    have := (h x (by simp)).len
    simp only [List.flatten_cons, List.length_append, List.length_cons]
    omega
theorem flat_one {kss : List (List Value)} (h : ∀ vs ∈ kss, Four vs) : ∀ u ∈ kss.flatten, u.oneCell' = true := by
  intro u hu
  obtain ⟨vs, h1, h2⟩ := List.mem_flatten.1 hu
  exact (h vs h1).one u h2
theorem flat_get : ∀ (kss : List (List Value)), (∀ vs ∈ kss, Four vs) → ∀ t u, kss.flatten[t]? = some u → ∃ vs, kss[t / 4]? = some vs ∧ vs[t % 4]? = some u
  | [], _, t, u, h => by simp at h
  | x :: kss, hf, t, u, h => by
    have hx := (hf x (by simp)).len
    rw [List.flatten_cons, List.getElem?_append] at h
    split at h
    · rename_i ht
      have e1 : t / 4 = 0 := by omega
      have e2 : t % 4 = t := by omega
      exact ⟨x, by rw [e1]; rfl, by rw [e2]; exact h⟩
    · rename_i ht
      obtain ⟨vs, h1, h2⟩ := flat_get kss (fun y hy => hf y (by simp [hy])) _ u h
      rw [hx] at h1 h2
      refine ⟨vs, ?_, by rw [show t % 4 = (t - 4) % 4 by omega]; exact h2⟩
      rw [show t / 4 = (t - 4) / 4 + 1 by omega]
      simpa using h1
theorem src_cells {w : World} {g o : Nat} {kss : List (List Value)} (h : TyRow w g o kss) (h4 : ∀ vs ∈ kss, Four vs) (t : Nat) (u : Value) (ht : kss.flatten[t]? = some u) : w.cell? ((⟨g, o, none⟩ : Addr).add t) = some u := by
  obtain ⟨vs, h1, h2⟩ := flat_get kss h4 t u ht
  rw [Addr.add_lit]
  have := h (t / 4) vs (t % 4) u h1 h2
  rwa [show o + t / 4 * 4 + t % 4 = o + t by omega] at this
theorem info58' : ∃ i, Tryz.prog.info? 58 = some i ∧ i.zero = some (.agg #[.string { data := #[] }, .int .u8 0, .slice none 0 0, .slice none 0 0]) ∧ i.size = 4 ∧ i.bytes = 72 := by
  have := info58
  cases h : Tryz.prog.info? 58 with
  | none => rw [h] at this; cases this
  | some i =>
    rw [h] at this
    simp only [Option.map_some, Option.some.injEq, Prod.mk.injEq] at this
    exact ⟨i, rfl, this.1, this.2.1, this.2.2⟩

theorem grow_typ (n : Nat) (hn : n ≤ 1000000) (w : World) : Calls Tryz.prog 119 #[.slice none 0 0, .int .i64 (n : Int)] w fun e w' => ∃ v, e = .returned v ∧ w'.ownsRow w.heap.size 58 4 v 0 [] ∧ Below w.heap.size w w' := by
  obtain ⟨i0, hi, hz0, hz1, hz2⟩ := info58'
  by_cases h0 : n = 0
  · subst h0
    refine (Any8.slices_Grow_room Tryz.growTyp none 0 0 0 w (by omega) (by omega) (by omega) (by omega)).mono ?_
    rintro e w' ⟨rfl, rfl⟩
    exact ⟨_, rfl, ⟨rfl, .inl ⟨rfl, rfl⟩⟩, Below.refl _ _⟩
  · have h := Any8.slices_Grow_grow Tryz.growTyp i0 _ hi hz0 (by omega) none 0 0 n [] w (by omega) (by omega) (by rw [hz2]; omega) (by omega) (by simp) (fun _ => rfl) (fun a h => by cases h)
    refine Calls.mono h ?_
    rintro e w' ⟨rfl, rfl⟩
    refine ⟨_, rfl, ?_, ?_⟩
    · refine ⟨rfl, .inr ⟨w.heap.size, grownCap w (0 + n) 0 58, _, rfl, Nat.le_refl _, heap_alloc_new w.drew _, Nat.zero_le _, grownCap_le_maxLen _ _ _ _ (by unfold maxLen; omega), ?_, by simp⟩⟩
      have hg := grownCap_ge w (0 + n) 0 58
      simp only [Array.size_append, size_zeroCells, List.size_toArray, List.length_nil]
      show 0 + (0 + n - 0) * 4 + (grownCap w (0 + n) 0 58 - (0 + n)) * 4 = grownCap w (0 + n) 0 58 * 4
      omega
    · have : Below w.heap.size w w.drew := ⟨rfl, rfl, rfl, Nat.le_refl _, fun _ _ => rfl⟩
      exact this.alloc (Nat.le_refl _) _



-- slices.Concat at two lists of types
set_option maxRecDepth 100000 in
set_option maxHeartbeats 6400000 in
theorem concat11 (gb : Nat) (w : World) (g1 o1 c1 : Nat) (k1 : List (List Value)) (f1 : ∀ vs ∈ k1, Four vs) (hk1 : k1.length ≤ 1000) (hg1 : g1 < w.heap.size) (r1 : TyRow w g1 o1 k1) (g2 o2 c2 : Nat) (k2 : List (List Value)) (f2 : ∀ vs ∈ k2, Four vs) (hk2 : k2.length ≤ 1000) (hg2 : g2 < w.heap.size) (r2 : TyRow w g2 o2 k2) (hb0 : w.cell? ⟨gb, 0, none⟩ = some (.slice (some ⟨g1, o1, none⟩) k1.length c1)) (hb1 : w.cell? ⟨gb, 1, none⟩ = some (.slice (some ⟨g2, o2, none⟩) k2.length c2)) (hgb : gb < w.heap.size) :
    Calls Tryz.prog 95 #[.slice (some ⟨gb, 0, none⟩) 2 2] w fun e w' => ∃ v, e = .returned v ∧ w'.ownsRow w.heap.size 58 4 v (k1 ++ k2).length (k1 ++ k2).flatten ∧ Below w.heap.size w w' := by
  obtain ⟨i0, hi, hz0, hz1, hz2⟩ := info58'
  have t56 : Tryz.prog.underlying 56 = some (.slice 58) := by kernel_rfl
  have F1 := Lib.hid f1
  have R1 := Lib.hid r1
  clear f1 r1
  have F2 := Lib.hid f2
  have R2 := Lib.hid r2
  clear f2 r2
  have hgr := Lib.hid (grow_typ (k1.length + k2.length) (by omega) w)
  have B0 := Lib.hid hb0
  have B1 := Lib.hid hb1
  go_enter Tryz.func95, Tryz.ntmps95
  go_wp2
  refine wp_loop_rounds 3 ?_
  rw [rounds_succ]
  go_wp2
  rw [rounds_succ]
  go_wp2
  rw [rounds_succ]
  go_wp2_with fail
  refine hgr.out.mono ?_
  rintro e w1 ⟨v, rfl, hown, hbl⟩
  obtain ⟨ao, nv, cv, hv⟩ := own_shape hown
  have HOWN := Lib.hid hown
  have HB := Lib.hid hbl
  clear hown hb0 hb1
  subst hv
  have hb0 := (World.cell?_of_block (a := ⟨gb, 0, none⟩) (HB.out.block gb hgb)).trans B0.out
  have hgb1 : gb < w1.heap.size := Nat.lt_of_lt_of_le hgb HB.out.size
  go_wp2
  refine wp_loop_rounds 3 ?_
  rw [rounds_succ]
  go_upto_region 13 with (fail)
  have R1x := Lib.hid (TyRow.keep R1.out (HB.out.block g1 hg1))
  clear hb0
  go_wp2_with (at_builtin; refine wpList_append_own _ rfl _ _ 56 rfl w.heap.size 58 i0 _ 4 72 t56 hi hz0 hz1 hz2 rfl (by decide) _ _ _ rfl HOWN.out ⟨g1, o1, none⟩ k1.length c1 k1.flatten rfl (flat_len _ F1.out) (src_cells R1x.out F1.out) (flat_one F1.out) (by unfold maxLen; omega) (by omega) (by have := HB.out.size; omega) ?_)
  intro v0 w2 hown0 hgrow0 _
  have HBx := Lib.hid (HB.out.grown hgrow0 HB.out.size (fun q hq => by have := (HOWN.out.lt q hq).1; omega))
  have HOWNx := Lib.hid hown0
  obtain ⟨ao0, nv0, cv0, hv0⟩ := own_shape hown0
  clear hown0 hgrow0
  subst hv0
  have hb1 := (World.cell?_of_block (a := ⟨gb, 1, none⟩) (HBx.out.block gb hgb)).trans B1.out
  have hgb2 : gb < w2.heap.size := Nat.lt_of_lt_of_le hgb HBx.out.size
  go_wp2
  rw [rounds_succ]
  go_upto_region 13 with (fail)
  have R2x := Lib.hid (TyRow.keep R2.out (HBx.out.block g2 hg2))
  clear hb1
  go_wp2_with (at_builtin; refine wpList_append_own _ rfl _ _ 56 rfl w.heap.size 58 i0 _ 4 72 t56 hi hz0 hz1 hz2 rfl (by decide) _ _ _ rfl HOWNx.out ⟨g2, o2, none⟩ k2.length c2 k2.flatten rfl (flat_len _ F2.out) (src_cells R2x.out F2.out) (flat_one F2.out) (by unfold maxLen; omega) (by omega) (by have := HBx.out.size; omega) ?_)
  intro v1 w3 hown1 hgrow1 _
  have HBxx := Lib.hid (HBx.out.grown hgrow1 HBx.out.size (fun q hq => by have := (HOWNx.out.lt q hq).1; omega))
  have HOWNxx := Lib.hid hown1
  obtain ⟨ao1, nv1, cv1, hv1⟩ := own_shape hown1
  clear hown1 hgrow1
  subst hv1
  go_wp2
  rw [rounds_succ]
  go_wp2
  go_ret
  exact ⟨_, rfl, by simpa using HOWNxx.out, HBxx.out⟩

set_option maxRecDepth 100000 in
set_option maxHeartbeats 6400000 in
theorem concat10 (gb : Nat) (w : World) (g1 o1 c1 : Nat) (k1 : List (List Value)) (f1 : ∀ vs ∈ k1, Four vs) (hk1 : k1.length ≤ 1000) (hg1 : g1 < w.heap.size) (r1 : TyRow w g1 o1 k1) (hb0 : w.cell? ⟨gb, 0, none⟩ = some (.slice (some ⟨g1, o1, none⟩) k1.length c1)) (hb1 : w.cell? ⟨gb, 1, none⟩ = some (.slice none 0 0)) (hgb : gb < w.heap.size) :
    Calls Tryz.prog 95 #[.slice (some ⟨gb, 0, none⟩) 2 2] w fun e w' => ∃ v, e = .returned v ∧ w'.ownsRow w.heap.size 58 4 v (k1).length (k1).flatten ∧ Below w.heap.size w w' := by
  obtain ⟨i0, hi, hz0, hz1, hz2⟩ := info58'
  have t56 : Tryz.prog.underlying 56 = some (.slice 58) := by kernel_rfl
  have F1 := Lib.hid f1
  have R1 := Lib.hid r1
  clear f1 r1
  have hgr := Lib.hid (grow_typ (k1.length) (by omega) w)
  have B0 := Lib.hid hb0
  have B1 := Lib.hid hb1
  go_enter Tryz.func95, Tryz.ntmps95
  go_wp2
  refine wp_loop_rounds 3 ?_
  rw [rounds_succ]
  go_wp2
  rw [rounds_succ]
  go_wp2
  rw [rounds_succ]
  go_wp2_with fail
  refine hgr.out.mono ?_
  rintro e w1 ⟨v, rfl, hown, hbl⟩
  obtain ⟨ao, nv, cv, hv⟩ := own_shape hown
  have HOWN := Lib.hid hown
  have HB := Lib.hid hbl
  clear hown hb0 hb1
  subst hv
  have hb0 := (World.cell?_of_block (a := ⟨gb, 0, none⟩) (HB.out.block gb hgb)).trans B0.out
  have hgb1 : gb < w1.heap.size := Nat.lt_of_lt_of_le hgb HB.out.size
  go_wp2
  refine wp_loop_rounds 3 ?_
  rw [rounds_succ]
  go_upto_region 13 with (fail)
  have R1x := Lib.hid (TyRow.keep R1.out (HB.out.block g1 hg1))
  clear hb0
  go_wp2_with (at_builtin; refine wpList_append_own _ rfl _ _ 56 rfl w.heap.size 58 i0 _ 4 72 t56 hi hz0 hz1 hz2 rfl (by decide) _ _ _ rfl HOWN.out ⟨g1, o1, none⟩ k1.length c1 k1.flatten rfl (flat_len _ F1.out) (src_cells R1x.out F1.out) (flat_one F1.out) (by unfold maxLen; omega) (by omega) (by have := HB.out.size; omega) ?_)
  intro v0 w2 hown0 hgrow0 _
  have HBx := Lib.hid (HB.out.grown hgrow0 HB.out.size (fun q hq => by have := (HOWN.out.lt q hq).1; omega))
  have HOWNx := Lib.hid hown0
  obtain ⟨ao0, nv0, cv0, hv0⟩ := own_shape hown0
  clear hown0 hgrow0
  subst hv0
  have hb1 := (World.cell?_of_block (a := ⟨gb, 1, none⟩) (HBx.out.block gb hgb)).trans B1.out
  have hgb2 : gb < w2.heap.size := Nat.lt_of_lt_of_le hgb HBx.out.size
  go_wp2
  rw [rounds_succ]
  go_upto_region 13 with (fail)
  clear hb1
  go_wp2_with (at_builtin; refine wpList_append_own_none rfl _ _ 56 rfl w.heap.size 58 i0 4 t56 hi _ _ _ rfl HOWNx.out rfl ?_)
  go_wp2
  rw [rounds_succ]
  go_wp2
  go_ret
  exact ⟨_, rfl, by simpa using HOWNx.out, HBx.out⟩

set_option maxRecDepth 100000 in
set_option maxHeartbeats 6400000 in
theorem concat01 (gb : Nat) (w : World) (g2 o2 c2 : Nat) (k2 : List (List Value)) (f2 : ∀ vs ∈ k2, Four vs) (hk2 : k2.length ≤ 1000) (hg2 : g2 < w.heap.size) (r2 : TyRow w g2 o2 k2) (hb0 : w.cell? ⟨gb, 0, none⟩ = some (.slice none 0 0)) (hb1 : w.cell? ⟨gb, 1, none⟩ = some (.slice (some ⟨g2, o2, none⟩) k2.length c2)) (hgb : gb < w.heap.size) :
    Calls Tryz.prog 95 #[.slice (some ⟨gb, 0, none⟩) 2 2] w fun e w' => ∃ v, e = .returned v ∧ w'.ownsRow w.heap.size 58 4 v (k2).length (k2).flatten ∧ Below w.heap.size w w' := by
  obtain ⟨i0, hi, hz0, hz1, hz2⟩ := info58'
  have t56 : Tryz.prog.underlying 56 = some (.slice 58) := by kernel_rfl
  have F2 := Lib.hid f2
  have R2 := Lib.hid r2
  clear f2 r2
  have hgr := Lib.hid (grow_typ (k2.length) (by omega) w)
  have B0 := Lib.hid hb0
  have B1 := Lib.hid hb1
  go_enter Tryz.func95, Tryz.ntmps95
  go_wp2
  refine wp_loop_rounds 3 ?_
  rw [rounds_succ]
  go_wp2
  rw [rounds_succ]
  go_wp2
  rw [rounds_succ]
  go_wp2_with fail
  refine hgr.out.mono ?_
  rintro e w1 ⟨v, rfl, hown, hbl⟩
  obtain ⟨ao, nv, cv, hv⟩ := own_shape hown
  have HOWN := Lib.hid hown
  have HB := Lib.hid hbl
  clear hown hb0 hb1
  subst hv
  have hb0 := (World.cell?_of_block (a := ⟨gb, 0, none⟩) (HB.out.block gb hgb)).trans B0.out
  have hgb1 : gb < w1.heap.size := Nat.lt_of_lt_of_le hgb HB.out.size
  go_wp2
  refine wp_loop_rounds 3 ?_
  rw [rounds_succ]
  go_upto_region 13 with (fail)
  clear hb0
  go_wp2_with (at_builtin; refine wpList_append_own_none rfl _ _ 56 rfl w.heap.size 58 i0 4 t56 hi _ _ _ rfl HOWN.out rfl ?_)
  have hb1 := (World.cell?_of_block (a := ⟨gb, 1, none⟩) (HB.out.block gb hgb)).trans B1.out
  have hgb2 : gb < w1.heap.size := Nat.lt_of_lt_of_le hgb HB.out.size
  go_wp2
  rw [rounds_succ]
  go_upto_region 13 with (fail)
  have R2x := Lib.hid (TyRow.keep R2.out (HB.out.block g2 hg2))
  clear hb1
  go_wp2_with (at_builtin; refine wpList_append_own _ rfl _ _ 56 rfl w.heap.size 58 i0 _ 4 72 t56 hi hz0 hz1 hz2 rfl (by decide) _ _ _ rfl HOWN.out ⟨g2, o2, none⟩ k2.length c2 k2.flatten rfl (flat_len _ F2.out) (src_cells R2x.out F2.out) (flat_one F2.out) (by unfold maxLen; omega) (by omega) (by have := HB.out.size; omega) ?_)
  intro v1 w3 hown1 hgrow1 _
  have HBx := Lib.hid (HB.out.grown hgrow1 HB.out.size (fun q hq => by have := (HOWN.out.lt q hq).1; omega))
  have HOWNx := Lib.hid hown1
  obtain ⟨ao1, nv1, cv1, hv1⟩ := own_shape hown1
  clear hown1 hgrow1
  subst hv1
  go_wp2
  rw [rounds_succ]
  go_wp2
  go_ret
  exact ⟨_, rfl, by simpa using HOWNx.out, HBx.out⟩

set_option maxRecDepth 100000 in
set_option maxHeartbeats 6400000 in
theorem concat00 (gb : Nat) (w : World)  (hb0 : w.cell? ⟨gb, 0, none⟩ = some (.slice none 0 0)) (hb1 : w.cell? ⟨gb, 1, none⟩ = some (.slice none 0 0)) (hgb : gb < w.heap.size) :
    Calls Tryz.prog 95 #[.slice (some ⟨gb, 0, none⟩) 2 2] w fun e w' => ∃ v, e = .returned v ∧ w'.ownsRow w.heap.size 58 4 v (([] : List (List Value))).length (([] : List (List Value))).flatten ∧ Below w.heap.size w w' := by
  obtain ⟨i0, hi, hz0, hz1, hz2⟩ := info58'
  have t56 : Tryz.prog.underlying 56 = some (.slice 58) := by kernel_rfl
  have hgr := Lib.hid (grow_typ (0) (by omega) w)
  have B0 := Lib.hid hb0
  have B1 := Lib.hid hb1
  go_enter Tryz.func95, Tryz.ntmps95
  go_wp2
  refine wp_loop_rounds 3 ?_
  rw [rounds_succ]
  go_wp2
  rw [rounds_succ]
  go_wp2
  rw [rounds_succ]
  go_wp2_with fail
  refine hgr.out.mono ?_
  rintro e w1 ⟨v, rfl, hown, hbl⟩
  obtain ⟨ao, nv, cv, hv⟩ := own_shape hown
  have HOWN := Lib.hid hown
  have HB := Lib.hid hbl
  clear hown hb0 hb1
  subst hv
  have hb0 := (World.cell?_of_block (a := ⟨gb, 0, none⟩) (HB.out.block gb hgb)).trans B0.out
  have hgb1 : gb < w1.heap.size := Nat.lt_of_lt_of_le hgb HB.out.size
  go_wp2
  refine wp_loop_rounds 3 ?_
  rw [rounds_succ]
  go_upto_region 13 with (fail)
  clear hb0
  go_wp2_with (at_builtin; refine wpList_append_own_none rfl _ _ 56 rfl w.heap.size 58 i0 4 t56 hi _ _ _ rfl HOWN.out rfl ?_)
  have hb1 := (World.cell?_of_block (a := ⟨gb, 1, none⟩) (HB.out.block gb hgb)).trans B1.out
  have hgb2 : gb < w1.heap.size := Nat.lt_of_lt_of_le hgb HB.out.size
  go_wp2
  rw [rounds_succ]
  go_upto_region 13 with (fail)
  clear hb1
  go_wp2_with (at_builtin; refine wpList_append_own_none rfl _ _ 56 rfl w.heap.size 58 i0 4 t56 hi _ _ _ rfl HOWN.out rfl ?_)
  go_wp2
  rw [rounds_succ]
  go_wp2
  go_ret
  exact ⟨_, rfl, by simpa using HOWN.out, HB.out⟩

theorem concat_any (gb : Nat) (w : World) (v1 v2 : Value) (k1 k2 : List (List Value)) (h1 : SrcV w v1 k1) (h2 : SrcV w v2 k2) (f1 : ∀ vs ∈ k1, Four vs) (f2 : ∀ vs ∈ k2, Four vs) (hk1 : k1.length ≤ 1000) (hk2 : k2.length ≤ 1000)
    (hb0 : w.cell? ⟨gb, 0, none⟩ = some v1) (hb1 : w.cell? ⟨gb, 1, none⟩ = some v2) (hgb : gb < w.heap.size) :
    Calls Tryz.prog 95 #[.slice (some ⟨gb, 0, none⟩) 2 2] w fun e w' => ∃ v, e = .returned v ∧ w'.ownsRow w.heap.size 58 4 v (k1 ++ k2).length (k1 ++ k2).flatten ∧ Below w.heap.size w w' := by
  rcases h1 with ⟨rfl, rfl⟩ | ⟨g1, o1, c1, rfl, hg1, r1⟩
  · rcases h2 with ⟨rfl, rfl⟩ | ⟨g2, o2, c2, rfl, hg2, r2⟩
    · exact concat00 gb w hb0 hb1 hgb
    · exact concat01 gb w g2 o2 c2 k2 f2 hk2 hg2 r2 hb0 hb1 hgb
  · rcases h2 with ⟨rfl, rfl⟩ | ⟨g2, o2, c2, rfl, hg2, r2⟩
    · rw [List.append_nil]
      exact concat10 gb w g1 o1 c1 k1 f1 hk1 hg1 r1 hb0 hb1 hgb
    · exact concat11 gb w g1 o1 c1 k1 f1 hk1 hg1 r1 g2 o2 c2 k2 f2 hk2 hg2 r2 hb0 hb1 hgb
end Go.Proofs.YthcoppfdffhjfaaGreatDoor
