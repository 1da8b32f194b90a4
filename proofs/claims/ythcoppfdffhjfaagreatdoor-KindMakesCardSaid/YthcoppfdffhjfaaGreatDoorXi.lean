/- KindMakes: for every input the law returns true (proved through the contracts of the functions that it calls), as a row and as the tied card. -/
import Derived.Test.YthcoppfdffhjfaaGreatDoorXh
import Derived.Lib.SmallJoins
import Derived.Deep.Slices
import Derived.Carry
namespace Go.Proofs.YthcoppfdffhjfaaGreatDoor
open Go Go.ChangeShapes Go.WideShapes Go.ChangeAt Go.RowKit Go.ChangeMaps Go.Joins

theorem Tryz.laidOut : laidOutB Tryz.prog = true := by kernel_rfl
theorem cells42 : Tryz.prog.cellsOf 42 = 2 := by kernel_rfl
theorem cells9 : Tryz.prog.cellsOf 9 = 1 := by kernel_rfl
theorem reads37 : Tryz.prog.readableRec 37 = true := by kernel_rfl
theorem rows37 : 37 < Tryz.prog.types.size := of_decide_eq_true (by kernel_rfl)

section
variable {H : Type} {enc : TypeId × Value → H}

set_option maxRecDepth 100000 in
theorem part_cells {W : World} {base : Nat} {sp : Nat → Bool} {held : Bool} {n : Nat} {a : Addr} {cs : List Value} {x : DataW H × List MemPlace} (hc : W.cells? base a (Tryz.prog.cellsOf 42) = some cs) (h : DataW.trod enc Tryz.prog W base sp held n 42 cs = some x) :
    ∃ t : Bys × Bys, W.cell? a = some (.string (bs t.1)) ∧ W.cell? (a.add 1) = some (.string (bs t.2)) := by
  rw [cells42] at hc
  obtain ⟨_, hl, hi⟩ := World.cells?_some hc
  obtain ⟨xs, m, _, _, _, hlen, hf⟩ := DataW.trod_struct Tryz.underlying42 h
  match cs, hl with
  | [c0, c1], _ =>
    have f0 : DataW.trod enc Tryz.prog W base sp held m 9 (List.take (Tryz.prog.cellsOf 9) [c0, c1]) = xs[0]? := hf 0 _ rfl
    have f1 : DataW.trod enc Tryz.prog W base sp held m 9 (List.take (Tryz.prog.cellsOf 9) [c1]) = xs[1]? := hf 1 _ rfl
    rw [cells9] at f0 f1
    match xs, hlen with
    | [y0, y1], _ =>
      obtain ⟨s0, e0, _, _⟩ := DataW.trod_string Tryz.underlying9 f0
      obtain ⟨s1, e1, _, _⟩ := DataW.trod_string Tryz.underlying9 f1
      have e0 : c0 = .string s0 := (List.cons.inj e0).1
      have e1 : c1 = .string s1 := (List.cons.inj e1).1
      subst e0 e1
      exact ⟨(s0.data.toList, s1.data.toList), by rw [bs_toList]; simpa [Addr.add] using hi 0 (by decide), by rw [bs_toList]; simpa using hi 1 (by decide)⟩

set_option maxRecDepth 100000 in
theorem open_parts {W : World} {base : Nat} {sp : Nat → Bool} {held : Bool} {r : Reach} {b0 : Nat} {v : Value} {d : DataW H} {p : List MemPlace} (hv : Value.okWide Tryz.prog W r b0 37 v) (h : DataW.Trod enc Tryz.prog W base sp held 37 v d p) :
    ∃ l : List (Bys × Bys), PtV W v l := by
  obtain ⟨ao, n, cap, rfl⟩ := okWide_slice Tryz.underlying37 hv
  obtain ⟨fuel, h⟩ := h
  rcases Deep.open_slice Tryz.underlying37 h with ⟨e, _⟩ | ⟨a, len, cap', m, k, D, Pl, e, hb, hl, hc, hm, hx, hi⟩
  · simp [Value.cells] at e
    obtain ⟨rfl, rfl, rfl⟩ := e
    exact ⟨[], .inl ⟨rfl, _, _, rfl⟩⟩
  · simp [Value.cells] at e
    obtain ⟨rfl, rfl, rfl⟩ := e
    have hle : n ≤ m := by rw [hm]; split <;> omega
    have hcap : n ≤ cap := by first | omega | exact hl | exact hc
    have each : ∀ i, i < n → ∃ t : Bys × Bys, W.cell? (a.add (i * 2)) = some (.string (bs t.1)) ∧ W.cell? (a.add (i * 2 + 1)) = some (.string (bs t.2)) := by
      intro i hin
      obtain ⟨cs', h1, h2⟩ := hi i (by omega)
      obtain ⟨t, g0, g1⟩ := part_cells h1 h2
      rw [cells42] at g0 g1
      rw [Deep.add_add] at g1
      exact ⟨t, g0, g1⟩
    obtain ⟨f, hf⟩ : ∃ f : Nat → Bys × Bys, ∀ i, i < n → W.cell? (a.add (i * 2)) = some (.string (bs (f i).1)) ∧ W.cell? (a.add (i * 2 + 1)) = some (.string (bs (f i).2)) := by
      refine ⟨fun i => if hin : i < n then Classical.choose (each i hin) else ([], []), fun i hin => ?_⟩
      simp only [dif_pos hin]
      exact Classical.choose_spec (each i hin)
    refine ⟨(List.range n).map f, ?_⟩
    by_cases h0 : n = 0
    · left; subst h0; exact ⟨rfl, _, _, rfl⟩
    · right
      have hsp : a.spot = none := by
        have := (hf 0 (by omega)).1
        cases hs : a.spot with
        | none => rfl
        | some x =>
          simp only [Nat.zero_mul, Addr.add, if_true, World.cell?, hs] at this
          split at this <;> simp at this
      obtain ⟨g, o, spt⟩ := a
      simp only at hsp
      subst hsp
      have hadd : ∀ j, (Addr.add ⟨g, o, none⟩ j : Addr) = ⟨g, o + j, none⟩ := by intro j; unfold Addr.add; split <;> simp_all
      refine ⟨g, o, cap, by simp, ?_, ?_, ?_, by simpa using hcap⟩
      · have := (hf 0 (by omega)).1
        rw [hadd] at this
        exact World.block_lt_of_cell? W _ this
      · intro i t hit
        rw [List.getElem?_map] at hit
        have hin : i < n := by
          by_cases hin : i < n
          · exact hin
          · rw [List.getElem?_eq_none (by simp; omega)] at hit; cases hit
        rw [List.getElem?_range hin] at hit
        simp only [Option.map_some, Option.some.injEq] at hit
        subst hit
        obtain ⟨g0, g1⟩ := hf i hin
        rw [hadd] at g0 g1
        exact ⟨g0, by rw [Nat.add_assoc]; exact g1⟩
      · intro e
        have := congrArg List.length e
        simp at this
        omega

/-- An argument reads as it did where nothing of what was there has turned. -/
theorem trod_under {W W' : World} {sp : Nat → Bool} {t : TypeId} {v : Value} {d : DataW H} {p : List MemPlace} (hr : Tryz.prog.readableRec t = true) (hrow : t < Tryz.prog.types.size) (h : DataW.Trod enc Tryz.prog W 0 (fun _ => true) true t v d p) (hb : Below W.heap.size W W')
    (hlt : ∀ x ∈ p, x.block < W.heap.size) (hs : ∀ x ∈ p, sp x.block = true) : DataW.Trod enc Tryz.prog W' 0 sp true t v d p :=
  WideElems.Trod_stays Tryz.laidOut hr hrow h (fun x hx => hb.same (hlt x hx)) hs
end

set_option maxRecDepth 100000 in
theorem kindMakes_lifted (os : Os) (started : os.Started) (H : Type) (enc : TypeId × Value → H) :
    ReturnsInHanded {} Tryz.checked os 5 .any (fun w args => (Rows.kindMakesSpec.pre enc Tryz.prog Tryz.f5 [] false w args ∧ laidMetH Tryz.prog laid3 w) ∧ sizedMet enc Tryz.prog Tryz.f5 (OpenSpec.ofChange Rows.kindMakesSpec) false w args)
      (Rows.kindMakesSpec.post enc Tryz.prog Tryz.f5 false true false false) := by
  refine returns_shaped (C := Tryz.checked) (X := fun w _ => laidMetH Tryz.prog laid3 w) (fun _ _ _ hh h => h.of_heap hh) Tryz.own started (by kernel_rfl) Tryz.func5
    (ChangeSpec.witness_shaped (enc := enc) (C := Tryz.checked) (os := os) (X := fun w _ => laidMetH Tryz.prog laid3 w) false (laidW os) #[.string ⟨#[]⟩, .string ⟨#[]⟩, .slice none 0 0] 8 (World.laidAll_os _ _ _) (World.shaped_of_ZipB (by kernel_rfl) (by kernel_rfl)) (by kernel_rfl) (by kernel_rfl) (by kernel_rfl) (laidW_met os _)) ?_
  intro W base args ds gs before hval0 hW hsh hL
  have hval : ∀ (j : Nat) t v, Tryz.f5.params[j]? = some t → args[j]? = some v → Value.okWide Tryz.prog W .any base t v := hval0
  have hW' := hW
  obtain ⟨p, q, hA0, hV, rfl, hfz, hnd⟩ := hW
  have hA : DataW.TrodAll enc Tryz.prog W 0 (fun _ => true) true Tryz.f5.params.toList args.toList ds p := hA0
  rw [Tryz.params5] at hA hval
  obtain ⟨v0, v1, v2, d0, d1, d2, p0, p1, p2, rfl, rfl, rfl, h0, h1, h2⟩ := trodAll_three hA
  obtain ⟨rfl, rfl⟩ := trodVars_none hV
  obtain ⟨s0, rfl, rfl, rfl, ws0⟩ := open_string Tryz.underlying9 (hval 0 9 v0 rfl rfl) h0
  obtain ⟨s1, rfl, rfl, rfl, ws1⟩ := open_string Tryz.underlying9 (hval 1 9 v1 rfl rfl) h1
  obtain ⟨l, hl⟩ := open_parts (hval 2 37 v2 rfl rfl) h2
  clear hA0 hval0
  have hlt : ∀ x ∈ p2, x.block < W.heap.size := fun x hx => hW'.lt x (by simp [hx])
  have hlaw := KindMakes_true s0.data.toList s1.data.toList l v2 W (env_of_laid hL hsh) hl
  simp only [bs_toList] at hlaw
  refine hlaw.mono fun e W' ⟨he, hb⟩ => ?_
  subst he
  exact ⟨_, rfl, post_under (pa := [] ++ [] ++ p2) (pv := []) hW' hb (fun sp hsp => by
    rw [List.append_assoc]
    exact trodAll_mk3 (shut_string Tryz.underlying9 ws0) (shut_string Tryz.underlying9 ws1) (trod_under reads37 rows37 h2 hb hlt (fun x hx => hsp x (by simp [hx])))) (fun _ _ => rfl) (fun _ _ _ => trodAll_mk1 (shut_bool Tryz.underlying4 _)) (ok_one (by kernel_rfl) rfl (okWide_bool_mk Tryz.underlying4 _))⟩

theorem kindMakes_holds : Rows.KindMakesSaid :=
  OpenClaim.holds_of_wide 5 Tryz.f5 rfl rfl rfl rfl rfl rfl rfl ⟨rfl, rfl, rfl, rfl, rfl⟩ rfl rfl rfl rfl rfl (by kernel_rfl) Tryz.func5 (by kernel_rfl)
    (of_decide_eq_true (by kernel_rfl)) (by unfold Func.isWrapper; rw [if_neg (by decide +kernel)]; exact ⟨rfl, rfl⟩)
    (fun os started H enc _ => kindMakes_lifted os started H enc)

theorem kindMakes_card : Rows.KindMakesCardSaid :=
  Claim7.holds_tied_plain_at .later [] [.data, .data, .pinned] true (true, "514e7e6fa1b10e0e7cb0aa911a5d04d8c9d00fe7e1d9102689b1b534fbd6b170") true
    kindMakes_holds (fun _ h => by cases h) (by kernel_rfl) (fun _ h => by cases h) kindMakes_row_tie rfl ⟨rfl, rfl⟩ (by kernel_rfl) rfl
    (fun f fn hf hfn => by
      obtain rfl : f = 5 := Option.some.inj ((show Tryz.prog.funcNamed "argus/arguslaw03.KindMakes" = some 5 by kernel_rfl).symm.trans hf) |>.symm
      obtain rfl : fn = Tryz.f5 := (Option.some.inj (Tryz.func5.symm.trans hfn)).symm
      exact ⟨by kernel_rfl, fun j t ht => by
        rw [Tryz.params5] at ht
        have hm : t ∈ [9, 9, 37] := by simpa using Array.mem_of_getElem? ht
        have hall : ([9, 9, 37].all fun u => !Tryz.prog.wantsStandIn u) = true := by kernel_rfl
        exact (show Tryz.prog.wantsStandIn t = false by simpa using List.all_eq_true.1 hall t hm)⟩)
    (by kernel_rfl)
#print axioms kindMakes_card
end Go.Proofs.YthcoppfdffhjfaaGreatDoor
