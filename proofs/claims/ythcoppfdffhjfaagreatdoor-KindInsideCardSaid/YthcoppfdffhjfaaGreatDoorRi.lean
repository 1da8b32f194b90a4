/- Names in order, each once. -/
import Derived.Test.YthcoppfdffhjfaaGreatDoorRh
namespace Go.Proofs.YthcoppfdffhjfaaGreatDoor
open Go Go.RowKit Go.Sort

def encS (x : Bys) : Value := .string (bs x)
theorem keeps_iff (d : Array Bys) (j : Nat) : Lib.keeps d j = true ↔ j = 0 ∨ d[j]! ≠ d[j - 1]! := by
  unfold Lib.keeps
  simp
theorem compact_mem (m : List Bys) (x : Bys) : x ∈ Lib.compact m ↔ x ∈ m := by
  unfold Lib.compact Lib.compactUpTo
  rw [List.mem_map]
  constructor
  · rintro ⟨j, hj, rfl⟩
    have hj' : j < m.length := by simpa using (List.mem_filter.1 hj).1
    have : m.toArray[j]! = m[j] := by rw [getElem!_pos _ _ (by simpa using hj')]; simp
    rw [this]
    exact List.getElem_mem hj'
  · intro hx
    obtain ⟨j, hj, rfl⟩ := List.mem_iff_getElem.1 hx
    have key : ∀ j (hj : j < m.length), ∃ k, k ∈ (List.range m.length).filter (Lib.keeps m.toArray) ∧ m.toArray[k]! = m[j] := by
      intro j
      induction j with
      | zero =>
        intro hj
        refine ⟨0, List.mem_filter.2 ⟨by simpa using hj, (keeps_iff _ _).2 (.inl rfl)⟩, ?_⟩
        rw [getElem!_pos _ _ (by simpa using hj)]; simp
      | succ j ih =>
        intro hj
        by_cases e : m[j + 1] = m[j]
        · obtain ⟨k, h1, h2⟩ := ih (by omega)
          exact ⟨k, h1, by rw [h2, e]⟩
        · refine ⟨j + 1, List.mem_filter.2 ⟨by simpa using hj, (keeps_iff _ _).2 (.inr ?_)⟩, ?_⟩
          · rw [getElem!_pos _ _ (by simpa using hj), getElem!_pos _ _ (by simp; omega)]
            simpa using e
          · rw [getElem!_pos _ _ (by simpa using hj)]; simp
    exact key j hj
theorem compact_asc {m : List Bys} (h : Up id m) : Asc id (Lib.compact m) := by
  unfold Lib.compact Lib.compactUpTo Asc
  rw [List.pairwise_map]
  unfold Up at h
  rw [List.pairwise_iff_getElem] at h
  have hr : (List.range m.length).Pairwise (· < ·) := List.pairwise_lt_range
  refine List.Pairwise.imp_of_mem ?_ (hr.filter (Lib.keeps m.toArray))
  intro i j hi hj hij
  have hi' : i < m.length := by simpa using (List.mem_filter.1 hi).1
  have hj' : j < m.length := by simpa using (List.mem_filter.1 hj).1
  have hk := (keeps_iff _ _).1 (List.mem_filter.1 hj).2
  rw [getElem!_pos _ j (by simpa using hj'), getElem!_pos _ (j - 1) (by simp; omega)] at hk
  rw [getElem!_pos _ i (by simpa using hi'), getElem!_pos _ j (by simpa using hj')]
  simp only [List.getElem_toArray, id] at hk h ⊢
  have hne : m[j] ≠ m[j - 1] := by
    rcases hk with hk | hk
    · omega
    · exact hk
  have h1 : m[j - 1] < m[j] := by
    by_cases a : m[j - 1] < m[j]
    · exact a
    · exact absurd (bys_tri a (h (j - 1) j (by omega) hj' (by omega))).symm hne
  by_cases e : i = j - 1
  · subst e; exact h1
  · have h2 := h i (j - 1) hi' (by omega) (by omega)
    by_cases a : m[i] < m[j - 1]
    · exact bys_lt a h1
    · rw [bys_tri a h2]; exact h1
theorem compact_ascOf {l m : List Bys} (hp : m.Perm l) (h : Up id m) : Lib.compact m = ascOf l :=
  (ascOf_unique (compact_asc h) fun x => by rw [compact_mem]; exact (hp.mem_iff).symm).symm

theorem insertion_nil (w : World) (f : Value) : Calls Tryz.prog 135 #[.slice none 0 0, .int .i64 0, .int .i64 0, f] w fun e w' => e = .returned (.tuple #[]) ∧ w' = w := by
  go_enter Tryz.func135, Tryz.ntmps135
  go_wp2
  refine wp_loop_rounds 1 ?_
  rw [rounds_succ]
  go_wp2
  go_end0
  exact ⟨rfl, rfl⟩
theorem pdq_nil (w : World) (k : Int) (f : Value) : Calls Tryz.prog 120 #[.slice none 0 0, .int .i64 0, .int .i64 0, .int .i64 k, f] w fun e w' => e = .returned (.tuple #[]) ∧ w' = w := by
  go_enter Tryz.func120, Tryz.ntmps120
  go_wp2
  refine wp_loop_rounds 1 ?_
  rw [rounds_succ]
  go_wp2_with fail
  refine (insertion_nil _ _).mono ?_
  rintro e w' ⟨rfl, rfl⟩
  go_wp2
  exact bodyPost_ret (results_none rfl _ _ _) rfl ⟨rfl, rfl⟩
theorem sort_nil (w : World) (f : Value) : Calls Tryz.prog 98 #[.slice none 0 0, f] w fun e w' => e = .returned (.tuple #[]) ∧ w' = w := by
  have hb := Tryz.bits_Len 0
  go_enter Tryz.func98, Tryz.ntmps98
  go_wp2_with fail
  refine (hb w (by omega) (by omega)).mono ?_
  rintro e w' ⟨rfl, rfl⟩
  go_wp2_with fail
  refine (pdq_nil _ _ _).mono ?_
  rintro e w' ⟨rfl, rfl⟩
  go_wp2
  go_end0
  exact ⟨rfl, rfl⟩

/-- A slice of texts. -/
def StV (w : World) (v : Value) (l : List Bys) : Prop :=
  (l = [] ∧ ∃ a c, v = .slice a 0 c) ∨ ∃ g o cap, v = .slice (some ⟨g, o, none⟩) l.length cap ∧ g < w.heap.size ∧ StrRow w g o l
theorem StV.keep {w w' : World} {v : Value} {l : List Bys} (h : StV w v l) (hb : Below w.heap.size w w') : StV w' v l := by
  rcases h with h | ⟨g, o, cap, h1, h2, h3⟩
  · exact .inl h
  · exact .inr ⟨g, o, cap, h1, Nat.lt_of_lt_of_le h2 hb.size, h3.keep (hb.block g h2)⟩
theorem stV_own {w : World} {base : Nat} {v : Value} {l : List Bys} (h : w.ownsRow base 9 1 v l.length (strVs l)) : StV w v l := by
  by_cases h0 : l.length = 0
  · obtain ⟨ao, cap, rfl⟩ := own_len h
    exact .inl ⟨List.length_eq_zero_iff.1 h0, _, _, by rw [h0]⟩
  · obtain ⟨g, cap, rfl, _, h2, h3⟩ := own_strs h (by omega)
    exact .inr ⟨g, 0, cap, rfl, h2, h3⟩
/-- A slice of texts in memory of its own, that may be written. -/
def SrtV (B : Nat) (w : World) (v : Value) (l : List Bys) : Prop :=
  (l = [] ∧ ∃ a c, v = .slice a 0 c) ∨ ∃ g cap, v = .slice (some ⟨g, 0, none⟩) l.length cap ∧ B ≤ g ∧ g < w.heap.size ∧ StrRow w g 0 l ∧ l.length ≤ cap ∧ ∃ cs, Blk w g 9 cs

theorem own_strs2 {w : World} {base : Nat} {v : Value} {l : List Bys} (h : w.ownsRow base 9 1 v l.length (strVs l)) (hn : 0 < l.length) : ∃ g cap, v = .slice (some ⟨g, 0, none⟩) l.length cap ∧ base ≤ g ∧ g < w.heap.size ∧ StrRow w g 0 l ∧ l.length ≤ cap ∧ ∃ cs, Blk w g 9 cs := by
  obtain ⟨g, cap, rfl, h1, h2, h3⟩ := own_strs h hn
  rcases h with ⟨_, ⟨h0, _⟩ | ⟨g2, cap2, cur, hv, _, hh, hc, _⟩⟩
  · cases h0
  · injection hv with f1 f2 f3
    injection f1 with f1
    injection f1 with f1
    subst f1 f3
    exact ⟨g, cap, rfl, h1, h2, h3, hc, cur, hh⟩

theorem holds_strs {w : World} {g : Nat} {l : List Bys} {cs : Array Value} (h : StrRow w g 0 l) (hb : Blk w g 9 cs) : Holds encS w g 0 l.toArray := fun j hj => by
  have hj' : j < l.length := by simpa using hj
  refine ⟨?_, hb.frozen _⟩
  rw [h j _ (List.getElem?_eq_getElem hj'), getElem!_pos l.toArray j hj]
  simp [encS]
theorem strs_holds {w : World} {g : Nat} {d : Array Bys} (h : Holds encS w g 0 d) : StrRow w g 0 d.toList := fun i x hi => by
  have hl : i < d.size := by simpa using (List.getElem?_eq_some_iff.1 hi).1
  rw [(h i hl).1, getElem!_pos d i hl]
  have : d[i] = x := by simpa [hl] using hi
  rw [this]
  rfl
theorem below_sort {w : World} {B g n : Nat} {d : Array Bys} {os : Array Obj} (hg : B ≤ g) (hB : B ≤ w.heap.size) : Below B w (sortWorld encS w g 0 n d os) := by
  refine ⟨rfl, rfl, rfl, ?_, fun i hi => ?_⟩
  · simp [sortWorld, grow, putRow, mapBlock, Sort.ahead]
  · have hi2 : i < w.heap.size := by omega
    simp only [sortWorld, grow, putRow, mapBlock, Sort.ahead]
    rw [Array.getElem?_append_left (by simpa using hi2), Array.getElem?_modify, if_neg (by omega)]
theorem blk_sort {w : World} {g n : Nat} {cs : Array Value} {d : Array Bys} {os : Array Obj} (hb : Blk w g 9 cs) : ∃ cs', Blk (sortWorld encS w g 0 n d os) g 9 cs' := by
  have hl := hb.lt
  refine ⟨putCells encS 0 d cs, ?_⟩
  unfold Blk at hb ⊢
  simp only [sortWorld, grow, putRow, mapBlock, Sort.ahead]
  rw [Array.getElem?_append_left (by simpa using hl), Array.getElem?_modify, if_pos rfl, hb]
  rfl

set_option maxRecDepth 100000 in
set_option maxHeartbeats 3200000 in
theorem sorted_strs (l : List Bys) (v : Value) (B : Nat) (w : World) (hl : l.length ≤ 1000) (hown : w.ownsRow B 9 1 v l.length (strVs l)) (hnil : l = [] → v = .slice none 0 0) :
    Calls Tryz.prog 71 #[v, .func (.func 72) #[] #[]] w fun e w' => ∃ m v', e = .returned v' ∧ m.Perm l ∧ Up id m ∧ SrtV w.heap.size w' v' m ∧ Below w.heap.size w w' := by
  by_cases h0 : l.length = 0
  · have hl0 : l = [] := List.length_eq_zero_iff.1 h0
    subst hl0
    have hv := hnil rfl
    subst hv
    clear hown hnil hl h0
    go_enter Tryz.func71, Tryz.ntmps71
    go_wp2_with fail
    refine (Tryz.slices_Clone_string_nil 0 0 w).mono ?_
    rintro e w' ⟨rfl, rfl⟩
    go_wp2_with fail
    refine (sort_nil _ _).mono ?_
    rintro e w' ⟨rfl, rfl⟩
    go_wp2
    go_ret
    exact ⟨[], _, rfl, .nil, List.Pairwise.nil, .inl ⟨rfl, _, _, rfl⟩, Below.refl _ _⟩
  · obtain ⟨g, cap, rfl, hg, hgl, hrow⟩ := own_strs hown (by omega)
    have eg : ∀ args w, (callFunc 72 args).run Tryz.prog w = .ok (.enter 72 args) w := enters_of Tryz.func72 (by kernel_rfl) rfl
    have hclone := Tryz.slices_Clone_string g 0 l.length cap (l.map bs) w (by simp) (by omega) (fun j hj => by
      have hj' : j < l.length := by simpa using hj
      rw [hrow j _ (List.getElem?_eq_getElem hj')]
      simp [List.getD, hj'])
    have htk : ((l.map bs).take l.length).map Value.string = strVs l := by
      rw [List.take_of_length_le (by simp), List.map_map]; rfl
    rw [htk] at hclone
    have HCL := Lib.hid hclone
    clear hclone hrow hown htk
    go_enter Tryz.func71, Tryz.ntmps71
    go_wp2_with fail
    refine HCL.out.mono ?_
    rintro e w1 ⟨v', rfl, hown, _, hb⟩
    obtain ⟨g1, cap1, rfl, hg1, hg1l, hrow1, hcap1, cs, hblk⟩ := own_strs2 hown (by omega)
    have hH := holds_strs hrow1 hblk
    have hcmp : CmpLays1 Tryz.prog 72 #[] encS (cmpK id) g1 0 l.toArray.size w1 := fun m os dk _ x y => (Tryz.strings_Compare (bs x) (bs y) _).mono fun e w' ⟨he, hw⟩ => ⟨by rw [he, bs_data, bs_data]; rfl, 0, #[], by rw [hw, grow_empty]; rfl⟩
    have hcon := Any.slices_SortFunc Tryz.sortStr encS (fun _ => rfl) (cmpK id) (swo_cmpK id) 72 #[] g1 0 cap1 l.toArray w1 eg hcmp hH hg1l (by simp; omega)
    change Calls Tryz.prog 98 _ _ _ at hcon
    have hsz : l.toArray.size = l.length := by simp
    rw [hsz] at hcon
    have HH := Lib.hid hH
    have HB := Lib.hid hb
    have HC := Lib.hid hcon
    have HBLK := Lib.hid hblk
    clear hown hrow1 hH hb hcon HCL hcmp hblk
    go_wp2_with fail
    refine HC.out.mono ?_
    rintro e w2 ⟨rfl, d', n, os, hp, hs, rfl⟩
    go_wp2
    go_ret
    rw [← hsz] at hp hs
    obtain ⟨k1, k2, k3⟩ := sorted_list hp hs
    have hml : d'.toList.length = l.length := by simpa using k3
    refine ⟨d'.toList, _, rfl, k1, k2, .inr ⟨g1, cap1, by rw [hml]; rfl, hg1, ?_, ?_, by omega, blk_sort HBLK.out⟩, ?_⟩
    · simp [sortWorld, grow, putRow, mapBlock, Sort.ahead]; omega
    · exact strs_holds (holds_grow encS _ _ _ _ _ (by simpa [Sort.ahead] using hg1l) (holds_putRow encS _ _ _ l.toArray d' (holds_ahead encS _ _ _ _ _ HH.out) (by rw [k3]; simp)))
    · exact HB.out.trans (below_sort hg1 HB.out.size)

theorem compact_strs {B : Nat} {w : World} {v : Value} {m : List Bys} (hB : B ≤ w.heap.size) (hn : m.length ≤ 1000) (h : SrtV B w v m) : Calls Tryz.prog 70 #[v] w fun e w' => ∃ v', e = .returned v' ∧ StV w' v' (Lib.compact m) ∧ Below B w w' := by
  rcases h with ⟨rfl, a, c, rfl⟩ | ⟨g, cap, rfl, hg, hgl, hrow, hcap, cs, hblk⟩
  · refine (Tryz.slices_Compact_string_empty a c w).mono ?_
    rintro e w' ⟨rfl, rfl⟩
    exact ⟨_, rfl, .inl ⟨rfl, _, _, rfl⟩, Below.refl _ _⟩
  · have hH : Holds encStr w g 0 m.toArray := holds_strs hrow hblk
    have hle := Lib.compact_length_le m
    refine (Tryz.slices_Compact_string g 0 cap m w hH (by omega) hcap).mono ?_
    rintro e w' ⟨rfl, q, rfl⟩
    have hsz : (Lib.compact m ++ List.replicate (m.length - (Lib.compact m).length) []).toArray.size = m.toArray.size := by simp; omega
    have hH2 := holds_putRow encStr (Sort.ahead w q) g 0 m.toArray (Lib.compact m ++ List.replicate (m.length - (Lib.compact m).length) []).toArray (holds_ahead encStr w q g 0 _ hH) hsz
    have hrow2 : StrRow (putRow encStr (Sort.ahead w q) g 0 (Lib.compact m ++ List.replicate (m.length - (Lib.compact m).length) []).toArray) g 0 _ := strs_holds hH2
    refine ⟨_, rfl, .inr ⟨g, 0, cap, rfl, ?_, fun i x hi => ?_⟩, ?_⟩
    · simpa [putRow, mapBlock, Sort.ahead] using hgl
    · refine hrow2 i x ?_
      simp only
      rw [List.getElem?_append_left (List.getElem?_eq_some_iff.1 hi).1]
      exact hi
    · refine ⟨rfl, rfl, rfl, ?_, fun i hi => ?_⟩
      · simp [putRow, mapBlock, Sort.ahead]
      · simp only [putRow, mapBlock, Sort.ahead]
        rw [Array.getElem?_modify, if_neg (by omega)]

/-- The names of types among some types. -/
def nmsL (l : List Ty) : List Bys := l.flatMap fun U => if U.kind = 7 then [frontOf U] else []
theorem nmsL_snoc (l : List Ty) (U : Ty) : nmsL (l ++ [U]) = if U.kind = 7 then nmsL l ++ [frontOf U] else nmsL l := by
  unfold nmsL
  rw [List.flatMap_append]
  split <;> simp [*]
theorem nmsL_len (l : List Ty) : (nmsL l).length ≤ l.length := by
  induction l with
  | nil => simp [nmsL]
  | cons U l ih =>
    have e : nmsL (U :: l) = (if U.kind = 7 then [frontOf U] else []) ++ nmsL l := by simp [nmsL]
    rw [e]
    split <;> simp <;> omega
theorem nmsL_app (l m : List Ty) : nmsL (l ++ m) = nmsL l ++ nmsL m := by simp [nmsL]
mutual
theorem Ty.nms_all : ∀ T : Ty, T.nms = nmsL T.all
  | .int => rfl
  | .bool => rfl
  | .null => rfl
  | .par => rfl
  | .nam _ => rfl
  | .arr t => by
    have := Ty.nms_all t
    simp only [Ty.nms, Ty.all]
    rw [this]
    rfl
  | .app n t => by
    have := Ty.nms_all t
    simp only [Ty.nms, Ty.all]
    rw [this]
    rfl
  | .rcd o fs => by
    have := Fs.nms_all fs
    simp only [Ty.nms, Ty.all]
    rw [this]
    cases o <;> rfl
theorem Fs.nms_all : ∀ F : Fs, F.nms = nmsL F.all
  | .one _ t => by
    have := Ty.nms_all t
    simp only [Fs.nms, Fs.all]
    exact this
  | .more _ t fs => by
    have h1 := Ty.nms_all t
    have h2 := Fs.nms_all fs
    simp only [Fs.nms, Fs.all]
    rw [nmsL_app, h1, h2]
end
end Go.Proofs.YthcoppfdffhjfaaGreatDoor
