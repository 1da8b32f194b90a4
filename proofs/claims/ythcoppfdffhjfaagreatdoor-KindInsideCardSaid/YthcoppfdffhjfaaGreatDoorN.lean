/- The levels of a type; what read defers. -/
import Derived.Test.YthcoppfdffhjfaaGreatDoorM
import Derived.Defers
import Derived.Recover
namespace Go.Proofs.YthcoppfdffhjfaaGreatDoor
open Go Go.RowKit

def maxL (l : List Ty) : Nat := (l.map Ty.lev).foldl max 0
theorem foldl_max : ∀ (l : List Nat) (a : Nat), l.foldl max a = max a (l.foldl max 0)
  | [], a => by simp
  | x :: l, a => by rw [List.foldl_cons, List.foldl_cons, foldl_max l (max a x), foldl_max l (max 0 x)]; omega
theorem Fs.lev_list : ∀ F : Fs, F.lev = maxL (F.list.map Prod.snd)
  | .one _ t => by simp [Fs.lev, Fs.list, maxL]
  | .more _ t fs => by
    have := Fs.lev_list fs
    simp only [Fs.lev, Fs.list, maxL, List.map_cons, List.foldl_cons] at this ⊢
    rw [foldl_max, this]
    omega
theorem lev_kids : ∀ T : Ty, T.lev = maxL (kidsOf T) + 1
  | .int => rfl
  | .bool => rfl
  | .null => rfl
  | .par => rfl
  | .nam _ => rfl
  | .arr t => by simp [Ty.lev, kidsOf, maxL]
  | .app _ t => by simp [Ty.lev, kidsOf, maxL]
  | .rcd _ fs => by show fs.lev + 1 = _; rw [Fs.lev_list]; rfl
theorem maxL_snoc (l : List Ty) (t : Ty) : maxL (l ++ [t]) = max (maxL l) t.lev := by simp [maxL, List.foldl_append]
theorem Fs.list_len2 : ∀ (F : Fs), ∀ p ∈ F.list, p.2.pr.length < F.pr.length
  | .one n t, p, h => by
    simp [Fs.list] at h; subst h
    simp [Fs.pr]; omega
  | .more n t fs, p, h => by
    rcases List.mem_cons.1 h with rfl | h
    · simp [Fs.pr]; omega
    · have := Fs.list_len2 fs p h
      simp [Fs.pr]; omega
theorem kids_len : ∀ (T : Ty) (t : Ty), t ∈ kidsOf T → t.pr.length < T.pr.length
  | .arr u, t, h => by simp [kidsOf] at h; subst h; simp [Ty.pr]; omega
  | .app n u, t, h => by simp [kidsOf] at h; subst h; simp [Ty.pr]; omega
  | .rcd o fs, t, h => by
    simp only [kidsOf, List.mem_map] at h
    obtain ⟨p, hp, rfl⟩ := h
    have := Fs.list_len2 fs p hp
    simp [Ty.pr]; omega
  | .int, t, h => by simp [kidsOf] at h
  | .bool, t, h => by simp [kidsOf] at h
  | .null, t, h => by simp [kidsOf] at h
  | .par, t, h => by simp [kidsOf] at h
  | .nam _, t, h => by simp [kidsOf] at h
theorem maxL_le (l : List Ty) (n : Nat) (h : ∀ t ∈ l, t.lev ≤ n) : maxL l ≤ n := by
  induction l with
  | nil => simp [maxL]
  | cons t l ih =>
    have h1 := h t (by simp)
    have h2 := ih fun u hu => h u (by simp [hu])
    simp only [maxL, List.map_cons, List.foldl_cons] at h2 ⊢
    rw [foldl_max]; omega

theorem kids_count (T : Ty) : (kidsOf T).length ≤ T.pr.length := by
  cases T with
  | rcd o fs =>
    have h1 := fs.count_len
    have h2 := fs.list_len
    simp only [kidsOf, List.length_map, Ty.pr, List.length_append, List.length_cons]
    omega
  | arr t => simp [kidsOf, Ty.pr]; omega
  | app n t => simp [kidsOf, Ty.pr]; omega
  | _ => simp [kidsOf]
theorem TyRow.four {w : World} {g : Nat} {kss : List (List Value)} {i : Nat} {x0 x1 x2 x3 : Value} (h : TyRow w g 0 kss) (hi : kss[i]? = some [x0, x1, x2, x3]) :
    w.cell? ⟨g, i * 4, none⟩ = some x0 ∧ w.cell? ⟨g, i * 4 + 1, none⟩ = some x1 ∧ w.cell? ⟨g, i * 4 + 2, none⟩ = some x2 ∧ w.cell? ⟨g, i * 4 + 3, none⟩ = some x3 := by
  have h0 := h i _ 0 x0 hi rfl
  have h1 := h i _ 1 x1 hi rfl
  have h2 := h i _ 2 x2 hi rfl
  have h3 := h i _ 3 x3 hi rfl
  simp only [Nat.zero_add, Nat.add_zero] at h0 h1 h2 h3
  exact ⟨h0, h1, h2, h3⟩

set_option maxRecDepth 100000 in
set_option maxHeartbeats 6400000 in
/-- level: how many levels a type has that has been read. -/
theorem level_any : ∀ (n : Nat) (T : Ty) (vs : List Value) (S : Nat → Prop) (w : World), T.pr.length < n → T.pr.length ≤ 1000 → T.lev ≤ 1000 → TyV w S T vs →
    Calls Tryz.prog 50 #[.agg vs.toArray] w fun e w' => e = .returned (.int .i64 (T.lev : Nat)) ∧ Below w.heap.size w w' := by
  intro n
  induction n with
  | zero => intro T vs S w h _ _ hT; omega
  | succ n ih =>
    intro T vs S w hn hle hlv hT
    obtain ⟨vn, vk, kss, rfl, hN, hK, hlen, hkid⟩ := hT.inv
    obtain ⟨an, nn, cn, rfl⟩ := hN.shape
    have hlk := lev_kids T
    have hklen := kids_len T
    have hlev : ∀ t ∈ kidsOf T, t.lev < T.lev := fun t ht => by
      rw [hlk]
      obtain ⟨l1, l2, e⟩ := List.append_of_mem ht
      rw [e]
      simp only [maxL, List.map_append, List.map_cons, List.foldl_append, List.foldl_cons]
      rw [foldl_max]; omega
    have hkw : kss.length ≤ 1000 := by have := kids_count T; omega
    have IH := Lib.hid ih
    have HLK := Lib.hid hlk
    have HKL := Lib.hid hklen
    have HLV := Lib.hid hlev
    have HLEN := Lib.hid hlen
    have HKID := Lib.hid hkid
    rcases hK with ⟨rfl, rfl⟩ | ⟨g, cap, rfl, hg, hgl, hrow, hne⟩
    · have HK0 : Hid (kidsOf T = []) := Lib.hid (List.length_eq_zero_iff.1 (by rw [← hlen]; rfl))
      clear hlen hkid hN hT hlk hklen hlev ih
      go_enter Tryz.func50, Tryz.ntmps50
      go_wp2
      refine wp_loop_rounds 1 ?_
      rw [rounds_succ]
      go_wp2
      go_ret
      exact ⟨ret_int (by rw [HLK.out, HK0.out]; rfl), (Below.refl _ _).alloc (Nat.le_refl _) _⟩
    · have HROW := Lib.hid hrow
      clear hlen hkid hN hT hlk hklen hlev ih hrow
      go_enter Tryz.func50, Tryz.ntmps50
      go_wp2
      go_loopw [3, 9] (fun v3 v9 wr => ∃ k : Nat, k ≤ kss.length ∧ v9 = .int .i64 k ∧ v3 = .int .i64 (maxL ((kidsOf T).take k) : Nat) ∧ Below w.heap.size w wr) (fun _ i _ => kss.length - (intOf i).toNat)
      case atStart => exact ⟨0, Nat.zero_le _, rfl, rfl, (Below.refl _ _).alloc (Nat.le_refl _) _⟩
      case round =>
        obtain ⟨k, hk, rfl, rfl, hb⟩ := hrel
        have HB := Lib.hid hb
        clear hb
        by_cases hlt : k < kss.length
        · have hlt2 : k < (kidsOf T).length := by have := HLEN.out; omega
          have hTk : (kidsOf T)[k]? = some (kidsOf T)[k] := List.getElem?_eq_getElem hlt2
          have hvk : kss[k]? = some kss[k] := List.getElem?_eq_getElem hlt
          have hty := HKID.out k _ _ hTk hvk
          have hmem : (kidsOf T)[k] ∈ kidsOf T := List.getElem_mem hlt2
          have hp1 := HKL.out _ hmem
          have hp2 := HLV.out _ hmem
          have hmx : maxL ((kidsOf T).take k) ≤ 1000 := maxL_le _ _ fun t ht => by have := HLV.out t (List.mem_of_mem_take ht); omega
          have htk : (kidsOf T).take (k + 1) = (kidsOf T).take k ++ [(kidsOf T)[k]] := (List.take_append_getElem hlt2).symm
          have HTK := Lib.hid htk
          obtain ⟨a1, n1, c1, a2, n2, c2, hfour⟩ := hty.four
          rw [hfour] at hvk hty
          generalize (kidsOf T)[k] = U at *
          obtain ⟨q0, q1, q2, q3⟩ := (HROW.out.keep (HB.out.block g hgl)).four hvk
          have HTY := Lib.hid hty
          have hgz : g < wr.heap.size := Nat.lt_of_lt_of_le hgl HB.out.size
          clear hTk hvk hty hmem hfour htk
          go_wp2_with fail
          have hBl : Below wr.heap.size wr (wr.alloc (.cells #[Value.string (bs U.pr), Value.int .u8 U.kind, Value.slice a1 n1 c1, Value.slice a2 n2 c2] 58)) := (Below.refl _ _).alloc (Nat.le_refl _) _
          have HB2 : Hid (Below w.heap.size w (wr.alloc (.cells #[Value.string (bs U.pr), Value.int .u8 U.kind, Value.slice a1 n1 c1, Value.slice a2 n2 c2] 58))) := Lib.hid (HB.out.trans (hBl.mono HB.out.size))
          clear hBl
          generalize wr.alloc (.cells #[Value.string (bs U.pr), Value.int .u8 U.kind, Value.slice a1 n1 c1, Value.slice a2 n2 c2] 58) = w2 at *
          refine (IH.out U _ S w2 (by omega) (by omega) (by omega) (HTY.out.keep HB2.out.size fun g _ h => HB2.out.block g h)).mono ?_
          rintro e w3 ⟨rfl, hb3⟩
          have HB3 := Lib.hid hb3
          clear hb3
          go_wp2
          go_roundw
          case rel =>
            refine ⟨k + 1, by omega, by go_num, ?_, HB2.out.trans (HB3.out.mono HB2.out.size)⟩
            rw [HTK.out, maxL_snoc]
            congr 1
            omega
          case measure => simp [intOf]; omega
        · have hkl : (kidsOf T).take k = kidsOf T := List.take_of_length_le (by have := HLEN.out; omega)
          have HKK := Lib.hid hkl
          clear hkl
          have hmx : maxL ((kidsOf T).take k) ≤ 1000 := maxL_le _ _ fun t ht => by have := HLV.out t (List.mem_of_mem_take ht); omega
          go_wp2
          go_ret
          exact ⟨ret_int (by rw [HLK.out, HKK.out]; go_num), HB.out⟩

theorem assert_no (w : World) : (Instr.typeAssert .nilIface 20 24 true).run Tryz.prog w = .ok (.tuple #[.int .i64 0, .bool false]) w := by kernel_rfl
theorem assert_err (v : Value) (w : World) : (Instr.typeAssert (.iface 24 v) 20 24 true).run Tryz.prog w = .ok (.tuple #[v, .bool true]) w := by kernel_rfl

set_option maxRecDepth 100000 in
set_option maxHeartbeats 1000000 in
theorem handler_idle (g2 g3 : Nat) (w : World) :
    CallsD Tryz.prog 73 #[.pointer (some ⟨g2, 0, none⟩), .pointer (some ⟨g3, 0, none⟩)] .returning w fun e u' w' => e = .returned (.tuple #[]) ∧ u' = .returning ∧ w' = w := by
  refine callsD_of_wpS Tryz.func73 rfl fun c₀ cs hu => ?_
  apply wpS_seq
  apply wpS_region
  simp [wpOpsS, go_sem, recoverD, hu, Tryz.ntmps73, Exit.thenS, assert_no]
  refine wpS_of_wp ?_
  simp only [Array.replicate_succ, Array.replicate_zero, List.push_toArray, List.append_toArray, List.setIfInBounds_toArray, List.set_cons_succ, List.set_cons_zero, List.nil_append, List.cons_append]
  go_wp2
  refine ⟨rfl, .returning, ?_, .tuple #[], ?_, rfl, rfl, rfl⟩
  · cases c₀; simp_all
  · simp [results, Tryz.results73]

set_option maxRecDepth 100000 in
set_option maxHeartbeats 1000000 in
theorem handler_panic (g2 g3 : Nat) (x0 x1 x2 x3 y : Value) (w : World) (h2 : Blk w g2 58 #[x0, x1, x2, x3]) (h3 : Blk w g3 24 #[y]) (hne : g2 ≠ g3) :
    CallsD Tryz.prog 73 #[.pointer (some ⟨g2, 0, none⟩), .pointer (some ⟨g3, 0, none⟩)] (.panicking [{ v := .iface 24 (.int .i64 4), recovered := false }]) w fun e u' w' =>
      e = .returned (.tuple #[]) ∧ u' = .panicking [{ v := .iface 24 (.int .i64 4), recovered := true }] ∧ Blk w' g2 58 #[.string { data := #[] }, .int .u8 0, .slice none 0 0, .slice none 0 0] ∧ Blk w' g3 24 #[.int .i64 4] ∧
      w'.heap.size = w.heap.size ∧ (∀ i, i ≠ g2 → i ≠ g3 → w'.heap[i]? = w.heap[i]?) ∧ w'.os = w.os ∧ w'.tape = w.tape ∧ w'.output = w.output := by
  refine callsD_of_wpS Tryz.func73 rfl fun c₀ cs hu => ?_
  apply wpS_seq
  apply wpS_region
  simp [wpOpsS, go_sem, recoverD, hu, Tryz.ntmps73, Exit.thenS, assert_err]
  refine wpS_of_wp ?_
  simp only [Array.replicate_succ, Array.replicate_zero, List.push_toArray, List.append_toArray, List.setIfInBounds_toArray, List.set_cons_succ, List.set_cons_zero, List.nil_append, List.cons_append]
  have c0 := h2.cell 0
  have c1 := h2.cell 1
  have c2 := h2.cell 2
  have c3 := h2.cell 3
  have d0 := h3.cell 0
  have f0 := h2.frozen 0
  have f1 := h2.frozen 1
  have f2 := h2.frozen 2
  have f3 := h2.frozen 3
  have e0 := h3.frozen 0
  simp only [List.getElem?_toArray, List.getElem?_cons_zero, List.getElem?_cons_succ] at c0 c1 c2 c3 d0
  have H2 := Lib.hid h2
  have H3 := Lib.hid h3
  clear h2 h3
  go_wp2
  refine ⟨rfl, _, rfl, .tuple #[], ?_, rfl, rfl, ?_, ?_, by simp, fun i h1 h2 => ?_, rfl, rfl, rfl⟩
  · simp [results, Tryz.results73]
  · exact Blk.far ((((H2.out.set_ 0 _).set_ 1 _).set_ 2 _).set_ 3 _) hne _
  · exact (((((H3.out.far hne.symm _).far hne.symm _).far hne.symm _).far hne.symm _).set_ 0 _)
  · exact (Below.heap_setCell _ _ _ i h2).trans ((Below.heap_setCell _ _ _ i h1).trans ((Below.heap_setCell _ _ _ i h1).trans ((Below.heap_setCell _ _ _ i h1).trans (Below.heap_setCell _ _ _ i h1))))
end Go.Proofs.YthcoppfdffhjfaaGreatDoor
