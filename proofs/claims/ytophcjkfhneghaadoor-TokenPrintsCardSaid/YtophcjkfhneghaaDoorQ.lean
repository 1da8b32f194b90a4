/- The contracts of package token's Scan, Comments, Words, Signs. -/
import Derived.Test.YtophcjkfhneghaaDoorP
namespace Go.Proofs.YtophcjkfhneghaaDoor
open Go Go.RowKit

/-- What a text is read as, however long it is. -/
def scanT (s : ByteArray) : Except (Int × Int) (List Tok × List (List UInt8)) := if 20000 < s.size then .error (2, 0) else scanS s

/-- What read answers of a text however long it is. -/
def ReadsPost (B : Nat) (s : ByteArray) (w : World) (e : Ending) (w' : World) : Prop :=
  (∃ toks cs vt vc, scanT s = .ok (toks, cs) ∧ e = .returned (.tuple #[vt, vc, .agg #[.int .i64 0, .int .i64 0]]) ∧ w'.ownsRow B 38 3 vt toks.length (tokVs toks) ∧ w'.ownsRow B 9 1 vc cs.length (strVs cs) ∧ Below B w w') ∨
  (∃ c ln, scanT s = .error (c, ln) ∧ e = .returned (.tuple #[.slice none 0 0, .slice none 0 0, .agg #[.int .i64 c, .int .i64 ln]]) ∧ Below B w w')

set_option maxRecDepth 100000 in
set_option maxHeartbeats 1000000 in
theorem read_long (m : Nat) (s : ByteArray) (w : World) (hs : 20000 < s.size) :
    Calls Tryd.prog 44 #[.map (some m), .string s] w fun e w' => e = .returned (.tuple #[.slice none 0 0, .slice none 0 0, .agg #[.int .i64 2, .int .i64 0]]) ∧ Below w.heap.size w w' := by
  refine callsIn_wide.1 (callsIn_of_wp_marks (n := 0) Tryd.func44 rfl trivial ?_)
  refine wpIn_wide.2 ?_
  simp only [Tryd.ntmps44, List.size_toArray, List.length_cons, List.length_nil, Nat.reduceAdd, Nat.reduceSub, Array.replicate_succ,
     Array.replicate_zero, List.push_toArray, List.append_toArray, List.nil_append, List.cons_append]
  have hmf : ∀ (fn : Fn) (first cap : Array Value) (w : World), (Instr.makeFunc fn first cap).run Tryd.prog w = .ok (.func fn first cap) w := fun _ _ _ _ => rfl
  have hs' : (20000 : Int) < (s.size : Int) := by omega
  go_wp2
  have b1 : Blk (((w.alloc (Obj.cells #[Value.slice none 0 0] 28)).alloc (Obj.cells #[Value.slice none 0 0] 25)).alloc (Obj.cells #[Value.int IntKind.i64 2, Value.int IntKind.i64 0] 31)) (w.heap.size + 1) 25 #[.slice none 0 0] := by
    have h := (Blk.new (w.alloc (Obj.cells #[Value.slice none 0 0] 28)) 25 #[.slice none 0 0]).alloc (Obj.cells #[Value.int IntKind.i64 2, Value.int IntKind.i64 0] 31)
    rwa [World.size_alloc] at h
  have b2 : Blk (((w.alloc (Obj.cells #[Value.slice none 0 0] 28)).alloc (Obj.cells #[Value.slice none 0 0] 25)).alloc (Obj.cells #[Value.int IntKind.i64 2, Value.int IntKind.i64 0] 31)) (w.heap.size + 1 + 1) 31 #[.int .i64 2, .int .i64 0] := by
    have h := Blk.new ((w.alloc (Obj.cells #[Value.slice none 0 0] 28)).alloc (Obj.cells #[Value.slice none 0 0] 25)) 31 #[Value.int IntKind.i64 2, Value.int IntKind.i64 0]
    rwa [World.size_alloc, World.size_alloc] at h
  exact ⟨_, read_results rfl rfl rfl (((Blk.new w 28 #[.slice none 0 0]).alloc _).alloc _) b1 b2, rfl, (((Below.refl _ w).alloc (Nat.le_refl _) _).alloc (by simp) _).alloc (by simp <;> omega) _⟩

theorem read_all (m : Nat) (s : ByteArray) (w : World) (he : Env w) (hx : Lex w m) :
    Calls Tryd.prog 44 #[.map (some m), .string s] w (ReadsPost w.heap.size s w) := by
  by_cases hs : 20000 < s.size
  · refine (read_long m s w hs).mono ?_
    rintro e w' ⟨rfl, hb⟩
    exact .inr ⟨2, 0, by simp [scanT, hs], rfl, hb⟩
  · have hT : scanT s = scanS s := by simp [scanT, hs]
    unfold ReadsPost
    rw [hT]
    exact read_any m s w he hx (by omega)

/-- A function that answers with a value and a fault. -/
theorem ret_fault {f : Func} {k c g : Nat} {tmps : Array Value} {w : World} {x y : Value} (hr : f.results = #[.tmp k, .cell c 31]) (hc : tmps.getD c undef = .pointer (some ⟨g, 0, none⟩)) (hb : Blk w g 31 #[x, y]) :
    (results f tmps).run Tryd.prog w = .ok (.tuple #[tmps.getD k undef, .agg #[x, y]]) w := by
  have c0 := hb.cell 0
  have c1 := hb.cell 1
  simp only [List.getElem?_toArray, List.getElem?_cons_zero, List.getElem?_cons_succ] at c0 c1
  simp only [Array.getD_eq_getD_getElem?] at hc
  simp [results, hr, hc, go_sem, c0, c1]

set_option maxRecDepth 100000 in
set_option maxHeartbeats 1000000 in
theorem Scan_any (s : ByteArray) (w : World) (he : Env w) : Calls Tryd.prog 23 #[.string s] w fun e w' => Below w.heap.size w w' ∧
    ((∃ toks cs vt, scanT s = .ok (toks, cs) ∧ e = .returned (.tuple #[vt, .agg #[.int .i64 0, .int .i64 0]]) ∧ w'.ownsRow w.heap.size 38 3 vt toks.length (tokVs toks)) ∨
     (∃ c ln, scanT s = .error (c, ln) ∧ e = .returned (.tuple #[.slice none 0 0, .agg #[.int .i64 c, .int .i64 ln]]))) := by
  have be1 := (Below.refl _ w).alloc (Nat.le_refl _) (.cells #[Value.int .i64 0, Value.int .i64 0] 31)
  have HE := Lib.hid (he.below be1)
  have B1 := Lib.hid be1
  have k1 := Lib.hid (Blk.new w 31 #[Value.int .i64 0, Value.int .i64 0])
  clear he be1
  go_enter Tryd.func23, Tryd.ntmps23
  go_wp2_with fail
  have hsz : (w.alloc (.cells #[Value.int .i64 0, Value.int .i64 0] 31)).heap.size = w.heap.size + 1 := by simp
  generalize w.alloc (.cells #[Value.int .i64 0, Value.int .i64 0] 31) = w0 at *
  have HS := Lib.hid hsz
  clear hsz
  refine (newLexicon_any w0 HE.out).mono ?_
  rintro e w1 ⟨m, rfl, hx, hm, hb⟩
  have HX := Lib.hid hx
  have HB := Lib.hid hb
  clear hx hb
  go_wp2_with fail
  refine (read_all m s w1 (HE.out.below HB.out) HX.out).mono ?_
  have hle : w.heap.size < w1.heap.size := by have := HB.out.size; have := HS.out; omega
  have hle1 : w0.heap.size ≤ w1.heap.size := HB.out.size
  rintro e w2 (⟨toks, cs, vt, vc, hs, rfl, ho, hc, hb⟩ | ⟨c, ln, hs, rfl, hb⟩)
  · obtain ⟨ao, nn, cap, rfl⟩ := own_shape ho
    obtain ⟨ao2, nn2, cap2, rfl⟩ := own_shape hc
    have B2 := Lib.hid ((B1.out.trans (HB.out.mono (by have := HS.out; omega))).trans (hb.mono (by omega)))
    have k2 := Lib.hid ((k1.out.below HB.out (by have := HS.out; omega)).below hb (by omega))
    have HO := Lib.hid ho
    have HSC := Lib.hid hs
    have hle2 : w1.heap.size ≤ w2.heap.size := hb.size
    have k3 := Lib.hid (k2.out.alloc (.cells #[Value.int .i64 0, Value.int .i64 0] 31))
    have c0 := k3.out.cell 0
    have c1 := k3.out.cell 1
    have f0 := k3.out.frozen 0
    have f1 := k3.out.frozen 1
    simp only [List.getElem?_toArray, List.getElem?_cons_zero, List.getElem?_cons_succ] at c0 c1
    clear ho hc hb hs
    go_wp2
    go_region
    go_wp2
    refine bodyPost_ret (ret_fault rfl rfl ((((k3.out).set_ 0 _).set_ 1 _).drewN 1)) rfl ?_
    refine ⟨(((B2.out.alloc (by omega) _).setCell (Nat.le_refl _) _).setCell (Nat.le_refl _) _).drew, .inl ⟨toks, cs, _, HSC.out, rfl, base_le (ownsRow_setCell_below (ownsRow_setCell_below (HO.out.alloc _) hle _) hle _) (Nat.le_of_lt hle)⟩⟩
  · have B2 := Lib.hid ((B1.out.trans (HB.out.mono (by have := HS.out; omega))).trans (hb.mono (by omega)))
    have k2 := Lib.hid ((k1.out.below HB.out (by have := HS.out; omega)).below hb (by omega))
    have HSC := Lib.hid hs
    have hle2 : w1.heap.size ≤ w2.heap.size := hb.size
    have k3 := Lib.hid (k2.out.alloc (.cells #[Value.int .i64 c, Value.int .i64 ln] 31))
    have c0 := k3.out.cell 0
    have c1 := k3.out.cell 1
    have f0 := k3.out.frozen 0
    have f1 := k3.out.frozen 1
    simp only [List.getElem?_toArray, List.getElem?_cons_zero, List.getElem?_cons_succ] at c0 c1
    clear hb hs
    go_wp2
    go_region
    go_wp2
    refine bodyPost_ret (ret_fault rfl rfl ((((k3.out).set_ 0 _).set_ 1 _).drewN 1)) rfl ?_
    exact ⟨(((B2.out.alloc (by omega) _).setCell (Nat.le_refl _) _).setCell (Nat.le_refl _) _).drew, .inr ⟨c, ln, HSC.out, rfl⟩⟩

set_option maxRecDepth 100000 in
set_option maxHeartbeats 1000000 in
theorem Comments_any (s : ByteArray) (w : World) (he : Env w) : Calls Tryd.prog 25 #[.string s] w fun e w' => Below w.heap.size w w' ∧
    ((∃ toks cs vt, scanT s = .ok (toks, cs) ∧ e = .returned (.tuple #[vt, .agg #[.int .i64 0, .int .i64 0]]) ∧ w'.ownsRow w.heap.size 9 1 vt cs.length (strVs cs)) ∨
     (∃ c ln, scanT s = .error (c, ln) ∧ e = .returned (.tuple #[.slice none 0 0, .agg #[.int .i64 c, .int .i64 ln]]))) := by
  have be1 := (Below.refl _ w).alloc (Nat.le_refl _) (.cells #[Value.int .i64 0, Value.int .i64 0] 31)
  have HE := Lib.hid (he.below be1)
  have B1 := Lib.hid be1
  have k1 := Lib.hid (Blk.new w 31 #[Value.int .i64 0, Value.int .i64 0])
  clear he be1
  go_enter Tryd.func25, Tryd.ntmps25
  go_wp2_with fail
  have hsz : (w.alloc (.cells #[Value.int .i64 0, Value.int .i64 0] 31)).heap.size = w.heap.size + 1 := by simp
  generalize w.alloc (.cells #[Value.int .i64 0, Value.int .i64 0] 31) = w0 at *
  have HS := Lib.hid hsz
  clear hsz
  refine (newLexicon_any w0 HE.out).mono ?_
  rintro e w1 ⟨m, rfl, hx, hm, hb⟩
  have HX := Lib.hid hx
  have HB := Lib.hid hb
  clear hx hb
  go_wp2_with fail
  refine (read_all m s w1 (HE.out.below HB.out) HX.out).mono ?_
  have hle : w.heap.size < w1.heap.size := by have := HB.out.size; have := HS.out; omega
  have hle1 : w0.heap.size ≤ w1.heap.size := HB.out.size
  rintro e w2 (⟨toks, cs, vt, vc, hs, rfl, ho, hc, hb⟩ | ⟨c, ln, hs, rfl, hb⟩)
  · obtain ⟨ao, nn, cap, rfl⟩ := own_shape ho
    obtain ⟨ao2, nn2, cap2, rfl⟩ := own_shape hc
    have B2 := Lib.hid ((B1.out.trans (HB.out.mono (by have := HS.out; omega))).trans (hb.mono (by omega)))
    have k2 := Lib.hid ((k1.out.below HB.out (by have := HS.out; omega)).below hb (by omega))
    have HO := Lib.hid hc
    have HSC := Lib.hid hs
    have hle2 : w1.heap.size ≤ w2.heap.size := hb.size
    have k3 := Lib.hid (k2.out.alloc (.cells #[Value.int .i64 0, Value.int .i64 0] 31))
    have c0 := k3.out.cell 0
    have c1 := k3.out.cell 1
    have f0 := k3.out.frozen 0
    have f1 := k3.out.frozen 1
    simp only [List.getElem?_toArray, List.getElem?_cons_zero, List.getElem?_cons_succ] at c0 c1
    clear ho hc hb hs
    go_wp2
    go_region
    go_wp2
    refine bodyPost_ret (ret_fault rfl rfl ((((k3.out).set_ 0 _).set_ 1 _).drewN 1)) rfl ?_
    refine ⟨(((B2.out.alloc (by omega) _).setCell (Nat.le_refl _) _).setCell (Nat.le_refl _) _).drew, .inl ⟨toks, cs, _, HSC.out, rfl, base_le (ownsRow_setCell_below (ownsRow_setCell_below (HO.out.alloc _) hle _) hle _) (Nat.le_of_lt hle)⟩⟩
  · have B2 := Lib.hid ((B1.out.trans (HB.out.mono (by have := HS.out; omega))).trans (hb.mono (by omega)))
    have k2 := Lib.hid ((k1.out.below HB.out (by have := HS.out; omega)).below hb (by omega))
    have HSC := Lib.hid hs
    have hle2 : w1.heap.size ≤ w2.heap.size := hb.size
    have k3 := Lib.hid (k2.out.alloc (.cells #[Value.int .i64 c, Value.int .i64 ln] 31))
    have c0 := k3.out.cell 0
    have c1 := k3.out.cell 1
    have f0 := k3.out.frozen 0
    have f1 := k3.out.frozen 1
    simp only [List.getElem?_toArray, List.getElem?_cons_zero, List.getElem?_cons_succ] at c0 c1
    clear hb hs
    go_wp2
    go_region
    go_wp2
    refine bodyPost_ret (ret_fault rfl rfl ((((k3.out).set_ 0 _).set_ 1 _).drewN 1)) rfl ?_
    exact ⟨(((B2.out.alloc (by omega) _).setCell (Nat.le_refl _) _).setCell (Nat.le_refl _) _).drew, .inr ⟨c, ln, HSC.out, rfl⟩⟩

end Go.Proofs.YtophcjkfhneghaaDoor
