/- The reference's Scan and Comments, and its comparison of tokens. -/
import Derived.Test.YtophcjkfhneghaaDoorYe
namespace Go.Proofs.YtophcjkfhneghaaDoor
open Go Go.RowKit

set_option maxRecDepth 100000 in
set_option maxHeartbeats 3200000 in
theorem refRead_long (s : ByteArray) (w : World) (hs : 20000 < s.size) : Calls Tryd.prog 45 #[.string s] w (ReadsPost w.heap.size s w) := by
  have hs' : (20000 : Int) < (s.size : Int) := by omega
  have HT := Lib.hid (show scanT s = .error (2, 0) by simp [scanT, hs])
  go_enter Tryd.func45, Tryd.ntmps45
  go_wp2
  refine bodyPost_ret (ret_read rfl (Blk.new w 31 _)) rfl ?_
  exact .inr ⟨2, 0, HT.out, rfl, (Below.refl _ w).alloc (Nat.le_refl _) _⟩
theorem refRead_all (s : ByteArray) (w : World) : Calls Tryd.prog 45 #[.string s] w (ReadsPost w.heap.size s w) := by
  by_cases hs : 20000 < s.size
  · exact refRead_long s w hs
  · exact refRead_any s w (by omega)

set_option maxRecDepth 100000 in
set_option maxHeartbeats 1000000 in
theorem refScan_any (s : ByteArray) (w : World) : Calls Tryd.prog 24 #[.string s] w fun e w' => Below w.heap.size w w' ∧
    ((∃ toks cs vt, scanT s = .ok (toks, cs) ∧ e = .returned (.tuple #[vt, .agg #[.int .i64 0, .int .i64 0]]) ∧ w'.ownsRow w.heap.size 38 3 vt toks.length (tokVs toks)) ∨
     (∃ c ln, scanT s = .error (c, ln) ∧ e = .returned (.tuple #[.slice none 0 0, .agg #[.int .i64 c, .int .i64 ln]]))) := by
  have be1 := (Below.refl _ w).alloc (Nat.le_refl _) (.cells #[Value.int .i64 0, Value.int .i64 0] 31)
  have B1 := Lib.hid be1
  have k1 := Lib.hid (Blk.new w 31 #[Value.int .i64 0, Value.int .i64 0])
  clear be1
  go_enter Tryd.func24, Tryd.ntmps24
  go_wp2_with fail
  have hsz : (w.alloc (.cells #[Value.int .i64 0, Value.int .i64 0] 31)).heap.size = w.heap.size + 1 := by simp
  generalize w.alloc (.cells #[Value.int .i64 0, Value.int .i64 0] 31) = w0 at *
  have HS := Lib.hid hsz
  clear hsz
  refine (refRead_all s w0).mono ?_
  have hle : w.heap.size < w0.heap.size := by have := HS.out; omega
  rintro e w2 (⟨toks, cs, vt, vc, hs, rfl, ho, hc, hb⟩ | ⟨c, ln, hs, rfl, hb⟩)
  · obtain ⟨ao, nn, cap, rfl⟩ := own_shape ho
    obtain ⟨ao2, nn2, cap2, rfl⟩ := own_shape hc
    have B2 := Lib.hid (B1.out.trans (hb.mono (by omega)))
    have k2 := Lib.hid (k1.out.below hb (by omega))
    have HO := Lib.hid ho
    have HSC := Lib.hid hs
    have hle2 : w0.heap.size ≤ w2.heap.size := hb.size
    have k3 := Lib.hid (k2.out.alloc (.cells #[Value.int .i64 0, Value.int .i64 0] 31))
    have c0 := k3.out.cell 0
    have c1 := k3.out.cell 1
    have f0 := k3.out.frozen 0
    have f1 := k3.out.frozen 1
    simp only [List.getElem?_toArray, List.getElem?_cons_zero, List.getElem?_cons_succ] at c0 c1
    clear ho hc hb hs
    go_wp2
    go_region
    go_wp2
    refine bodyPost_ret (ret_fault rfl rfl ((((k3.out).set_ 0 _).set_ 1 _).drewN 1)) rfl ?_
    refine ⟨(((B2.out.alloc (by omega) _).setCell (Nat.le_refl _) _).setCell (Nat.le_refl _) _).drew, .inl ⟨toks, cs, _, HSC.out, rfl, base_le (ownsRow_setCell_below (ownsRow_setCell_below (HO.out.alloc _) hle _) hle _) (Nat.le_of_lt hle)⟩⟩
  · have B2 := Lib.hid (B1.out.trans (hb.mono (by omega)))
    have k2 := Lib.hid (k1.out.below hb (by omega))
    have HSC := Lib.hid hs
    have hle2 : w0.heap.size ≤ w2.heap.size := hb.size
    have k3 := Lib.hid (k2.out.alloc (.cells #[Value.int .i64 c, Value.int .i64 ln] 31))
    have c0 := k3.out.cell 0
    have c1 := k3.out.cell 1
    have f0 := k3.out.frozen 0
    have f1 := k3.out.frozen 1
    simp only [List.getElem?_toArray, List.getElem?_cons_zero, List.getElem?_cons_succ] at c0 c1
    clear hb hs
    go_wp2
    go_region
    go_wp2
    refine bodyPost_ret (ret_fault rfl rfl ((((k3.out).set_ 0 _).set_ 1 _).drewN 1)) rfl ?_
    exact ⟨(((B2.out.alloc (by omega) _).setCell (Nat.le_refl _) _).setCell (Nat.le_refl _) _).drew, .inr ⟨c, ln, HSC.out, rfl⟩⟩

set_option maxRecDepth 100000 in
set_option maxHeartbeats 1000000 in
theorem refComments_any (s : ByteArray) (w : World) : Calls Tryd.prog 26 #[.string s] w fun e w' => Below w.heap.size w w' ∧
    ((∃ toks cs vt, scanT s = .ok (toks, cs) ∧ e = .returned (.tuple #[vt, .agg #[.int .i64 0, .int .i64 0]]) ∧ w'.ownsRow w.heap.size 9 1 vt cs.length (strVs cs)) ∨
     (∃ c ln, scanT s = .error (c, ln) ∧ e = .returned (.tuple #[.slice none 0 0, .agg #[.int .i64 c, .int .i64 ln]]))) := by
  have be1 := (Below.refl _ w).alloc (Nat.le_refl _) (.cells #[Value.int .i64 0, Value.int .i64 0] 31)
  have B1 := Lib.hid be1
  have k1 := Lib.hid (Blk.new w 31 #[Value.int .i64 0, Value.int .i64 0])
  clear be1
  go_enter Tryd.func26, Tryd.ntmps26
  go_wp2_with fail
  have hsz : (w.alloc (.cells #[Value.int .i64 0, Value.int .i64 0] 31)).heap.size = w.heap.size + 1 := by simp
  generalize w.alloc (.cells #[Value.int .i64 0, Value.int .i64 0] 31) = w0 at *
  have HS := Lib.hid hsz
  clear hsz
  refine (refRead_all s w0).mono ?_
  have hle : w.heap.size < w0.heap.size := by have := HS.out; omega
  rintro e w2 (⟨toks, cs, vt, vc, hs, rfl, ho, hc, hb⟩ | ⟨c, ln, hs, rfl, hb⟩)
  · obtain ⟨ao, nn, cap, rfl⟩ := own_shape ho
    obtain ⟨ao2, nn2, cap2, rfl⟩ := own_shape hc
    have B2 := Lib.hid (B1.out.trans (hb.mono (by omega)))
    have k2 := Lib.hid (k1.out.below hb (by omega))
    have HO := Lib.hid hc
    have HSC := Lib.hid hs
    have hle2 : w0.heap.size ≤ w2.heap.size := hb.size
    have k3 := Lib.hid (k2.out.alloc (.cells #[Value.int .i64 0, Value.int .i64 0] 31))
    have c0 := k3.out.cell 0
    have c1 := k3.out.cell 1
    have f0 := k3.out.frozen 0
    have f1 := k3.out.frozen 1
    simp only [List.getElem?_toArray, List.getElem?_cons_zero, List.getElem?_cons_succ] at c0 c1
    clear ho hc hb hs
    go_wp2
    go_region
    go_wp2
    refine bodyPost_ret (ret_fault rfl rfl ((((k3.out).set_ 0 _).set_ 1 _).drewN 1)) rfl ?_
    refine ⟨(((B2.out.alloc (by omega) _).setCell (Nat.le_refl _) _).setCell (Nat.le_refl _) _).drew, .inl ⟨toks, cs, _, HSC.out, rfl, base_le (ownsRow_setCell_below (ownsRow_setCell_below (HO.out.alloc _) hle _) hle _) (Nat.le_of_lt hle)⟩⟩
  · have B2 := Lib.hid (B1.out.trans (hb.mono (by omega)))
    have k2 := Lib.hid (k1.out.below hb (by omega))
    have HSC := Lib.hid hs
    have hle2 : w0.heap.size ≤ w2.heap.size := hb.size
    have k3 := Lib.hid (k2.out.alloc (.cells #[Value.int .i64 c, Value.int .i64 ln] 31))
    have c0 := k3.out.cell 0
    have c1 := k3.out.cell 1
    have f0 := k3.out.frozen 0
    have f1 := k3.out.frozen 1
    simp only [List.getElem?_toArray, List.getElem?_cons_zero, List.getElem?_cons_succ] at c0 c1
    clear hb hs
    go_wp2
    go_region
    go_wp2
    refine bodyPost_ret (ret_fault rfl rfl ((((k3.out).set_ 0 _).set_ 1 _).drewN 1)) rfl ?_
    exact ⟨(((B2.out.alloc (by omega) _).setCell (Nat.le_refl _) _).setCell (Nat.le_refl _) _).drew, .inr ⟨c, ln, HSC.out, rfl⟩⟩

end Go.Proofs.YtophcjkfhneghaaDoor
