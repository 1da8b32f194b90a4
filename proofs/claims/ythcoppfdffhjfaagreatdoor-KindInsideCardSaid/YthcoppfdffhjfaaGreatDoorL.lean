/- The contract of the reader's closure. -/
import Derived.Test.YthcoppfdffhjfaaGreatDoorK
namespace Go.Proofs.YthcoppfdffhjfaaGreatDoor
open Go Go.RowKit

theorem ret_typ {tmps : Array Value} {W : World} {g : Nat} {x0 x1 x2 x3 : Value} (h4 : tmps.getD 4 undef = .pointer (some ⟨g, 0, none⟩)) (hb : Blk W g 58 #[x0, x1, x2, x3]) : (results Tryz.f75 tmps).run Tryz.prog W = .ok (.agg #[x0, x1, x2, x3]) W := by
  have c0 := hb.cell 0
  have c1 := hb.cell 1
  have c2 := hb.cell 2
  have c3 := hb.cell 3
  simp only [List.getElem?_toArray, List.getElem?_cons_zero, List.getElem?_cons_succ] at c0 c1 c2 c3
  simp only [Array.getD_eq_getD_getElem?] at h4
  simp [results, Tryz.results75, h4, go_sem, c0, c1, c2, c3]
theorem ext_of {s r : Bys} {a : Nat} {T : Ty} (h : s.drop a = T.pr ++ r) (ha : a ≤ s.length) : (bs s).extract a (s.length - r.length) = bs T.pr := by
  have h1 := congrArg List.length h
  rw [List.length_drop, List.length_append] at h1
  rw [extract_at, h, List.take_left']
  omega
theorem drop_len (s : Bys) {a : Nat} (ha : a ≤ s.length) : s.length - (s.drop a).length = a := by rw [List.length_drop]; omega

set_option maxRecDepth 100000 in
set_option maxHeartbeats 25600000 in
theorem next_leaf (f b1 b4 b5 b6 cb m a : Nat) (s : Bys) (hs : s.length ≤ 1000) (w : World) (hE : NxE w b1 b4 b5 b6 cb m s) (hC : Cur w cb s a) (ha : a ≤ s.length) (K : Int) (T : Ty) (hfk : frontK (wd (s.drop a)) = K) (hnm : isNameL (wd (s.drop a)) = false) (h0 : (K == 0) = false) (h4 : (K == 4) = false) (h5 : (K == 5) = false) (h6 : (K == 6) = false) (h7 : (K == 7) = false)
    (hTk : T.kind = K) (hkid : kidsOf T = []) (hnam : namesOf T = []) (hnx : nx (f + 1) (s.drop a) = some (T, s.drop (a + (wd (s.drop a)).length))) :
    Calls Tryz.prog 75 #[.pointer (some ⟨b5, 0, none⟩), .pointer (some ⟨b4, 0, none⟩), .pointer (some ⟨b6, 0, none⟩), .pointer (some ⟨b1, 0, none⟩)] w (NxPost (f + 1) cb s a w) := by
  have hwl := wd_len s a
  have hx := ext_of (nx_sound _ _ _ _ hnx).1 ha
  rw [drop_len s (by omega)] at hx
  have HX := Lib.hid hx
  have HNX := Lib.hid hnx
  clear hnx hx
  have e5 : w.cell? ⟨b5, 0, none⟩ = some (.pointer (some ⟨cb, 0, none⟩)) := hE.k5.cell 0
  have e1 := hC.c1
  have l5 := hE.k5.lt
  have lc := hC.lt
  have hB0 := (Below.refl _ w).alloc (Nat.le_refl _) (.cells #[Value.string { data := #[] }, Value.int .u8 0, Value.slice none 0 0, Value.slice none 0 0] 58)
  have HE := Lib.hid (hE.grown (grown_of_below hB0 (some cb)))
  have HC := Lib.hid (hC.below hB0 hC.lt)
  have HFK := Lib.hid hfk
  have HNM := Lib.hid hnm
  have HB0 := Lib.hid hB0
  have K4 := Lib.hid (Blk.new w 58 #[Value.string { data := #[] }, Value.int .u8 0, Value.slice none 0 0, Value.slice none 0 0])
  have hs0 : (w.alloc (.cells #[Value.string { data := #[] }, Value.int .u8 0, Value.slice none 0 0, Value.slice none 0 0] 58)).heap.size = w.heap.size + 1 := by simp
  clear hE hC hfk hnm hB0
  go_enter Tryz.func75, Tryz.ntmps75
  go_wp2_with fail
  generalize w.alloc (.cells #[Value.string { data := #[] }, Value.int .u8 0, Value.slice none 0 0, Value.slice none 0 0] 58) = w0 at *
  have HS0 := Lib.hid hs0
  clear e5 e1 hs0
  refine (word_any cb a s w0 HC.out ha hs).mono ?_
  rintro e w1 ⟨rfl, hC1, hG1⟩
  have HC1 := Lib.hid hC1
  have HG1 := Lib.hid hG1
  have HE1 := Lib.hid (HE.out.grown hG1)
  have hz1 : w.heap.size + 1 ≤ w1.heap.size := by have := hG1.size; have := HS0.out; omega
  have e4 : w1.cell? ⟨b4, 0, none⟩ = some (.map (some m)) := HE1.out.k4.cell 0
  clear hC1 hG1
  generalize hfr : wd (s.drop a) = fr at *
  have HFR := Lib.hid hfr
  clear hfr
  have hlk := lookup_kind HE1.out.km fr
  rw [HFK.out] at hlk
  go_wp2_with fail
  have hB1 : Below w1.heap.size w1 (w1.alloc (.cells #[Value.string { data := #[] }, Value.int .u8 K, Value.slice none 0 0, Value.slice none 0 0] 58)) := (Below.refl _ w1).alloc (Nat.le_refl _) _
  have HC2 := Lib.hid (HC1.out.below hB1 HC1.out.lt)
  have K72 := Lib.hid (Blk.new w1 58 #[Value.string { data := #[] }, Value.int .u8 K, Value.slice none 0 0, Value.slice none 0 0])
  have HG2 := Lib.hid (grown_below HG1.out hB1)
  have hs2 : (w1.alloc (.cells #[Value.string { data := #[] }, Value.int .u8 K, Value.slice none 0 0, Value.slice none 0 0] 58)).heap.size = w1.heap.size + 1 := by simp
  clear hB1 hlk e4
  generalize w1.alloc (.cells #[Value.string { data := #[] }, Value.int .u8 K, Value.slice none 0 0, Value.slice none 0 0] 58) = w2 at *
  have HS2 := Lib.hid hs2
  clear hs2
  have hne : w.heap.size ≠ w1.heap.size := by omega
  have hcn : cb ≠ w1.heap.size := by omega
  refine (IsName_v fr false HNM.out w2 (HE.out.grown HG2.out).env).mono ?_
  rintro e w3 ⟨rfl, rfl⟩
  have q0 := Blk.cell K72.out 0
  have q1 := Blk.cell K72.out 1
  have q2 := Blk.cell K72.out 2
  have q3 := Blk.cell K72.out 3
  simp only [List.getElem?_toArray, List.getElem?_cons_zero, List.getElem?_cons_succ] at q0 q1 q2 q3
  have z0 := K72.out.frozen 0
  have z1 := K72.out.frozen 1
  have e1 : w2.cell? ⟨b1, 0, none⟩ = some (.string (bs s)) := (HE.out.grown HG2.out).k1.cell 0
  have e5 : w2.cell? ⟨b5, 0, none⟩ = some (.pointer (some ⟨cb, 0, none⟩)) := (HE.out.grown HG2.out).k5.cell 0
  have ec := HC2.out.c1
  have hi1 : (a : Int) ≤ ((a + fr.length : Nat) : Int) := by omega
  have hi2 : a + fr.length ≤ (bs s).size := by rw [bs_size]; omega
  go_wp2
  go_region
  rw [HX.out]
  have K7e : Hid (Blk (w2.setCell ⟨w1.heap.size, 0, none⟩ (.string (bs T.pr))).drew w1.heap.size 58 #[.string (bs T.pr), .int .u8 K, .slice none 0 0, .slice none 0 0]) := Lib.hid (K72.out.set_ 0 _)
  have HGe : Hid (w0.grownBy (w2.setCell ⟨w1.heap.size, 0, none⟩ (.string (bs T.pr))).drew (some cb)) := Lib.hid (grown_drewN (grown_setCell HG2.out (.inr (by have := HG1.out.size; simp; omega)) _) 1)
  have HCe : Hid (Cur (w2.setCell ⟨w1.heap.size, 0, none⟩ (.string (bs T.pr))).drew cb s (a + fr.length)) := Lib.hid (Blk.far HC2.out (by simpa using hcn) _)
  have HSe : Hid (∀ g, g ≠ w1.heap.size → (w2.setCell ⟨w1.heap.size, 0, none⟩ (.string (bs T.pr))).drew.heap[g]? = w2.heap[g]?) := Lib.hid fun g hg => Below.heap_setCell _ _ _ g hg
  have hze : (w2.setCell ⟨w1.heap.size, 0, none⟩ (.string (bs T.pr))).drew.heap.size = w2.heap.size := by simp
  have K4e : Hid (Blk (w2.setCell ⟨w1.heap.size, 0, none⟩ (.string (bs T.pr))).drew w.heap.size 58 #[Value.string { data := #[] }, Value.int .u8 0, Value.slice none 0 0, Value.slice none 0 0]) := Lib.hid (K4.out.grown HGe.out (by simp; omega))
  generalize (w2.setCell ⟨w1.heap.size, 0, none⟩ (.string (bs T.pr))).drew = w9 at *
  have HZe := Lib.hid hze
  clear q0 q1 q2 q3 z0 e1 e5 ec hze hi1 hi2
  have q0 := Blk.cell K7e.out 0
  have q1 := Blk.cell K7e.out 1
  have q2 := Blk.cell K7e.out 2
  have q3 := Blk.cell K7e.out 3
  simp only [List.getElem?_toArray, List.getElem?_cons_zero, List.getElem?_cons_succ] at q0 q1 q2 q3
  have p0 := Blk.cell K4e.out 0
  have p1 := Blk.cell K4e.out 1
  have p2 := Blk.cell K4e.out 2
  have p3 := Blk.cell K4e.out 3
  simp only [List.getElem?_toArray, List.getElem?_cons_zero, List.getElem?_cons_succ] at p0 p1 p2 p3
  have y0 := K4e.out.frozen 0
  have y1 := K4e.out.frozen 1
  have y2 := K4e.out.frozen 2
  have y3 := K4e.out.frozen 3
  go_wp2
  have hcw : cb ≠ w.heap.size := by omega
  refine bodyPost_ret (ret_typ rfl ((((K4e.out.set_ 0 _).set_ 1 _).set_ 2 _).set_ 3 _)) rfl (.inl ⟨T, s.drop (a + fr.length), [.string (bs (T).pr), .int .u8 K, .slice none 0 0, .slice none 0 0], HNX.out, rfl, ?_, ?_, ?_⟩)
  · rw [← hTk]
    exact .mk T _ _ [] (.inl ⟨hnam, rfl⟩) (.inl ⟨rfl, rfl⟩) (by rw [hkid]; rfl) (fun i T' vs h => by rw [hkid] at h; simp at h)
  · rw [drop_len s (by omega)]
    exact Blk.far (Blk.far (Blk.far (Blk.far HCe.out hcw _) hcw _) hcw _) hcw _
  · exact grown_setCell (grown_setCell (grown_setCell (grown_setCell (grown_trans (grown_of_below HB0.out (some cb)) HGe.out) (.inr (Nat.le_refl _)) _) (.inr (Nat.le_refl _)) _) (.inr (Nat.le_refl _)) _) (.inr (Nat.le_refl _)) _

set_option maxRecDepth 100000 in
set_option maxHeartbeats 25600000 in
theorem next_nam (f b1 b4 b5 b6 cb m a : Nat) (s : Bys) (hs : s.length ≤ 1000) (w : World) (hE : NxE w b1 b4 b5 b6 cb m s) (hC : Cur w cb s a) (ha : a ≤ s.length) (T : Ty) (hfk : frontK (wd (s.drop a)) = 0) (hnm : isNameL (wd (s.drop a)) = true) (hsee : seeB s (a + (wd (s.drop a)).length) 91 = false)
    (hTk : T.kind = 7) (hkid : kidsOf T = []) (hnam : namesOf T = []) (hnx : nx (f + 1) (s.drop a) = some (T, s.drop (a + (wd (s.drop a)).length))) :
    Calls Tryz.prog 75 #[.pointer (some ⟨b5, 0, none⟩), .pointer (some ⟨b4, 0, none⟩), .pointer (some ⟨b6, 0, none⟩), .pointer (some ⟨b1, 0, none⟩)] w (NxPost (f + 1) cb s a w) := by
  have hwl := wd_len s a
  have hx := ext_of (nx_sound _ _ _ _ hnx).1 ha
  rw [drop_len s (by omega)] at hx
  have HX := Lib.hid hx
  have HNX := Lib.hid hnx
  clear hnx hx
  have HSEE := Lib.hid hsee
  clear hsee
  have e5 : w.cell? ⟨b5, 0, none⟩ = some (.pointer (some ⟨cb, 0, none⟩)) := hE.k5.cell 0
  have e1 := hC.c1
  have l5 := hE.k5.lt
  have lc := hC.lt
  have hB0 := (Below.refl _ w).alloc (Nat.le_refl _) (.cells #[Value.string { data := #[] }, Value.int .u8 0, Value.slice none 0 0, Value.slice none 0 0] 58)
  have HE := Lib.hid (hE.grown (grown_of_below hB0 (some cb)))
  have HC := Lib.hid (hC.below hB0 hC.lt)
  have HFK := Lib.hid hfk
  have HNM := Lib.hid hnm
  have HB0 := Lib.hid hB0
  have K4 := Lib.hid (Blk.new w 58 #[Value.string { data := #[] }, Value.int .u8 0, Value.slice none 0 0, Value.slice none 0 0])
  have hs0 : (w.alloc (.cells #[Value.string { data := #[] }, Value.int .u8 0, Value.slice none 0 0, Value.slice none 0 0] 58)).heap.size = w.heap.size + 1 := by simp
  clear hE hC hfk hnm hB0
  go_enter Tryz.func75, Tryz.ntmps75
  go_wp2_with fail
  generalize w.alloc (.cells #[Value.string { data := #[] }, Value.int .u8 0, Value.slice none 0 0, Value.slice none 0 0] 58) = w0 at *
  have HS0 := Lib.hid hs0
  clear e5 e1 hs0
  refine (word_any cb a s w0 HC.out ha hs).mono ?_
  rintro e w1 ⟨rfl, hC1, hG1⟩
  have HC1 := Lib.hid hC1
  have HG1 := Lib.hid hG1
  have HE1 := Lib.hid (HE.out.grown hG1)
  have hz1 : w.heap.size + 1 ≤ w1.heap.size := by have := hG1.size; have := HS0.out; omega
  have e4 : w1.cell? ⟨b4, 0, none⟩ = some (.map (some m)) := HE1.out.k4.cell 0
  clear hC1 hG1
  generalize hfr : wd (s.drop a) = fr at *
  have HFR := Lib.hid hfr
  clear hfr
  have hlk := lookup_kind HE1.out.km fr
  rw [HFK.out] at hlk
  go_wp2_with fail
  have hB1 : Below w1.heap.size w1 (w1.alloc (.cells #[Value.string { data := #[] }, Value.int .u8 0, Value.slice none 0 0, Value.slice none 0 0] 58)) := (Below.refl _ w1).alloc (Nat.le_refl _) _
  have HC2 := Lib.hid (HC1.out.below hB1 HC1.out.lt)
  have K72 := Lib.hid (Blk.new w1 58 #[Value.string { data := #[] }, Value.int .u8 0, Value.slice none 0 0, Value.slice none 0 0])
  have HG2 := Lib.hid (grown_below HG1.out hB1)
  have hs2 : (w1.alloc (.cells #[Value.string { data := #[] }, Value.int .u8 0, Value.slice none 0 0, Value.slice none 0 0] 58)).heap.size = w1.heap.size + 1 := by simp
  clear hB1 hlk e4
  generalize w1.alloc (.cells #[Value.string { data := #[] }, Value.int .u8 0, Value.slice none 0 0, Value.slice none 0 0] 58) = w2 at *
  have HS2 := Lib.hid hs2
  clear hs2
  have hne : w.heap.size ≠ w1.heap.size := by omega
  have hcn : cb ≠ w1.heap.size := by omega
  refine (IsName_v fr true HNM.out w2 (HE.out.grown HG2.out).env).mono ?_
  rintro e w3 ⟨rfl, rfl⟩
  have q0 := Blk.cell K72.out 0
  have q1 := Blk.cell K72.out 1
  have q2 := Blk.cell K72.out 2
  have q3 := Blk.cell K72.out 3
  simp only [List.getElem?_toArray, List.getElem?_cons_zero, List.getElem?_cons_succ] at q0 q1 q2 q3
  have z0 := K72.out.frozen 0
  have z1 := K72.out.frozen 1
  have e5 : (w2.setCell ⟨w1.heap.size, 1, none⟩ (.int .u8 7)).cell? ⟨b5, 0, none⟩ = some (.pointer (some ⟨cb, 0, none⟩)) := Blk.cell (Blk.far (HE.out.grown HG2.out).k5 (by simp; omega) _) 0
  go_wp2_with fail
  clear e5
  have K73 : Hid (Blk (w2.setCell ⟨w1.heap.size, 1, none⟩ (.int .u8 7)) w1.heap.size 58 #[.string { data := #[] }, .int .u8 7, .slice none 0 0, .slice none 0 0]) := Lib.hid (K72.out.set_ 1 _)
  have HC3 := Lib.hid (show Cur (w2.setCell ⟨w1.heap.size, 1, none⟩ (.int .u8 7)) cb s _ from Blk.far HC2.out (by simpa using hcn) _)
  have HG3 : Hid (w0.grownBy (w2.setCell ⟨w1.heap.size, 1, none⟩ (.int .u8 7)) (some cb)) := Lib.hid (grown_setCell HG2.out (.inr (by have := HG1.out.size; simp; omega)) _)
  clear q0 q1 q2 q3 z0 z1
  generalize (w2.setCell ⟨w1.heap.size, 1, none⟩ (.int .u8 7)) = w4 at *
  refine (sees_any cb (a + fr.length) s 91 false HSEE.out w4 HC3.out (by omega)).mono ?_
  rintro e w5 ⟨rfl, nq, rfl⟩
  have K75 : Hid (Blk (w4.drewN nq) w1.heap.size 58 #[.string { data := #[] }, .int .u8 7, .slice none 0 0, .slice none 0 0]) := Lib.hid (K73.out.drewN nq)
  have HC5 : Hid (Cur (w4.drewN nq) cb s (a + fr.length)) := Lib.hid (HC3.out.drewN nq)
  have HG5 : Hid (w0.grownBy (w4.drewN nq) (some cb)) := Lib.hid (grown_drewN HG3.out nq)
  generalize w4.drewN nq = w5 at *
  have q0 := Blk.cell K75.out 0
  have q1 := Blk.cell K75.out 1
  have q2 := Blk.cell K75.out 2
  have q3 := Blk.cell K75.out 3
  simp only [List.getElem?_toArray, List.getElem?_cons_zero, List.getElem?_cons_succ] at q0 q1 q2 q3
  have z0 := K75.out.frozen 0
  have e1 : w5.cell? ⟨b1, 0, none⟩ = some (.string (bs s)) := (HE.out.grown HG5.out).k1.cell 0
  have e5 : w5.cell? ⟨b5, 0, none⟩ = some (.pointer (some ⟨cb, 0, none⟩)) := (HE.out.grown HG5.out).k5.cell 0
  have ec := HC5.out.c1
  have hi1 : (a : Int) ≤ ((a + fr.length : Nat) : Int) := by omega
  have hi2 : a + fr.length ≤ (bs s).size := by rw [bs_size]; omega
  go_wp2
  go_region
  rw [HX.out]
  have K7e : Hid (Blk (w5.setCell ⟨w1.heap.size, 0, none⟩ (.string (bs T.pr))).drew w1.heap.size 58 #[.string (bs T.pr), .int .u8 7, .slice none 0 0, .slice none 0 0]) := Lib.hid (K75.out.set_ 0 _)
  have HGe : Hid (w0.grownBy (w5.setCell ⟨w1.heap.size, 0, none⟩ (.string (bs T.pr))).drew (some cb)) := Lib.hid (grown_drewN (grown_setCell HG5.out (.inr (by have := HG1.out.size; simp; omega)) _) 1)
  have HCe : Hid (Cur (w5.setCell ⟨w1.heap.size, 0, none⟩ (.string (bs T.pr))).drew cb s (a + fr.length)) := Lib.hid (Blk.far HC5.out (by simpa using hcn) _)
  have HSe : Hid (∀ g, g ≠ w1.heap.size → (w5.setCell ⟨w1.heap.size, 0, none⟩ (.string (bs T.pr))).drew.heap[g]? = w5.heap[g]?) := Lib.hid fun g hg => Below.heap_setCell _ _ _ g hg
  have hze : (w5.setCell ⟨w1.heap.size, 0, none⟩ (.string (bs T.pr))).drew.heap.size = w5.heap.size := by simp
  have K4e : Hid (Blk (w5.setCell ⟨w1.heap.size, 0, none⟩ (.string (bs T.pr))).drew w.heap.size 58 #[Value.string { data := #[] }, Value.int .u8 0, Value.slice none 0 0, Value.slice none 0 0]) := Lib.hid (K4.out.grown HGe.out (by simp; omega))
  generalize (w5.setCell ⟨w1.heap.size, 0, none⟩ (.string (bs T.pr))).drew = w9 at *
  have HZe := Lib.hid hze
  clear q0 q1 q2 q3 z0 e1 e5 ec hze hi1 hi2
  have q0 := Blk.cell K7e.out 0
  have q1 := Blk.cell K7e.out 1
  have q2 := Blk.cell K7e.out 2
  have q3 := Blk.cell K7e.out 3
  simp only [List.getElem?_toArray, List.getElem?_cons_zero, List.getElem?_cons_succ] at q0 q1 q2 q3
  have p0 := Blk.cell K4e.out 0
  have p1 := Blk.cell K4e.out 1
  have p2 := Blk.cell K4e.out 2
  have p3 := Blk.cell K4e.out 3
  simp only [List.getElem?_toArray, List.getElem?_cons_zero, List.getElem?_cons_succ] at p0 p1 p2 p3
  have y0 := K4e.out.frozen 0
  have y1 := K4e.out.frozen 1
  have y2 := K4e.out.frozen 2
  have y3 := K4e.out.frozen 3
  go_wp2
  have hcw : cb ≠ w.heap.size := by omega
  refine bodyPost_ret (ret_typ rfl ((((K4e.out.set_ 0 _).set_ 1 _).set_ 2 _).set_ 3 _)) rfl (.inl ⟨T, s.drop (a + fr.length), [.string (bs (T).pr), .int .u8 7, .slice none 0 0, .slice none 0 0], HNX.out, rfl, ?_, ?_, ?_⟩)
  · rw [← hTk]
    exact .mk T _ _ [] (.inl ⟨hnam, rfl⟩) (.inl ⟨rfl, rfl⟩) (by rw [hkid]; rfl) (fun i T' vs h => by rw [hkid] at h; simp at h)
  · rw [drop_len s (by omega)]
    exact Blk.far (Blk.far (Blk.far (Blk.far HCe.out hcw _) hcw _) hcw _) hcw _
  · exact grown_setCell (grown_setCell (grown_setCell (grown_setCell (grown_trans (grown_of_below HB0.out (some cb)) HGe.out) (.inr (Nat.le_refl _)) _) (.inr (Nat.le_refl _)) _) (.inr (Nat.le_refl _)) _) (.inr (Nat.le_refl _)) _

set_option maxRecDepth 100000 in
set_option maxHeartbeats 25600000 in
theorem next_none (f b1 b4 b5 b6 cb m a : Nat) (s : Bys) (hs : s.length ≤ 1000) (w : World) (hE : NxE w b1 b4 b5 b6 cb m s) (hC : Cur w cb s a) (ha : a ≤ s.length) (hfk : frontK (wd (s.drop a)) = 0) (hnm : isNameL (wd (s.drop a)) = false) (hnx : nx (f + 1) (s.drop a) = none) :
    Calls Tryz.prog 75 #[.pointer (some ⟨b5, 0, none⟩), .pointer (some ⟨b4, 0, none⟩), .pointer (some ⟨b6, 0, none⟩), .pointer (some ⟨b1, 0, none⟩)] w (NxPost (f + 1) cb s a w) := by
  have hwl := wd_len s a
  have HNX := Lib.hid hnx
  clear hnx
  have e5 : w.cell? ⟨b5, 0, none⟩ = some (.pointer (some ⟨cb, 0, none⟩)) := hE.k5.cell 0
  have e1 := hC.c1
  have l5 := hE.k5.lt
  have lc := hC.lt
  have hB0 := (Below.refl _ w).alloc (Nat.le_refl _) (.cells #[Value.string { data := #[] }, Value.int .u8 0, Value.slice none 0 0, Value.slice none 0 0] 58)
  have HE := Lib.hid (hE.grown (grown_of_below hB0 (some cb)))
  have HC := Lib.hid (hC.below hB0 hC.lt)
  have HFK := Lib.hid hfk
  have HNM := Lib.hid hnm
  have HB0 := Lib.hid hB0
  have K4 := Lib.hid (Blk.new w 58 #[Value.string { data := #[] }, Value.int .u8 0, Value.slice none 0 0, Value.slice none 0 0])
  have hs0 : (w.alloc (.cells #[Value.string { data := #[] }, Value.int .u8 0, Value.slice none 0 0, Value.slice none 0 0] 58)).heap.size = w.heap.size + 1 := by simp
  clear hE hC hfk hnm hB0
  go_enter Tryz.func75, Tryz.ntmps75
  go_wp2_with fail
  generalize w.alloc (.cells #[Value.string { data := #[] }, Value.int .u8 0, Value.slice none 0 0, Value.slice none 0 0] 58) = w0 at *
  have HS0 := Lib.hid hs0
  clear e5 e1 hs0
  refine (word_any cb a s w0 HC.out ha hs).mono ?_
  rintro e w1 ⟨rfl, hC1, hG1⟩
  have HC1 := Lib.hid hC1
  have HG1 := Lib.hid hG1
  have HE1 := Lib.hid (HE.out.grown hG1)
  have hz1 : w.heap.size + 1 ≤ w1.heap.size := by have := hG1.size; have := HS0.out; omega
  have e4 : w1.cell? ⟨b4, 0, none⟩ = some (.map (some m)) := HE1.out.k4.cell 0
  clear hC1 hG1
  generalize hfr : wd (s.drop a) = fr at *
  have HFR := Lib.hid hfr
  clear hfr
  have hlk := lookup_kind HE1.out.km fr
  rw [HFK.out] at hlk
  go_wp2_with fail
  have hB1 : Below w1.heap.size w1 (w1.alloc (.cells #[Value.string { data := #[] }, Value.int .u8 0, Value.slice none 0 0, Value.slice none 0 0] 58)) := (Below.refl _ w1).alloc (Nat.le_refl _) _
  have HC2 := Lib.hid (HC1.out.below hB1 HC1.out.lt)
  have K72 := Lib.hid (Blk.new w1 58 #[Value.string { data := #[] }, Value.int .u8 0, Value.slice none 0 0, Value.slice none 0 0])
  have HG2 := Lib.hid (grown_below HG1.out hB1)
  have hs2 : (w1.alloc (.cells #[Value.string { data := #[] }, Value.int .u8 0, Value.slice none 0 0, Value.slice none 0 0] 58)).heap.size = w1.heap.size + 1 := by simp
  clear hB1 hlk e4
  generalize w1.alloc (.cells #[Value.string { data := #[] }, Value.int .u8 0, Value.slice none 0 0, Value.slice none 0 0] 58) = w2 at *
  have HS2 := Lib.hid hs2
  clear hs2
  have hne : w.heap.size ≠ w1.heap.size := by omega
  have hcn : cb ≠ w1.heap.size := by omega
  refine (IsName_v fr false HNM.out w2 (HE.out.grown HG2.out).env).mono ?_
  rintro e w3 ⟨rfl, rfl⟩
  have q0 := Blk.cell K72.out 0
  have q1 := Blk.cell K72.out 1
  have q2 := Blk.cell K72.out 2
  have q3 := Blk.cell K72.out 3
  simp only [List.getElem?_toArray, List.getElem?_cons_zero, List.getElem?_cons_succ] at q0 q1 q2 q3
  have z0 := K72.out.frozen 0
  have z1 := K72.out.frozen 1
  go_wp2
  exact ⟨rfl, .inr ⟨HNX.out, rfl, grown_trans (grown_of_below HB0.out (some cb)) HG2.out⟩⟩

set_option maxRecDepth 100000 in
set_option maxHeartbeats 25600000 in
theorem next_arr (f b1 b4 b5 b6 cb m a : Nat) (s : Bys) (hs : s.length ≤ 1000) (w : World) (hE : NxE w b1 b4 b5 b6 cb m s) (hC : Cur w cb s a) (ha : a ≤ s.length) (C : Ty → Ty) (H : NextC f b1 b4 b5 b6 cb m s) (hf : s.length - a ≤ f) (hfk : frontK (wd (s.drop a)) = 4) (hnm : isNameL (wd (s.drop a)) = false)
    (hTk : ∀ t, (C t).kind = 4) (hkid : ∀ t, kidsOf (C t) = [t]) (hnam : ∀ t, namesOf (C t) = []) (hnx : nx (f + 1) (s.drop a) = (rdB (nx f) (s.drop (a + (wd (s.drop a)).length))).map fun p => (C p.1, p.2)) :
    Calls Tryz.prog 75 #[.pointer (some ⟨b5, 0, none⟩), .pointer (some ⟨b4, 0, none⟩), .pointer (some ⟨b6, 0, none⟩), .pointer (some ⟨b1, 0, none⟩)] w (NxPost (f + 1) cb s a w) := by
  have hwl := wd_len s a
  have HNX0 := Lib.hid hnx
  have HN := Lib.hid H
  clear hnx H
  have e5 : w.cell? ⟨b5, 0, none⟩ = some (.pointer (some ⟨cb, 0, none⟩)) := hE.k5.cell 0
  have e1 := hC.c1
  have l5 := hE.k5.lt
  have lc := hC.lt
  have hB0 := (Below.refl _ w).alloc (Nat.le_refl _) (.cells #[Value.string { data := #[] }, Value.int .u8 0, Value.slice none 0 0, Value.slice none 0 0] 58)
  have HE := Lib.hid (hE.grown (grown_of_below hB0 (some cb)))
  have HC := Lib.hid (hC.below hB0 hC.lt)
  have HFK := Lib.hid hfk
  have HNM := Lib.hid hnm
  have HB0 := Lib.hid hB0
  have K4 := Lib.hid (Blk.new w 58 #[Value.string { data := #[] }, Value.int .u8 0, Value.slice none 0 0, Value.slice none 0 0])
  have hs0 : (w.alloc (.cells #[Value.string { data := #[] }, Value.int .u8 0, Value.slice none 0 0, Value.slice none 0 0] 58)).heap.size = w.heap.size + 1 := by simp
  clear hE hC hfk hnm hB0
  go_enter Tryz.func75, Tryz.ntmps75
  go_wp2_with fail
  generalize w.alloc (.cells #[Value.string { data := #[] }, Value.int .u8 0, Value.slice none 0 0, Value.slice none 0 0] 58) = w0 at *
  have HS0 := Lib.hid hs0
  clear e5 e1 hs0
  refine (word_any cb a s w0 HC.out ha hs).mono ?_
  rintro e w1 ⟨rfl, hC1, hG1⟩
  have HC1 := Lib.hid hC1
  have HG1 := Lib.hid hG1
  have HE1 := Lib.hid (HE.out.grown hG1)
  have hz1 : w.heap.size + 1 ≤ w1.heap.size := by have := hG1.size; have := HS0.out; omega
  have e4 : w1.cell? ⟨b4, 0, none⟩ = some (.map (some m)) := HE1.out.k4.cell 0
  clear hC1 hG1
  generalize hfr : wd (s.drop a) = fr at *
  have HFR := Lib.hid hfr
  clear hfr
  have hlk := lookup_kind HE1.out.km fr
  rw [HFK.out] at hlk
  go_wp2_with fail
  have hB1 : Below w1.heap.size w1 (w1.alloc (.cells #[Value.string { data := #[] }, Value.int .u8 4, Value.slice none 0 0, Value.slice none 0 0] 58)) := (Below.refl _ w1).alloc (Nat.le_refl _) _
  have HC2 := Lib.hid (HC1.out.below hB1 HC1.out.lt)
  have K72 := Lib.hid (Blk.new w1 58 #[Value.string { data := #[] }, Value.int .u8 4, Value.slice none 0 0, Value.slice none 0 0])
  have HG2 := Lib.hid (grown_below HG1.out hB1)
  have hs2 : (w1.alloc (.cells #[Value.string { data := #[] }, Value.int .u8 4, Value.slice none 0 0, Value.slice none 0 0] 58)).heap.size = w1.heap.size + 1 := by simp
  clear hB1 hlk e4
  generalize w1.alloc (.cells #[Value.string { data := #[] }, Value.int .u8 4, Value.slice none 0 0, Value.slice none 0 0] 58) = w2 at *
  have HS2 := Lib.hid hs2
  clear hs2
  have hne : w.heap.size ≠ w1.heap.size := by omega
  have hcn : cb ≠ w1.heap.size := by omega
  refine (IsName_v fr false HNM.out w2 (HE.out.grown HG2.out).env).mono ?_
  rintro e w3 ⟨rfl, rfl⟩
  have q0 := Blk.cell K72.out 0
  have q1 := Blk.cell K72.out 1
  have q2 := Blk.cell K72.out 2
  have q3 := Blk.cell K72.out 3
  simp only [List.getElem?_toArray, List.getElem?_cons_zero, List.getElem?_cons_succ] at q0 q1 q2 q3
  have z0 := K72.out.frozen 0
  have z1 := K72.out.frozen 1
  have e5 : w2.cell? ⟨b5, 0, none⟩ = some (.pointer (some ⟨cb, 0, none⟩)) := (HE.out.grown HG2.out).k5.cell 0
  have e6 : w2.cell? ⟨b6, 0, none⟩ = some (nextF b1 b4 b5 b6) := (HE.out.grown HG2.out).k6.cell 0
  unfold nextF at e6
  go_wp2_with fail
  have hw2 : w1.heap.size < w2.heap.size := K72.out.lt
  clear e5 e6
  refine (arg_any f b1 b4 b5 b6 cb m (a + fr.length) s hs HN.out w2 (HE.out.grown HG2.out) HC2.out (by omega) (by omega)).mono ?_
  rintro e w6 (⟨t, r, vk, ks, hB, rfl, hK, hT, hC6, hG6⟩ | ⟨hB, rfl, hG6⟩)
  · have hnx := HNX0.out
    rw [hB] at hnx
    have hx := ext_of (nx_sound _ _ _ _ hnx).1 ha
    have hrl := (suffix_drop a (nx_sound _ _ _ _ hnx).1).2
    obtain ⟨ak, nk, ck, rfl⟩ := hK.shape
    have HX := Lib.hid hx
    have HNX := Lib.hid hnx
    have HK := Lib.hid hK
    have HT := Lib.hid hT
    have HC6 := Lib.hid hC6
    have HG6 := Lib.hid (grown_trans HG2.out hG6)
    have K76 : Hid (Blk w6 w1.heap.size 58 #[.string { data := #[] }, .int .u8 4, .slice none 0 0, .slice none 0 0]) := Lib.hid (K72.out.grown hG6 (by simpa using hcn.symm))
    have hz6 : w2.heap.size ≤ w6.heap.size := hG6.size
    clear hnx hx hB hK hT hC6 hG6 q0 q1 q2 q3 z0 z1
    have q0 := Blk.cell K76.out 0
    have q1 := Blk.cell K76.out 1
    have q2 := Blk.cell K76.out 2
    have q3 := Blk.cell K76.out 3
    simp only [List.getElem?_toArray, List.getElem?_cons_zero, List.getElem?_cons_succ] at q0 q1 q2 q3
    have z3 := K76.out.frozen 3
    go_upto_region 10 with (fail)
    have K77 : Hid (Blk (w6.setCell ⟨w1.heap.size, 3, none⟩ (.slice ak nk ck)) w1.heap.size 58 #[.string { data := #[] }, .int .u8 4, .slice none 0 0, .slice ak nk ck]) := Lib.hid (K76.out.set_ 3 _)
    have HC7 := Lib.hid (show Cur (w6.setCell ⟨w1.heap.size, 3, none⟩ (.slice ak nk ck)) cb s _ from Blk.far HC6.out (by simpa using hcn) _)
    have HG7 : Hid (w0.grownBy (w6.setCell ⟨w1.heap.size, 3, none⟩ (.slice ak nk ck)) (some cb)) := Lib.hid (grown_setCell HG6.out (.inr (by have := HG1.out.size; simp; omega)) _)
    have HS7 : Hid (∀ g, g ≠ w1.heap.size → (w6.setCell ⟨w1.heap.size, 3, none⟩ (.slice ak nk ck)).heap[g]? = w6.heap[g]?) := Lib.hid fun g hg => Below.heap_setCell _ _ _ g hg
    have hz7 : (w6.setCell ⟨w1.heap.size, 3, none⟩ (.slice ak nk ck)).heap.size = w6.heap.size := by simp
    clear q0 q1 q2 q3 z3
    generalize (w6.setCell ⟨w1.heap.size, 3, none⟩ (.slice ak nk ck)) = w7 at *
    have q0 := Blk.cell K77.out 0
    have q1 := Blk.cell K77.out 1
    have q2 := Blk.cell K77.out 2
    have q3 := Blk.cell K77.out 3
    simp only [List.getElem?_toArray, List.getElem?_cons_zero, List.getElem?_cons_succ] at q0 q1 q2 q3
    have z0 := K77.out.frozen 0
    have e1 : w7.cell? ⟨b1, 0, none⟩ = some (.string (bs s)) := (HE.out.grown HG7.out).k1.cell 0
    have e5 : w7.cell? ⟨b5, 0, none⟩ = some (.pointer (some ⟨cb, 0, none⟩)) := (HE.out.grown HG7.out).k5.cell 0
    have ec := HC7.out.c1
    have hi1 : (a : Int) ≤ ((s.length - r.length : Nat) : Int) := by omega
    have hi2 : s.length - r.length ≤ (bs s).size := by rw [bs_size]; omega
    go_wp2
    go_region
    rw [HX.out]
    have K7e : Hid (Blk (w7.setCell ⟨w1.heap.size, 0, none⟩ (.string (bs (C t).pr))).drew w1.heap.size 58 #[.string (bs (C t).pr), .int .u8 4, .slice none 0 0, .slice ak nk ck]) := Lib.hid (K77.out.set_ 0 _)
    have HGe : Hid (w0.grownBy (w7.setCell ⟨w1.heap.size, 0, none⟩ (.string (bs (C t).pr))).drew (some cb)) := Lib.hid (grown_drewN (grown_setCell HG7.out (.inr (by have := HG1.out.size; simp; omega)) _) 1)
    have HCe : Hid (Cur (w7.setCell ⟨w1.heap.size, 0, none⟩ (.string (bs (C t).pr))).drew cb s (s.length - r.length)) := Lib.hid (Blk.far HC7.out (by simpa using hcn) _)
    have HSe : Hid (∀ g, g ≠ w1.heap.size → (w7.setCell ⟨w1.heap.size, 0, none⟩ (.string (bs (C t).pr))).drew.heap[g]? = w7.heap[g]?) := Lib.hid fun g hg => Below.heap_setCell _ _ _ g hg
    have hze : (w7.setCell ⟨w1.heap.size, 0, none⟩ (.string (bs (C t).pr))).drew.heap.size = w7.heap.size := by simp
    have K4e : Hid (Blk (w7.setCell ⟨w1.heap.size, 0, none⟩ (.string (bs (C t).pr))).drew w.heap.size 58 #[Value.string { data := #[] }, Value.int .u8 0, Value.slice none 0 0, Value.slice none 0 0]) := Lib.hid (K4.out.grown HGe.out (by simp; omega))
    generalize (w7.setCell ⟨w1.heap.size, 0, none⟩ (.string (bs (C t).pr))).drew = w9 at *
    have HZe := Lib.hid hze
    clear q0 q1 q2 q3 z0 e1 e5 ec hze hi1 hi2
    have q0 := Blk.cell K7e.out 0
    have q1 := Blk.cell K7e.out 1
    have q2 := Blk.cell K7e.out 2
    have q3 := Blk.cell K7e.out 3
    simp only [List.getElem?_toArray, List.getElem?_cons_zero, List.getElem?_cons_succ] at q0 q1 q2 q3
    have p0 := Blk.cell K4e.out 0
    have p1 := Blk.cell K4e.out 1
    have p2 := Blk.cell K4e.out 2
    have p3 := Blk.cell K4e.out 3
    simp only [List.getElem?_toArray, List.getElem?_cons_zero, List.getElem?_cons_succ] at p0 p1 p2 p3
    have y0 := K4e.out.frozen 0
    have y1 := K4e.out.frozen 1
    have y2 := K4e.out.frozen 2
    have y3 := K4e.out.frozen 3
    go_wp2
    have hcw : cb ≠ w.heap.size := by omega
    refine bodyPost_ret (ret_typ rfl ((((K4e.out.set_ 0 _).set_ 1 _).set_ 2 _).set_ 3 _)) rfl (.inl ⟨(C t), r, [.string (bs ((C t)).pr), .int .u8 4, .slice none 0 0, .slice ak nk ck], HNX.out, rfl, ?_, ?_, ?_⟩)
    · rw [← hTk t]
      refine .mk (C t) _ _ [ks] (.inl ⟨hnam t, rfl⟩) ((HK.out.keep (by simp; have := HZe.out; omega) (fun g hg hl => (Below.heap_setCell _ _ _ g (by simp; omega)).trans ((Below.heap_setCell _ _ _ g (by simp; omega)).trans ((Below.heap_setCell _ _ _ g (by simp; omega)).trans ((Below.heap_setCell _ _ _ g (by simp; omega)).trans ((HSe.out g (by omega)).trans (HS7.out g (by omega)))))))).mono (fun g hg _ => by omega)) (by rw [hkid]; rfl) (fun i T' vs hi hv => ?_)
      rw [hkid] at hi
      cases i with
      | zero =>
        simp at hi hv
        subst hi hv
        exact (HT.out.keep (by simp; have := HZe.out; omega) (fun g hg hl => (Below.heap_setCell _ _ _ g (by simp; omega)).trans ((Below.heap_setCell _ _ _ g (by simp; omega)).trans ((Below.heap_setCell _ _ _ g (by simp; omega)).trans ((Below.heap_setCell _ _ _ g (by simp; omega)).trans ((HSe.out g (by omega)).trans (HS7.out g (by omega)))))))).mono (fun g hg _ => by omega)
      | succ i => simp at hi
    · exact Blk.far (Blk.far (Blk.far (Blk.far HCe.out hcw _) hcw _) hcw _) hcw _
    · exact grown_setCell (grown_setCell (grown_setCell (grown_setCell (grown_trans (grown_of_below HB0.out (some cb)) HGe.out) (.inr (Nat.le_refl _)) _) (.inr (Nat.le_refl _)) _) (.inr (Nat.le_refl _)) _) (.inr (Nat.le_refl _)) _
  · refine ⟨rfl, .inr ⟨?_, rfl, grown_trans (grown_of_below HB0.out (some cb)) (grown_trans HG2.out hG6)⟩⟩
    have h := HNX0.out
    rw [hB] at h
    exact h

set_option maxRecDepth 100000 in
set_option maxHeartbeats 25600000 in
theorem next_app (f b1 b4 b5 b6 cb m a : Nat) (s : Bys) (hs : s.length ≤ 1000) (w : World) (hE : NxE w b1 b4 b5 b6 cb m s) (hC : Cur w cb s a) (ha : a ≤ s.length) (C : Ty → Ty) (H : NextC f b1 b4 b5 b6 cb m s) (hf : s.length - a ≤ f) (hfk : frontK (wd (s.drop a)) = 0) (hnm : isNameL (wd (s.drop a)) = true) (hsee : seeB s (a + (wd (s.drop a)).length) 91 = true)
    (hTk : ∀ t, (C t).kind = 7) (hkid : ∀ t, kidsOf (C t) = [t]) (hnam : ∀ t, namesOf (C t) = []) (hnx : nx (f + 1) (s.drop a) = (rdB (nx f) (s.drop (a + (wd (s.drop a)).length))).map fun p => (C p.1, p.2)) :
    Calls Tryz.prog 75 #[.pointer (some ⟨b5, 0, none⟩), .pointer (some ⟨b4, 0, none⟩), .pointer (some ⟨b6, 0, none⟩), .pointer (some ⟨b1, 0, none⟩)] w (NxPost (f + 1) cb s a w) := by
  have hwl := wd_len s a
  have HNX0 := Lib.hid hnx
  have HN := Lib.hid H
  clear hnx H
  have HSEE := Lib.hid hsee
  clear hsee
  have e5 : w.cell? ⟨b5, 0, none⟩ = some (.pointer (some ⟨cb, 0, none⟩)) := hE.k5.cell 0
  have e1 := hC.c1
  have l5 := hE.k5.lt
  have lc := hC.lt
  have hB0 := (Below.refl _ w).alloc (Nat.le_refl _) (.cells #[Value.string { data := #[] }, Value.int .u8 0, Value.slice none 0 0, Value.slice none 0 0] 58)
  have HE := Lib.hid (hE.grown (grown_of_below hB0 (some cb)))
  have HC := Lib.hid (hC.below hB0 hC.lt)
  have HFK := Lib.hid hfk
  have HNM := Lib.hid hnm
  have HB0 := Lib.hid hB0
  have K4 := Lib.hid (Blk.new w 58 #[Value.string { data := #[] }, Value.int .u8 0, Value.slice none 0 0, Value.slice none 0 0])
  have hs0 : (w.alloc (.cells #[Value.string { data := #[] }, Value.int .u8 0, Value.slice none 0 0, Value.slice none 0 0] 58)).heap.size = w.heap.size + 1 := by simp
  clear hE hC hfk hnm hB0
  go_enter Tryz.func75, Tryz.ntmps75
  go_wp2_with fail
  generalize w.alloc (.cells #[Value.string { data := #[] }, Value.int .u8 0, Value.slice none 0 0, Value.slice none 0 0] 58) = w0 at *
  have HS0 := Lib.hid hs0
  clear e5 e1 hs0
  refine (word_any cb a s w0 HC.out ha hs).mono ?_
  rintro e w1 ⟨rfl, hC1, hG1⟩
  have HC1 := Lib.hid hC1
  have HG1 := Lib.hid hG1
  have HE1 := Lib.hid (HE.out.grown hG1)
  have hz1 : w.heap.size + 1 ≤ w1.heap.size := by have := hG1.size; have := HS0.out; omega
  have e4 : w1.cell? ⟨b4, 0, none⟩ = some (.map (some m)) := HE1.out.k4.cell 0
  clear hC1 hG1
  generalize hfr : wd (s.drop a) = fr at *
  have HFR := Lib.hid hfr
  clear hfr
  have hlk := lookup_kind HE1.out.km fr
  rw [HFK.out] at hlk
  go_wp2_with fail
  have hB1 : Below w1.heap.size w1 (w1.alloc (.cells #[Value.string { data := #[] }, Value.int .u8 0, Value.slice none 0 0, Value.slice none 0 0] 58)) := (Below.refl _ w1).alloc (Nat.le_refl _) _
  have HC2 := Lib.hid (HC1.out.below hB1 HC1.out.lt)
  have K72 := Lib.hid (Blk.new w1 58 #[Value.string { data := #[] }, Value.int .u8 0, Value.slice none 0 0, Value.slice none 0 0])
  have HG2 := Lib.hid (grown_below HG1.out hB1)
  have hs2 : (w1.alloc (.cells #[Value.string { data := #[] }, Value.int .u8 0, Value.slice none 0 0, Value.slice none 0 0] 58)).heap.size = w1.heap.size + 1 := by simp
  clear hB1 hlk e4
  generalize w1.alloc (.cells #[Value.string { data := #[] }, Value.int .u8 0, Value.slice none 0 0, Value.slice none 0 0] 58) = w2 at *
  have HS2 := Lib.hid hs2
  clear hs2
  have hne : w.heap.size ≠ w1.heap.size := by omega
  have hcn : cb ≠ w1.heap.size := by omega
  refine (IsName_v fr true HNM.out w2 (HE.out.grown HG2.out).env).mono ?_
  rintro e w3 ⟨rfl, rfl⟩
  have q0 := Blk.cell K72.out 0
  have q1 := Blk.cell K72.out 1
  have q2 := Blk.cell K72.out 2
  have q3 := Blk.cell K72.out 3
  simp only [List.getElem?_toArray, List.getElem?_cons_zero, List.getElem?_cons_succ] at q0 q1 q2 q3
  have z0 := K72.out.frozen 0
  have z1 := K72.out.frozen 1
  have e5 : (w2.setCell ⟨w1.heap.size, 1, none⟩ (.int .u8 7)).cell? ⟨b5, 0, none⟩ = some (.pointer (some ⟨cb, 0, none⟩)) := Blk.cell (Blk.far (HE.out.grown HG2.out).k5 (by simp; omega) _) 0
  go_wp2_with fail
  clear e5
  have K73 : Hid (Blk (w2.setCell ⟨w1.heap.size, 1, none⟩ (.int .u8 7)) w1.heap.size 58 #[.string { data := #[] }, .int .u8 7, .slice none 0 0, .slice none 0 0]) := Lib.hid (K72.out.set_ 1 _)
  have HC3 := Lib.hid (show Cur (w2.setCell ⟨w1.heap.size, 1, none⟩ (.int .u8 7)) cb s _ from Blk.far HC2.out (by simpa using hcn) _)
  have HG3 : Hid (w0.grownBy (w2.setCell ⟨w1.heap.size, 1, none⟩ (.int .u8 7)) (some cb)) := Lib.hid (grown_setCell HG2.out (.inr (by have := HG1.out.size; simp; omega)) _)
  clear q0 q1 q2 q3 z0 z1
  generalize (w2.setCell ⟨w1.heap.size, 1, none⟩ (.int .u8 7)) = w4 at *
  refine (sees_any cb (a + fr.length) s 91 true HSEE.out w4 HC3.out (by omega)).mono ?_
  rintro e w5 ⟨rfl, nq, rfl⟩
  have K75 : Hid (Blk (w4.drewN nq) w1.heap.size 58 #[.string { data := #[] }, .int .u8 7, .slice none 0 0, .slice none 0 0]) := Lib.hid (K73.out.drewN nq)
  have HC5 : Hid (Cur (w4.drewN nq) cb s (a + fr.length)) := Lib.hid (HC3.out.drewN nq)
  have HG5 : Hid (w0.grownBy (w4.drewN nq) (some cb)) := Lib.hid (grown_drewN HG3.out nq)
  generalize w4.drewN nq = w5 at *
  have q0 := Blk.cell K75.out 0
  have q1 := Blk.cell K75.out 1
  have q2 := Blk.cell K75.out 2
  have q3 := Blk.cell K75.out 3
  simp only [List.getElem?_toArray, List.getElem?_cons_zero, List.getElem?_cons_succ] at q0 q1 q2 q3
  have z0 := K75.out.frozen 0
  have e5 : w5.cell? ⟨b5, 0, none⟩ = some (.pointer (some ⟨cb, 0, none⟩)) := (HE.out.grown HG5.out).k5.cell 0
  have e6 : w5.cell? ⟨b6, 0, none⟩ = some (nextF b1 b4 b5 b6) := (HE.out.grown HG5.out).k6.cell 0
  unfold nextF at e6
  go_wp2_with fail
  have hw2 : w1.heap.size < w5.heap.size := K75.out.lt
  clear e5 e6
  refine (arg_any f b1 b4 b5 b6 cb m (a + fr.length) s hs HN.out w5 (HE.out.grown HG5.out) HC5.out (by omega) (by omega)).mono ?_
  rintro e w6 (⟨t, r, vk, ks, hB, rfl, hK, hT, hC6, hG6⟩ | ⟨hB, rfl, hG6⟩)
  · have hnx := HNX0.out
    rw [hB] at hnx
    have hx := ext_of (nx_sound _ _ _ _ hnx).1 ha
    have hrl := (suffix_drop a (nx_sound _ _ _ _ hnx).1).2
    obtain ⟨ak, nk, ck, rfl⟩ := hK.shape
    have HX := Lib.hid hx
    have HNX := Lib.hid hnx
    have HK := Lib.hid hK
    have HT := Lib.hid hT
    have HC6 := Lib.hid hC6
    have HG6 := Lib.hid (grown_trans HG5.out hG6)
    have K76 : Hid (Blk w6 w1.heap.size 58 #[.string { data := #[] }, .int .u8 7, .slice none 0 0, .slice none 0 0]) := Lib.hid (K75.out.grown hG6 (by simpa using hcn.symm))
    have hz6 : w5.heap.size ≤ w6.heap.size := hG6.size
    clear hnx hx hB hK hT hC6 hG6 q0 q1 q2 q3 z0
    have q0 := Blk.cell K76.out 0
    have q1 := Blk.cell K76.out 1
    have q2 := Blk.cell K76.out 2
    have q3 := Blk.cell K76.out 3
    simp only [List.getElem?_toArray, List.getElem?_cons_zero, List.getElem?_cons_succ] at q0 q1 q2 q3
    have z3 := K76.out.frozen 3
    go_upto_region 10 with (fail)
    have K77 : Hid (Blk (w6.setCell ⟨w1.heap.size, 3, none⟩ (.slice ak nk ck)) w1.heap.size 58 #[.string { data := #[] }, .int .u8 7, .slice none 0 0, .slice ak nk ck]) := Lib.hid (K76.out.set_ 3 _)
    have HC7 := Lib.hid (show Cur (w6.setCell ⟨w1.heap.size, 3, none⟩ (.slice ak nk ck)) cb s _ from Blk.far HC6.out (by simpa using hcn) _)
    have HG7 : Hid (w0.grownBy (w6.setCell ⟨w1.heap.size, 3, none⟩ (.slice ak nk ck)) (some cb)) := Lib.hid (grown_setCell HG6.out (.inr (by have := HG1.out.size; simp; omega)) _)
    have HS7 : Hid (∀ g, g ≠ w1.heap.size → (w6.setCell ⟨w1.heap.size, 3, none⟩ (.slice ak nk ck)).heap[g]? = w6.heap[g]?) := Lib.hid fun g hg => Below.heap_setCell _ _ _ g hg
    have hz7 : (w6.setCell ⟨w1.heap.size, 3, none⟩ (.slice ak nk ck)).heap.size = w6.heap.size := by simp
    clear q0 q1 q2 q3 z3
    generalize (w6.setCell ⟨w1.heap.size, 3, none⟩ (.slice ak nk ck)) = w7 at *
    have q0 := Blk.cell K77.out 0
    have q1 := Blk.cell K77.out 1
    have q2 := Blk.cell K77.out 2
    have q3 := Blk.cell K77.out 3
    simp only [List.getElem?_toArray, List.getElem?_cons_zero, List.getElem?_cons_succ] at q0 q1 q2 q3
    have z0 := K77.out.frozen 0
    have e1 : w7.cell? ⟨b1, 0, none⟩ = some (.string (bs s)) := (HE.out.grown HG7.out).k1.cell 0
    have e5 : w7.cell? ⟨b5, 0, none⟩ = some (.pointer (some ⟨cb, 0, none⟩)) := (HE.out.grown HG7.out).k5.cell 0
    have ec := HC7.out.c1
    have hi1 : (a : Int) ≤ ((s.length - r.length : Nat) : Int) := by omega
    have hi2 : s.length - r.length ≤ (bs s).size := by rw [bs_size]; omega
    go_wp2
    go_region
    rw [HX.out]
    have K7e : Hid (Blk (w7.setCell ⟨w1.heap.size, 0, none⟩ (.string (bs (C t).pr))).drew w1.heap.size 58 #[.string (bs (C t).pr), .int .u8 7, .slice none 0 0, .slice ak nk ck]) := Lib.hid (K77.out.set_ 0 _)
    have HGe : Hid (w0.grownBy (w7.setCell ⟨w1.heap.size, 0, none⟩ (.string (bs (C t).pr))).drew (some cb)) := Lib.hid (grown_drewN (grown_setCell HG7.out (.inr (by have := HG1.out.size; simp; omega)) _) 1)
    have HCe : Hid (Cur (w7.setCell ⟨w1.heap.size, 0, none⟩ (.string (bs (C t).pr))).drew cb s (s.length - r.length)) := Lib.hid (Blk.far HC7.out (by simpa using hcn) _)
    have HSe : Hid (∀ g, g ≠ w1.heap.size → (w7.setCell ⟨w1.heap.size, 0, none⟩ (.string (bs (C t).pr))).drew.heap[g]? = w7.heap[g]?) := Lib.hid fun g hg => Below.heap_setCell _ _ _ g hg
    have hze : (w7.setCell ⟨w1.heap.size, 0, none⟩ (.string (bs (C t).pr))).drew.heap.size = w7.heap.size := by simp
    have K4e : Hid (Blk (w7.setCell ⟨w1.heap.size, 0, none⟩ (.string (bs (C t).pr))).drew w.heap.size 58 #[Value.string { data := #[] }, Value.int .u8 0, Value.slice none 0 0, Value.slice none 0 0]) := Lib.hid (K4.out.grown HGe.out (by simp; omega))
    generalize (w7.setCell ⟨w1.heap.size, 0, none⟩ (.string (bs (C t).pr))).drew = w9 at *
    have HZe := Lib.hid hze
    clear q0 q1 q2 q3 z0 e1 e5 ec hze hi1 hi2
    have q0 := Blk.cell K7e.out 0
    have q1 := Blk.cell K7e.out 1
    have q2 := Blk.cell K7e.out 2
    have q3 := Blk.cell K7e.out 3
    simp only [List.getElem?_toArray, List.getElem?_cons_zero, List.getElem?_cons_succ] at q0 q1 q2 q3
    have p0 := Blk.cell K4e.out 0
    have p1 := Blk.cell K4e.out 1
    have p2 := Blk.cell K4e.out 2
    have p3 := Blk.cell K4e.out 3
    simp only [List.getElem?_toArray, List.getElem?_cons_zero, List.getElem?_cons_succ] at p0 p1 p2 p3
    have y0 := K4e.out.frozen 0
    have y1 := K4e.out.frozen 1
    have y2 := K4e.out.frozen 2
    have y3 := K4e.out.frozen 3
    go_wp2
    have hcw : cb ≠ w.heap.size := by omega
    refine bodyPost_ret (ret_typ rfl ((((K4e.out.set_ 0 _).set_ 1 _).set_ 2 _).set_ 3 _)) rfl (.inl ⟨(C t), r, [.string (bs ((C t)).pr), .int .u8 7, .slice none 0 0, .slice ak nk ck], HNX.out, rfl, ?_, ?_, ?_⟩)
    · rw [← hTk t]
      refine .mk (C t) _ _ [ks] (.inl ⟨hnam t, rfl⟩) ((HK.out.keep (by simp; have := HZe.out; omega) (fun g hg hl => (Below.heap_setCell _ _ _ g (by simp; omega)).trans ((Below.heap_setCell _ _ _ g (by simp; omega)).trans ((Below.heap_setCell _ _ _ g (by simp; omega)).trans ((Below.heap_setCell _ _ _ g (by simp; omega)).trans ((HSe.out g (by omega)).trans (HS7.out g (by omega)))))))).mono (fun g hg _ => by omega)) (by rw [hkid]; rfl) (fun i T' vs hi hv => ?_)
      rw [hkid] at hi
      cases i with
      | zero =>
        simp at hi hv
        subst hi hv
        exact (HT.out.keep (by simp; have := HZe.out; omega) (fun g hg hl => (Below.heap_setCell _ _ _ g (by simp; omega)).trans ((Below.heap_setCell _ _ _ g (by simp; omega)).trans ((Below.heap_setCell _ _ _ g (by simp; omega)).trans ((Below.heap_setCell _ _ _ g (by simp; omega)).trans ((HSe.out g (by omega)).trans (HS7.out g (by omega)))))))).mono (fun g hg _ => by omega)
      | succ i => simp at hi
    · exact Blk.far (Blk.far (Blk.far (Blk.far HCe.out hcw _) hcw _) hcw _) hcw _
    · exact grown_setCell (grown_setCell (grown_setCell (grown_setCell (grown_trans (grown_of_below HB0.out (some cb)) HGe.out) (.inr (Nat.le_refl _)) _) (.inr (Nat.le_refl _)) _) (.inr (Nat.le_refl _)) _) (.inr (Nat.le_refl _)) _
  · refine ⟨rfl, .inr ⟨?_, rfl, grown_trans (grown_of_below HB0.out (some cb)) (grown_trans HG5.out hG6)⟩⟩
    have h := HNX0.out
    rw [hB] at h
    exact h
end Go.Proofs.YthcoppfdffhjfaaGreatDoor
