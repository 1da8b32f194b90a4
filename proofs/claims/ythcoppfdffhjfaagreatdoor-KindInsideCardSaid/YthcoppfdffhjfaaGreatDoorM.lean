/- The contract of the reader's closure, of records and oneofs, and all of it. -/
import Derived.Test.YthcoppfdffhjfaaGreatDoorL
namespace Go.Proofs.YthcoppfdffhjfaaGreatDoor
open Go Go.RowKit

set_option maxRecDepth 100000 in
set_option maxHeartbeats 25600000 in
theorem next_rec (f b1 b4 b5 b6 cb m a : Nat) (s : Bys) (hs : s.length ≤ 1000) (w : World) (hE : NxE w b1 b4 b5 b6 cb m s) (hC : Cur w cb s a) (ha : a ≤ s.length) (o : Bool) (H : NextC f b1 b4 b5 b6 cb m s) (hf : s.length - a ≤ f) (hfk : frontK (wd (s.drop a)) = 5) (hnm : isNameL (wd (s.drop a)) = false)
    (hTk : ∀ F, (Ty.rcd o F).kind = 5) (hnx : nx (f + 1) (s.drop a) = (nxB f (s.drop (a + (wd (s.drop a)).length))).map fun p => (.rcd o (fsOf p.1), p.2)) :
    Calls Tryz.prog 75 #[.pointer (some ⟨b5, 0, none⟩), .pointer (some ⟨b4, 0, none⟩), .pointer (some ⟨b6, 0, none⟩), .pointer (some ⟨b1, 0, none⟩)] w (NxPost (f + 1) cb s a w) := by
  have hwl := wd_len s a
  have HNX0 := Lib.hid hnx
  have HN := Lib.hid H
  clear hnx H
  have e5 : w.cell? ⟨b5, 0, none⟩ = some (.pointer (some ⟨cb, 0, none⟩)) := hE.k5.cell 0
  have e1 := hC.c1
  have l5 := hE.k5.lt
  have lc := hC.lt
  have hB0 := (Below.refl _ w).alloc (Nat.le_refl _) (.cells #[Value.string { data := #[] }, Value.int .u8 0, Value.slice none 0 0, Value.slice none 0 0] 58)
  have HE := Lib.hid (hE.grown (grown_of_below hB0 (some cb)))
  have HC := Lib.hid (hC.below hB0 hC.lt)
  have HFK := Lib.hid hfk
  have HNM := Lib.hid hnm
  have HB0 := Lib.hid hB0
  have K4 := Lib.hid (Blk.new w 58 #[Value.string { data := #[] }, Value.int .u8 0, Value.slice none 0 0, Value.slice none 0 0])
  have hs0 : (w.alloc (.cells #[Value.string { data := #[] }, Value.int .u8 0, Value.slice none 0 0, Value.slice none 0 0] 58)).heap.size = w.heap.size + 1 := by simp
  clear hE hC hfk hnm hB0
  go_enter Tryz.func75, Tryz.ntmps75
  go_wp2_with fail
  generalize w.alloc (.cells #[Value.string { data := #[] }, Value.int .u8 0, Value.slice none 0 0, Value.slice none 0 0] 58) = w0 at *
  have HS0 := Lib.hid hs0
  clear e5 e1 hs0
  refine (word_any cb a s w0 HC.out ha hs).mono ?_
  rintro e w1 ⟨rfl, hC1, hG1⟩
  have HC1 := Lib.hid hC1
  have HG1 := Lib.hid hG1
  have HE1 := Lib.hid (HE.out.grown hG1)
  have hz1 : w.heap.size + 1 ≤ w1.heap.size := by have := hG1.size; have := HS0.out; omega
  have e4 : w1.cell? ⟨b4, 0, none⟩ = some (.map (some m)) := HE1.out.k4.cell 0
  clear hC1 hG1
  generalize hfr : wd (s.drop a) = fr at *
  have HFR := Lib.hid hfr
  clear hfr
  have hlk := lookup_kind HE1.out.km fr
  rw [HFK.out] at hlk
  go_wp2_with fail
  have hB1 : Below w1.heap.size w1 (w1.alloc (.cells #[Value.string { data := #[] }, Value.int .u8 5, Value.slice none 0 0, Value.slice none 0 0] 58)) := (Below.refl _ w1).alloc (Nat.le_refl _) _
  have HC2 := Lib.hid (HC1.out.below hB1 HC1.out.lt)
  have K72 := Lib.hid (Blk.new w1 58 #[Value.string { data := #[] }, Value.int .u8 5, Value.slice none 0 0, Value.slice none 0 0])
  have HG2 := Lib.hid (grown_below HG1.out hB1)
  have hs2 : (w1.alloc (.cells #[Value.string { data := #[] }, Value.int .u8 5, Value.slice none 0 0, Value.slice none 0 0] 58)).heap.size = w1.heap.size + 1 := by simp
  clear hB1 hlk e4
  generalize w1.alloc (.cells #[Value.string { data := #[] }, Value.int .u8 5, Value.slice none 0 0, Value.slice none 0 0] 58) = w2 at *
  have HS2 := Lib.hid hs2
  clear hs2
  have hne : w.heap.size ≠ w1.heap.size := by omega
  have hcn : cb ≠ w1.heap.size := by omega
  refine (IsName_v fr false HNM.out w2 (HE.out.grown HG2.out).env).mono ?_
  rintro e w3 ⟨rfl, rfl⟩
  have q0 := Blk.cell K72.out 0
  have q1 := Blk.cell K72.out 1
  have q2 := Blk.cell K72.out 2
  have q3 := Blk.cell K72.out 3
  simp only [List.getElem?_toArray, List.getElem?_cons_zero, List.getElem?_cons_succ] at q0 q1 q2 q3
  have z0 := K72.out.frozen 0
  have z1 := K72.out.frozen 1
  have e5 : w2.cell? ⟨b5, 0, none⟩ = some (.pointer (some ⟨cb, 0, none⟩)) := (HE.out.grown HG2.out).k5.cell 0
  have e6 : w2.cell? ⟨b6, 0, none⟩ = some (nextF b1 b4 b5 b6) := (HE.out.grown HG2.out).k6.cell 0
  unfold nextF at e6
  go_wp2_with fail
  have hw2 : w1.heap.size < w2.heap.size := K72.out.lt
  clear e5 e6
  refine (parts_any f b1 b4 b5 b6 cb m (a + fr.length) s hs HN.out w2 (HE.out.grown HG2.out) HC2.out (by omega) (by omega)).mono ?_
  rintro e w6 (⟨l, r, vn, vk, kss, hB, rfl, hN, hK, hlen, hne2, hT, hC6, hG6⟩ | ⟨hB, rfl, hG6⟩)
  · have hnx := HNX0.out
    rw [hB] at hnx
    have hx := ext_of (nx_sound _ _ _ _ hnx).1 ha
    have hrl := (suffix_drop a (nx_sound _ _ _ _ hnx).1).2
    obtain ⟨ak, nk, ck, rfl⟩ := hK.shape
    obtain ⟨an, nn, cn, rfl⟩ := hN.shape
    have HX := Lib.hid hx
    have HNX := Lib.hid hnx
    have HK := Lib.hid hK
    have HNV := Lib.hid hN
    have HT := Lib.hid hT
    have HL := Lib.hid hlen
    have HC6 := Lib.hid hC6
    have HG6 := Lib.hid (grown_trans HG2.out hG6)
    have K76 : Hid (Blk w6 w1.heap.size 58 #[.string { data := #[] }, .int .u8 5, .slice none 0 0, .slice none 0 0]) := Lib.hid (K72.out.grown hG6 (by simpa using hcn.symm))
    have hz6 : w2.heap.size ≤ w6.heap.size := hG6.size
    clear hnx hx hB hK hN hT hlen hC6 hG6 q0 q1 q2 q3 z0 z1
    have q0 := Blk.cell K76.out 0
    have q1 := Blk.cell K76.out 1
    have q2 := Blk.cell K76.out 2
    have q3 := Blk.cell K76.out 3
    simp only [List.getElem?_toArray, List.getElem?_cons_zero, List.getElem?_cons_succ] at q0 q1 q2 q3
    have z2 := K76.out.frozen 2
    have z3 := K76.out.frozen 3
    go_upto_region 12 with (fail)
    have K77 : Hid (Blk ((w6.setCell ⟨w1.heap.size, 2, none⟩ (.slice an nn cn)).setCell ⟨w1.heap.size, 3, none⟩ (.slice ak nk ck)) w1.heap.size 58 #[.string { data := #[] }, .int .u8 5, .slice an nn cn, .slice ak nk ck]) := Lib.hid ((K76.out.set_ 2 _).set_ 3 _)
    have HC7 := Lib.hid (show Cur ((w6.setCell ⟨w1.heap.size, 2, none⟩ (.slice an nn cn)).setCell ⟨w1.heap.size, 3, none⟩ (.slice ak nk ck)) cb s _ from Blk.far (Blk.far HC6.out (by simpa using hcn) _) (by simpa using hcn) _)
    have HG7 : Hid (w0.grownBy ((w6.setCell ⟨w1.heap.size, 2, none⟩ (.slice an nn cn)).setCell ⟨w1.heap.size, 3, none⟩ (.slice ak nk ck)) (some cb)) := Lib.hid (grown_setCell (grown_setCell HG6.out (.inr (by have := HG1.out.size; simp; omega)) _) (.inr (by have := HG1.out.size; simp; omega)) _)
    have HS7 : Hid (∀ g, g ≠ w1.heap.size → ((w6.setCell ⟨w1.heap.size, 2, none⟩ (.slice an nn cn)).setCell ⟨w1.heap.size, 3, none⟩ (.slice ak nk ck)).heap[g]? = w6.heap[g]?) := Lib.hid fun g hg => (Below.heap_setCell _ _ _ g hg).trans (Below.heap_setCell _ _ _ g hg)
    have hz7 : ((w6.setCell ⟨w1.heap.size, 2, none⟩ (.slice an nn cn)).setCell ⟨w1.heap.size, 3, none⟩ (.slice ak nk ck)).heap.size = w6.heap.size := by simp
    clear q0 q1 q2 q3 z2 z3
    generalize ((w6.setCell ⟨w1.heap.size, 2, none⟩ (.slice an nn cn)).setCell ⟨w1.heap.size, 3, none⟩ (.slice ak nk ck)) = w7 at *
    have q0 := Blk.cell K77.out 0
    have q1 := Blk.cell K77.out 1
    have q2 := Blk.cell K77.out 2
    have q3 := Blk.cell K77.out 3
    simp only [List.getElem?_toArray, List.getElem?_cons_zero, List.getElem?_cons_succ] at q0 q1 q2 q3
    have z0 := K77.out.frozen 0
    have e1 : w7.cell? ⟨b1, 0, none⟩ = some (.string (bs s)) := (HE.out.grown HG7.out).k1.cell 0
    have e5 : w7.cell? ⟨b5, 0, none⟩ = some (.pointer (some ⟨cb, 0, none⟩)) := (HE.out.grown HG7.out).k5.cell 0
    have ec := HC7.out.c1
    have hi1 : (a : Int) ≤ ((s.length - r.length : Nat) : Int) := by omega
    have hi2 : s.length - r.length ≤ (bs s).size := by rw [bs_size]; omega
    go_wp2
    go_region
    rw [HX.out]
    have K7e : Hid (Blk (w7.setCell ⟨w1.heap.size, 0, none⟩ (.string (bs (Ty.rcd o (fsOf l)).pr))).drew w1.heap.size 58 #[.string (bs (Ty.rcd o (fsOf l)).pr), .int .u8 5, .slice an nn cn, .slice ak nk ck]) := Lib.hid (K77.out.set_ 0 _)
    have HGe : Hid (w0.grownBy (w7.setCell ⟨w1.heap.size, 0, none⟩ (.string (bs (Ty.rcd o (fsOf l)).pr))).drew (some cb)) := Lib.hid (grown_drewN (grown_setCell HG7.out (.inr (by have := HG1.out.size; simp; omega)) _) 1)
    have HCe : Hid (Cur (w7.setCell ⟨w1.heap.size, 0, none⟩ (.string (bs (Ty.rcd o (fsOf l)).pr))).drew cb s (s.length - r.length)) := Lib.hid (Blk.far HC7.out (by simpa using hcn) _)
    have HSe : Hid (∀ g, g ≠ w1.heap.size → (w7.setCell ⟨w1.heap.size, 0, none⟩ (.string (bs (Ty.rcd o (fsOf l)).pr))).drew.heap[g]? = w7.heap[g]?) := Lib.hid fun g hg => Below.heap_setCell _ _ _ g hg
    have hze : (w7.setCell ⟨w1.heap.size, 0, none⟩ (.string (bs (Ty.rcd o (fsOf l)).pr))).drew.heap.size = w7.heap.size := by simp
    have K4e : Hid (Blk (w7.setCell ⟨w1.heap.size, 0, none⟩ (.string (bs (Ty.rcd o (fsOf l)).pr))).drew w.heap.size 58 #[Value.string { data := #[] }, Value.int .u8 0, Value.slice none 0 0, Value.slice none 0 0]) := Lib.hid (K4.out.grown HGe.out (by simp; omega))
    generalize (w7.setCell ⟨w1.heap.size, 0, none⟩ (.string (bs (Ty.rcd o (fsOf l)).pr))).drew = w9 at *
    have HZe := Lib.hid hze
    clear q0 q1 q2 q3 z0 e1 e5 ec hze hi1 hi2
    have q0 := Blk.cell K7e.out 0
    have q1 := Blk.cell K7e.out 1
    have q2 := Blk.cell K7e.out 2
    have q3 := Blk.cell K7e.out 3
    simp only [List.getElem?_toArray, List.getElem?_cons_zero, List.getElem?_cons_succ] at q0 q1 q2 q3
    have p0 := Blk.cell K4e.out 0
    have p1 := Blk.cell K4e.out 1
    have p2 := Blk.cell K4e.out 2
    have p3 := Blk.cell K4e.out 3
    simp only [List.getElem?_toArray, List.getElem?_cons_zero, List.getElem?_cons_succ] at p0 p1 p2 p3
    have y0 := K4e.out.frozen 0
    have y1 := K4e.out.frozen 1
    have y2 := K4e.out.frozen 2
    have y3 := K4e.out.frozen 3
    go_wp2
    have hcw : cb ≠ w.heap.size := by omega
    refine bodyPost_ret (ret_typ rfl ((((K4e.out.set_ 0 _).set_ 1 _).set_ 2 _).set_ 3 _)) rfl (.inl ⟨(Ty.rcd o (fsOf l)), r, [.string (bs ((Ty.rcd o (fsOf l))).pr), .int .u8 5, .slice an nn cn, .slice ak nk ck], HNX.out, rfl, ?_, ?_, ?_⟩)
    · rw [← hTk (fsOf l)]
      have hkd : kidsOf (Ty.rcd o (fsOf l)) = l.map Prod.snd := by show (fsOf l).list.map Prod.snd = _; rw [fsOf_list l hne2]
      have hnd : namesOf (Ty.rcd o (fsOf l)) = l.map Prod.fst := by show (fsOf l).list.map Prod.fst = _; rw [fsOf_list l hne2]
      refine .mk _ _ _ kss (hnd ▸ ((HNV.out.keep (by simp; have := HZe.out; omega) (fun g hg hl => (Below.heap_setCell _ _ _ g (by simp; omega)).trans ((Below.heap_setCell _ _ _ g (by simp; omega)).trans ((Below.heap_setCell _ _ _ g (by simp; omega)).trans ((Below.heap_setCell _ _ _ g (by simp; omega)).trans ((HSe.out g (by omega)).trans (HS7.out g (by omega)))))))).mono (fun g hg _ => by omega))) ((HK.out.keep (by simp; have := HZe.out; omega) (fun g hg hl => (Below.heap_setCell _ _ _ g (by simp; omega)).trans ((Below.heap_setCell _ _ _ g (by simp; omega)).trans ((Below.heap_setCell _ _ _ g (by simp; omega)).trans ((Below.heap_setCell _ _ _ g (by simp; omega)).trans ((HSe.out g (by omega)).trans (HS7.out g (by omega)))))))).mono (fun g hg _ => by omega)) (by rw [hkd, List.length_map]; exact HL.out) (fun i T' vs hi hv => ?_)
      rw [hkd] at hi
      exact (((HT.out i T' vs hi hv).keep (by simp; have := HZe.out; omega) (fun g hg hl => (Below.heap_setCell _ _ _ g (by simp; omega)).trans ((Below.heap_setCell _ _ _ g (by simp; omega)).trans ((Below.heap_setCell _ _ _ g (by simp; omega)).trans ((Below.heap_setCell _ _ _ g (by simp; omega)).trans ((HSe.out g (by omega)).trans (HS7.out g (by omega)))))))).mono (fun g hg _ => by omega))
    · exact Blk.far (Blk.far (Blk.far (Blk.far HCe.out hcw _) hcw _) hcw _) hcw _
    · exact grown_setCell (grown_setCell (grown_setCell (grown_setCell (grown_trans (grown_of_below HB0.out (some cb)) HGe.out) (.inr (Nat.le_refl _)) _) (.inr (Nat.le_refl _)) _) (.inr (Nat.le_refl _)) _) (.inr (Nat.le_refl _)) _
  · refine ⟨rfl, .inr ⟨?_, rfl, grown_trans (grown_of_below HB0.out (some cb)) (grown_trans HG2.out hG6)⟩⟩
    have h := HNX0.out
    rw [hB] at h
    exact h

set_option maxRecDepth 100000 in
set_option maxHeartbeats 25600000 in
theorem next_one (f b1 b4 b5 b6 cb m a : Nat) (s : Bys) (hs : s.length ≤ 1000) (w : World) (hE : NxE w b1 b4 b5 b6 cb m s) (hC : Cur w cb s a) (ha : a ≤ s.length) (o : Bool) (H : NextC f b1 b4 b5 b6 cb m s) (hf : s.length - a ≤ f) (hfk : frontK (wd (s.drop a)) = 6) (hnm : isNameL (wd (s.drop a)) = false)
    (hTk : ∀ F, (Ty.rcd o F).kind = 6) (hnx : nx (f + 1) (s.drop a) = (nxB f (s.drop (a + (wd (s.drop a)).length))).map fun p => (.rcd o (fsOf p.1), p.2)) :
    Calls Tryz.prog 75 #[.pointer (some ⟨b5, 0, none⟩), .pointer (some ⟨b4, 0, none⟩), .pointer (some ⟨b6, 0, none⟩), .pointer (some ⟨b1, 0, none⟩)] w (NxPost (f + 1) cb s a w) := by
  have hwl := wd_len s a
  have HNX0 := Lib.hid hnx
  have HN := Lib.hid H
  clear hnx H
  have e5 : w.cell? ⟨b5, 0, none⟩ = some (.pointer (some ⟨cb, 0, none⟩)) := hE.k5.cell 0
  have e1 := hC.c1
  have l5 := hE.k5.lt
  have lc := hC.lt
  have hB0 := (Below.refl _ w).alloc (Nat.le_refl _) (.cells #[Value.string { data := #[] }, Value.int .u8 0, Value.slice none 0 0, Value.slice none 0 0] 58)
  have HE := Lib.hid (hE.grown (grown_of_below hB0 (some cb)))
  have HC := Lib.hid (hC.below hB0 hC.lt)
  have HFK := Lib.hid hfk
  have HNM := Lib.hid hnm
  have HB0 := Lib.hid hB0
  have K4 := Lib.hid (Blk.new w 58 #[Value.string { data := #[] }, Value.int .u8 0, Value.slice none 0 0, Value.slice none 0 0])
  have hs0 : (w.alloc (.cells #[Value.string { data := #[] }, Value.int .u8 0, Value.slice none 0 0, Value.slice none 0 0] 58)).heap.size = w.heap.size + 1 := by simp
  clear hE hC hfk hnm hB0
  go_enter Tryz.func75, Tryz.ntmps75
  go_wp2_with fail
  generalize w.alloc (.cells #[Value.string { data := #[] }, Value.int .u8 0, Value.slice none 0 0, Value.slice none 0 0] 58) = w0 at *
  have HS0 := Lib.hid hs0
  clear e5 e1 hs0
  refine (word_any cb a s w0 HC.out ha hs).mono ?_
  rintro e w1 ⟨rfl, hC1, hG1⟩
  have HC1 := Lib.hid hC1
  have HG1 := Lib.hid hG1
  have HE1 := Lib.hid (HE.out.grown hG1)
  have hz1 : w.heap.size + 1 ≤ w1.heap.size := by have := hG1.size; have := HS0.out; omega
  have e4 : w1.cell? ⟨b4, 0, none⟩ = some (.map (some m)) := HE1.out.k4.cell 0
  clear hC1 hG1
  generalize hfr : wd (s.drop a) = fr at *
  have HFR := Lib.hid hfr
  clear hfr
  have hlk := lookup_kind HE1.out.km fr
  rw [HFK.out] at hlk
  go_wp2_with fail
  have hB1 : Below w1.heap.size w1 (w1.alloc (.cells #[Value.string { data := #[] }, Value.int .u8 6, Value.slice none 0 0, Value.slice none 0 0] 58)) := (Below.refl _ w1).alloc (Nat.le_refl _) _
  have HC2 := Lib.hid (HC1.out.below hB1 HC1.out.lt)
  have K72 := Lib.hid (Blk.new w1 58 #[Value.string { data := #[] }, Value.int .u8 6, Value.slice none 0 0, Value.slice none 0 0])
  have HG2 := Lib.hid (grown_below HG1.out hB1)
  have hs2 : (w1.alloc (.cells #[Value.string { data := #[] }, Value.int .u8 6, Value.slice none 0 0, Value.slice none 0 0] 58)).heap.size = w1.heap.size + 1 := by simp
  clear hB1 hlk e4
  generalize w1.alloc (.cells #[Value.string { data := #[] }, Value.int .u8 6, Value.slice none 0 0, Value.slice none 0 0] 58) = w2 at *
  have HS2 := Lib.hid hs2
  clear hs2
  have hne : w.heap.size ≠ w1.heap.size := by omega
  have hcn : cb ≠ w1.heap.size := by omega
  refine (IsName_v fr false HNM.out w2 (HE.out.grown HG2.out).env).mono ?_
  rintro e w3 ⟨rfl, rfl⟩
  have q0 := Blk.cell K72.out 0
  have q1 := Blk.cell K72.out 1
  have q2 := Blk.cell K72.out 2
  have q3 := Blk.cell K72.out 3
  simp only [List.getElem?_toArray, List.getElem?_cons_zero, List.getElem?_cons_succ] at q0 q1 q2 q3
  have z0 := K72.out.frozen 0
  have z1 := K72.out.frozen 1
  have e5 : w2.cell? ⟨b5, 0, none⟩ = some (.pointer (some ⟨cb, 0, none⟩)) := (HE.out.grown HG2.out).k5.cell 0
  have e6 : w2.cell? ⟨b6, 0, none⟩ = some (nextF b1 b4 b5 b6) := (HE.out.grown HG2.out).k6.cell 0
  unfold nextF at e6
  go_wp2_with fail
  have hw2 : w1.heap.size < w2.heap.size := K72.out.lt
  clear e5 e6
  refine (parts_any f b1 b4 b5 b6 cb m (a + fr.length) s hs HN.out w2 (HE.out.grown HG2.out) HC2.out (by omega) (by omega)).mono ?_
  rintro e w6 (⟨l, r, vn, vk, kss, hB, rfl, hN, hK, hlen, hne2, hT, hC6, hG6⟩ | ⟨hB, rfl, hG6⟩)
  · have hnx := HNX0.out
    rw [hB] at hnx
    have hx := ext_of (nx_sound _ _ _ _ hnx).1 ha
    have hrl := (suffix_drop a (nx_sound _ _ _ _ hnx).1).2
    obtain ⟨ak, nk, ck, rfl⟩ := hK.shape
    obtain ⟨an, nn, cn, rfl⟩ := hN.shape
    have HX := Lib.hid hx
    have HNX := Lib.hid hnx
    have HK := Lib.hid hK
    have HNV := Lib.hid hN
    have HT := Lib.hid hT
    have HL := Lib.hid hlen
    have HC6 := Lib.hid hC6
    have HG6 := Lib.hid (grown_trans HG2.out hG6)
    have K76 : Hid (Blk w6 w1.heap.size 58 #[.string { data := #[] }, .int .u8 6, .slice none 0 0, .slice none 0 0]) := Lib.hid (K72.out.grown hG6 (by simpa using hcn.symm))
    have hz6 : w2.heap.size ≤ w6.heap.size := hG6.size
    clear hnx hx hB hK hN hT hlen hC6 hG6 q0 q1 q2 q3 z0 z1
    have q0 := Blk.cell K76.out 0
    have q1 := Blk.cell K76.out 1
    have q2 := Blk.cell K76.out 2
    have q3 := Blk.cell K76.out 3
    simp only [List.getElem?_toArray, List.getElem?_cons_zero, List.getElem?_cons_succ] at q0 q1 q2 q3
    have z2 := K76.out.frozen 2
    have z3 := K76.out.frozen 3
    go_upto_region 12 with (fail)
    have K77 : Hid (Blk ((w6.setCell ⟨w1.heap.size, 2, none⟩ (.slice an nn cn)).setCell ⟨w1.heap.size, 3, none⟩ (.slice ak nk ck)) w1.heap.size 58 #[.string { data := #[] }, .int .u8 6, .slice an nn cn, .slice ak nk ck]) := Lib.hid ((K76.out.set_ 2 _).set_ 3 _)
    have HC7 := Lib.hid (show Cur ((w6.setCell ⟨w1.heap.size, 2, none⟩ (.slice an nn cn)).setCell ⟨w1.heap.size, 3, none⟩ (.slice ak nk ck)) cb s _ from Blk.far (Blk.far HC6.out (by simpa using hcn) _) (by simpa using hcn) _)
    have HG7 : Hid (w0.grownBy ((w6.setCell ⟨w1.heap.size, 2, none⟩ (.slice an nn cn)).setCell ⟨w1.heap.size, 3, none⟩ (.slice ak nk ck)) (some cb)) := Lib.hid (grown_setCell (grown_setCell HG6.out (.inr (by have := HG1.out.size; simp; omega)) _) (.inr (by have := HG1.out.size; simp; omega)) _)
    have HS7 : Hid (∀ g, g ≠ w1.heap.size → ((w6.setCell ⟨w1.heap.size, 2, none⟩ (.slice an nn cn)).setCell ⟨w1.heap.size, 3, none⟩ (.slice ak nk ck)).heap[g]? = w6.heap[g]?) := Lib.hid fun g hg => (Below.heap_setCell _ _ _ g hg).trans (Below.heap_setCell _ _ _ g hg)
    have hz7 : ((w6.setCell ⟨w1.heap.size, 2, none⟩ (.slice an nn cn)).setCell ⟨w1.heap.size, 3, none⟩ (.slice ak nk ck)).heap.size = w6.heap.size := by simp
    clear q0 q1 q2 q3 z2 z3
    generalize ((w6.setCell ⟨w1.heap.size, 2, none⟩ (.slice an nn cn)).setCell ⟨w1.heap.size, 3, none⟩ (.slice ak nk ck)) = w7 at *
    have q0 := Blk.cell K77.out 0
    have q1 := Blk.cell K77.out 1
    have q2 := Blk.cell K77.out 2
    have q3 := Blk.cell K77.out 3
    simp only [List.getElem?_toArray, List.getElem?_cons_zero, List.getElem?_cons_succ] at q0 q1 q2 q3
    have z0 := K77.out.frozen 0
    have e1 : w7.cell? ⟨b1, 0, none⟩ = some (.string (bs s)) := (HE.out.grown HG7.out).k1.cell 0
    have e5 : w7.cell? ⟨b5, 0, none⟩ = some (.pointer (some ⟨cb, 0, none⟩)) := (HE.out.grown HG7.out).k5.cell 0
    have ec := HC7.out.c1
    have hi1 : (a : Int) ≤ ((s.length - r.length : Nat) : Int) := by omega
    have hi2 : s.length - r.length ≤ (bs s).size := by rw [bs_size]; omega
    go_wp2
    go_region
    rw [HX.out]
    have K7e : Hid (Blk (w7.setCell ⟨w1.heap.size, 0, none⟩ (.string (bs (Ty.rcd o (fsOf l)).pr))).drew w1.heap.size 58 #[.string (bs (Ty.rcd o (fsOf l)).pr), .int .u8 6, .slice an nn cn, .slice ak nk ck]) := Lib.hid (K77.out.set_ 0 _)
    have HGe : Hid (w0.grownBy (w7.setCell ⟨w1.heap.size, 0, none⟩ (.string (bs (Ty.rcd o (fsOf l)).pr))).drew (some cb)) := Lib.hid (grown_drewN (grown_setCell HG7.out (.inr (by have := HG1.out.size; simp; omega)) _) 1)
    have HCe : Hid (Cur (w7.setCell ⟨w1.heap.size, 0, none⟩ (.string (bs (Ty.rcd o (fsOf l)).pr))).drew cb s (s.length - r.length)) := Lib.hid (Blk.far HC7.out (by simpa using hcn) _)
    have HSe : Hid (∀ g, g ≠ w1.heap.size → (w7.setCell ⟨w1.heap.size, 0, none⟩ (.string (bs (Ty.rcd o (fsOf l)).pr))).drew.heap[g]? = w7.heap[g]?) := Lib.hid fun g hg => Below.heap_setCell _ _ _ g hg
    have hze : (w7.setCell ⟨w1.heap.size, 0, none⟩ (.string (bs (Ty.rcd o (fsOf l)).pr))).drew.heap.size = w7.heap.size := by simp
    have K4e : Hid (Blk (w7.setCell ⟨w1.heap.size, 0, none⟩ (.string (bs (Ty.rcd o (fsOf l)).pr))).drew w.heap.size 58 #[Value.string { data := #[] }, Value.int .u8 0, Value.slice none 0 0, Value.slice none 0 0]) := Lib.hid (K4.out.grown HGe.out (by simp; omega))
    generalize (w7.setCell ⟨w1.heap.size, 0, none⟩ (.string (bs (Ty.rcd o (fsOf l)).pr))).drew = w9 at *
    have HZe := Lib.hid hze
    clear q0 q1 q2 q3 z0 e1 e5 ec hze hi1 hi2
    have q0 := Blk.cell K7e.out 0
    have q1 := Blk.cell K7e.out 1
    have q2 := Blk.cell K7e.out 2
    have q3 := Blk.cell K7e.out 3
    simp only [List.getElem?_toArray, List.getElem?_cons_zero, List.getElem?_cons_succ] at q0 q1 q2 q3
    have p0 := Blk.cell K4e.out 0
    have p1 := Blk.cell K4e.out 1
    have p2 := Blk.cell K4e.out 2
    have p3 := Blk.cell K4e.out 3
    simp only [List.getElem?_toArray, List.getElem?_cons_zero, List.getElem?_cons_succ] at p0 p1 p2 p3
    have y0 := K4e.out.frozen 0
    have y1 := K4e.out.frozen 1
    have y2 := K4e.out.frozen 2
    have y3 := K4e.out.frozen 3
    go_wp2
    have hcw : cb ≠ w.heap.size := by omega
    refine bodyPost_ret (ret_typ rfl ((((K4e.out.set_ 0 _).set_ 1 _).set_ 2 _).set_ 3 _)) rfl (.inl ⟨(Ty.rcd o (fsOf l)), r, [.string (bs ((Ty.rcd o (fsOf l))).pr), .int .u8 6, .slice an nn cn, .slice ak nk ck], HNX.out, rfl, ?_, ?_, ?_⟩)
    · rw [← hTk (fsOf l)]
      have hkd : kidsOf (Ty.rcd o (fsOf l)) = l.map Prod.snd := by show (fsOf l).list.map Prod.snd = _; rw [fsOf_list l hne2]
      have hnd : namesOf (Ty.rcd o (fsOf l)) = l.map Prod.fst := by show (fsOf l).list.map Prod.fst = _; rw [fsOf_list l hne2]
      refine .mk _ _ _ kss (hnd ▸ ((HNV.out.keep (by simp; have := HZe.out; omega) (fun g hg hl => (Below.heap_setCell _ _ _ g (by simp; omega)).trans ((Below.heap_setCell _ _ _ g (by simp; omega)).trans ((Below.heap_setCell _ _ _ g (by simp; omega)).trans ((Below.heap_setCell _ _ _ g (by simp; omega)).trans ((HSe.out g (by omega)).trans (HS7.out g (by omega)))))))).mono (fun g hg _ => by omega))) ((HK.out.keep (by simp; have := HZe.out; omega) (fun g hg hl => (Below.heap_setCell _ _ _ g (by simp; omega)).trans ((Below.heap_setCell _ _ _ g (by simp; omega)).trans ((Below.heap_setCell _ _ _ g (by simp; omega)).trans ((Below.heap_setCell _ _ _ g (by simp; omega)).trans ((HSe.out g (by omega)).trans (HS7.out g (by omega)))))))).mono (fun g hg _ => by omega)) (by rw [hkd, List.length_map]; exact HL.out) (fun i T' vs hi hv => ?_)
      rw [hkd] at hi
      exact (((HT.out i T' vs hi hv).keep (by simp; have := HZe.out; omega) (fun g hg hl => (Below.heap_setCell _ _ _ g (by simp; omega)).trans ((Below.heap_setCell _ _ _ g (by simp; omega)).trans ((Below.heap_setCell _ _ _ g (by simp; omega)).trans ((Below.heap_setCell _ _ _ g (by simp; omega)).trans ((HSe.out g (by omega)).trans (HS7.out g (by omega)))))))).mono (fun g hg _ => by omega))
    · exact Blk.far (Blk.far (Blk.far (Blk.far HCe.out hcw _) hcw _) hcw _) hcw _
    · exact grown_setCell (grown_setCell (grown_setCell (grown_setCell (grown_trans (grown_of_below HB0.out (some cb)) HGe.out) (.inr (Nat.le_refl _)) _) (.inr (Nat.le_refl _)) _) (.inr (Nat.le_refl _)) _) (.inr (Nat.le_refl _)) _
  · refine ⟨rfl, .inr ⟨?_, rfl, grown_trans (grown_of_below HB0.out (some cb)) (grown_trans HG2.out hG6)⟩⟩
    have h := HNX0.out
    rw [hB] at h
    exact h

theorem front_word {k : Bys} (h : k ∈ wordL) : isNameL k = false := by
  rw [← Bool.not_eq_true]
  exact fun q => name_word q h rfl
theorem front_none {s : Bys} (h1 : s ≠ kInt) (h2 : s ≠ kBool) (h3 : s ≠ kNull) (h4 : s ≠ qt) (h5 : s ≠ kArray) (h6 : ¬ (s = kRecord ∨ s = kOneof)) : frontK s = 0 := by
  refine frontK_none fun k hk e => ?_
  rw [not_or] at h6
  have : k = 0 ∨ k = 1 ∨ k = 2 ∨ k = 3 ∨ k = 4 ∨ k = 5 ∨ k = 6 := by omega
  rcases this with rfl | rfl | rfl | rfl | rfl | rfl | rfl
  · exact h1 e.symm
  · exact h2 e.symm
  · exact h3 e.symm
  · exact h5 e.symm
  · exact h6.1 e.symm
  · exact h6.2 e.symm
  · exact h4 e.symm

/-- The reader's closure reads as nx does. -/
theorem next_any (b1 b4 b5 b6 cb m : Nat) (s : Bys) (hs : s.length ≤ 1000) : ∀ f, NextC f b1 b4 b5 b6 cb m s := by
  intro f
  induction f with
  | zero => intro w a _ _ _ h; omega
  | succ f ih =>
    intro w a hE hC ha hf
    have hw := wr_at s a
    by_cases h1 : wd (s.drop a) = kInt
    · exact next_leaf f b1 b4 b5 b6 cb m a s hs w hE hC ha 1 .int (by rw [h1]; exact frontK_at 0 (by omega)) (by rw [h1]; exact front_word kInt_mem) rfl rfl rfl rfl rfl rfl rfl rfl (by unfold nx; rw [hw, if_pos h1])
    by_cases h2 : wd (s.drop a) = kBool
    · exact next_leaf f b1 b4 b5 b6 cb m a s hs w hE hC ha 2 .bool (by rw [h2]; exact frontK_at 1 (by omega)) (by rw [h2]; exact front_word kBool_mem) rfl rfl rfl rfl rfl rfl rfl rfl (by unfold nx; rw [hw, if_neg h1, if_pos h2])
    by_cases h3 : wd (s.drop a) = kNull
    · exact next_leaf f b1 b4 b5 b6 cb m a s hs w hE hC ha 3 .null (by rw [h3]; exact frontK_at 2 (by omega)) (by rw [h3]; exact front_word kNull_mem) rfl rfl rfl rfl rfl rfl rfl rfl (by unfold nx; rw [hw, if_neg h1, if_neg h2, if_pos h3])
    by_cases h4 : wd (s.drop a) = qt
    · exact next_leaf f b1 b4 b5 b6 cb m a s hs w hE hC ha 8 .par (by rw [h4]; exact frontK_at 6 (by omega)) (by rw [h4]; rfl) rfl rfl rfl rfl rfl rfl rfl rfl (by unfold nx; rw [hw, if_neg h1, if_neg h2, if_neg h3, if_pos h4])
    by_cases h5 : wd (s.drop a) = kArray
    · refine next_arr f b1 b4 b5 b6 cb m a s hs w hE hC ha .arr ih (by omega) (by rw [h5]; exact frontK_at 3 (by omega)) (by rw [h5]; exact front_word kArray_mem) (fun _ => rfl) (fun _ => rfl) (fun _ => rfl) ?_
      conv => lhs; unfold nx
      rw [hw, if_neg h1, if_neg h2, if_neg h3, if_neg h4, if_pos h5]
    have rcd : ∀ o, wd (s.drop a) = rcdWord o → nx (f + 1) (s.drop a) = (nxB f (s.drop (a + (wd (s.drop a)).length))).map fun p => (.rcd o (fsOf p.1), p.2) := fun o h6 => by
      conv => lhs; unfold nx
      have hq : wd (s.drop a) = kRecord ∨ wd (s.drop a) = kOneof := by cases o <;> simp [h6, rcdWord]
      rw [if_neg h1, if_neg h2, if_neg h3, if_neg h4, if_neg h5, if_pos hq, hw]
      have ho : decide (wd (s.drop a) = kOneof) = o := by rw [h6]; cases o <;> rfl
      rw [ho]
      unfold nxB
      generalize s.drop (a + (wd (s.drop a)).length) = X
      split
      · rename_i r
        simp only
        cases nxP (nx f) f r with
        | none => rfl
        | some p =>
          obtain ⟨l, r'⟩ := p
          simp only
          split <;> rfl
      · rename_i hX
        split
        · rename_i r; exact absurd rfl (hX r)
        · rfl
    by_cases h6 : wd (s.drop a) = kRecord
    · exact next_rec f b1 b4 b5 b6 cb m a s hs w hE hC ha false ih (by omega) (by rw [h6]; exact frontK_at 4 (by omega)) (by rw [h6]; exact front_word kRecord_mem) (fun _ => rfl) (rcd false h6)
    by_cases h7 : wd (s.drop a) = kOneof
    · exact next_one f b1 b4 b5 b6 cb m a s hs w hE hC ha true ih (by omega) (by rw [h7]; exact frontK_at 5 (by omega)) (by rw [h7]; exact front_word kOneof_mem) (fun _ => rfl) (rcd true h7)
    have h67 : ¬ (wd (s.drop a) = kRecord ∨ wd (s.drop a) = kOneof) := not_or.2 ⟨h6, h7⟩
    have hfk := front_none h1 h2 h3 h4 h5 h67
    cases hn : isNameL (wd (s.drop a))
    · exact next_none f b1 b4 b5 b6 cb m a s hs w hE hC ha hfk hn (by unfold nx; rw [if_neg h1, if_neg h2, if_neg h3, if_neg h4, if_neg h5, if_neg h67, if_neg (by rw [hn]; decide)])
    · cases hsee : seeB s (a + (wd (s.drop a)).length) 91
      · refine next_nam f b1 b4 b5 b6 cb m a s hs w hE hC ha (.nam (wd (s.drop a))) hfk hn hsee rfl rfl rfl ?_
        unfold nx
        rw [if_neg h1, if_neg h2, if_neg h3, if_neg h4, if_neg h5, if_neg h67, if_pos hn, hw]
        split
        · rename_i q; exact absurd q (seeB_false hsee _)
        · rfl
      · refine next_app f b1 b4 b5 b6 cb m a s hs w hE hC ha (.app (wd (s.drop a))) ih (by omega) hfk hn hsee (fun _ => rfl) (fun _ => rfl) (fun _ => rfl) ?_
        conv => lhs; unfold nx
        rw [if_neg h1, if_neg h2, if_neg h3, if_neg h4, if_neg h5, if_neg h67, if_pos hn, hw, (seeB_true hsee).1]
        rfl
end Go.Proofs.YthcoppfdffhjfaaGreatDoor
