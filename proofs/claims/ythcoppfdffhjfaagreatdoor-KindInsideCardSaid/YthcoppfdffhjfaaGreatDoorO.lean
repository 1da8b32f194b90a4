/- The contract of package kind's read. -/
import Derived.Test.YthcoppfdffhjfaaGreatDoorN
namespace Go.Proofs.YthcoppfdffhjfaaGreatDoor
open Go Go.RowKit

def zero4 : Value := .agg #[.string { data := #[] }, .int .u8 0, .slice none 0 0, .slice none 0 0]
/-- What read answers. -/
def ReadP (s : Bys) (w : World) (e : Ending) (w' : World) : Prop :=
  Below w.heap.size w w' ∧ ((∃ T vs, Good T ∧ s = T.pr ∧ e = .returned (.tuple #[.agg vs.toArray, .int .i64 0]) ∧ TyV w' (fun g => w.heap.size ≤ g) T vs) ∨ (chk s ≠ 0 ∧ e = .returned (.tuple #[zero4, .int .i64 (chk s)])))

theorem read_setup {w4 : World} {s : Bys} {b1 m : Nat} (he : Env w4) (k1 : Blk w4 b1 9 #[.string (bs s)]) (km : Kinds w4 m) (W : World)
    (hW : ((((w4.alloc (.cells #[.map (some m)] 78)).alloc (.cells #[.string (bs s), .int .i64 0] 82)).alloc (.cells #[.pointer (some ⟨w4.heap.size + 1, 0, none⟩)] 80)).alloc (.cells #[nextF b1 w4.heap.size (w4.heap.size + 1 + 1) (w4.heap.size + 1 + 1 + 1)] 83)) = W) :
    NxE W b1 w4.heap.size (w4.heap.size + 1 + 1) (w4.heap.size + 1 + 1 + 1) (w4.heap.size + 1) m s ∧ Cur W (w4.heap.size + 1) s 0 ∧ Below w4.heap.size w4 W ∧ W.heap.size = w4.heap.size + 1 + 1 + 1 + 1 := by
  have b1l := k1.lt
  have kml := km.lt
  have hb := ((((Below.refl w4.heap.size w4).alloc (Nat.le_refl _) (.cells #[.map (some m)] 78)).alloc (by simp) (.cells #[.string (bs s), .int .i64 0] 82)).alloc (by simp; omega) (.cells #[.pointer (some ⟨w4.heap.size + 1, 0, none⟩)] 80)).alloc (by simp; omega) (.cells #[nextF b1 w4.heap.size (w4.heap.size + 1 + 1) (w4.heap.size + 1 + 1 + 1)] 83)
  have q4 := ((((Blk.new w4 78 #[.map (some m)]).alloc (.cells #[.string (bs s), .int .i64 0] 82)).alloc (.cells #[.pointer (some ⟨w4.heap.size + 1, 0, none⟩)] 80)).alloc (.cells #[nextF b1 w4.heap.size (w4.heap.size + 1 + 1) (w4.heap.size + 1 + 1 + 1)] 83))
  have qc := (((Blk.new (w4.alloc (.cells #[.map (some m)] 78)) 82 #[.string (bs s), .int .i64 0]).alloc (.cells #[.pointer (some ⟨w4.heap.size + 1, 0, none⟩)] 80)).alloc (.cells #[nextF b1 w4.heap.size (w4.heap.size + 1 + 1) (w4.heap.size + 1 + 1 + 1)] 83))
  have q5 := ((Blk.new ((w4.alloc (.cells #[.map (some m)] 78)).alloc (.cells #[.string (bs s), .int .i64 0] 82)) 80 #[.pointer (some ⟨w4.heap.size + 1, 0, none⟩)]).alloc (.cells #[nextF b1 w4.heap.size (w4.heap.size + 1 + 1) (w4.heap.size + 1 + 1 + 1)] 83))
  have q6 := Blk.new (((w4.alloc (.cells #[.map (some m)] 78)).alloc (.cells #[.string (bs s), .int .i64 0] 82)).alloc (.cells #[.pointer (some ⟨w4.heap.size + 1, 0, none⟩)] 80)) 83 #[nextF b1 w4.heap.size (w4.heap.size + 1 + 1) (w4.heap.size + 1 + 1 + 1)]
  simp only [World.size_alloc] at qc q5 q6
  have hsz : W.heap.size = w4.heap.size + 1 + 1 + 1 + 1 := by rw [← hW]; simp
  have h4 := he.size
  rw [hW] at hb q4 qc q5 q6
  exact ⟨⟨he.below hb, k1.below hb b1l, q4, q5, q6, km.below hb kml, by omega, by omega, by omega, by omega, by omega, by omega⟩, qc, hb, hsz⟩

theorem ret_read {B : Nat} {x0 x1 x2 x3 y : Value} {W : World} {tmps : Array Value} (h2 : tmps.getD 2 undef = .pointer (some ⟨B + 1, 0, none⟩)) (h3 : tmps.getD 3 undef = .pointer (some ⟨B + 1 + 1, 0, none⟩))
    (b2 : Blk W (B + 1) 58 #[x0, x1, x2, x3]) (b3 : Blk W (B + 1 + 1) 24 #[y]) : (results Tryz.f48 tmps).run Tryz.prog W = .ok (.tuple #[.agg #[x0, x1, x2, x3], y]) W := by
  have c0 := b2.cell 0
  have c1 := b2.cell 1
  have c2 := b2.cell 2
  have c3 := b2.cell 3
  have d0 := b3.cell 0
  simp only [List.getElem?_toArray, List.getElem?_cons_zero, List.getElem?_cons_succ] at c0 c1 c2 c3 d0
  simp only [Array.getD_eq_getD_getElem?] at h2 h3
  simp [results, Tryz.results48, h2, h3, go_sem, c0, c1, c2, c3, d0]

theorem chk_none {s : Bys} (hs : s.length ≤ 100) (h : ∀ T, nx 101 s ≠ some (T, [])) : chk s = 4 := by
  unfold chk
  rw [if_neg (by omega), nx_top hs]
  split
  · rfl
  · rename_i T hT
    split at hT
    · rename_i q; exact absurd q (h _)
    · cases hT
theorem chk_some {s : Bys} {T : Ty} (hs : s.length ≤ 100) (h : nx 101 s = some (T, [])) : s = T.pr ∧ T.wf ∧ chk s = if 6 < T.lev then 2 else 0 := by
  obtain ⟨h1, h2⟩ := nx_sound _ _ _ _ h
  rw [List.append_nil] at h1
  refine ⟨h1, h2, ?_⟩
  unfold chk
  rw [if_neg (by omega), nx_top hs, h]

set_option maxRecDepth 100000 in
set_option maxHeartbeats 25600000 in
theorem read_short (s : Bys) (w : World) (he : Env w) (hs : s.length ≤ 100) : Calls Tryz.prog 48 #[.string (bs s)] w (ReadP s w) := by
  have hmf : ∀ (fn : Fn) (first cap : Array Value) (w : World), (Instr.makeFunc fn first cap).run Tryz.prog w = .ok (.func fn first cap) w := fun _ _ _ _ => rfl
  have hz : ((bs s).size : Int) ≤ 100 := by rw [bs_size]; omega
  have K1 := (((Blk.new w 9 #[.string (bs s)]).alloc (.cells #[.string { data := #[] }, .int .u8 0, .slice none 0 0, .slice none 0 0] 58)).alloc (.cells #[.int .i64 0] 24))
  have K2 := ((Blk.new (w.alloc (.cells #[.string (bs s)] 9)) 58 #[.string { data := #[] }, .int .u8 0, .slice none 0 0, .slice none 0 0]).alloc (.cells #[.int .i64 0] 24))
  have K3 := Blk.new ((w.alloc (.cells #[.string (bs s)] 9)).alloc (.cells #[.string { data := #[] }, .int .u8 0, .slice none 0 0, .slice none 0 0] 58)) 24 #[.int .i64 0]
  have hB := (((Below.refl w.heap.size w).alloc (Nat.le_refl _) (.cells #[.string (bs s)] 9)).alloc (by simp) (.cells #[.string { data := #[] }, .int .u8 0, .slice none 0 0, .slice none 0 0] 58)).alloc (by simp; omega) (.cells #[.int .i64 0] 24)
  simp only [World.size_alloc] at K1 K2 K3
  have hs3 : (((w.alloc (.cells #[.string (bs s)] 9)).alloc (.cells #[.string { data := #[] }, .int .u8 0, .slice none 0 0, .slice none 0 0] 58)).alloc (.cells #[.int .i64 0] 24)).heap.size = w.heap.size + 1 + 1 + 1 := by simp
  have K1 := Lib.hid K1
  have K2 := Lib.hid K2
  have K3 := Lib.hid K3
  have HB := Lib.hid hB
  have HE := Lib.hid (he.below hB)
  clear he hB
  go_enter_defers Tryz.func48, Tryz.ntmps48
  go_wp2_with fail
  generalize ((w.alloc (.cells #[.string (bs s)] 9)).alloc (.cells #[.string { data := #[] }, .int .u8 0, .slice none 0 0, .slice none 0 0] 58)).alloc (.cells #[.int .i64 0] 24) = w3 at *
  have HS3 := Lib.hid hs3
  clear hs3
  refine (kinds_any w3).mono ?_
  rintro e w4 ⟨rfl, hk, hb⟩
  have K14 := Lib.hid (K1.out.below hb (by have := HS3.out; omega))
  have K24 := Lib.hid (K2.out.below hb (by have := HS3.out; omega))
  have K34 := Lib.hid (K3.out.below hb (by have := HS3.out; omega))
  have HK := Lib.hid hk
  have HE4 := Lib.hid (HE.out.below hb)
  have HB4 := Lib.hid (HB.out.trans (hb.mono (by have := HS3.out; omega)))
  have hsz4 : w.heap.size + 1 + 1 + 1 < w4.heap.size := by have := hk.lt; have := HS3.out; omega
  have e1 : w4.cell? ⟨w.heap.size, 0, none⟩ = some (.string (bs s)) := K14.out.cell 0
  have h14 : w.heap.size < w4.heap.size := by omega
  clear hk hb
  generalize w3.heap.size = m at *
  go_wp2_with fail
  generalize hW : (((w4.alloc (.cells #[.map (some m)] 78)).alloc (.cells #[.string (bs s), .int .i64 0] 82)).alloc (.cells #[.pointer (some ⟨w4.heap.size + 1, 0, none⟩)] 80)).alloc (.cells #[.func (.func 75) #[] #[.pointer (some ⟨w4.heap.size + 1 + 1, 0, none⟩), .pointer (some ⟨w4.heap.size, 0, none⟩), .pointer (some ⟨w4.heap.size + 1 + 1 + 1, 0, none⟩), .pointer (some ⟨w.heap.size, 0, none⟩)]] 83) = W at *
  obtain ⟨hNE, hC, hBW, hszW⟩ := read_setup HE4.out K14.out HK.out W hW
  have K2W := Lib.hid (K24.out.below hBW (by omega))
  have K3W := Lib.hid (K34.out.below hBW (by omega))
  have HBW := Lib.hid (HB4.out.trans (hBW.mono (by omega)))
  have HNE := Lib.hid hNE
  have HC := Lib.hid hC
  have HSW := Lib.hid hszW
  clear hNE hC hBW hszW hW
  refine (next_any w.heap.size w4.heap.size (w4.heap.size + 1 + 1) (w4.heap.size + 1 + 1 + 1) (w4.heap.size + 1) m s (by omega) 101 W 0 HNE.out HC.out (Nat.zero_le _) (by omega)).mono ?_
  rintro e w5 (⟨T, r, vs, hnx, rfl, hT, hC5, hG5⟩ | ⟨hnx, rfl, hG5⟩)
  · obtain ⟨an, nn, cn, ak, nk, ck, rfl⟩ := hT.four
    have hsf := suffix_drop 0 (nx_sound _ _ _ _ hnx).1
    have K25 := Lib.hid (K2W.out.grown hG5 (by simp; omega))
    have K35 := Lib.hid (K3W.out.grown hG5 (by simp; omega))
    have HNE5 := Lib.hid (HNE.out.grown hG5)
    have HC5 := Lib.hid hC5
    have HT := Lib.hid hT
    have HSF := Lib.hid hsf.1
    have hrl := hsf.2
    have HNX := Lib.hid hnx
    have HG5 := Lib.hid hG5
    have hz5 := hG5.size
    have c0 := Blk.cell K25.out 0
    have c1 := Blk.cell K25.out 1
    have c2 := Blk.cell K25.out 2
    have c3 := Blk.cell K25.out 3
    have f0 := K25.out.frozen 0
    have f1 := K25.out.frozen 1
    have f2 := K25.out.frozen 2
    have f3 := K25.out.frozen 3
    simp only [List.getElem?_toArray, List.getElem?_cons_zero, List.getElem?_cons_succ] at c0 c1 c2 c3
    clear hT hsf hnx hC5 hG5
    go_upto_region 9 with (fail)
    have hzw := HBW.out.size
    have HS6 : Hid (∀ g, g ≠ w.heap.size + 1 → ((((w5.setCell ⟨w.heap.size + 1, 0, none⟩ (.string (bs T.pr))).setCell ⟨w.heap.size + 1, 1, none⟩ (.int .u8 T.kind)).setCell ⟨w.heap.size + 1, 2, none⟩ (.slice an nn cn)).setCell ⟨w.heap.size + 1, 3, none⟩ (.slice ak nk ck)).heap[g]? = w5.heap[g]?) :=
      Lib.hid fun g hg => (Below.heap_setCell _ _ _ g hg).trans ((Below.heap_setCell _ _ _ g hg).trans ((Below.heap_setCell _ _ _ g hg).trans (Below.heap_setCell _ _ _ g hg)))
    have K26 : Hid (Blk ((((w5.setCell ⟨w.heap.size + 1, 0, none⟩ (.string (bs T.pr))).setCell ⟨w.heap.size + 1, 1, none⟩ (.int .u8 T.kind)).setCell ⟨w.heap.size + 1, 2, none⟩ (.slice an nn cn)).setCell ⟨w.heap.size + 1, 3, none⟩ (.slice ak nk ck)) (w.heap.size + 1) 58 #[.string (bs T.pr), .int .u8 T.kind, .slice an nn cn, .slice ak nk ck]) :=
      Lib.hid ((((K25.out.set_ 0 _).set_ 1 _).set_ 2 _).set_ 3 _)
    have hz6 : ((((w5.setCell ⟨w.heap.size + 1, 0, none⟩ (.string (bs T.pr))).setCell ⟨w.heap.size + 1, 1, none⟩ (.int .u8 T.kind)).setCell ⟨w.heap.size + 1, 2, none⟩ (.slice an nn cn)).setCell ⟨w.heap.size + 1, 3, none⟩ (.slice ak nk ck)).heap.size = w5.heap.size := by simp
    have HG6 : Hid (w.grownBy ((((w5.setCell ⟨w.heap.size + 1, 0, none⟩ (.string (bs T.pr))).setCell ⟨w.heap.size + 1, 1, none⟩ (.int .u8 T.kind)).setCell ⟨w.heap.size + 1, 2, none⟩ (.slice an nn cn)).setCell ⟨w.heap.size + 1, 3, none⟩ (.slice ak nk ck)) (some (w4.heap.size + 1))) :=
      Lib.hid (grown_setCell (grown_setCell (grown_setCell (grown_setCell (grown_trans (grown_of_below HBW.out _) HG5.out) (.inr (by simp)) _) (.inr (by simp)) _) (.inr (by simp)) _) (.inr (by simp)) _)
    clear c0 c1 c2 c3 f0 f1 f2 f3
    generalize (((w5.setCell ⟨w.heap.size + 1, 0, none⟩ (.string (bs T.pr))).setCell ⟨w.heap.size + 1, 1, none⟩ (.int .u8 T.kind)).setCell ⟨w.heap.size + 1, 2, none⟩ (.slice an nn cn)).setCell ⟨w.heap.size + 1, 3, none⟩ (.slice ak nk ck) = w6 at *
    have K36 : Hid (Blk w6 (w.heap.size + 1 + 1) 24 #[.int .i64 0]) := Lib.hid ((HS6.out _ (by omega)).trans K35.out)
    have e1 : w6.cell? ⟨w.heap.size, 0, none⟩ = some (.string (bs s)) := Blk.cell (t := 9) (cs := #[.string (bs s)]) ((HS6.out _ (by omega)).trans HNE5.out.k1) 0
    have e5 : w6.cell? ⟨w4.heap.size + 1 + 1, 0, none⟩ = some (.pointer (some ⟨w4.heap.size + 1, 0, none⟩)) := Blk.cell (t := 80) (cs := #[.pointer (some ⟨w4.heap.size + 1, 0, none⟩)]) ((HS6.out _ (by omega)).trans HNE5.out.k5) 0
    have ec : w6.cell? ⟨w4.heap.size + 1, 1, none⟩ = some (.int .i64 (s.length - r.length : Nat)) := Blk.cell (t := 82) (cs := curArr s (s.length - r.length)) ((HS6.out _ (by omega)).trans HC5.out) 1
    have HT6 : Hid (TyV w6 (fun g => w.heap.size + 1 + 1 + 1 ≤ g) T [.string (bs T.pr), .int .u8 T.kind, .slice an nn cn, .slice ak nk ck]) := Lib.hid ((HT.out.keep (by omega) (fun g hg _ => HS6.out g (by have := HSW.out; omega))).mono (fun g hg _ => by have := HSW.out; omega))
    go_wp2
    go_quiet (fail)
    have K27 : Hid (Blk (w6.drewN nq) (w.heap.size + 1) 58 #[.string (bs T.pr), .int .u8 T.kind, .slice an nn cn, .slice ak nk ck]) := Lib.hid (K26.out.drewN nq)
    have K37 : Hid (Blk (w6.drewN nq) (w.heap.size + 1 + 1) 24 #[.int .i64 0]) := Lib.hid (K36.out.drewN nq)
    have HT7 : Hid (TyV (w6.drewN nq) (fun g => w.heap.size + 1 + 1 + 1 ≤ g) T [.string (bs T.pr), .int .u8 T.kind, .slice an nn cn, .slice ak nk ck]) := Lib.hid (HT6.out.keep (w' := w6.drewN nq) (Nat.le_refl _) (fun g _ _ => rfl))
    have HG7 : Hid (w.grownBy (w6.drewN nq) (some (w4.heap.size + 1))) := Lib.hid (grown_drewN HG6.out nq)
    have hz7 : w4.heap.size ≤ (w6.drewN nq).heap.size := by show _ ≤ w6.heap.size; have := HSW.out; omega
    clear e1 e5 ec
    generalize w6.drewN nq = w7 at *
    have c0 := Blk.cell K27.out 0
    have c1 := Blk.cell K27.out 1
    have c2 := Blk.cell K27.out 2
    have c3 := Blk.cell K27.out 3
    have f0 := K27.out.frozen 0
    have f1 := K27.out.frozen 1
    have f2 := K27.out.frozen 2
    have f3 := K27.out.frozen 3
    have d0 := Blk.cell K37.out 0
    have g0 := K37.out.frozen 0
    simp only [List.getElem?_toArray, List.getElem?_cons_zero, List.getElem?_cons_succ] at c0 c1 c2 c3 d0
    have hneB : w.heap.size + 1 ≠ w.heap.size + 1 + 1 := by omega
    cases r with
    | cons x r =>
      have hd1 : (s.length - (x :: r).length < (bs s).size) := by rw [bs_size]; simp at hrl ⊢; omega
      have hd2 : decide (s.length - (x :: r).length < (bs s).size) = true := by simpa using hd1
      go_wp2
      refine leaves_cons (f := 73) (args := #[.pointer (some ⟨w.heap.size + 1, 0, none⟩), .pointer (some ⟨w.heap.size + 1 + 1, 0, none⟩)]) (by simp) (by simp [go_sem]) ?_
      refine (handler_idle _ _ _).mono ?_
      rintro e u' w9 ⟨rfl, rfl, rfl⟩
      refine ⟨_, ret_read (B := w.heap.size) rfl rfl (Blk.far ((((K27.out.set_ 0 _).set_ 1 _).set_ 2 _).set_ 3 _) hneB _) ((Blk.far (Blk.far (Blk.far (Blk.far K37.out hneB.symm _) hneB.symm _) hneB.symm _) hneB.symm _).set_ 0 _), ?_, .inr ?_⟩
      · exact below_grown (grown_setCell (grown_setCell (grown_setCell (grown_setCell (grown_setCell HG7.out (.inr (by simp)) _) (.inr (by simp)) _) (.inr (by simp)) _) (.inr (by simp)) _) (.inr (by simp; omega)) _) (by omega)
      · have h4 := chk_none hs (fun U h => by
          have e := HNX.out
          rw [List.drop_zero, h] at e
          injection e with e
          injection e with _ e
          cases e)
        rw [h4]
        exact ⟨by decide, rfl⟩
    | nil =>
      have hd1 : ¬ (s.length - ([] : Bys).length < (bs s).size) := by rw [bs_size]; simp
      have hd2 : decide (s.length - ([] : Bys).length < (bs s).size) = false := by simpa using hd1
      have hTp : T.pr.length = s.length := by
        have e := (nx_sound _ _ _ _ HNX.out).1
        rw [List.drop_zero, List.append_nil] at e
        rw [← e]
      have hTw := (nx_sound _ _ _ _ HNX.out).2
      have hlv := Ty.lev_len T hTw
      clear hTw
      go_wp2_with fail
      refine (level_any 101 T _ _ w7 (by omega) (by omega) (by omega) HT7.out).mono ?_
      rintro e w8 ⟨rfl, hb8⟩
      have HB8 := Lib.hid hb8
      have hl7 : w.heap.size + 1 + 1 < w7.heap.size := by omega
      have K28 : Hid (Blk w8 (w.heap.size + 1) 58 #[.string (bs T.pr), .int .u8 T.kind, .slice an nn cn, .slice ak nk ck]) := Lib.hid (K27.out.below hb8 (by omega))
      have K38 : Hid (Blk w8 (w.heap.size + 1 + 1) 24 #[.int .i64 0]) := Lib.hid (K37.out.below hb8 (by omega))
      have HG8 : Hid (w.grownBy w8 (some (w4.heap.size + 1))) := Lib.hid (grown_below HG7.out hb8)
      clear hb8 c0 c1 c2 c3 f0 f1 f2 f3 d0 g0
      have c0 := Blk.cell K28.out 0
      have c1 := Blk.cell K28.out 1
      have c2 := Blk.cell K28.out 2
      have c3 := Blk.cell K28.out 3
      have f0 := K28.out.frozen 0
      have f1 := K28.out.frozen 1
      have f2 := K28.out.frozen 2
      have f3 := K28.out.frozen 3
      have d0 := Blk.cell K38.out 0
      have g0 := K38.out.frozen 0
      simp only [List.getElem?_toArray, List.getElem?_cons_zero, List.getElem?_cons_succ] at c0 c1 c2 c3 d0
      by_cases h6 : 6 < T.lev
      · have h6' : (6 : Int) < (T.lev : Int) := by omega
        go_wp2
        refine leaves_cons (f := 73) (args := #[.pointer (some ⟨w.heap.size + 1, 0, none⟩), .pointer (some ⟨w.heap.size + 1 + 1, 0, none⟩)]) (by simp) (by simp [go_sem]) ?_
        refine (handler_idle _ _ _).mono ?_
        rintro e u' w9 ⟨rfl, rfl, rfl⟩
        refine ⟨_, ret_read (B := w.heap.size) rfl rfl (Blk.far ((((K28.out.set_ 0 _).set_ 1 _).set_ 2 _).set_ 3 _) hneB _) ((Blk.far (Blk.far (Blk.far (Blk.far K38.out hneB.symm _) hneB.symm _) hneB.symm _) hneB.symm _).set_ 0 _), ?_, .inr ?_⟩
        · exact below_grown (grown_setCell (grown_setCell (grown_setCell (grown_setCell (grown_setCell HG8.out (.inr (by simp)) _) (.inr (by simp)) _) (.inr (by simp)) _) (.inr (by simp)) _) (.inr (by simp; omega)) _) (by omega)
        · have e := HNX.out
          rw [List.drop_zero] at e
          have h4 := (chk_some hs e).2.2
          rw [if_pos (by omega)] at h4
          rw [h4]
          exact ⟨by decide, rfl⟩
      · have h6' : (T.lev : Int) ≤ (6 : Int) := by omega
        go_wp2
        refine leaves_cons (f := 73) (args := #[.pointer (some ⟨w.heap.size + 1, 0, none⟩), .pointer (some ⟨w.heap.size + 1 + 1, 0, none⟩)]) (by simp) (by simp [go_sem]) ?_
        refine (handler_idle _ _ _).mono ?_
        rintro e u' w9 ⟨rfl, rfl, rfl⟩
        refine ⟨_, ret_read (B := w.heap.size) rfl rfl (Blk.far ((((K28.out.set_ 0 _).set_ 1 _).set_ 2 _).set_ 3 _) hneB _) ((Blk.far (Blk.far (Blk.far (Blk.far K38.out hneB.symm _) hneB.symm _) hneB.symm _) hneB.symm _).set_ 0 _), ?_, .inl ?_⟩
        · exact below_grown (grown_setCell (grown_setCell (grown_setCell (grown_setCell (grown_setCell HG8.out (.inr (by simp)) _) (.inr (by simp)) _) (.inr (by simp)) _) (.inr (by simp)) _) (.inr (by simp; omega)) _) (by omega)
        · have e := HNX.out
          rw [List.drop_zero] at e
          obtain ⟨h1, h2, h3⟩ := chk_some hs e
          refine ⟨T, [.string (bs T.pr), .int .u8 T.kind, .slice an nn cn, .slice ak nk ck], ⟨h2, by rw [← h1]; exact hs, by omega⟩, h1, rfl, ?_⟩
          exact (HT7.out.keep (by simp; have := HB8.out.size; omega) (fun g hg hl => (Below.heap_setCell _ _ _ g (by simp; omega)).trans ((Below.heap_setCell _ _ _ g (by simp; omega)).trans ((Below.heap_setCell _ _ _ g (by simp; omega)).trans ((Below.heap_setCell _ _ _ g (by simp; omega)).trans ((Below.heap_setCell _ _ _ g (by simp; omega)).trans (HB8.out.block g hl))))))).mono (fun g hg _ => by omega)
  · have K25 := K2W.out.grown hG5 (by simp; omega)
    have K35 := K3W.out.grown hG5 (by simp; omega)
    have hz5 := hG5.size
    have hzw := HBW.out.size
    refine leaves_cons (f := 73) (args := #[.pointer (some ⟨w.heap.size + 1, 0, none⟩), .pointer (some ⟨w.heap.size + 1 + 1, 0, none⟩)]) (by simp) (by simp [go_sem]) ?_
    refine (handler_panic _ _ _ _ _ _ _ w5 K25 K35 (by omega)).mono ?_
    rintro e u' w6 ⟨rfl, rfl, k2, k3, hsz6, hst6, ho, ht, hu⟩
    refine ⟨_, ret_read (B := w.heap.size) rfl rfl k2 k3, ?_, .inr ?_⟩
    · exact ⟨(ho.trans hG5.os).trans HBW.out.os, (ht.trans hG5.tape).trans HBW.out.tape, (hu.trans hG5.output).trans HBW.out.output, by have := HBW.out.size; omega, fun i hi => (hst6 i (by omega) (by omega)).trans ((hG5.block i (by omega) (by simp; omega)).trans (HBW.out.block i hi))⟩
    · have h4 := chk_none hs (by rw [List.drop_zero] at hnx; rw [hnx]; exact fun T h => by cases h)
      rw [h4]
      exact ⟨by decide, rfl⟩

set_option maxRecDepth 100000 in
set_option maxHeartbeats 6400000 in
theorem read_long (s : Bys) (w : World) (hs : 100 < s.length) : Calls Tryz.prog 48 #[.string (bs s)] w (ReadP s w) := by
  have hz : (100 : Int) < ((bs s).size : Int) := by rw [bs_size]; omega
  have hc : chk s = 2 := by unfold chk; rw [if_pos hs]
  have HC := Lib.hid hc
  clear hc
  go_enter_defers Tryz.func48, Tryz.ntmps48
  go_wp2
  have K2 := ((Blk.new (w.alloc (.cells #[.string (bs s)] 9)) 58 #[.string { data := #[] }, .int .u8 0, .slice none 0 0, .slice none 0 0]).alloc (.cells #[.int .i64 2] 24))
  have K3 := Blk.new ((w.alloc (.cells #[.string (bs s)] 9)).alloc (.cells #[.string { data := #[] }, .int .u8 0, .slice none 0 0, .slice none 0 0] 58)) 24 #[.int .i64 2]
  have hB := (((Below.refl w.heap.size w).alloc (Nat.le_refl _) (.cells #[.string (bs s)] 9)).alloc (by simp) (.cells #[.string { data := #[] }, .int .u8 0, .slice none 0 0, .slice none 0 0] 58)).alloc (by simp; omega) (.cells #[.int .i64 2] 24)
  simp only [World.size_alloc] at K2 K3
  exact ⟨_, ret_read (B := w.heap.size) rfl rfl K2 K3, hB, .inr (by rw [HC.out]; exact ⟨by decide, rfl⟩)⟩

/-- read, of every text. -/
theorem read_any (s : Bys) (w : World) (he : Env w) : Calls Tryz.prog 48 #[.string (bs s)] w (ReadP s w) := by
  by_cases hs : s.length ≤ 100
  · exact read_short s w he hs
  · exact read_long s w (by omega)
end Go.Proofs.YthcoppfdffhjfaaGreatDoor
