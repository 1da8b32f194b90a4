/- The contract of package token's Print. -/
import Derived.Test.YtophcjkfhneghaaDoorV
import Derived.Lib.AppendStr
import Derived.Laws.IdiomStrings
import Derived.OwnWalk
namespace Go.Proofs.YtophcjkfhneghaaDoor
open Go Go.RowKit

theorem info5 : (Tryd.prog.info? 5).map (fun i => (i.zero, i.size, i.bytes)) = some (some (.int .u8 0), 1, 1) := by kernel_rfl

/-- Bytes as cells. -/
def byteCells (l : List UInt8) : List Value := l.map fun b => Value.int .u8 b.toNat
theorem byteCells_length (l : List UInt8) : (byteCells l).length = l.length := by simp [byteCells]
theorem byteCells_append (a b : List UInt8) : byteCells (a ++ b) = byteCells a ++ byteCells b := by simp [byteCells]
theorem strCells_bs (l : List UInt8) : Lib.strCells (bs l) = byteCells l := rfl

/-- What Print writes from a place on. -/
def printA : Int → Bool → List Tok → List UInt8
  | _, _, [] => [10]
  | line, gap, t :: l => List.replicate (t.line - line).toNat 10 ++ (if gap && decide (t.line ≤ line) then [32] else []) ++ t.text ++ printA t.line true l

/-- What Print answers. -/
def printR (l : List Tok) : List UInt8 × Int :=
  if (checkR l).2 = 0 then (if l = [] then ([], 0) else if 20000 < (printA 1 false l).length then ([], 2) else (printA 1 false l, 0)) else ([], (checkR l).2)

/-- A growing text of the call's own. -/
def Out (w : World) (B : Nat) (v : Value) (l : List UInt8) : Prop := w.ownsRow B 5 1 v l.length (byteCells l)

theorem printR_long {l : List Tok} {o : List UInt8} (h0 : (checkR l).2 = 0) (h1 : ¬ l.length = 0) (h2 : o = printA 1 false l) (h3 : 20000 < o.length) : printR l = ([], 2) := by
  have hne : ¬ l = [] := fun h => h1 (by rw [h]; rfl)
  subst h2
  simp [printR, h0, hne, h3]
theorem printR_ok {l : List Tok} {o : List UInt8} (h0 : (checkR l).2 = 0) (h1 : ¬ l.length = 0) (h2 : o = printA 1 false l) (h3 : ¬ 20000 < o.length) : printR l = (o, 0) := by
  have hne : ¬ l = [] := fun h => h1 (by rw [h]; rfl)
  subst h2
  simp [printR, h0, hne, h3]
theorem check_step {k : Nat} {line : Int} {t : Tok} {l : List Tok} (h : (checkA k line (t :: l)).2 = 0) : line ≤ t.line ∧ t.line ≤ 20000 ∧ (checkA (k + 1) t.line l).2 = 0 := by
  rw [checkA] at h
  split at h
  · cases h
  split at h
  · cases h
  · rename_i h1 h2
    exact ⟨by omega, by omega, h⟩

theorem out_snoc {w : World} {B : Nat} {v : Value} {l : List UInt8} {b : UInt8} {n : Int} (hn : (b.toNat : Int) = n) (h : w.ownsRow B 5 1 v (l.length + 1) (byteCells l ++ [.int .u8 n])) : Out w B v (l ++ [b]) := by
  unfold Out
  rw [byteCells_append, List.length_append]
  subst hn
  exact h
theorem out_text {w : World} {B : Nat} {v : Value} {l x : List UInt8} (h : w.ownsRow B 5 1 v (l.length + (bs x).size) (byteCells l ++ Lib.strCells (bs x))) : Out w B v (l ++ x) := by
  unfold Out
  rw [byteCells_append, List.length_append]
  rw [bs_size, strCells_bs] at h
  exact h
theorem gap_no {gap : Bool} {line line2 : Int} (h : line ≤ line2) : false = (gap && decide (line2 + 1 ≤ line)) := by
  have : ¬ line2 + 1 ≤ line := by omega
  simp [this]
theorem nl_more {out out2 : List UInt8} {line line2 : Int} (h : out2 = out ++ List.replicate (line2 - line).toNat 10) (hl : line ≤ line2) : out2 ++ [10] = out ++ List.replicate (line2 + 1 - line).toNat 10 := by
  rw [show (line2 + 1 - line).toNat = (line2 - line).toNat + 1 by omega, List.replicate_succ', h, List.append_assoc]
theorem print_step {out out2 out3 : List UInt8} {line : Int} {gap : Bool} {t : Tok} {l : List Tok} {all : List UInt8} (h : out ++ printA line gap (t :: l) = all) (h2 : out2 = out ++ List.replicate (t.line - line).toNat 10)
    (h3 : out3 = out2 ++ (if gap && decide (t.line ≤ line) then [32] else []) ++ t.text) : out3 ++ printA t.line true l = all := by
  rw [← h, h3, h2, printA]
  simp only [List.append_assoc]

theorem out_some {w : World} {B : Nat} {v : Value} {l : List UInt8} (h : Out w B v l) (hn : 0 < l.length) : ∃ g cap, v = .slice (some ⟨g, 0, none⟩) l.length cap ∧ (convert 64 9 (.slice (some ⟨g, 0, none⟩) l.length cap)).run Tryd.prog w = .ok (.string (bs l)) w := by
  obtain ⟨g, cap, hv, hg⟩ := own_slice h hn
  refine ⟨g, cap, hv, ?_⟩
  subst hv
  refine run_convert_bytes_back w 64 9 5 ⟨g, 0, none⟩ cap l Tryd.underlying64 (by kernel_rfl) Tryd.underlying9 fun j hj => ?_
  refine World.ownsRow.cells (g := g) h rfl j _ ?_
  simp [byteCells, hj]

theorem box_kept {w w' : World} {B g n size : Nat} {v : Value} {xs : List Value} {cs : Array Value} (ho : w.ownsRow B 5 size v n xs) (hb : Blk w g 38 cs) (hg : w.grownBy w' v.ownBlock) : Blk w' g 38 cs :=
  hb.grown hg (by intro e; obtain ⟨_, cs', fr, h⟩ := own_turn ho e.symm hb; cases h)
theorem out_below {w w' W : World} {B n size : Nat} {v : Value} {xs : List Value} (h : Below B W w) (hB : B ≤ w.heap.size) (ho : w.ownsRow B 5 size v n xs) (hg : w.grownBy w' v.ownBlock) : Below B W w' :=
  h.grown hg hB fun k hk => (ho.lt k hk).1

set_option maxRecDepth 100000 in
set_option maxHeartbeats 12800000 in
theorem Print_any (l : List Tok) (g o cap : Nat) (w : World) (he : Env w) (hr : TokRow w g o l) (hg : g < w.heap.size) (hn : l.length ≤ 20000) (ht : ∀ t ∈ l, t.text.length ≤ 20000) :
    Calls Tryd.prog 31 #[.slice (some ⟨g, o, none⟩) l.length cap] w fun e w' => e = .returned (.tuple #[.string (bs (printR l).1), .int .i64 (printR l).2]) ∧ Below w.heap.size w w' := by
  have HE := Lib.hid he
  have HR := Lib.hid hr
  clear he hr
  obtain ⟨i0, hi, hz0, hz1, hz2⟩ := info_parts info5
  go_enter Tryd.func31, Tryd.ntmps31
  go_wp2_with fail
  refine (Check_any l g o cap w HE.out HR.out hg (by omega)).mono ?_
  rintro e w1 ⟨rfl, hb⟩
  have HB := Lib.hid hb
  clear hb
  by_cases q0 : (checkR l).2 = 0
  · have q0' : ((checkR l).2 != 0) = false := by simp [q0]
    by_cases q1 : l.length = 0
    · have HQ := Lib.hid q1
      have HQ0 := Lib.hid q0
      go_wp2
      go_ret2
      have h1 : l = [] := List.eq_nil_of_length_eq_zero HQ.out
      subst h1
      exact ⟨by simp [printR, HQ0.out, bs], HB.out⟩
    · have HQ := Lib.hid q1
      have q1' : ((l.length : Int) == 0) = false := by simp; intro h; exact HQ.out (by rw [h]; rfl)
      have HQ0 := Lib.hid q0
      clear q0
      go_wp2
      go_loopw [6, 7, 8, 24] (fun v ln gp i wr => ∃ (out : List UInt8) (line : Int) (gap : Bool) (k : Nat), k ≤ l.length ∧ Out wr w1.heap.size v out ∧ ln = .int .i64 line ∧ gp = .bool gap ∧ i = .int .i64 k ∧ Below w1.heap.size w1 wr ∧
        out ++ printA line gap (l.drop k) = printA 1 false l ∧ (checkA k line (l.drop k)).2 = 0 ∧ 1 ≤ line ∧ line ≤ 20000 ∧ (out.length : Int) ≤ k * 20001 + line) (fun _ _ _ i _ => l.length - (intOf i).toNat)
      case atStart => exact ⟨[], 1, false, 0, by omega, World.ownsRow_nil _ _ _ _, rfl, rfl, rfl, Below.refl _ w1, rfl, HQ0.out, by omega, by omega, by simp⟩
      case round =>
        obtain ⟨out, line, gap, k, hk, ho, rfl, rfl, rfl, hbw, hpr, hch, hl1, hl2, hlen⟩ := hrel
        have HO := Lib.hid ho
        have HBW := Lib.hid hbw
        have HPR := Lib.hid hpr
        have HCH := Lib.hid hch
        have HLEN := Lib.hid hlen
        clear ho hbw hpr hch hlen
        have sz : w1.heap.size ≤ wr.heap.size := HBW.out.size
        have sz0 : w.heap.size ≤ w1.heap.size := HB.out.size
        by_cases hlt : k < l.length
        · obtain ⟨a0, a1, a2⟩ := ((HR.out.below HB.out hg).below HBW.out (by omega)) k l[k] (List.getElem?_eq_getElem hlt)
          have hdrop := Lib.hid (List.drop_eq_getElem_cons hlt)
          obtain ⟨hs1, hs2, hs3⟩ := check_step (hdrop.out ▸ HCH.out)
          have HS3 := Lib.hid hs3
          have HTX := Lib.hid (ht l[k] (List.getElem_mem hlt))
          clear hs3
          obtain ⟨W0, hW0⟩ : ∃ W0, W0 = wr := ⟨_, rfl⟩
          subst hW0
          obtain ⟨V0, hV0⟩ : ∃ V0, V0 = u6 := ⟨_, rfl⟩
          subst hV0
          go_wp2
          have HBB := Lib.hid (HBW.out.alloc sz (.cells #[.int .u8 l[k].kind, .string (bs l[k].text), .int .i64 l[k].line] 38))
          have HNEW := Lib.hid (Blk.new W0 38 #[.int .u8 l[k].kind, .string (bs l[k].text), .int .i64 l[k].line])
          have HO0 : Hid (Out (W0.alloc (.cells #[.int .u8 l[k].kind, .string (bs l[k].text), .int .i64 l[k].line] 38)) w1.heap.size V0 out) := Lib.hid (World.ownsRow.alloc HO.out _)
          clear a0 a1 a2
          go_loopw [6, 7, 8] (fun v ln gp wi => ∃ (out2 : List UInt8) (line2 : Int) (gap2 : Bool), Out wi w1.heap.size v out2 ∧ ln = .int .i64 line2 ∧ gp = .bool gap2 ∧ Below w1.heap.size w1 wi ∧ Blk wi W0.heap.size 38 #[.int .u8 l[k].kind, .string (bs l[k].text), .int .i64 l[k].line] ∧
            line ≤ line2 ∧ line2 ≤ l[k].line ∧ out2 = out ++ List.replicate (line2 - line).toNat 10 ∧ gap2 = (gap && decide (line2 ≤ line))) (fun _ ln _ _ => (l[k].line - intOf ln).toNat)
          case atStart => exact ⟨out, line, gap, HO0.out, rfl, rfl, HBB.out, HNEW.out, by omega, by omega, by simp, by simp⟩
          case round =>
            obtain ⟨out2, line2, gap2, ho2, rfl, rfl, hb2, hx2, hm1, hm2, ho3, hg3⟩ := hrel
            have HO2 := Lib.hid ho2
            have HB2 := Lib.hid hb2
            have HX2 := Lib.hid hx2
            have HO3 := Lib.hid ho3
            have HG3 := Lib.hid hg3
            clear ho2 hb2 hx2 ho3 hg3
            have c1 := HX2.out.cell 1
            have c2 := HX2.out.cell 2
            simp only [List.getElem?_toArray, List.getElem?_cons_zero, List.getElem?_cons_succ] at c1 c2
            have HL := HLEN.out
            have LO2 := Lib.hid (show out2.length = out.length + (line2 - line).toNat by have := HO3.out; rw [this]; simp)
            by_cases hlt2 : line2 < l[k].line
            · go_wp2_with (at_builtin; refine wpList_append_own _ rfl _ _ 64 rfl w1.heap.size 5 i0 _ 1 1 Tryd.underlying64 hi hz0 hz1 hz2 rfl (by decide) u6 out2.length (byteCells out2) rfl (World.ownsRow.alloc HO2.out _) ⟨wr.heap.size, 0, none⟩ 1 1 [.int .u8 10] rfl rfl ?aw1 ?aw2 ?aw3 ?aw4 ?aw5 ?_)
              case aw1 => exact World.news_of_block (cs := #[.int .u8 10]) (t := 5) (fr := (0, 0)) (heap_alloc_new wr _)
              case aw2 => simp [Value.oneCell']
              case aw3 => have := LO2.out; unfold maxLen; omega
              case aw4 => have := LO2.out; omega
              case aw5 => have := HB2.out.size; simp; omega
              intro v2 w2 hown2 hgrow _
              have ho5 := Lib.hid (out_snoc (b := 10) rfl hown2)
              have hb5 := Lib.hid (out_below (HB2.out.alloc HB2.out.size (.cells #[.int .u8 10] 5)) (by have := HB2.out.size; simp; omega) (World.ownsRow.alloc HO2.out _) hgrow)
              have hx5 := Lib.hid (box_kept (World.ownsRow.alloc HO2.out _) (HX2.out.alloc _) hgrow)
              clear hown2 hgrow c1 c2
              go_wp2
              go_roundw
              case rel => exact ⟨out2 ++ [10], line2 + 1, false, ho5.out, by go_num, rfl, hb5.out, hx5.out, by omega, by omega, nl_more HO3.out hm1, gap_no hm1⟩
              case measure => simp [intOf]; omega
            · have hl3 : line2 = l[k].line := by omega
              have BSZ := Lib.hid (bs_size l[k].text)
              have htx := HTX.out
              have szw := HB2.out.size
              cases gap2
              · have HO4 := Lib.hid (show out2 ++ l[k].text = out2 ++ (if gap && decide (l[k].line ≤ line) then [32] else []) ++ l[k].text by
                  have := HG3.out
                  rw [hl3] at this
                  rw [← this]
                  simp)
                subst hl3
                go_wp2_with (at_builtin; refine Lib.wpList_append_own_string _ rfl _ _ 64 9 rfl w1.heap.size 5 i0 Tryd.underlying64 Tryd.underlying9 hi hz0 hz1 hz2 u6 out2.length (byteCells out2) rfl HO2.out (bs l[k].text) rfl ?bw1 ?bw2 ?bw3 ?_)
                case bw1 => have := LO2.out; have := BSZ.out; unfold maxLen; omega
                case bw2 => have := LO2.out; have := BSZ.out; omega
                intro v3 w3 hown3 hgrow _
                have ho6 := Lib.hid (out_text hown3)
                have hb6 := Lib.hid (out_below HB2.out szw HO2.out hgrow)
                clear hown3 hgrow c1 c2
                go_wp2
                go_roundw
                case rel => exact ⟨out2 ++ l[k].text, l[k].line, true, k + 1, by omega, ho6.out, rfl, rfl, by go_num, hb6.out, print_step (hdrop.out ▸ HPR.out) HO3.out HO4.out, HS3.out, by omega, by omega, by simp only [List.length_append]; have := LO2.out; omega⟩
                case measure => simp [intOf]; omega
              · have HO4 := Lib.hid (show out2 ++ [32] ++ l[k].text = out2 ++ (if gap && decide (l[k].line ≤ line) then [32] else []) ++ l[k].text by
                  have := HG3.out
                  rw [hl3] at this
                  rw [← this]
                  simp)
                subst hl3
                go_wp2_with (at_builtin; refine wpList_append_own _ rfl _ _ 64 rfl w1.heap.size 5 i0 _ 1 1 Tryd.underlying64 hi hz0 hz1 hz2 rfl (by decide) u6 out2.length (byteCells out2) rfl (World.ownsRow.alloc HO2.out _) ⟨wr.heap.size, 0, none⟩ 1 1 [.int .u8 32] rfl rfl ?dw1 ?dw2 ?dw3 ?dw4 ?dw5 ?_)
                case dw2 => simp [Value.oneCell']
                case dw3 => have := LO2.out; have := BSZ.out; unfold maxLen; omega
                case dw4 => have := LO2.out; omega
                case dw5 => first | omega | (simp; omega)
                intro v2 w2 hown2 hgrow _
                have ho5w := Lib.hid (out_snoc (b := 32) rfl hown2)
                obtain ⟨out5, H5⟩ : ∃ x : List UInt8, Hid (x = out2 ++ [32]) := ⟨_, Lib.hid rfl⟩
                have ho5 : Hid (Out w2 w1.heap.size v2 out5) := Lib.hid (by rw [H5.out]; exact ho5w.out)
                clear ho5w
                have hb5 := Lib.hid (out_below (HB2.out.alloc szw (.cells #[.int .u8 32] 5)) (by simp; omega) (World.ownsRow.alloc HO2.out _) hgrow)
                have hx5 := Lib.hid (box_kept (World.ownsRow.alloc HO2.out _) (HX2.out.alloc _) hgrow)
                clear hown2 hgrow c1 c2
                have c1 := hx5.out.cell 1
                simp only [List.getElem?_toArray, List.getElem?_cons_zero, List.getElem?_cons_succ] at c1
                have LO5 := Lib.hid (show out5.length = out2.length + 1 by rw [H5.out]; simp)
                have szw2 := hb5.out.size
                go_wp2_with (at_builtin; refine Lib.wpList_append_own_string _ rfl _ _ 64 9 rfl w1.heap.size 5 i0 Tryd.underlying64 Tryd.underlying9 hi hz0 hz1 hz2 v2 out5.length (byteCells out5) rfl ho5.out (bs l[k].text) rfl ?ew1 ?ew2 ?ew3 ?_)
                case ew1 => have := LO2.out; have := BSZ.out; have := LO5.out; unfold maxLen; omega
                case ew2 => have := LO2.out; have := BSZ.out; have := LO5.out; omega
                case ew3 => omega
                intro v3 w3 hown3 hgrow _
                have ho6 := Lib.hid (out_text hown3)
                have hb6 := Lib.hid (out_below hb5.out szw2 ho5.out hgrow)
                clear hown3 hgrow c1
                go_wp2
                go_roundw
                case rel => exact ⟨out5 ++ l[k].text, l[k].line, true, k + 1, by omega, ho6.out, rfl, rfl, by go_num, hb6.out, print_step (hdrop.out ▸ HPR.out) HO3.out (H5.out ▸ HO4.out), HS3.out, by omega, by omega, by simp only [List.length_append]; have := LO2.out; have := LO5.out; omega⟩
                case measure => simp [intOf]; omega
        · have : k = l.length := by omega
          subst this
          have HL := HLEN.out
          go_wp2_with (at_builtin; refine wpList_append_own _ rfl _ _ 64 rfl w1.heap.size 5 i0 _ 1 1 Tryd.underlying64 hi hz0 hz1 hz2 rfl (by decide) u6 out.length (byteCells out) rfl (World.ownsRow.alloc HO.out _) ⟨wr.heap.size, 0, none⟩ 1 1 [.int .u8 10] rfl rfl ?fw1 ?fw2 ?fw3 ?fw4 ?fw5 ?_)
          case fw1 => exact World.news_of_block (cs := #[.int .u8 10]) (t := 5) (fr := (0, 0)) (heap_alloc_new wr _)
          case fw2 => simp [Value.oneCell']
          case fw3 => unfold maxLen; omega
          case fw4 => omega
          case fw5 => simp; omega
          intro v2 w2 hown2 hgrow _
          have ho2 : Out w2 w1.heap.size v2 (out ++ [10]) := by
            unfold Out
            rw [byteCells_append, List.length_append]
            exact hown2
          have hb2 := Lib.hid (out_below (HBW.out.alloc sz (.cells #[.int .u8 10] 5)) (by simp; omega) (World.ownsRow.alloc HO.out _) hgrow)
          clear hown2 hgrow
          obtain ⟨g2, cp2, rfl, hcv⟩ := out_some ho2 (by simp)
          have hfin : Hid (out ++ [10] = printA 1 false l) := by
            have := HPR.out
            rw [List.drop_length] at this
            exact this
          clear ho2
          simp only [List.length_append, List.length_singleton] at hcv
          simp only [List.length_append, List.length_singleton]
          by_cases q2 : 20000 < out.length + 1
          · have q2' : (20000 : Int) < (out.length : Int) + 1 := by omega
            have HQ2 := Lib.hid q2
            go_wp2
            go_ret2
            exact ⟨by rw [printR_long HQ0.out HQ.out hfin.out (by simpa using HQ2.out)]; rfl, HB.out.trans (hb2.out.mono sz0)⟩
          · have q2' : ¬ (20000 : Int) < (out.length : Int) + 1 := by omega
            have HQ2 := Lib.hid q2
            go_wp2
            go_ret2
            exact ⟨by rw [printR_ok HQ0.out HQ.out hfin.out (by simpa using HQ2.out)]; rfl, HB.out.trans (hb2.out.mono sz0)⟩
  · have q0' : ((checkR l).2 != 0) = true := by simp [q0]
    have HQ := Lib.hid q0
    go_wp2
    go_ret2
    exact ⟨by simp [printR, HQ.out, bs], HB.out⟩
end Go.Proofs.YtophcjkfhneghaaDoor
