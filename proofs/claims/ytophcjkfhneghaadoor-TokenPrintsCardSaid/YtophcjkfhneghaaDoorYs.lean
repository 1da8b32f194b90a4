/- The reference's Print, Apart; Check and Print of an empty list. -/
import Derived.Test.YtophcjkfhneghaaDoorYr
namespace Go.Proofs.YtophcjkfhneghaaDoor
open Go Go.RowKit

set_option maxRecDepth 100000 in
set_option maxHeartbeats 3200000 in
theorem Check_nil (ao : Option Addr) (cap : Nat) (w : World) (he : Env w) :
    Calls Tryd.prog 29 #[.slice ao 0 cap] w fun e w' => e = .returned (.tuple #[.int .i64 0, .int .i64 0]) ∧ Below w.heap.size w w' := by
  have HE := Lib.hid he
  clear he
  go_enter Tryd.func29, Tryd.ntmps29
  go_wp2_with fail
  refine (newLexicon_any w HE.out).mono ?_
  rintro e w1 ⟨m, rfl, hx, hm, hb⟩
  have HB := Lib.hid hb
  clear hx hb
  go_wp2
  go_loopw [5, 11] (fun ln i wr => ln = .int .i64 1 ∧ i = .int .i64 0 ∧ wr = w1) (fun _ _ _ => 0)
  case atStart => exact ⟨rfl, rfl, rfl⟩
  case round =>
    obtain ⟨rfl, rfl, rfl⟩ := hrel
    go_wp2
    go_ret2
    exact ⟨rfl, HB.out⟩

set_option maxRecDepth 100000 in
set_option maxHeartbeats 3200000 in
theorem Print_nil (ao : Option Addr) (cap : Nat) (w : World) (he : Env w) :
    Calls Tryd.prog 31 #[.slice ao 0 cap] w fun e w' => e = .returned (.tuple #[.string (bs []), .int .i64 0]) ∧ Below w.heap.size w w' := by
  have HE := Lib.hid he
  clear he
  go_enter Tryd.func31, Tryd.ntmps31
  go_wp2_with fail
  refine (Check_nil ao cap w HE.out).mono ?_
  rintro e w1 ⟨rfl, hb⟩
  have HB := Lib.hid hb
  clear hb
  go_wp2
  go_ret2
  exact ⟨rfl, HB.out⟩

set_option maxRecDepth 100000 in
set_option maxHeartbeats 3200000 in
theorem refCheck_nil (ao : Option Addr) (cap : Nat) (w : World) :
    Calls Tryd.prog 30 #[.slice ao 0 cap] w fun e w' => e = .returned (.tuple #[.int .i64 0, .int .i64 0]) ∧ Below w.heap.size w w' := by
  go_enter Tryd.func30, Tryd.ntmps30
  go_wp2
  go_loopw [4] (fun i wr => i = .int .i64 0 ∧ wr = w) (fun _ _ => 0)
  case atStart => exact ⟨rfl, rfl⟩
  case round =>
    obtain ⟨rfl, rfl⟩ := hrel
    go_wp2
    go_ret2
    exact ⟨rfl, Below.refl _ _⟩

set_option maxRecDepth 100000 in
set_option maxHeartbeats 3200000 in
theorem refPrint_nil (ao : Option Addr) (cap : Nat) (w : World) :
    Calls Tryd.prog 32 #[.slice ao 0 cap] w fun e w' => e = .returned (.tuple #[.string (bs []), .int .i64 0]) ∧ Below w.heap.size w w' := by
  go_enter Tryd.func32, Tryd.ntmps32
  go_wp2_with fail
  refine (refCheck_nil ao cap w).mono ?_
  rintro e w1 ⟨rfl, hb⟩
  have HB := Lib.hid hb
  clear hb
  go_wp2
  go_loopw [6, 7, 8] (fun v ln i wr => v = .string (bs []) ∧ ln = .int .i64 1 ∧ i = .int .i64 0 ∧ wr = w1) (fun _ _ _ _ => 0)
  case atStart => exact ⟨rfl, rfl, rfl, rfl⟩
  case round =>
    obtain ⟨rfl, rfl, rfl, rfl⟩ := hrel
    go_wp2
    go_ret2
    exact ⟨rfl, HB.out⟩

theorem print_put {l : List Tok} {k : Nat} (hlt : k < l.length) {out out2 all : List UInt8} (h : out ++ printA (lineAt l k) (decide (0 < k)) (l.drop k) = all) (h2 : out2 = out ++ List.replicate (l[k].line - lineAt l k).toNat 10) (sep : List UInt8)
    (hsep : sep = if decide (0 < k) && decide (l[k].line ≤ lineAt l k) then [32] else []) : out2 ++ sep ++ l[k].text ++ printA (lineAt l (k + 1)) (decide (0 < k + 1)) (l.drop (k + 1)) = all := by
  rw [List.drop_eq_getElem_cons hlt, printA] at h
  rw [← h, h2, hsep, lineAt_succ hlt]
  simp only [List.append_assoc, Nat.zero_lt_succ, decide_true]
theorem out_more {o2 x sep : List UInt8} {k : Nat} {ln : Int} (h : (o2.length : Int) ≤ k * 20001 + ln) (hx : x.length ≤ 20000) (hs : sep.length ≤ 1) : (((o2 ++ sep ++ x).length : Nat) : Int) ≤ ((k + 1 : Nat) : Int) * 20001 + ln := by
  simp only [List.length_append]
  omega

set_option maxRecDepth 100000 in
set_option maxHeartbeats 12800000 in
theorem refPrint_rows (l : List Tok) (g o cap : Nat) (w : World) (hr : TokRow w g o l) (hg : g < w.heap.size) (hn : l.length ≤ 20000) (hs : ∀ t ∈ l, t.text.length ≤ 20000) :
    Calls Tryd.prog 32 #[.slice (some ⟨g, o, none⟩) l.length cap] w fun e w' => e = .returned (.tuple #[.string (bs (printR l).1), .int .i64 (printR l).2]) ∧ Below w.heap.size w w' := by
  have HR := Lib.hid hr
  have HS := Lib.hid hs
  clear hr hs
  go_enter Tryd.func32, Tryd.ntmps32
  go_wp2_with fail
  refine (refCheck_rows l g o cap w HR.out hg hn (fun t ht => by have := HS.out t ht; omega)).mono ?_
  rintro e w1 ⟨rfl, hb⟩
  have HB := Lib.hid hb
  have HR1 := Lib.hid (HR.out.below hb hg)
  clear hb
  by_cases q0 : (checkR l).2 = 0
  · have q0' : ((checkR l).2 != 0) = false := by simp [q0]
    have HQ0 := Lib.hid q0
    clear q0
    go_wp2
    go_loopw [6, 7, 8] (fun v ln i wr => ∃ (out : List UInt8) (k n : Nat), k ≤ l.length ∧ v = .string (bs out) ∧ ln = .int .i64 (lineAt l k) ∧ i = .int .i64 k ∧ wr = w1.drewN n ∧
      out ++ printA (lineAt l k) (decide (0 < k)) (l.drop k) = printA 1 false l ∧ (checkA k (lineAt l k) (l.drop k)).2 = 0 ∧ 1 ≤ lineAt l k ∧ lineAt l k ≤ 20000 ∧ (out.length : Int) ≤ k * 20001 + lineAt l k) (fun _ _ i _ => l.length - (intOf i).toNat)
    case atStart => exact ⟨[], 0, 0, by omega, rfl, rfl, rfl, rfl, rfl, HQ0.out, (by show (1 : Int) ≤ 1; omega), (by show (1 : Int) ≤ 20000; omega), (by show ((0 : Nat) : Int) ≤ ((0 : Nat) : Int) * 20001 + 1; omega)⟩
    case round =>
      obtain ⟨out, k, n, hk, rfl, rfl, rfl, rfl, hpr, hch, hl1, hl2, hlen⟩ := hrel
      have HPR := Lib.hid hpr
      have HCH := Lib.hid hch
      have HLEN := Lib.hid hlen
      have HL1 := Lib.hid hl1
      have HL2 := Lib.hid hl2
      clear hpr hch hlen hl1 hl2
      by_cases hlt : k < l.length
      · obtain ⟨a0, a1, a2⟩ := HR1.out k l[k] (List.getElem?_eq_getElem hlt)
        have hdrop := Lib.hid (List.drop_eq_getElem_cons hlt)
        obtain ⟨hs1, hs2, hs3⟩ := check_step (hdrop.out ▸ HCH.out)
        have HS1 := Lib.hid hs1
        have HS2 := Lib.hid hs2
        have HS3 := Lib.hid hs3
        have HTX := Lib.hid (HS.out l[k] (List.getElem_mem hlt))
        clear hs1 hs2 hs3
        go_wp2
        go_loopw [6, 7] (fun v ln wi => ∃ (out2 : List UInt8) (line2 : Int), v = .string (bs out2) ∧ ln = .int .i64 line2 ∧ wi = w1.drewN n ∧
          lineAt l k ≤ line2 ∧ line2 ≤ l[k].line ∧ out2 = out ++ List.replicate (line2 - lineAt l k).toNat 10) (fun _ ln _ => (l[k].line - intOf ln).toNat)
        case atStart => exact ⟨out, lineAt l k, rfl, rfl, rfl, Int.le_refl _, HS1.out, by simp⟩
        case round =>
          obtain ⟨out2, line2, rfl, rfl, rfl, hm1, hm2, ho3⟩ := hrel
          have HO3 := Lib.hid ho3
          have HM1 := Lib.hid hm1
          have HM2 := Lib.hid hm2
          clear ho3 hm1 hm2
          have LO2 := Lib.hid (show (out2.length : Int) ≤ k * 20001 + line2 by
            have h1 := HO3.out; have h2 := HLEN.out; have h3 := HM1.out
            rw [h1]
            simp only [List.length_append, List.length_replicate]
            omega)
          have BZ := bs_size out2
          have z1 : ¬ 9223372036854775807 < (bs out2).size + 1 := by have := LO2.out; have := HM2.out; have := HS2.out; omega
          have z2 : IntKind.i64.wrap (line2 + 1) = line2 + 1 := by have := HM1.out; have := HL1.out; have := HM2.out; have := HS2.out; rw [IntKind.wrap_i64]; omega
          clear BZ
          by_cases hlt2 : line2 < l[k].line
          · go_wp2
            go_roundw
            case rel =>
              refine ⟨out2 ++ [10], line2 + 1, by rw [← bs_append]; rfl, rfl, (by first | trivial | rfl), by have := HM1.out; omega, by omega, nl_more HO3.out HM1.out⟩
            case measure => simp [intOf]; omega
          · have hle := HM2.out
            obtain rfl : line2 = l[k].line := by omega
            have hza : IntKind.i64.wrap ((k : Int) + 1) = (k : Int) + 1 := by rw [IntKind.wrap_i64]; omega
            have BT := bs_size l[k].text
            have z3 : ¬ 9223372036854775807 < (bs out2).size + (bs l[k].text).size := by have := HTX.out; have := LO2.out; have := HS2.out; have := bs_size out2; omega
            have z4 : ¬ 9223372036854775807 < (bs out2).size + 1 + (bs l[k].text).size := by have := HTX.out; have := LO2.out; have := HS2.out; have := bs_size out2; omega
            have B1 : 1 ≤ l[k].line := by have := HS1.out; have := HL1.out; omega
            have HB1 := Lib.hid B1
            clear BT B1 hle
            rcases k with _ | j
            · simp only [Nat.zero_mul, Nat.add_zero] at a0 a1 a2
              go_wp2_with fail
              go_quiet (fail)
              go_wp2
              go_roundw
              case rel =>
                refine ⟨out2 ++ [] ++ l[0].text, 1, n + nq, by omega, by rw [List.append_nil, ← bs_append], by rw [lineAt_succ hlt], by go_num, by simp [World.drewN], print_put hlt HPR.out HO3.out [] rfl, by rw [lineAt_succ hlt]; exact HS3.out, by rw [lineAt_succ hlt]; exact HB1.out, by rw [lineAt_succ hlt]; exact HS2.out, by rw [lineAt_succ hlt]; exact out_more (k := 0) LO2.out HTX.out (by simp)⟩
              case measure => simp [intOf]; omega
            · have hltj : j < l.length := by omega
              obtain ⟨_, _, b2⟩ := HR1.out j l[j] (List.getElem?_eq_getElem hltj)
              have hwj : IntKind.i64.wrap (j : Int) = (j : Int) := by rw [IntKind.wrap_i64]; omega
              have hwj2 : IntKind.i64.wrap ((j : Int) + 1 - 1) = (j : Int) := by rw [IntKind.wrap_i64]; omega
              have hpj : (0 : Int) < (j : Int) + 1 := by omega
              have i0 : (0 : Int) ≤ (j : Int) := by omega
              have i1 : (j : Int) < (l.length : Int) := by omega
              have hla := HS1.out
              rw [lineAt_succ hltj] at hla
              by_cases hgp : l[j].line = l[j + 1].line
              · have HGP := Lib.hid hgp
                clear hla
                go_wp2_with fail
                go_quiet (fail)
                go_wp2
                go_roundw
                case rel =>
                  refine ⟨out2 ++ [32] ++ l[j + 1].text, j + 2, n + nq, by omega, by rw [← bs_append, ← bs_append]; rfl, by rw [lineAt_succ hlt], by go_num, by simp [World.drewN], print_put hlt HPR.out HO3.out [32] (by rw [lineAt_succ hltj, HGP.out]; simp), by rw [lineAt_succ hlt]; exact HS3.out, by rw [lineAt_succ hlt]; exact HB1.out, by rw [lineAt_succ hlt]; exact HS2.out, by rw [lineAt_succ hlt]; exact out_more LO2.out HTX.out (by simp)⟩
                case measure => simp [intOf]; omega
              · have HGP := Lib.hid (show ¬ l[j + 1].line ≤ l[j].line by omega)
                clear hla
                go_wp2_with fail
                go_quiet (fail)
                go_wp2
                go_roundw
                case rel =>
                  refine ⟨out2 ++ [] ++ l[j + 1].text, j + 2, n + nq, by omega, by rw [List.append_nil, ← bs_append], by rw [lineAt_succ hlt], by go_num, by simp [World.drewN], print_put hlt HPR.out HO3.out [] (by rw [lineAt_succ hltj]; simp [HGP.out]), by rw [lineAt_succ hlt]; exact HS3.out, by rw [lineAt_succ hlt]; exact HB1.out, by rw [lineAt_succ hlt]; exact HS2.out, by rw [lineAt_succ hlt]; exact out_more LO2.out HTX.out (by simp)⟩
                case measure => simp [intOf]; omega
      · obtain rfl : k = l.length := by omega
        have hall := HPR.out
        rw [List.drop_length, printA] at hall
        have BZ := bs_size out
        by_cases h0 : l.length = 0
        · have h00 : ¬ (0 : Int) < (l.length : Int) := by omega
          have hl0 : l = [] := List.eq_nil_of_length_eq_zero h0
          have ho : out = [] := by
            rw [hl0] at hall
            cases out with
            | nil => rfl
            | cons c x => have := congrArg List.length hall; simp [printA] at this
          subst ho
          have h3 : ¬ (20000 : Int) < ((bs []).size : Int) := by rw [BZ]; decide
          have HL := Lib.hid hl0
          clear h0 hl0 hall BZ
          go_wp2
          go_ret2
          refine ⟨?_, HB.out.trans ⟨rfl, rfl, rfl, Nat.le_refl _, fun _ _ => rfl⟩⟩
          rw [HL.out]
          rfl
        · have h00 : (0 : Int) < (l.length : Int) := by omega
          have z1 : ¬ 9223372036854775807 < (bs out).size + 1 := by have := HLEN.out; have := HL2.out; omega
          have hz : (out ++ [10]).length = (bs out).size + 1 := by rw [BZ]; simp
          by_cases h3 : 20000 < (out ++ [10]).length
          · have h3' : (20000 : Int) < ((bs out).size : Int) + 1 := by omega
            have HF := Lib.hid (printR_long HQ0.out h0 hall h3)
            clear h3 hz BZ hall h0
            go_wp2
            go_ret2
            refine ⟨?_, HB.out.trans ⟨rfl, rfl, rfl, Nat.le_refl _, fun _ _ => rfl⟩⟩
            rw [HF.out]
            rfl
          · have h3' : ¬ (20000 : Int) < ((bs out).size : Int) + 1 := by omega
            have HF := Lib.hid (printR_ok HQ0.out h0 hall h3)
            clear h3 hz BZ hall h0
            go_wp2
            go_ret2
            refine ⟨?_, HB.out.trans ⟨rfl, rfl, rfl, Nat.le_refl _, fun _ _ => rfl⟩⟩
            rw [HF.out, ← bs_append]
            rfl
  · have q0' : ((checkR l).2 != 0) = true := by simp [q0]
    have HQ0 := Lib.hid q0
    clear q0
    go_wp2
    go_ret2
    exact ⟨by simp [printR, HQ0.out, bs], HB.out⟩
end Go.Proofs.YtophcjkfhneghaaDoor
