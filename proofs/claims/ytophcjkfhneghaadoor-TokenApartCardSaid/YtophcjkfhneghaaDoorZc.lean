/- From the rows' condition on the listed variables to what the walks ask of a world. -/
import Derived.Test.YtophcjkfhneghaaDoorZb
import Derived.Test.YtophcjkfhneghaaDoorRows
import Derived.ProofKit
import Derived.LaidMore
import Derived.OpenShut
import Derived.Stop.Joined
import Derived.Stop.LaidErr
namespace Go.Proofs.YtophcjkfhneghaaDoor
open Go Go.ChangeShapes Go.WideShapes Go.ChangeAt Go.RowKit

def ifaceB : Option TypeDesc → Bool
  | some (.interface _) => true
  | _ => false
theorem iface_of_laid {P : Program} {n nm : String} {d : DataW Unit} {r : List (String × DataW Unit)} {W : World} {g : Nat} (h : laidMet P ((n, .iface nm d) :: r) W)
    (hg : P.globalNamed n = some g) (hb : ifaceB (((P.globals[g]?).map (·.type)).bind P.underlying) = true) : ∃ tp p, W.cell? ⟨g, 0, none⟩ = some (.iface tp p) := by
  obtain ⟨ti, ht⟩ : ∃ ti, (P.globals[g]?).map (·.type) = some ti := by
    cases hq : (P.globals[g]?).map (·.type) with
    | none => rw [hq] at hb; cases hb
    | some ti => exact ⟨ti, rfl⟩
  rw [ht, Option.bind_some] at hb
  obtain ⟨ms, hi⟩ : ∃ ms, P.underlying ti = some (.interface ms) := by
    cases hq : P.underlying ti with
    | none => rw [hq] at hb; cases hb
    | some u =>
      rw [hq] at hb
      cases u <;> simp [ifaceB] at hb
      exact ⟨_, rfl⟩
  obtain ⟨ps, ⟨g0, t0, cs0, f0, p0, q0, hg0, ht0, hv0, hd0, _, e0⟩, _, hrows⟩ := h
  obtain rfl := Option.some.inj (hg.symm.trans hg0)
  obtain rfl := Option.some.inj (ht.symm.trans ht0)
  obtain ⟨l0⟩ := cs0
  have hc := World.var?_cell hg0 hv0 0
  cases f0 with
  | zero => simp [DataW.trod] at hd0
  | succ f =>
    unfold DataW.trod at hd0
    rw [hi] at hd0
    simp only at hd0
    match l0, hd0, hc with
    | [.iface u v], hd0, hc => exact ⟨u, v, by simpa using hc⟩
    | [.nilIface], hd0, hc => simp at hd0
    | [], hd0, _ => simp at hd0
    | [x], hd0, hc =>
      cases x <;> simp at hd0
      exact ⟨_, _, by simpa using hc⟩
    | x :: y :: l, hd0, _ => cases x <;> simp at hd0

theorem strs_of_laid {P : Program} {n : String} {l : List (List UInt8)} {r : List (String × DataW Unit)} {W : World} {g k : Nat} {t e : TypeId} (h : laidMet P ((n, .agg (l.map fun b => .lit (.string b))) :: r) W)
    (hg : P.globalNamed n = some g) (ht : (P.globals[g]?).map (·.type) = some t) (hu : P.underlying t = some (.array k e)) (he : P.underlying e = some .string) (hce : P.cellsOf e = 1) (hk : l.length = k) :
    ∀ i, i < k → W.cell? ⟨g, i, none⟩ = some (.string (bs (l.getD i []))) := by
  obtain ⟨ps, ⟨g0, t0, cs0, f0, p0, q0, hg0, ht0, hv0, hd0, _, e0⟩, _, hrows⟩ := h
  obtain rfl := Option.some.inj (hg.symm.trans hg0)
  obtain rfl := Option.some.inj (ht.symm.trans ht0)
  obtain ⟨xs, m, rfl, hx, hlen, hn, hel⟩ := DataW.trod_array hu hd0
  intro i hi
  have h1 := hel i hi
  rw [hce, Nat.mul_one] at h1
  have hxi : i < xs.length := by omega
  rw [List.getElem?_eq_getElem hxi] at h1
  obtain ⟨s, e1, e2, _⟩ := DataW.trod_string he h1
  have hx1 := congrArg Prod.fst hx
  simp only [DataW.agg.injEq] at hx1
  have hx2 := congrArg (fun l => l[i]?) hx1
  simp only [List.getElem?_map, List.getElem?_eq_getElem hxi, List.getElem?_eq_getElem (show i < l.length by omega), Option.map_some, Option.some.injEq] at hx2
  rw [e2] at hx2
  simp only [DataW.lit.injEq, Lit.string.injEq] at hx2
  have hc := World.var?_cell hg0 hv0 i
  rw [hc]
  have h3 : cs0.toList[i]? = some (.string s) := by
    have := congrArg (fun l => l[0]?) e1
    simpa using this
  have hgd : l.getD i [] = l[i]'(by omega) := by simp [List.getD, show i < l.length by omega]
  rw [hgd, hx2, bs_toList]
  simpa using h3

def arrB (P : Program) (k : IntKind) : Option TypeId → Bool
  | some t =>
    match P.underlying t with
    | some (.array n e) =>
      match P.underlying e with
      | some (.int k') => (k' == k) && (P.cellsOf e == 1) && (P.cellsOf t == n)
      | _ => false
    | _ => false
  | none => false
theorem tab_of_laid {P : Program} {W : World} {name : String} {k : IntKind} {zs : List Int} {rest : List (String × DataW Unit)} {g : Nat} (hg : P.globalNamed name = some g) (hb : arrB P k ((P.globals[g]?).map (·.type)) = true)
    (h : laidMet P ((name, Lib.tabData k zs) :: rest) W) : Lib.TabIs P W name k zs := by
  cases ht : (P.globals[g]?).map (·.type) with
  | none => rw [ht] at hb; cases hb
  | some t =>
    rw [ht] at hb
    simp only [arrB] at hb
    split at hb
    · rename_i n e hu
      split at hb
      · rename_i k' he
        simp only [Bool.and_eq_true, beq_iff_eq] at hb
        obtain ⟨⟨rfl, h2⟩, h3⟩ := hb
        exact Lib.tabIs_of_head hg ht hu he h2 h3 h
      · cases hb
    · cases hb

theorem size_of_laid {P : Program} {n : String} {d : DataW Unit} {r : List (String × DataW Unit)} {W : World} {g : Nat} (h : laidMet P ((n, d) :: r) W) (hg : P.globalNamed n = some g) : g < W.heap.size := by
  obtain ⟨ps, ⟨g0, t0, cs0, f0, p0, q0, hg0, ht0, hv0, _⟩, _⟩ := h
  obtain rfl := Option.some.inj (hg.symm.trans hg0)
  rcases Nat.lt_or_ge g W.heap.size with hlt | hge
  · exact hlt
  · unfold World.var? at hv0
    rw [hg0] at hv0
    simp only [Option.bind_some] at hv0
    rw [Array.getElem?_eq_none hge] at hv0
    cases hv0

/-- The seven variables, as every row of the seat lists them. -/
def laid7 : List (String × DataW Unit) := Rows.tokenWordsRow.laid

theorem env_of_laid {W : World} (h : laidMetH Tryd.prog laid7 W) : Env W := by
  rw [MakeChecks.laidMetH_plain _ _ _ (by kernel_rfl)] at h
  have h0 : laidMet Tryd.prog (("math/bits.deBruijn32tab", Rows.laid_math_bits_deBruijn32tab) :: ("math/bits.deBruijn64tab", Rows.laid_math_bits_deBruijn64tab) :: ("internal/strconv.uint64pow10", Rows.laid_internal_strconv_uint64pow10) ::
    ("strconv.ErrRange", Rows.laid_strconv_ErrRange) :: ("strconv.ErrSyntax", Rows.laid_strconv_ErrSyntax) :: ("argus/token.allWords", Rows.laid_argus_token_allWords) :: ("argus/token.allSigns", Rows.laid_argus_token_allSigns) :: []) W := h
  have h1 := laidMet.tail h0
  have h2 := laidMet.tail h1
  have h3 := laidMet.tail h2
  have h4 := laidMet.tail h3
  have h5 := laidMet.tail h4
  have h6 := laidMet.tail h5
  refine ⟨?_, ?_, ?_, ?_, ?_, ?_⟩
  · exact strs_of_laid (l := wordL) (t := 54) (e := 9) h5 (by kernel_rfl) (by kernel_rfl) Tryd.underlying54 Tryd.underlying9 (by kernel_rfl) rfl
  · exact strs_of_laid (l := signL) (t := 56) (e := 9) h6 (by kernel_rfl) (by kernel_rfl) Tryd.underlying56 Tryd.underlying9 (by kernel_rfl) rfl
  · exact iface_of_laid (g := 2) h4 (by kernel_rfl) (by kernel_rfl)
  · exact iface_of_laid (g := 3) h3 (by kernel_rfl) (by kernel_rfl)
  · exact tab_of_laid (g := 4) (zs := Lib.pow10Tab) (by kernel_rfl) (by kernel_rfl) h2
  · exact size_of_laid (g := 6) h1 (by kernel_rfl)
end Go.Proofs.YtophcjkfhneghaaDoor
