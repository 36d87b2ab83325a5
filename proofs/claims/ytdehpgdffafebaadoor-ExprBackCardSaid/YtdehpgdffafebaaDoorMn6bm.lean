/- The second given statement of layer 6: it returns true for every input, and leaves it as it was, where the tables hold what the program's own text lays in them. -/
import Derived.Test.YtdehpgdffafebaaDoorCards
import Derived.Test.YtdehpgdffafebaaDoorTie
import Derived.Test.YtdehpgdffafebaaDoorZbb
import Derived.WalkKit
import Derived.ProofKit
import Derived.OpenShut
import Derived.ShutString
import Derived.ChangeOld
import Derived.Below
import Derived.LaidMore
import Derived.Stop.LaidErr
import Derived.Stop.Joined
import Derived.SevenTiedAt
import Derived.Deep.DeepHandedRow
namespace Go.Proofs.YtdehpgdffafebaaDoor
open Go.ChangeShapes Go.WideShapes Go.ChangeAt Go.RowKit
open Go.ChangeMaps (open_string shut_string)
set_option linter.unusedVariables false

theorem own : ownKnob Tryd.prog.godebug = none := by kernel_rfl
theorem laidOut : laidOutB Tryd.prog = true := by kernel_rfl

/-- An array of texts that reads as a list of texts holds just these. -/
theorem cells_of_strs {H : Type} {enc : TypeId × Value → H} {P : Program} {w : World} {base : Nat} {sp : Nat → Bool} {held : Bool} {fuel : Nat} {t e : TypeId} {n : Nat} {cs : List Value} {zs : List ByteArray} {p : List MemPlace}
    (ht : P.underlying t = some (.array n e)) (he : P.underlying e = some .string) (hce : P.cellsOf e = 1) (hct : P.cellsOf t = n)
    (h : DataW.trod enc P w base sp held fuel t cs = some (.agg (zs.map fun z => .lit (.string z.data.toList)), p)) : cs = zs.map fun z => Value.string z := by
  cases fuel with
  | zero => simp [DataW.trod] at h
  | succ fuel =>
    simp only [DataW.trod, ht, hce, hct, Nat.mul_one] at h
    split at h
    · rename_i hl
      obtain ⟨xs, hm, hx⟩ := Option.map_eq_some_iff.1 h
      have hxs : xs.map (·.1) = zs.map fun z => (DataW.lit (.string z.data.toList) : DataW H) := by
        have := congrArg Prod.fst hx
        simpa using this
      have hxl : xs.length = n := by simpa using Lib.mapM_length hm
      have hzl : zs.length = n := by
        have := congrArg List.length hxs
        simp at this
        omega
      apply List.ext_getElem?
      intro i
      by_cases hi : i < n
      · obtain ⟨b, hb, hf⟩ := Lib.mapM_at hm i i (by simp [hi])
        obtain ⟨z, hc, rfl, _⟩ := DataW.trod_string he hf
        have h1 : cs[i]? = some (.string z) := by
          have := congrArg (·[0]?) hc
          simpa [List.getElem?_take, List.getElem?_drop] using this
        have h2 : (xs.map (·.1))[i]? = some (DataW.lit (.string z.data.toList) : DataW H) := by simp [hb]
        rw [hxs] at h2
        simp only [List.getElem?_map, Option.map_eq_some_iff, DataW.lit.injEq, Lit.string.injEq] at h2
        obtain ⟨z', hz', hzz⟩ := h2
        have : z' = z := by cases z' with | mk a => cases z with | mk b => exact congrArg ByteArray.mk (Array.toList_inj.1 hzz)
        subst this
        simp [h1, hz']
      · rw [List.getElem?_eq_none (by omega), List.getElem?_eq_none (by simp; omega)]
    · cases h


theorem gWords : Tryd.prog.globalNamed "demesne/word.words" = some 2 := by kernel_rfl
theorem tWords : (Tryd.prog.globals[2]?).map (·.type) = some 112 := by kernel_rfl
theorem words_datum : (Rows.laid_demesne_word_words : DataW Unit) = .agg (Wd.wordsL.map fun z => .lit (.string z.data.toList)) := rfl

/-- What the condition gives the walks: the table of words. -/
theorem words_of_laid {W : World} {rest : List (String × DataW Unit)} (h : laidMet Tryd.prog (("demesne/word.words", Rows.laid_demesne_word_words) :: rest) W) : WordsIn W := by
  obtain ⟨ps, ⟨g', t', cs, fuel, p, q, hg', ht', hvar, hd, _, _⟩, _⟩ := h
  obtain rfl := Option.some.inj (gWords.symm.trans hg')
  obtain rfl := Option.some.inj (tWords.symm.trans ht')
  rw [words_datum] at hd
  have hcs := cells_of_strs Tryd.underlying112 Tryd.underlying9 (by kernel_rfl) (by kernel_rfl) hd
  unfold World.var? at hvar
  rw [gWords] at hvar
  simp only [Option.bind_some] at hvar
  split at hvar
  · rename_i c t fr hh
    refine ⟨t, fr, ?_⟩
    rw [hh]
    have : c = wordVals := by
      apply Array.toList_inj.1
      rw [Option.some.inj hvar, hcs]; rfl
    rw [this]
  · cases hvar

theorem pow_datum : (Rows.laid_internal_strconv_uint64pow10 : DataW Unit) = Lib.tabData .u64 Lib.pow10Tab := by kernel_rfl
theorem pow_of_laid {W : World} {rest : List (String × DataW Unit)} (h : laidMet Tryd.prog (("internal/strconv.uint64pow10", Rows.laid_internal_strconv_uint64pow10) :: rest) W) : PowIn W := by
  rw [pow_datum] at h
  exact Lib.tabIs_of_head (g := 4) (t := 120) (e := 114) (n := 20) (by kernel_rfl) (by kernel_rfl) Tryd.underlying120 Tryd.underlying114 (by kernel_rfl) (by kernel_rfl) h

theorem list2 {α : Type} (l : List α) (h : l.length = 2) : ∃ a b, l = [a, b] := by
  match l, h with
  | [a, b], _ => exact ⟨a, b, rfl⟩
theorem str_back {s : ByteArray} {l : List UInt8} (h : s.data.toList = l) : s = ⟨l.toArray⟩ := by
  cases s with
  | mk a => exact congrArg ByteArray.mk (Array.toList_inj.1 (by simpa using h))
section
variable {H : Type} {enc : TypeId × Value → H} {W : World} {base : Nat} {sp : Nat → Bool} {held : Bool}
/-- The cells of a struct of a text, two numbers and a bool that reads so. -/
theorem sign_cells {fuel : Nat} {cs : List Value} {x : DataW H × List MemPlace} {s : List UInt8} {k b : Int} {f : Bool} (h : DataW.trod enc Tryd.prog W base sp held fuel 70 cs = some x) (hx : x.1 = .agg [.lit (.string s), .lit (.int .i64 k), .lit (.int .i64 b), .lit (.bool f)]) : cs = [.string ⟨s.toArray⟩, .int .i64 k, .int .i64 b, .bool f] := by
  obtain ⟨ys, n', hn', rfl, hlen, hyl, hf⟩ := DataW.trod_struct Tryd.underlying70 h
  rw [show Tryd.prog.cellsOf 70 = 4 by kernel_rfl] at hlen
  obtain ⟨c0, c1, c2, c3, rfl⟩ := list4 cs hlen
  obtain ⟨y0, y1, y2, y3, rfl⟩ := list4 ys hyl
  have h0 : DataW.trod enc Tryd.prog W base sp held n' 9 (([c0, c1, c2, c3].drop 0).take (Tryd.prog.cellsOf 9)) = some y0 := hf 0 _ rfl
  have h1 : DataW.trod enc Tryd.prog W base sp held n' 3 (([c0, c1, c2, c3].drop 1).take (Tryd.prog.cellsOf 3)) = some y1 := hf 1 _ rfl
  have h2 : DataW.trod enc Tryd.prog W base sp held n' 3 (([c0, c1, c2, c3].drop 2).take (Tryd.prog.cellsOf 3)) = some y2 := hf 2 _ rfl
  have h3 : DataW.trod enc Tryd.prog W base sp held n' 4 (([c0, c1, c2, c3].drop 3).take (Tryd.prog.cellsOf 4)) = some y3 := hf 3 _ rfl
  rw [show Tryd.prog.cellsOf 3 = 1 by kernel_rfl] at h1 h2
  rw [show Tryd.prog.cellsOf 9 = 1 by kernel_rfl] at h0
  rw [show Tryd.prog.cellsOf 4 = 1 by kernel_rfl] at h3
  obtain ⟨s', e0, r0, _⟩ := DataW.trod_string Tryd.underlying9 h0
  obtain ⟨k', e1, r1, _⟩ := DataW.trod_int Tryd.underlying3 h1
  obtain ⟨b', e2, r2, _⟩ := DataW.trod_int Tryd.underlying3 h2
  obtain ⟨f', e3, r3⟩ := DataW.trod_bool Tryd.underlying4 h3
  subst r0 r1 r2 r3
  simp only [List.map_cons, List.map_nil, DataW.agg.injEq, List.cons.injEq, DataW.lit.injEq, Lit.string.injEq, Lit.int.injEq, Lit.bool.injEq, true_and, and_true] at hx
  obtain ⟨q0, rfl, rfl, rfl⟩ := hx
  have q0 := str_back q0
  subst q0
  have e0' : c0 = .string ⟨s.toArray⟩ := by simpa using e0
  have e1' : c1 = .int .i64 k' := by simpa using e1
  have e2' : c2 = .int .i64 b' := by simpa using e2
  have e3' : c3 = .bool f' := by simpa using e3
  rw [e0', e1', e2', e3']
theorem plain_cells {fuel : Nat} {cs : List Value} {x : DataW H × List MemPlace} {s : List UInt8} {k : Int} (h : DataW.trod enc Tryd.prog W base sp held fuel 94 cs = some x) (hx : x.1 = .agg [.lit (.string s), .lit (.int .i64 k)]) : cs = [.string ⟨s.toArray⟩, .int .i64 k] := by
  obtain ⟨ys, n', hn', rfl, hlen, hyl, hf⟩ := DataW.trod_struct Tryd.underlying94 h
  rw [show Tryd.prog.cellsOf 94 = 2 by kernel_rfl] at hlen
  obtain ⟨c0, c1, rfl⟩ := list2 cs hlen
  obtain ⟨y0, y1, rfl⟩ := list2 ys hyl
  have h0 : DataW.trod enc Tryd.prog W base sp held n' 9 (([c0, c1].drop 0).take (Tryd.prog.cellsOf 9)) = some y0 := hf 0 _ rfl
  have h1 : DataW.trod enc Tryd.prog W base sp held n' 3 (([c0, c1].drop 1).take (Tryd.prog.cellsOf 3)) = some y1 := hf 1 _ rfl
  rw [show Tryd.prog.cellsOf 3 = 1 by kernel_rfl] at h1
  rw [show Tryd.prog.cellsOf 9 = 1 by kernel_rfl] at h0
  obtain ⟨s', e0, r0, _⟩ := DataW.trod_string Tryd.underlying9 h0
  obtain ⟨k', e1, r1, _⟩ := DataW.trod_int Tryd.underlying3 h1
  subst r0 r1
  simp only [List.map_cons, List.map_nil, DataW.agg.injEq, List.cons.injEq, DataW.lit.injEq, Lit.string.injEq, Lit.int.injEq, true_and, and_true] at hx
  obtain ⟨q0, rfl⟩ := hx
  have q0 := str_back q0
  subst q0
  have e0' : c0 = .string ⟨s.toArray⟩ := by simpa using e0
  have e1' : c1 = .int .i64 k' := by simpa using e1
  rw [e0', e1']
end

theorem gSigns : Tryd.prog.globalNamed "demesne/expr.signs" = some 0 := by kernel_rfl
theorem tSigns : (Tryd.prog.globals[0]?).map (·.type) = some 83 := by kernel_rfl
theorem signs_of_laid {W : World} {rest : List (String × DataW Unit)} (h : laidMet Tryd.prog (("demesne/expr.signs", Rows.laid_demesne_expr_signs) :: rest) W) : SignsIn W := by
  obtain ⟨ps, ⟨g', t', cs, fuel, p, q, hg', ht', hvar, hd, _, _⟩, _⟩ := h
  obtain rfl := Option.some.inj (gSigns.symm.trans hg')
  obtain rfl := Option.some.inj (tSigns.symm.trans ht')
  unfold Rows.laid_demesne_expr_signs at hd
  obtain ⟨csl, hcsl⟩ : ∃ l, l = cs.toList := ⟨_, rfl⟩
  rw [← hcsl] at hd
  obtain ⟨xs, m, hm, hx, hlen, hxl, hat⟩ := DataW.trod_array Tryd.underlying83 hd
  rw [show Tryd.prog.cellsOf 83 = 24 by kernel_rfl] at hlen
  rw [show Tryd.prog.cellsOf 70 = 4 by kernel_rfl] at hat
  have hx1 := congrArg Prod.fst hx
  simp only [DataW.agg.injEq] at hx1
  have hel : ∀ i, i < 6 → ∃ x, xs[i]? = some x ∧ (xs.map (·.1))[i]? = some x.1 := fun i hi => ⟨xs[i], List.getElem?_eq_getElem (by omega), by simp [List.getElem?_eq_getElem (show i < xs.length by omega)]⟩
  rw [← hx1] at hel
  obtain ⟨x0, a0, b0⟩ := hel 0 (by omega)
  have c0 := sign_cells ((hat 0 (by omega)).trans a0) (Option.some.inj b0).symm
  obtain ⟨x1, a1, b1⟩ := hel 1 (by omega)
  have c1 := sign_cells ((hat 1 (by omega)).trans a1) (Option.some.inj b1).symm
  obtain ⟨x2, a2, b2⟩ := hel 2 (by omega)
  have c2 := sign_cells ((hat 2 (by omega)).trans a2) (Option.some.inj b2).symm
  obtain ⟨x3, a3, b3⟩ := hel 3 (by omega)
  have c3 := sign_cells ((hat 3 (by omega)).trans a3) (Option.some.inj b3).symm
  obtain ⟨x4, a4, b4⟩ := hel 4 (by omega)
  have c4 := sign_cells ((hat 4 (by omega)).trans a4) (Option.some.inj b4).symm
  obtain ⟨x5, a5, b5⟩ := hel 5 (by omega)
  have c5 := sign_cells ((hat 5 (by omega)).trans a5) (Option.some.inj b5).symm
  have hcs : csl = (csl.drop (0 * 4)).take 4 ++ ((csl.drop (1 * 4)).take 4 ++ ((csl.drop (2 * 4)).take 4 ++ ((csl.drop (3 * 4)).take 4 ++ ((csl.drop (4 * 4)).take 4 ++ ((csl.drop (5 * 4)).take 4))))) := by
    have hz : csl.drop (24) = [] := List.drop_eq_nil_of_le (by omega)
    have hs : ∀ i, csl.drop (i * 4) = (csl.drop (i * 4)).take 4 ++ csl.drop ((i + 1) * 4) := fun i => by
      have := (List.take_append_drop 4 (csl.drop (i * 4))).symm
      rw [List.drop_drop] at this
      rwa [show i * 4 + 4 = (i + 1) * 4 by omega] at this
    have h0 : csl = csl.drop (0 * 4) := by simp
    refine h0.trans ?_
    refine (hs 0).trans (congrArg _ ?_)
    refine (hs 1).trans (congrArg _ ?_)
    refine (hs 2).trans (congrArg _ ?_)
    refine (hs 3).trans (congrArg _ ?_)
    refine (hs 4).trans (congrArg _ ?_)
    refine (hs 5).trans ?_
    rw [show (5 + 1) * 4 = 24 by rfl, hz, List.append_nil]
  rw [c0, c1, c2, c3, c4, c5] at hcs
  unfold World.var? at hvar
  rw [gSigns] at hvar
  simp only [Option.bind_some] at hvar
  split at hvar
  · rename_i c t fr hh
    refine ⟨t, fr, ?_⟩
    rw [hh]
    have : c = sgVals := by
      apply Array.toList_inj.1
      rw [Option.some.inj hvar, ← hcsl, hcs]; rfl
    rw [this]
  · cases hvar

theorem gPlains : Tryd.prog.globalNamed "demesne/expr.plainWords" = some 1 := by kernel_rfl
theorem tPlains : (Tryd.prog.globals[1]?).map (·.type) = some 95 := by kernel_rfl
theorem plains_of_laid {W : World} {rest : List (String × DataW Unit)} (h : laidMet Tryd.prog (("demesne/expr.plainWords", Rows.laid_demesne_expr_plainWords) :: rest) W) : PlainsIn W := by
  obtain ⟨ps, ⟨g', t', cs, fuel, p, q, hg', ht', hvar, hd, _, _⟩, _⟩ := h
  obtain rfl := Option.some.inj (gPlains.symm.trans hg')
  obtain rfl := Option.some.inj (tPlains.symm.trans ht')
  unfold Rows.laid_demesne_expr_plainWords at hd
  obtain ⟨csl, hcsl⟩ : ∃ l, l = cs.toList := ⟨_, rfl⟩
  rw [← hcsl] at hd
  obtain ⟨xs, m, hm, hx, hlen, hxl, hat⟩ := DataW.trod_array Tryd.underlying95 hd
  rw [show Tryd.prog.cellsOf 95 = 6 by kernel_rfl] at hlen
  rw [show Tryd.prog.cellsOf 94 = 2 by kernel_rfl] at hat
  have hx1 := congrArg Prod.fst hx
  simp only [DataW.agg.injEq] at hx1
  have hel : ∀ i, i < 3 → ∃ x, xs[i]? = some x ∧ (xs.map (·.1))[i]? = some x.1 := fun i hi => ⟨xs[i], List.getElem?_eq_getElem (by omega), by simp [List.getElem?_eq_getElem (show i < xs.length by omega)]⟩
  rw [← hx1] at hel
  obtain ⟨x0, a0, b0⟩ := hel 0 (by omega)
  have c0 := plain_cells ((hat 0 (by omega)).trans a0) (Option.some.inj b0).symm
  obtain ⟨x1, a1, b1⟩ := hel 1 (by omega)
  have c1 := plain_cells ((hat 1 (by omega)).trans a1) (Option.some.inj b1).symm
  obtain ⟨x2, a2, b2⟩ := hel 2 (by omega)
  have c2 := plain_cells ((hat 2 (by omega)).trans a2) (Option.some.inj b2).symm
  have hcs : csl = (csl.drop (0 * 2)).take 2 ++ ((csl.drop (1 * 2)).take 2 ++ ((csl.drop (2 * 2)).take 2)) := by
    have hz : csl.drop (6) = [] := List.drop_eq_nil_of_le (by omega)
    have hs : ∀ i, csl.drop (i * 2) = (csl.drop (i * 2)).take 2 ++ csl.drop ((i + 1) * 2) := fun i => by
      have := (List.take_append_drop 2 (csl.drop (i * 2))).symm
      rw [List.drop_drop] at this
      rwa [show i * 2 + 2 = (i + 1) * 2 by omega] at this
    have h0 : csl = csl.drop (0 * 2) := by simp
    refine h0.trans ?_
    refine (hs 0).trans (congrArg _ ?_)
    refine (hs 1).trans (congrArg _ ?_)
    refine (hs 2).trans ?_
    rw [show (2 + 1) * 2 = 6 by rfl, hz, List.append_nil]
  rw [c0, c1, c2] at hcs
  unfold World.var? at hvar
  rw [gPlains] at hvar
  simp only [Option.bind_some] at hvar
  split at hvar
  · rename_i c t fr hh
    refine ⟨t, fr, ?_⟩
    rw [hh]
    have : c = plVals := by
      apply Array.toList_inj.1
      rw [Option.some.inj hvar, ← hcsl, hcs]; rfl
    rw [this]
  · cases hvar

/-- What the statements list. -/
def laid6 : List (String × DataW Unit) := [("math/bits.deBruijn32tab", Rows.laid_math_bits_deBruijn32tab), ("math/bits.deBruijn64tab", Rows.laid_math_bits_deBruijn64tab), ("internal/strconv.uint64pow10", Rows.laid_internal_strconv_uint64pow10), ("demesne/word.words", Rows.laid_demesne_word_words), ("demesne/expr.signs", Rows.laid_demesne_expr_signs), ("demesne/expr.plainWords", Rows.laid_demesne_expr_plainWords)]

namespace exprBackP
/-- The door's own heap meets the condition. -/
theorem door_met (os : Os) (args : Array Value) : laidMetH Tryd.prog laid6 ((World.doorLaid Tryd.prog 48 os).forCall (fun _ _ => 0) ⟨#[], args, []⟩).memory :=
  laidMetH_of_parts3 (fuel := 8) (laidMet_of_run' 8 (by kernel_rfl) (by kernel_rfl)) (by kernel_rfl) (by kernel_rfl)

set_option maxRecDepth 100000 in
theorem lifted (os : Os) (started : os.Started) (H : Type) (enc : TypeId × Value → H) :
    ReturnsInHanded {} Tryd.checked os 4 .any (fun w args => (Rows.exprBackSpec.pre enc Tryd.prog Tryd.f4 [] false w args ∧ laidMetH Tryd.prog laid6 w) ∧ sizedMet enc Tryd.prog Tryd.f4 (OpenSpec.ofChange Rows.exprBackSpec) false w args)
      (Rows.exprBackSpec.post enc Tryd.prog Tryd.f4 false true false false) := by
  refine returnsInHanded_of_change_and (C := Tryd.checked) (X := fun w _ => laidMetH Tryd.prog laid6 w) (fun _ _ _ hh h => h.of_heap hh) own started (by kernel_rfl) Tryd.func4
    (ChangeSpec.witness_shaped (enc := enc) (C := Tryd.checked) (os := os) (X := fun w _ => laidMetH Tryd.prog laid6 w) false (World.doorLaid Tryd.prog 48 os) #[.agg #[.int .i64 0, .int .i64 0, .string ⟨#[]⟩, .slice none 0 0], .string ⟨#[]⟩] 8 rfl (World.shaped_of_RefB (by kernel_rfl) (by kernel_rfl)) (by kernel_rfl) (by kernel_rfl) (by kernel_rfl) (door_met os _)) ?_
  intro W base args ds gs before hval0 hW _ _ hL _
  have hval : ∀ (j : Nat) t v, Tryd.f4.params[j]? = some t → args[j]? = some v → Value.okWide Tryd.prog W .any base t v := hval0
  have hW' := hW
  obtain ⟨p, q, hA0, hV, rfl, hfz, hnd⟩ := hW
  have hA : DataW.TrodAll enc Tryd.prog W 0 (fun _ => true) true Tryd.f4.params.toList args.toList ds p := hA0
  rw [Tryd.params4] at hA hval
  obtain ⟨v0, vs0, d0, ds0, p0, q0, hargs, rfl, rfl, h0, r0⟩ := trodAll_cons hA
  obtain ⟨v1, vs1, d1, ds1, p1, q1, rfl, rfl, rfl, h1, r1⟩ := trodAll_cons r0
  obtain ⟨rfl, rfl, rfl⟩ := trodAll_nil r1
  obtain rfl : args = #[v0, v1] := by cases args; simp_all
  obtain ⟨rfl, rfl⟩ := trodVars_none hV
  have k0 := h0
  have lt0 : ∀ x ∈ p0, x.block < W.heap.size := by obtain ⟨m, hm⟩ := k0; exact DataW.trod_lt m _ _ _ hm
  have k1 := h1
  have lt1 : ∀ x ∈ p1, x.block < W.heap.size := by obtain ⟨m, hm⟩ := k1; exact DataW.trod_lt m _ _ _ hm
  obtain ⟨e0, hv0, hc0⟩ := open_ex (hval 0 24 v0 rfl rfl) h0
  obtain ⟨a1, rfl, -, -, w1⟩ := open_string Tryd.underlying9 (hval 1 9 v1 rfl rfl) h1
  clear hA0 hval0
  rw [MakeChecks.laidMetH_plain _ _ _ (by kernel_rfl)] at hL
  have hLd : Laid W := ⟨words_of_laid hL.tail.tail.tail, pow_of_laid hL.tail.tail, signs_of_laid hL.tail.tail.tail.tail, plains_of_laid hL.tail.tail.tail.tail.tail⟩
  refine (back_law e0 v0 a1 W hv0 hLd).mono fun e W' ⟨he, bel⟩ => ?_
  subst he
  exact ⟨_, rfl, _, _, _, [], _, [], hW', trodAll_mk1 (shut_bool Tryd.underlying4 _), (trodAll_cons_mk (Below.trod laidOut (by kernel_rfl) (of_decide_eq_true (by kernel_rfl)) k0 bel lt0) (trodAll_cons_mk (Below.trod laidOut (by kernel_rfl) (of_decide_eq_true (by kernel_rfl)) k1 bel lt1) trodAll_mk0)), rfl, bel.frame _, fun h => by cases h⟩

theorem over : Rows.exprBackRow.holds Tryd.pinned (OpenSpec.ofChange Rows.exprBackSpec) :=
  OpenClaim.holds_of_wide 4 Tryd.f4 rfl rfl rfl rfl rfl rfl rfl ⟨rfl, rfl, rfl, rfl, rfl⟩ rfl rfl rfl rfl rfl (by kernel_rfl) Tryd.func4 (by kernel_rfl)
    (of_decide_eq_true (by kernel_rfl)) (by unfold Func.isWrapper; first | (rw [if_pos (by decide +kernel)]; kernel_rfl) | (rw [if_neg (by decide +kernel)]; exact ⟨rfl, rfl⟩))
    (fun os started H enc _ => lifted os started H enc)

theorem card : Rows.ExprBackCardSaid :=
  Claim7.holds_tied_plain_at .later [] [.data, .data, .data, .data, .data, .data] true (true, "a4622ee739a28d8939059d9a320ea43daba7235574164d81e7c688f05ad08ec4") false
    over (fun _ h => by cases h) (by kernel_rfl) (fun _ h => by cases h) exprBack_row_tie rfl ⟨rfl, rfl⟩ (by kernel_rfl) rfl
    (fun f fn hf hfn => by
      obtain rfl : f = 4 := Option.some.inj ((show Tryd.prog.funcNamed Rows.exprBackRow.func = some 4 by kernel_rfl).symm.trans hf) |>.symm
      obtain rfl : fn = Tryd.f4 := (Option.some.inj (Tryd.func4.symm.trans hfn)).symm
      exact ⟨by kernel_rfl, fun j t ht => by
        rw [Tryd.params4] at ht
        have hm : t ∈ [24, 9] := by simpa using Array.mem_of_getElem? ht
        have hall : ([24, 9].all fun u => !Tryd.prog.wantsStandIn u) = true := by kernel_rfl
        exact (show Tryd.prog.wantsStandIn t = false by simpa using List.all_eq_true.1 hall t hm)⟩)
    (by kernel_rfl)
end exprBackP

/-- The given statement. -/
theorem exprBack_proved : Rows.ExprBackCardSaid := exprBackP.card
end Go.Proofs.YtdehpgdffafebaaDoor
