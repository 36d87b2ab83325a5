/- What the laws' inputs are in memory: an expression of any depth. Conditions: none. -/
import Derived.Test.YtdehpgdffafebaaDoorRows
import Derived.Test.YtdehpgdffafebaaDoorZax
import Derived.Deep.Slices
import Derived.Deep.Fields
import Derived.ChangeSame
import Derived.OpenShut
namespace Go.Proofs.YtdehpgdffafebaaDoor
open Go.ChangeShapes Go.WideShapes Go.Deep Go.RowKit
set_option linter.unusedVariables false

theorem list_of {α : Type} (Q : Nat → α → Prop) : ∀ n : Nat, (∀ i, i < n → ∃ a, Q i a) → ∃ l : List α, l.length = n ∧ ∀ i, (h : i < l.length) → Q i l[i]
  | 0, _ => ⟨[], rfl, fun i h => absurd h (by simp)⟩
  | n + 1, h => by
    obtain ⟨l, hl, hq⟩ := list_of Q n (fun i hi => h i (by omega))
    obtain ⟨a, ha⟩ := h n (by omega)
    refine ⟨l ++ [a], by simp [hl], fun i hi => ?_⟩
    by_cases hin : i < l.length
    · rw [List.getElem_append_left hin]; exact hq i hin
    · have : i = n := by simp at hi; omega
      subst this
      rw [List.getElem_append_right (by omega)]
      simpa [hl] using ha
/-- Where a cell is, the address is whole. -/
theorem no_spot {W : World} {a : Addr} {v : Value} (h0 : W.cell? a = some v) : a.spot = none := by
  unfold World.cell? at h0
  split at h0
  · split at h0
    · cases h0
    · rename_i hns
      cases hs : a.spot with
      | none => rfl
      | some z => rw [hs] at hns; simp at hns
  · cases h0
theorem block_lt {W : World} {a : Addr} {v : Value} (h : W.cell? a = some v) : a.block < W.heap.size := World.block_lt_of_cell? W _ h
theorem list4 {α : Type} (l : List α) (h : l.length = 4) : ∃ a b c d, l = [a, b, c, d] := by
  match l, h with
  | [a, b, c, d], _ => exact ⟨a, b, c, d, rfl⟩
theorem wf_i64 {n : Int} (h : (Lit.int .i64 n).wf = true) : -9223372036854775808 ≤ n ∧ n ≤ 9223372036854775807 := by
  simpa [Lit.wf, IntKind.min, IntKind.max, IntKind.signed, IntKind.bits] using h
theorem inA_of {B : Nat} {W : World} {b : Nat} : ∀ (l : List E) (o : Nat), (∀ (i : Nat) (h : i < l.length), ∃ c0 c1 c2 c3, W.cell? ⟨b, o + i * 4, none⟩ = some c0 ∧ W.cell? ⟨b, o + i * 4 + 1, none⟩ = some c1 ∧ W.cell? ⟨b, o + i * 4 + 2, none⟩ = some c2 ∧ W.cell? ⟨b, o + i * 4 + 3, none⟩ = some c3 ∧ InV B W l[i] (.agg #[c0, c1, c2, c3])) → InA B W b o l
  | [], _, _ => by rw [InA]; trivial
  | e :: r, o, h => by
    rw [InA]
    refine ⟨by have := h 0 (by simp); simpa only [Nat.zero_mul, Nat.add_zero, List.getElem_cons_zero] using this, inA_of r (o + 4) (fun i hi => ?_)⟩
    have := h (i + 1) (by simpa using hi)
    rw [show o + (i + 1) * 4 = o + 4 + i * 4 by omega] at this
    simpa only [List.getElem_cons_succ] using this
section
variable {H : Type} {enc : TypeId × Value → H} {W : World} {base : Nat} {sp : Nat → Bool} {held : Bool}
theorem counts_bulk : ∀ (l : List E) (ds : List (DataW H)), l.length = ds.length → (∀ (i : Nat) (e : E) (d : DataW H), l[i]? = some e → ds[i]? = some d → E.count e ≤ Rows.uptoBulk d) → E.counts l ≤ Rows.uptoBulkAll ds
  | [], _, _, _ => by rw [E.counts]; omega
  | e :: r, [], h, _ => by simp at h
  | e :: r, d :: s, h, hq => by
    have h0 := hq 0 e d rfl rfl
    have h1 := counts_bulk r s (by simpa using h) (fun i e d he hd => hq (i + 1) e d (by simpa using he) (by simpa using hd))
    rw [E.counts, Rows.uptoBulkAll]
    omega
theorem open_ex_at : ∀ (fuel : Nat) {cs : List Value} {x : DataW H × List MemPlace}, DataW.trod enc Tryd.prog W base sp held fuel tE cs = some x → ∃ e : E, InV W.heap.size W e (.agg cs.toArray) ∧ E.count e ≤ Rows.uptoBulk x.1 := by
  intro fuel
  induction fuel using Nat.strongRecOn with
  | ind fuel ih =>
    intro cs x h
    obtain ⟨ys, n', hn', rfl, hlen, hyl, hf⟩ := DataW.trod_struct Tryd.underlying24 h
    rw [show Tryd.prog.cellsOf tE = 4 by kernel_rfl] at hlen
    obtain ⟨c0, c1, c2, c3, rfl⟩ := list4 cs hlen
    have hyl : ys.length = 4 := hyl
    obtain ⟨y0, y1, y2, y3, rfl⟩ := list4 ys hyl
    have h0 : DataW.trod enc Tryd.prog W base sp held n' 3 (([c0, c1, c2, c3].drop 0).take (Tryd.prog.cellsOf 3)) = some y0 := hf 0 _ rfl
    have h1 : DataW.trod enc Tryd.prog W base sp held n' 3 (([c0, c1, c2, c3].drop 1).take (Tryd.prog.cellsOf 3)) = some y1 := hf 1 _ rfl
    have h2 : DataW.trod enc Tryd.prog W base sp held n' 9 (([c0, c1, c2, c3].drop 2).take (Tryd.prog.cellsOf 9)) = some y2 := hf 2 _ rfl
    have h3 : DataW.trod enc Tryd.prog W base sp held n' 22 (([c0, c1, c2, c3].drop 3).take (Tryd.prog.cellsOf 22)) = some y3 := hf 3 _ rfl
    rw [show Tryd.prog.cellsOf 3 = 1 by kernel_rfl] at h0 h1
    rw [show Tryd.prog.cellsOf 9 = 1 by kernel_rfl] at h2
    rw [show Tryd.prog.cellsOf 22 = 1 by kernel_rfl] at h3
    obtain ⟨k, e0, _, _⟩ := DataW.trod_int Tryd.underlying3 h0
    obtain ⟨n, e1, _, w1⟩ := DataW.trod_int Tryd.underlying3 h1
    obtain ⟨s, e2, _, _⟩ := DataW.trod_string Tryd.underlying9 h2
    have e0' : c0 = .int .i64 k := by simpa using e0
    have e1' : c1 = .int .i64 n := by simpa using e1
    have e2' : c2 = .string s := by simpa using e2
    subst e0' e1' e2'
    rcases DataW.trod_slice Tryd.underlying22 h3 with ⟨e3, hy3⟩ | ⟨a, len, cap, elems, rest, m, hm, e3, hy3, hb, hl, hcm, hel, hi, _, _⟩
    · have e3' : c3 = .slice none 0 0 := by simpa using e3
      subst e3'
      refine ⟨.mk k n s [], ?_, ?_⟩
      · rw [InV]
        exact ⟨none, 0, rfl, wf_i64 w1, Nat.le_refl _, Nat.zero_le _, fun h => by simp at h⟩
      · rw [E.count, E.counts]
        show 1 + 0 ≤ Rows.uptoBulkAll _ + 1
        omega
    · have e3' : c3 = .slice (some a) len cap := by simpa using e3
      subst e3'
      obtain ⟨l, hll, hq⟩ := list_of (fun i (e : E) => ∃ d0 d1 d2 d3, W.cell? ((a.add (i * 4)).add 0) = some d0 ∧ W.cell? ((a.add (i * 4)).add 1) = some d1 ∧ W.cell? ((a.add (i * 4)).add 2) = some d2 ∧ W.cell? ((a.add (i * 4)).add 3) = some d3 ∧ InV W.heap.size W e (.agg #[d0, d1, d2, d3]) ∧ ∀ y, elems[i]? = some y → E.count e ≤ Rows.uptoBulk y.1) len (fun i him => by
        have hii := hi i him
        rw [show Tryd.prog.cellsOf 24 = 4 by kernel_rfl] at hii
        have hei : elems[i]? = some elems[i] := List.getElem?_eq_getElem (by omega)
        rw [hei] at hii
        obtain ⟨cs', hc, ht⟩ := Option.bind_eq_some_iff.1 hii
        obtain ⟨_, hcl, hat⟩ := World.cells?_some hc
        obtain ⟨d0, d1, d2, d3, rfl⟩ := list4 cs' hcl
        obtain ⟨e, he, hce⟩ := ih m (by omega) ht
        exact ⟨e, d0, d1, d2, d3, hat 0 (by omega), hat 1 (by omega), hat 2 (by omega), hat 3 (by omega), he, fun y hy => by
          rw [hei] at hy
          cases hy
          exact hce⟩)
      refine ⟨.mk k n s l, ?_, ?_⟩
      · rw [InV]
        refine ⟨some a, cap, by rw [hll], wf_i64 w1, by omega, hcm, fun hpos => ?_⟩
        obtain ⟨_, _, _, _, z0, _⟩ := hq 0 hpos
        have hz : (a.add (0 * 4)).add 0 = a := by simp [Addr.add]
        rw [hz] at z0
        have hsp := no_spot z0
        have hbl := block_lt z0
        obtain ⟨b, o, sp'⟩ := a
        have hsp' : sp' = none := hsp
        subst hsp'
        have hadd : ∀ n o, (⟨b, o, none⟩ : Addr).add n = ⟨b, o + n, none⟩ := by
          intro n o
          unfold Addr.add
          split
          · rename_i e; subst e; rfl
          · rfl
        refine ⟨b, o, rfl, hbl, inA_of l o (fun i hil => ?_)⟩
        obtain ⟨d0, d1, d2, d3, z0, z1, z2, z3, hv, _⟩ := hq i hil
        rw [hadd, hadd] at z0 z1 z2 z3
        exact ⟨d0, d1, d2, d3, z0, z1, z2, z3, hv⟩
      · have h4 := counts_bulk l (elems.map (·.1)) (by rw [List.length_map]; omega) (fun i e d he hd => by
          obtain ⟨y, hy, rfl⟩ : ∃ y, elems[i]? = some y ∧ y.1 = d := by simpa using hd
          have hil : i < l.length := (List.getElem?_eq_some_iff.1 he).1
          obtain ⟨_, _, _, _, _, _, _, _, _, h⟩ := hq i hil
          have : l[i] = e := (List.getElem?_eq_some_iff.1 he).2
          rw [this] at h
          exact h y hy)
        subst hy3
        rw [E.count]
        simp only [List.map, Rows.uptoBulk, Rows.uptoBulkAll]
        omega
set_option maxRecDepth 100000 in
/-- An expression, by value. -/
theorem open_ex {v : Value} {d : DataW H} {ps : List MemPlace} {b0 : Nat} (hval : Value.okWide Tryd.prog W .any b0 24 v) (hd : DataW.Trod enc Tryd.prog W base sp held 24 v d ps) :
    ∃ e : E, InV W.heap.size W e v ∧ E.count e ≤ Rows.uptoBulk d := by
  obtain ⟨cs, rfl, hsz, _⟩ : ∃ cs, v = .agg cs ∧ cs.size = Tryd.prog.cellsOf 24 ∧ Row.okWide Tryd.prog W .any b0 24 cs := by
    simpa [Value.okWide, Tryd.underlying24] using hval
  obtain ⟨l⟩ := cs
  obtain ⟨fuel, hf⟩ := hd
  exact open_ex_at fuel (cs := l) hf
end
end Go.Proofs.YtdehpgdffafebaaDoor
