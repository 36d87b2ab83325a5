/- What the laws' inputs are in memory: a type, a slice of owners, a slice of texts. Conditions: none. -/
import Derived.Test.YtemhfbfodpeeaaaDoorRows
import Derived.Test.YtemhfbfodpeeaaaDoorLaw3
import Derived.Deep.Slices
import Derived.Deep.Fields
import Derived.ChangeSame
import Derived.Lib.SmallJoins
import Derived.OpenShut
namespace Go.Proofs.YtemhfbfodpeeaaaDoor
open Go.ChangeShapes Go.WideShapes Go.Deep Go.Joins Go.RowKit
set_option linter.unusedVariables false

section
variable {H : Type} {enc : TypeId × Value → H} {P : Program} {w : World} {base : Nat} {spare : Nat → Bool} {held : Bool}
/-- A slice of structs of one-cell fields, opened. -/
theorem open_slice_fields {t e : TypeId} {fs : Array Field} {fuel : Nat} {cs : List Value} {x : DataW H × List MemPlace} (ht : P.underlying t = some (.slice e)) (he : P.underlying e = some (.struct fs))
    (hone : oneCellFields P fs = true) (hC : P.cellsOf e = fs.size) (h : DataW.trod enc P w base spare held fuel t cs = some x) :
    cs = [.slice none 0 0] ∨
    ∃ (a : Addr) (len cap : Nat), cs = [.slice (some a) len cap] ∧ len ≤ cap ∧
      ∀ i, i < len → ∃ n : Nat, ∀ (j : Nat) (f : Field), fs[j]? = some f → ∃ (v : Value) (y : DataW H × List MemPlace), w.cell? (a.add (i * fs.size + j)) = some v ∧ DataW.trod enc P w base spare held n f.type [v] = some y := by
  rcases open_slice ht h with h0 | ⟨a, len, cap, m, n, D, Pl, hcs, hb, hl, hm, hmm, hx, hi⟩
  · exact .inl h0.1
  · refine .inr ⟨a, len, cap, hcs, hl, fun i him => ?_⟩
    obtain ⟨cs', hc, ht'⟩ := hi i (by rw [hmm]; split <;> omega)
    rw [hC] at hc
    obtain ⟨ys, n', hn', hy, hlen, hyl, hf⟩ := DataW.trod_struct he ht'
    obtain ⟨_, hcl, hat⟩ := World.cells?_some hc
    refine ⟨n', fun j f hj => ?_⟩
    obtain ⟨ho, hk⟩ := hone_of hone j f hj
    have hjl : j < fs.size := (Array.getElem?_eq_some_iff.1 hj).1
    have hcell := hat j hjl
    have hv : cs'[j]? = some (cs'[j]'(by omega)) := List.getElem?_eq_getElem (by omega)
    have h1 := hf j f hj
    rw [ho, hk] at h1
    have hone' : (cs'.drop j).take 1 = [cs'[j]'(by omega)] := by
      rw [List.drop_eq_getElem_cons (by omega)]
      rfl
    rw [hone'] at h1
    have hys : ys[j]? = some (ys[j]'(by omega)) := List.getElem?_eq_getElem (by omega)
    refine ⟨_, _, ?_, h1.trans hys⟩
    rw [← Go.Deep.add_add, hcell, hv]
end

theorem list_of {α : Type} (Q : Nat → α → Prop) : ∀ n : Nat, (∀ i, i < n → ∃ a, Q i a) → ∃ l : List α, l.length = n ∧ ∀ i, (h : i < l.length) → Q i l[i]
  | 0, _ => ⟨[], rfl, fun i h => absurd h (by simp)⟩
  | n + 1, h => by
    obtain ⟨l, hl, hq⟩ := list_of Q n (fun i hi => h i (by omega))
    obtain ⟨a, ha⟩ := h n (by omega)
    refine ⟨l ++ [a], by simp [hl], fun i hi => ?_⟩
    by_cases hin : i < l.length
    · rw [List.getElem_append_left hin]; exact hq i hin
    · have : i = n := by simp at hi; omega
      subst this
      rw [List.getElem_append_right (by omega)]
      simpa [hl] using ha
/-- Where a cell is, the address is whole. -/
theorem no_spot {W : World} {a : Addr} {v : Value} (h0 : W.cell? a = some v) : a.spot = none := by
  unfold World.cell? at h0
  split at h0
  · split at h0
    · cases h0
    · rename_i hns
      cases hs : a.spot with
      | none => rfl
      | some z => rw [hs] at hns; simp at hns
  · cases h0
theorem block_lt {W : World} {a : Addr} {v : Value} (h : W.cell? a = some v) : a.block < W.heap.size := World.block_lt_of_cell? W _ h

section
variable {H : Type} {enc : TypeId × Value → H} {W : World} {base : Nat} {sp : Nat → Bool} {held : Bool}
/-- A slice of owners, opened: it reads as a list of owners. -/
theorem open_owns_at {fuel : Nat} {v : Value} {x : DataW H × List MemPlace} (h : DataW.trod enc Tryd.prog W base sp held fuel 32 [v] = some x) :
    ∃ (A : Option Addr) (c : Nat) (l : List Ow), v = .slice A l.length c ∧ l.length ≤ c ∧ RO W W.heap.size A l := by
  rcases open_slice_fields Tryd.underlying32 Tryd.underlying23 (by kernel_rfl) (by kernel_rfl) h with h0 | ⟨a, len, cap, hcs, hlc, hi⟩
  · exact ⟨none, 0, [], by simpa using h0, Nat.le_refl _, fun h => absurd h (by simp)⟩
  · have hv : v = .slice (some a) len cap := by simpa using hcs
    obtain ⟨l, hl, hq⟩ := list_of (fun i (g : Ow) => W.cell? (a.add (i * 2)) = some (.int .i64 g.kind) ∧ W.cell? (a.add (i * 2 + 1)) = some (.int .i64 g.n)) len (fun i hil => by
      obtain ⟨n, hf⟩ := hi i hil
      obtain ⟨v0, y0, hc0, ht0⟩ := hf 0 _ rfl
      obtain ⟨v1, y1, hc1, ht1⟩ := hf 1 _ rfl
      obtain ⟨k, e0, _, _⟩ := DataW.trod_int Tryd.underlying3 ht0
      obtain ⟨p, e1, _, _⟩ := DataW.trod_int Tryd.underlying3 ht1
      have e0' : v0 = .int .i64 k := by simpa using e0
      have e1' : v1 = .int .i64 p := by simpa using e1
      subst e0' e1'
      exact ⟨⟨k, p⟩, hc0, hc1⟩)
    subst hl
    refine ⟨some a, cap, l, hv, hlc, fun hpos => ?_⟩
    have h0 := (hq 0 hpos).1
    have hz : a.add (0 * 2) = a := by simp [Addr.add]
    rw [hz] at h0
    have hsp := no_spot h0
    have hbl := block_lt h0
    obtain ⟨b, o, s⟩ := a
    have hsp' : s = none := hsp
    subst hsp'
    have hadd : ∀ n, (⟨b, o, none⟩ : Addr).add n = ⟨b, o + n, none⟩ := by
      intro n
      unfold Addr.add
      split
      · rename_i e; subst e; rfl
      · rfl
    refine ⟨b, o, rfl, hbl, fun i hil => ?_⟩
    obtain ⟨a0, a1⟩ := hq i hil
    rw [hadd] at a0 a1
    exact ⟨a0, a1⟩
theorem open_owns {v : Value} {d : DataW H} {ps : List MemPlace} {b0 : Nat} (hval : Value.okWide Tryd.prog W .any b0 32 v) (hd : DataW.Trod enc Tryd.prog W base sp held 32 v d ps) :
    ∃ (A : Option Addr) (c : Nat) (l : List Ow), v = .slice A l.length c ∧ l.length ≤ c ∧ RO W W.heap.size A l := by
  obtain ⟨fuel, hf⟩ := hd
  obtain ⟨A, n, c, rfl⟩ := okWide_slice Tryd.underlying32 hval
  exact open_owns_at hf
/-- Two cells that read as an owner. -/
theorem own_cells {fuel : Nat} {c0 c1 : Value} {x : DataW H × List MemPlace} (h : DataW.trod enc Tryd.prog W base sp held fuel 23 [c0, c1] = some x) : ∃ o : Ow, c0 = .int .i64 o.kind ∧ c1 = .int .i64 o.n := by
  obtain ⟨ys, n', hn', hy, hlen, hyl, hf⟩ := DataW.trod_struct Tryd.underlying23 h
  have h0 : DataW.trod enc Tryd.prog W base sp held n' 3 (([c0, c1].drop 0).take (Tryd.prog.cellsOf 3)) = ys[0]? := hf 0 _ rfl
  have h1 : DataW.trod enc Tryd.prog W base sp held n' 3 (([c0, c1].drop 1).take (Tryd.prog.cellsOf 3)) = ys[1]? := hf 1 _ rfl
  have hl : ys.length = 2 := hyl
  rw [show Tryd.prog.cellsOf 3 = 1 by kernel_rfl, List.getElem?_eq_getElem (by omega)] at h0 h1
  obtain ⟨k, e0, _, _⟩ := DataW.trod_int Tryd.underlying3 h0
  obtain ⟨p, e1, _, _⟩ := DataW.trod_int Tryd.underlying3 h1
  exact ⟨⟨k, p⟩, by simpa using e0, by simpa using e1⟩
theorem list11 {α : Type} (l : List α) (h : (⟨l⟩ : Array α).size = 11) : ∃ a b c d e f g i j k m, l = [a, b, c, d, e, f, g, i, j, k, m] := by
  match l, h with
  | [a, b, c, d, e, f, g, i, j, k, m], _ => exact ⟨a, b, c, d, e, f, g, i, j, k, m, rfl⟩
/-- A type, by value. -/
theorem open_ty {v : Value} {d : DataW H} {ps : List MemPlace} {b0 : Nat} (hval : Value.okWide Tryd.prog W .any b0 26 v) (hd : DataW.Trod enc Tryd.prog W base sp held 26 v d ps) :
    ∃ t : Ty, v = .agg t.cells := by
  obtain ⟨cs, rfl, hsz, _⟩ : ∃ cs, v = .agg cs ∧ cs.size = Tryd.prog.cellsOf 26 ∧ Row.okWide Tryd.prog W .any b0 26 cs := by
    simpa [Value.okWide, Tryd.underlying26] using hval
  rw [show Tryd.prog.cellsOf 26 = 11 by kernel_rfl] at hsz
  obtain ⟨l⟩ := cs
  obtain ⟨c0, c1, c2, c3, c4, c5, c6, c7, c8, c9, c10, rfl⟩ := list11 l hsz
  obtain ⟨fuel, hf⟩ := hd
  obtain ⟨ys, n', hn', hy, hlen, hyl, hf⟩ := DataW.trod_struct Tryd.underlying26 hf
  have h0 : DataW.trod enc Tryd.prog W base sp held n' 3 (([c0, c1, c2, c3, c4, c5, c6, c7, c8, c9, c10].drop 0).take (Tryd.prog.cellsOf 3)) = ys[0]? := hf 0 _ rfl
  have h1 : DataW.trod enc Tryd.prog W base sp held n' 9 (([c0, c1, c2, c3, c4, c5, c6, c7, c8, c9, c10].drop 1).take (Tryd.prog.cellsOf 9)) = ys[1]? := hf 1 _ rfl
  have h2 : DataW.trod enc Tryd.prog W base sp held n' 3 (([c0, c1, c2, c3, c4, c5, c6, c7, c8, c9, c10].drop 2).take (Tryd.prog.cellsOf 3)) = ys[2]? := hf 2 _ rfl
  have h3 : DataW.trod enc Tryd.prog W base sp held n' 24 (([c0, c1, c2, c3, c4, c5, c6, c7, c8, c9, c10].drop 3).take (Tryd.prog.cellsOf 24)) = ys[3]? := hf 3 _ rfl
  have hl : ys.length = 4 := hyl
  rw [show Tryd.prog.cellsOf 3 = 1 by kernel_rfl, List.getElem?_eq_getElem (by omega)] at h0 h2
  rw [show Tryd.prog.cellsOf 9 = 1 by kernel_rfl, List.getElem?_eq_getElem (by omega)] at h1
  rw [show Tryd.prog.cellsOf 24 = 8 by kernel_rfl, List.getElem?_eq_getElem (by omega)] at h3
  obtain ⟨k, e0, _, _⟩ := DataW.trod_int Tryd.underlying3 h0
  obtain ⟨s, e1, _, _⟩ := DataW.trod_string Tryd.underlying9 h1
  obtain ⟨n, e2, _, _⟩ := DataW.trod_int Tryd.underlying3 h2
  obtain ⟨xs, m, _, _, _, hxl, hx⟩ := DataW.trod_array Tryd.underlying24 h3
  have g0 := hx 0 (by omega)
  have g1 := hx 1 (by omega)
  have g2 := hx 2 (by omega)
  have g3 := hx 3 (by omega)
  rw [show Tryd.prog.cellsOf 23 = 2 by kernel_rfl] at g0 g1 g2 g3
  rw [List.getElem?_eq_getElem (by omega)] at g0 g1 g2 g3
  obtain ⟨o0, a0, b0⟩ := own_cells (c0 := c3) (c1 := c4) (by simpa using g0)
  obtain ⟨o1, a1, b1⟩ := own_cells (c0 := c5) (c1 := c6) (by simpa using g1)
  obtain ⟨o2, a2, b2⟩ := own_cells (c0 := c7) (c1 := c8) (by simpa using g2)
  obtain ⟨o3, a3, b3⟩ := own_cells (c0 := c9) (c1 := c10) (by simpa using g3)
  have e0' : c0 = .int .i64 k := by simpa using e0
  have e1' : c1 = .string s := by simpa using e1
  have e2' : c2 = .int .i64 n := by simpa using e2
  subst e0' e1' e2' a0 b0 a1 b1 a2 b2 a3 b3
  exact ⟨⟨k, s, n, o0, o1, o2, o3⟩, rfl⟩

theorem bulk_part {d : DataW H} {l : List (DataW H)} (h : d ∈ l) : Rows.uptoBulk d ≤ Rows.uptoBulkAll l := by
  induction l with
  | nil => cases h
  | cons x r ih =>
    simp only [Rows.uptoBulkAll]
    cases List.mem_cons.1 h with
    | inl e => subst e; omega
    | inr e => have := ih e; omega
/-- A slice of texts, opened: it reads as a list of texts, none of which takes more than the slice's bulk. -/
theorem open_strs {v : Value} {d : DataW H} {pl : List MemPlace} {b0 : Nat} (hval : Value.okWide Tryd.prog W .any b0 27 v) (hd : DataW.Trod enc Tryd.prog W base sp held 27 v d pl) :
    ∃ (A : Option Addr) (c : Nat) (l : List ByteArray), v = .slice A l.length c ∧ l.length ≤ c ∧ RS W W.heap.size A l ∧ ∀ i, (hi : i < l.length) → l[i].size ≤ Rows.uptoBulk d := by
  obtain ⟨fuel, hf⟩ := hd
  obtain ⟨A, n, c, rfl⟩ := okWide_slice Tryd.underlying27 hval
  have hf : DataW.trod enc Tryd.prog W base sp held fuel 27 [.slice A n c] = some (d, pl) := hf
  rcases open_slice1 Tryd.underlying27 (by kernel_rfl) hf with h0 | ⟨a, len, cap, m, n', V, D, Pl, hcs, hb, hlc, hcap, hm, hx, hi⟩
  · exact ⟨none, 0, [], by simpa using h0.1, Nat.le_refl _, fun h => absurd h (by simp), fun i h => absurd h (by simp)⟩
  · have hv : (.slice A n c : Value) = .slice (some a) len cap := by simpa using hcs
    have hd : d = .slice ((List.range len).map D) ((List.range (m - len)).map fun j => D (len + j)) := congrArg Prod.fst hx
    have hml : len ≤ m := by rw [hm]; split <;> omega
    obtain ⟨l, hl, hq⟩ := list_of (fun i (s : ByteArray) => W.cell? (a.add i) = some (.string s) ∧ D i = .lit (.string s.data.toList)) len (fun i hil => by
      obtain ⟨hc, ht⟩ := hi i (by omega)
      obtain ⟨s, e, e2, _⟩ := DataW.trod_string Tryd.underlying9 ht
      have e' : V i = .string s := by simpa using e
      rw [e'] at hc
      exact ⟨s, hc, congrArg Prod.fst e2⟩)
    subst hl
    refine ⟨some a, cap, l, hv, hlc, fun hpos => ?_, fun i hil => ?_⟩
    · have h0 := (hq 0 hpos).1
      have hz : a.add 0 = a := by simp [Addr.add]
      rw [hz] at h0
      have hsp := no_spot h0
      have hbl := block_lt h0
      obtain ⟨b, o, s⟩ := a
      have hsp' : s = none := hsp
      subst hsp'
      have hadd : ∀ n, (⟨b, o, none⟩ : Addr).add n = ⟨b, o + n, none⟩ := by
        intro n
        unfold Addr.add
        split
        · rename_i e; subst e; rfl
        · rfl
      refine ⟨b, o, rfl, hbl, fun i hil => ?_⟩
      have := (hq i hil).1
      rw [hadd] at this
      exact this
    · have h1 := (hq i hil).2
      have h2 : D i ∈ (List.range l.length).map D := List.mem_map.2 ⟨i, List.mem_range.2 hil, rfl⟩
      have h3 := bulk_part h2
      rw [hd]
      simp only [Rows.uptoBulk]
      rw [h1] at h3
      simp only [Rows.uptoBulk] at h3
      have : l[i].data.toList.length = l[i].size := rfl
      omega
end
end Go.Proofs.YtemhfbfodpeeaaaDoor
