/- What the laws' inputs are in memory: an array of two slices of tokens, and a token. Conditions: none. -/
import Derived.Test.YtiijhlmdgbpkmaaDoorLawTells
import Derived.Deep.Slices
import Derived.Deep.Fields
import Derived.ChangeSame
import Derived.Lib.SmallJoins
import Derived.OpenShut
namespace Go.Proofs.YtiijhlmdgbpkmaaDoor
open Go.ChangeShapes Go.WideShapes Go.Deep Go.Joins Go.RowKit
set_option linter.unusedVariables false

section
variable {H : Type} {enc : TypeId × Value → H} {P : Program} {w : World} {base : Nat} {spare : Nat → Bool} {held : Bool}
/-- A slice of structs of one-cell fields, opened. -/
theorem open_slice_fields {t e : TypeId} {fs : Array Field} {fuel : Nat} {cs : List Value} {x : DataW H × List MemPlace} (ht : P.underlying t = some (.slice e)) (he : P.underlying e = some (.struct fs))
    (hone : oneCellFields P fs = true) (hC : P.cellsOf e = fs.size) (h : DataW.trod enc P w base spare held fuel t cs = some x) :
    cs = [.slice none 0 0] ∨
    ∃ (a : Addr) (len cap : Nat), cs = [.slice (some a) len cap] ∧ len ≤ cap ∧
      ∀ i, i < len → ∃ n : Nat, ∀ (j : Nat) (f : Field), fs[j]? = some f → ∃ (v : Value) (y : DataW H × List MemPlace), w.cell? (a.add (i * fs.size + j)) = some v ∧ DataW.trod enc P w base spare held n f.type [v] = some y := by
  rcases open_slice ht h with h0 | ⟨a, len, cap, m, n, D, Pl, hcs, hb, hl, hm, hmm, hx, hi⟩
  · exact .inl h0.1
  · refine .inr ⟨a, len, cap, hcs, hl, fun i him => ?_⟩
    obtain ⟨cs', hc, ht'⟩ := hi i (by rw [hmm]; split <;> omega)
    rw [hC] at hc
    obtain ⟨ys, n', hn', hy, hlen, hyl, hf⟩ := DataW.trod_struct he ht'
    obtain ⟨_, hcl, hat⟩ := World.cells?_some hc
    refine ⟨n', fun j f hj => ?_⟩
    obtain ⟨ho, hk⟩ := hone_of hone j f hj
    have hjl : j < fs.size := (Array.getElem?_eq_some_iff.1 hj).1
    have hcell := hat j hjl
    have hv : cs'[j]? = some (cs'[j]'(by omega)) := List.getElem?_eq_getElem (by omega)
    have h1 := hf j f hj
    rw [ho, hk] at h1
    have hone' : (cs'.drop j).take 1 = [cs'[j]'(by omega)] := by
      rw [List.drop_eq_getElem_cons (by omega)]
      rfl
    rw [hone'] at h1
    have hys : ys[j]? = some (ys[j]'(by omega)) := List.getElem?_eq_getElem (by omega)
    refine ⟨_, _, ?_, h1.trans hys⟩
    rw [← Go.Deep.add_add, hcell, hv]
end

theorem list_of {α : Type} (Q : Nat → α → Prop) : ∀ n : Nat, (∀ i, i < n → ∃ a, Q i a) → ∃ l : List α, l.length = n ∧ ∀ i, (h : i < l.length) → Q i l[i]
  | 0, _ => ⟨[], rfl, fun i h => absurd h (by simp)⟩
  | n + 1, h => by
    obtain ⟨l, hl, hq⟩ := list_of Q n (fun i hi => h i (by omega))
    obtain ⟨a, ha⟩ := h n (by omega)
    refine ⟨l ++ [a], by simp [hl], fun i hi => ?_⟩
    by_cases hin : i < l.length
    · rw [List.getElem_append_left hin]; exact hq i hin
    · have : i = n := by simp at hi; omega
      subst this
      rw [List.getElem_append_right (by omega)]
      simpa [hl] using ha

/-- A slice of tokens, opened: it reads as a list of tokens whose texts are no longer than texts may be. -/
theorem open_toks {H : Type} {enc : TypeId × Value → H} {W : World} {base : Nat} {sp : Nat → Bool} {held : Bool} {fuel : Nat} {v : Value} {x : DataW H × List MemPlace} (h : DataW.trod enc Tryd.prog W base sp held fuel 23 [v] = some x) :
    ∃ (A : Option Addr) (c : Nat) (l : List Gt), v = .slice A l.length c ∧ l.length ≤ c ∧ RT W W.heap.size A l ∧ ∀ i, (h : i < l.length) → l[i].text.size ≤ maxLen := by
  rcases open_slice_fields Tryd.underlying23 Tryd.underlying30 (by kernel_rfl) (by kernel_rfl) h with h0 | ⟨a, len, cap, hcs, hlc, hi⟩
  · refine ⟨none, 0, [], ?_, Nat.le_refl _, fun h => absurd h (by simp), fun i h => absurd h (by simp)⟩
    simpa using h0
  · have hv : v = .slice (some a) len cap := by simpa using hcs
    obtain ⟨l, hl, hq⟩ := list_of (fun i (g : Gt) => W.cell? (a.add (i * 3)) = some (.int .i64 g.kind) ∧ W.cell? (a.add (i * 3 + 1)) = some (.string g.text) ∧ W.cell? (a.add (i * 3 + 2)) = some (.int .i64 g.pos) ∧ g.text.size ≤ maxLen) len (fun i hil => by
      obtain ⟨n, hf⟩ := hi i hil
      obtain ⟨v0, y0, hc0, ht0⟩ := hf 0 _ rfl
      obtain ⟨v1, y1, hc1, ht1⟩ := hf 1 _ rfl
      obtain ⟨v2, y2, hc2, ht2⟩ := hf 2 _ rfl
      obtain ⟨k, e0, _, _⟩ := DataW.trod_int Tryd.underlying3 ht0
      obtain ⟨s, e1, _, hs⟩ := DataW.trod_string Tryd.underlying9 ht1
      obtain ⟨p, e2, _, _⟩ := DataW.trod_int Tryd.underlying3 ht2
      have e0' : v0 = .int .i64 k := by simpa using e0
      have e1' : v1 = .string s := by simpa using e1
      have e2' : v2 = .int .i64 p := by simpa using e2
      subst e0' e1' e2'
      exact ⟨⟨k, s, p⟩, hc0, hc1, hc2, hs⟩)
    subst hl
    refine ⟨some a, cap, l, hv, hlc, fun hpos => ?_, fun i h => (hq i h).2.2.2⟩
    have h0 := (hq 0 hpos).1
    have hz : a.add (0 * 3) = a := by simp [Addr.add]
    rw [hz] at h0
    have hsp : a.spot = none := by
      unfold World.cell? at h0
      split at h0
      · split at h0
        · cases h0
        · rename_i hns
          cases hs : a.spot with
          | none => rfl
          | some z => rw [hs] at hns; simp at hns
      · cases h0
    obtain ⟨b, o, s⟩ := a
    have hsp' : s = none := hsp
    subst hsp'
    have hadd : ∀ n, (⟨b, o, none⟩ : Addr).add n = ⟨b, o + n, none⟩ := by
      intro n
      unfold Addr.add
      split
      · rename_i e; subst e; rfl
      · rfl
    refine ⟨b, o, rfl, heap_lt' h0, fun i hil => ?_⟩
    obtain ⟨a0, a1, a2, _⟩ := hq i hil
    rw [hadd] at a0 a1 a2
    exact ⟨a0, a1, a2⟩
end Go.Proofs.YtiijhlmdgbpkmaaDoor
