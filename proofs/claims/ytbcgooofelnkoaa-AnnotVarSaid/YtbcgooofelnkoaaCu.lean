/- The cursor: tokens from a place on, in the first two cells of a block; the token that stands so many places behind it. Conditions: none. -/
import Derived.Test.YtbcgooofelnkoaaGt
import Derived.Maps.AppendAt
import Derived.Deep.DeepCutAuto
namespace Go.Proofs.Ytbcgooofelnkoaa
open Go.RowKit
set_option linter.unusedVariables false

/-- What stands where no token does. -/
def endT (l : List Gt) : Gt := ⟨0, ⟨#[]⟩, match l.getLast? with
  | some t => t.pos
  | none => 0⟩
/-- The token at any place. -/
def tokI (l : List Gt) (a : Int) : Gt := if 0 ≤ a then tokN l a.toNat else endT l
theorem tokN_end {l : List Gt} {k : Nat} (h : l.length ≤ k) : tokN l k = endT l := by
  unfold tokN endT
  rw [List.getElem?_eq_none h]
  rfl
theorem tokI_nat (l : List Gt) (k : Nat) : tokI l (k : Int) = tokN l k := by
  unfold tokI
  rw [if_pos (by omega)]
  simp
theorem tokI_end {l : List Gt} {a : Int} (h : a < 0 ∨ (l.length : Int) ≤ a) : tokI l a = endT l := by
  unfold tokI
  split
  · exact tokN_end (by omega)
  · rfl
theorem tokI_in {l : List Gt} {a : Int} (h : (tokI l a).kind ≠ 0) : 0 ≤ a ∧ a < l.length := by
  rcases (show (a < 0 ∨ (l.length : Int) ≤ a) ∨ (0 ≤ a ∧ a < l.length) by omega) with g | g
  · rw [tokI_end g] at h
    exact absurd rfl h
  · exact g

/-- A cursor in the first cells of a block of its own, and its tokens. -/
structure Cu (R B : Nat) (l : List Gt) (A : Option Addr) (c : Nat) (X : Array Value) (T : TypeId) (a : Int) (w : World) : Prop where
  row : w.heap[R]? = some (.cells (#[.slice A l.length c, .int .i64 a] ++ X) T (0, 0))
  toks : RT w B A l
  hB : B ≤ R
  len : l.length ≤ c
  cap : c ≤ maxLen
  low : -9223372036854775808 ≤ a
  high : a ≤ 9223372036854775807
theorem Cu.below {R B : Nat} {l : List Gt} {A : Option Addr} {c : Nat} {X : Array Value} {T : TypeId} {a : Int} {w w' : World} (h : Cu R B l A c X T a w) (hb : Below w.heap.size w w') : Cu R B l A c X T a w' :=
  ⟨(hb.block _ (heap_lt h.row)).trans h.row, h.toks.below (hb.mono (Nat.le_trans h.hB (Nat.le_of_lt (heap_lt h.row)))), h.hB, h.len, h.cap, h.low, h.high⟩
theorem Cu.cells {R B : Nat} {l : List Gt} {A : Option Addr} {c : Nat} {X : Array Value} {T : TypeId} {a : Int} {w : World} (h : Cu R B l A c X T a w) :
    w.cell? ⟨R, 0, none⟩ = some (.slice A l.length c) ∧ w.cell? ⟨R, 1, none⟩ = some (.int .i64 a) := by
  have hs : ∀ k : Nat, k < 2 → (#[.slice A l.length c, .int .i64 a] ++ X)[k]? = (#[.slice A l.length c, .int .i64 a] : Array Value)[k]? := fun k hk => Array.getElem?_append_left (by simpa using hk)
  exact ⟨(cell_of_row w _ 0 _ _ (0, 0) h.row).trans (hs 0 (by omega)), (cell_of_row w _ 1 _ _ (0, 0) h.row).trans (hs 1 (by omega))⟩
theorem row3 {W : World} {g : Nat} {a b c : Value} {t : TypeId} (h : W.heap[g]? = some (.cells #[a, b, c] t (0, 0))) :
    W.cell? ⟨g, 0, none⟩ = some a ∧ W.cell? ⟨g, 1, none⟩ = some b ∧ W.cell? ⟨g, 2, none⟩ = some c :=
  ⟨cell_of_row W _ 0 _ _ (0, 0) h, cell_of_row W _ 1 _ _ (0, 0) h, cell_of_row W _ 2 _ _ (0, 0) h⟩
abbrev pR (R : Nat) : Value := .pointer (some ⟨R, 0, none⟩)

abbrev tok0 : Obj := .cells #[.int .i64 0, .string ⟨#[]⟩, .int .i64 0] 55
theorem set3 {W : World} {g : Nat} {a b c : Value} {t : TypeId} (h : W.heap[g]? = some (.cells #[a, b, c] t (0, 0))) (x y z : Value) :
    (((W.setCell ⟨g, 0, none⟩ x).setCell ⟨g, 1, none⟩ y).setCell ⟨g, 2, none⟩ z).heap[g]? = some (.cells #[x, y, z] t (0, 0)) := by
  have h0 : (W.setCell ⟨g, 0, none⟩ x).heap[g]? = some (.cells #[x, b, c] t (0, 0)) := heap_setCell_same _ _ 0 _ _ _ h
  have h1 : ((W.setCell ⟨g, 0, none⟩ x).setCell ⟨g, 1, none⟩ y).heap[g]? = some (.cells #[x, y, c] t (0, 0)) := heap_setCell_same _ _ 1 _ _ _ h0
  exact heap_setCell_same _ _ 2 _ _ _ h1
theorem below3 {B : Nat} {w W : World} {g : Nat} (h : Below B w W) (hg : B ≤ g) (x y z : Value) : Below B w (((W.setCell ⟨g, 0, none⟩ x).setCell ⟨g, 1, none⟩ y).setCell ⟨g, 2, none⟩ z) :=
  ((h.setCell (p := ⟨g, 0, none⟩) hg x).setCell (p := ⟨g, 1, none⟩) hg y).setCell (p := ⟨g, 2, none⟩) hg z
theorem boxed (w : World) (o : Obj) : Below w.heap.size w (w.alloc o) := (Below.refl _ w).alloc (Nat.le_refl _) o

set_option maxRecDepth 100000 in
set_option maxHeartbeats 4000000 in
theorem behind_any (R B : Nat) (l : List Gt) (A : Option Addr) (c : Nat) (X : Array Value) (T : TypeId) (a n : Int) (w : World) (h : Cu R B l A c X T a w) (hlo : -9223372036854775808 ≤ a + n) (hhi : a + n ≤ 9223372036854775807) :
    Calls Try.prog 32 #[pR R, .int .i64 n] w fun x w' => x = .returned (tokI l (a + n)).val ∧ Below w.heap.size w w' := by
  have hRw := heap_lt h.row
  have hbox := heap_new w tok0
  have hb0 := boxed w tok0
  have h := h.below hb0
  have hsz : (w.alloc tok0).heap.size = w.heap.size + 1 := World.size_alloc ..
  obtain ⟨W0, hW0⟩ : ∃ W0, W0 = w.alloc tok0 := ⟨_, rfl⟩
  rw [← hW0] at hbox hb0 h hsz
  obtain ⟨z0, z1⟩ := h.cells
  obtain ⟨x0, x1, x2⟩ := row3 hbox
  have f0 := frozen_of hbox 0
  have f1 := frozen_of hbox 1
  have f2 := frozen_of hbox 2
  have hcap := h.cap
  have hlen := h.len
  have hl63 : l.length ≤ 9223372036854775807 := by unfold maxLen at hcap; omega
  have hwW : w.heap.size < W0.heap.size := by omega
  by_cases hlt : 0 ≤ a + n ∧ a + n < l.length
  · obtain ⟨k, hk⟩ : ∃ k : Nat, a + n = (k : Int) := ⟨(a + n).toNat, by omega⟩
    rw [hk] at hlt hlo hhi ⊢
    have hkl : k < l.length := by omega
    have hT : tokI l (k : Int) = l[k] := by rw [tokI_nat]; unfold tokN; rw [List.getElem?_eq_getElem hkl]
    obtain ⟨b, o, rfl, hbB, q0, q1, q2⟩ := h.toks.at_ hkl
    obtain ⟨t, ht⟩ : ∃ t, t = l[k] := ⟨_, rfl⟩
    rw [← ht] at q0 q1 q2 hT
    obtain ⟨kk, kx, kp⟩ := t
    obtain ⟨L, hL⟩ : ∃ L, L = l.length := ⟨_, rfl⟩
    rw [← hL] at z0 hlen hl63 hlt hkl
    have HT := Lib.hid hT
    have HBX := Lib.hid hbox
    have HB0 := Lib.hid hb0
    have e0 : decide ((0 : Int) ≤ (k : Int)) = true := by simp
    have e1 : decide ((k : Int) < (L : Int)) = true := by simpa using hkl
    have hkk : (a : Int) + n = (k : Int) := hk
    clear hL ht hT h hbox hb0 hlt
    go_enter Try.func32, Try.ntmps32
    go_upto_region 1 with fail
    rw [← hW0]
    clear hW0
    go_wp2_with fail
    have hs := set3 HBX.out (.int .i64 kk) (.string kx) (.int .i64 kp)
    have hbf := below3 HB0.out (Nat.le_refl _) (.int .i64 kk) (.string kx) (.int .i64 kp)
    obtain ⟨Wf, hWf⟩ : ∃ Wf, Wf = ((W0.setCell ⟨w.heap.size, 0, none⟩ (.int .i64 kk)).setCell ⟨w.heap.size, 1, none⟩ (.string kx)).setCell ⟨w.heap.size, 2, none⟩ (.int .i64 kp) := ⟨_, rfl⟩
    rw [← hWf] at hs hbf ⊢
    obtain ⟨r0, r1, r2⟩ := row3 hs
    exact bodyPost_ret (v := .agg #[.int .i64 kk, .string kx, .int .i64 kp]) (by simp [results, Try.results32, go_sem, r0, r1, r2]) rfl ⟨by rw [HT.out]; rfl, hbf⟩
  · have hout : a + n < 0 ∨ (l.length : Int) ≤ a + n := by omega
    have HT := Lib.hid (tokI_end hout)
    obtain ⟨m, hm⟩ : ∃ m, m = a + n := ⟨_, rfl⟩
    rw [← hm] at hlt hlo hhi hout HT ⊢
    have hmm : a + n = m := hm.symm
    have HBX := Lib.hid hbox
    have HB0 := Lib.hid hb0
    rcases Nat.eq_zero_or_pos l.length with h0 | h0
    · have HE : Hid (endT l = ⟨0, ⟨#[]⟩, 0⟩) := Lib.hid (by
        have := List.eq_nil_of_length_eq_zero h0
        subst this
        rfl)
      rw [h0] at z0 hout
      rcases hout with hneg | hpos
      all_goals
        have HH := Lib.hid h
        clear hlt hlen hl63 h hbox hb0 h0 hm
        go_enter Try.func32, Try.ntmps32
        go_upto_region 1 with fail
        rw [← hW0]
        clear hW0
        go_wp2_with fail
        have hs0 := set3 HBX.out (.int .i64 0) (.string ⟨#[]⟩) (.int .i64 0)
        have hbf := (below3 HB0.out (Nat.le_refl _) (.int .i64 0) (.string ⟨#[]⟩) (.int .i64 0)).alloc (by simp; omega) (.cells #[.int .i64 0, .string ⟨#[]⟩, .int .i64 0] 55)
        have hs := (Below.heap_alloc _ (.cells #[.int .i64 0, .string ⟨#[]⟩, .int .i64 0] 55) _ (heap_lt hs0)).trans hs0
        obtain ⟨Wf, hWf⟩ : ∃ Wf, Wf = (((W0.setCell ⟨w.heap.size, 0, none⟩ (.int .i64 0)).setCell ⟨w.heap.size, 1, none⟩ (.string ⟨#[]⟩)).setCell ⟨w.heap.size, 2, none⟩ (.int .i64 0)).alloc (.cells #[.int .i64 0, .string ⟨#[]⟩, .int .i64 0] 55) := ⟨_, rfl⟩
        rw [← hWf] at hs hbf ⊢
        obtain ⟨r0, r1, r2⟩ := row3 hs
        exact bodyPost_ret (v := .agg #[.int .i64 0, .string ⟨#[]⟩, .int .i64 0]) (by simp [results, Try.results32, go_sem, r0, r1, r2]) rfl ⟨by rw [HT.out, HE.out]; rfl, hbf⟩
    · obtain ⟨p, hp⟩ : ∃ p, l.length = p + 1 := ⟨l.length - 1, by omega⟩
      obtain ⟨b, o, rfl, hbB, q0, q1, q2⟩ := h.toks.at_ (k := p) (by omega)
      have HE : Hid (endT l = ⟨0, ⟨#[]⟩, (l[p]'(by omega)).pos⟩) := Lib.hid (by
        have : l.getLast? = some (l[p]'(by omega)) := by
          rw [List.getLast?_eq_getElem?, show l.length - 1 = p by omega]
          exact List.getElem?_eq_getElem (by omega)
        unfold endT
        rw [this])
      obtain ⟨t, ht⟩ : ∃ t, t = l[p]'(by omega) := ⟨_, rfl⟩
      rw [← ht] at q0 q1 q2 HE
      obtain ⟨kk, kx, kp⟩ := t
      have HE : Hid (endT l = ⟨0, ⟨#[]⟩, kp⟩) := HE
      rw [hp] at z0 hlen hout
      have hp63 : p + 1 ≤ 9223372036854775807 := by omega
      have hbW : b < W0.heap.size := by have := h.hB; omega
      have hbw : b < w.heap.size := by have := h.hB; omega
      rcases hout with hneg | hpos
      all_goals
        clear hlt hl63 h hbox hb0 h0 ht hp hm
        go_enter Try.func32, Try.ntmps32
        go_upto_region 1 with fail
        rw [← hW0]
        clear hW0
        go_wp2_with fail
        have hs0 := set3 HBX.out (.int .i64 0) (.string ⟨#[]⟩) (.int .i64 kp)
        have hbf := (below3 HB0.out (Nat.le_refl _) (.int .i64 0) (.string ⟨#[]⟩) (.int .i64 kp)).alloc (by simp; omega) (.cells #[.int .i64 0, .string ⟨#[]⟩, .int .i64 kp] 55)
        have hs := (Below.heap_alloc _ (.cells #[.int .i64 0, .string ⟨#[]⟩, .int .i64 kp] 55) _ (heap_lt hs0)).trans hs0
        obtain ⟨Wf, hWf⟩ : ∃ Wf, Wf = (((W0.setCell ⟨w.heap.size, 0, none⟩ (.int .i64 0)).setCell ⟨w.heap.size, 1, none⟩ (.string ⟨#[]⟩)).setCell ⟨w.heap.size, 2, none⟩ (.int .i64 kp)).alloc (.cells #[.int .i64 0, .string ⟨#[]⟩, .int .i64 kp] 55) := ⟨_, rfl⟩
        rw [← hWf] at hs hbf ⊢
        obtain ⟨r0, r1, r2⟩ := row3 hs
        exact bodyPost_ret (v := .agg #[.int .i64 0, .string ⟨#[]⟩, .int .i64 kp]) (by simp [results, Try.results32, go_sem, r0, r1, r2]) rfl ⟨by rw [HT.out, HE.out]; rfl, hbf⟩

end Go.Proofs.Ytbcgooofelnkoaa
