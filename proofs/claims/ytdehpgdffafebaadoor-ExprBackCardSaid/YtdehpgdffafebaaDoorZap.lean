/- The cursor: tokens from a place on, in the first two cells of a block; the token that stands so many places behind it. Conditions: none.
The cursor: the next token, its place, going on, a word or sign that may or has to stand there, a name, what is wrong. Conditions: none.
The reader is a cursor with a count behind it: the token at its place, going on, what has to stand there. Conditions: none. -/
import Derived.Test.YtdehpgdffafebaaDoorZao
import Derived.Maps.AppendAt
import Derived.Deep.DeepCutAuto
import Derived.RangeFuncSeq
import Derived.Maps.Range
namespace Go.Proofs.YtdehpgdffafebaaDoor
open Go.RowKit
set_option linter.unusedVariables false

/-- What stands where no token does. -/
def endT (l : List Gt) : Gt := ⟨0, ⟨#[]⟩, match l.getLast? with
  | some t => t.pos
  | none => 0⟩
/-- The token at any place. -/
def tokI (l : List Gt) (a : Int) : Gt := if 0 ≤ a then tokN l a.toNat else endT l
theorem tokN_end {l : List Gt} {k : Nat} (h : l.length ≤ k) : tokN l k = endT l := by
  unfold tokN endT
  rw [List.getElem?_eq_none h]
  rfl
theorem tokI_nat (l : List Gt) (k : Nat) : tokI l (k : Int) = tokN l k := by
  unfold tokI
  rw [if_pos (by omega)]
  simp
theorem tokI_end {l : List Gt} {a : Int} (h : a < 0 ∨ (l.length : Int) ≤ a) : tokI l a = endT l := by
  unfold tokI
  split
  · exact tokN_end (by omega)
  · rfl
theorem tokI_in {l : List Gt} {a : Int} (h : (tokI l a).kind ≠ 0) : 0 ≤ a ∧ a < l.length := by
  rcases (show (a < 0 ∨ (l.length : Int) ≤ a) ∨ (0 ≤ a ∧ a < l.length) by omega) with g | g
  · rw [tokI_end g] at h
    exact absurd rfl h
  · exact g

/-- A cursor in the first cells of a block of its own, and its tokens. -/
structure Cu (R B : Nat) (l : List Gt) (A : Option Addr) (c : Nat) (X : Array Value) (T : TypeId) (a : Int) (w : World) : Prop where
  row : w.heap[R]? = some (.cells (#[.slice A l.length c, .int .i64 a] ++ X) T (0, 0))
  toks : RT w B A l
  hB : B ≤ R
  len : l.length ≤ c
  cap : c ≤ maxLen
  low : -9223372036854775808 ≤ a
  high : a ≤ 9223372036854775807
theorem Cu.below {R B : Nat} {l : List Gt} {A : Option Addr} {c : Nat} {X : Array Value} {T : TypeId} {a : Int} {w w' : World} (h : Cu R B l A c X T a w) (hb : Below w.heap.size w w') : Cu R B l A c X T a w' :=
  ⟨(hb.block _ (heap_lt h.row)).trans h.row, h.toks.below (hb.mono (Nat.le_trans h.hB (Nat.le_of_lt (heap_lt h.row)))), h.hB, h.len, h.cap, h.low, h.high⟩
theorem Cu.cells {R B : Nat} {l : List Gt} {A : Option Addr} {c : Nat} {X : Array Value} {T : TypeId} {a : Int} {w : World} (h : Cu R B l A c X T a w) :
    w.cell? ⟨R, 0, none⟩ = some (.slice A l.length c) ∧ w.cell? ⟨R, 1, none⟩ = some (.int .i64 a) := by
  have hs : ∀ k : Nat, k < 2 → (#[.slice A l.length c, .int .i64 a] ++ X)[k]? = (#[.slice A l.length c, .int .i64 a] : Array Value)[k]? := fun k hk => Array.getElem?_append_left (by simpa using hk)
  exact ⟨(cell_of_row w _ 0 _ _ (0, 0) h.row).trans (hs 0 (by omega)), (cell_of_row w _ 1 _ _ (0, 0) h.row).trans (hs 1 (by omega))⟩
theorem row3 {W : World} {g : Nat} {a b c : Value} {t : TypeId} (h : W.heap[g]? = some (.cells #[a, b, c] t (0, 0))) :
    W.cell? ⟨g, 0, none⟩ = some a ∧ W.cell? ⟨g, 1, none⟩ = some b ∧ W.cell? ⟨g, 2, none⟩ = some c :=
  ⟨cell_of_row W _ 0 _ _ (0, 0) h, cell_of_row W _ 1 _ _ (0, 0) h, cell_of_row W _ 2 _ _ (0, 0) h⟩
abbrev pR (R : Nat) : Value := .pointer (some ⟨R, 0, none⟩)

abbrev tok0 : Obj := .cells #[.int .i64 0, .string ⟨#[]⟩, .int .i64 0] 49
theorem set3 {W : World} {g : Nat} {a b c : Value} {t : TypeId} (h : W.heap[g]? = some (.cells #[a, b, c] t (0, 0))) (x y z : Value) :
    (((W.setCell ⟨g, 0, none⟩ x).setCell ⟨g, 1, none⟩ y).setCell ⟨g, 2, none⟩ z).heap[g]? = some (.cells #[x, y, z] t (0, 0)) := by
  have h0 : (W.setCell ⟨g, 0, none⟩ x).heap[g]? = some (.cells #[x, b, c] t (0, 0)) := heap_setCell_same _ _ 0 _ _ _ h
  have h1 : ((W.setCell ⟨g, 0, none⟩ x).setCell ⟨g, 1, none⟩ y).heap[g]? = some (.cells #[x, y, c] t (0, 0)) := heap_setCell_same _ _ 1 _ _ _ h0
  exact heap_setCell_same _ _ 2 _ _ _ h1
theorem below3 {B : Nat} {w W : World} {g : Nat} (h : Below B w W) (hg : B ≤ g) (x y z : Value) : Below B w (((W.setCell ⟨g, 0, none⟩ x).setCell ⟨g, 1, none⟩ y).setCell ⟨g, 2, none⟩ z) :=
  ((h.setCell (p := ⟨g, 0, none⟩) hg x).setCell (p := ⟨g, 1, none⟩) hg y).setCell (p := ⟨g, 2, none⟩) hg z
theorem boxed (w : World) (o : Obj) : Below w.heap.size w (w.alloc o) := (Below.refl _ w).alloc (Nat.le_refl _) o

set_option maxRecDepth 100000 in
set_option maxHeartbeats 4000000 in
theorem behind_any (R B : Nat) (l : List Gt) (A : Option Addr) (c : Nat) (X : Array Value) (T : TypeId) (a n : Int) (w : World) (h : Cu R B l A c X T a w) (hlo : -9223372036854775808 ≤ a + n) (hhi : a + n ≤ 9223372036854775807) :
    Calls Tryd.prog 66 #[pR R, .int .i64 n] w fun x w' => x = .returned (tokI l (a + n)).val ∧ Below w.heap.size w w' := by
  have hRw := heap_lt h.row
  have hbox := heap_new w tok0
  have hb0 := boxed w tok0
  have h := h.below hb0
  have hsz : (w.alloc tok0).heap.size = w.heap.size + 1 := World.size_alloc ..
  obtain ⟨W0, hW0⟩ : ∃ W0, W0 = w.alloc tok0 := ⟨_, rfl⟩
  rw [← hW0] at hbox hb0 h hsz
  obtain ⟨z0, z1⟩ := h.cells
  obtain ⟨x0, x1, x2⟩ := row3 hbox
  have f0 := frozen_of hbox 0
  have f1 := frozen_of hbox 1
  have f2 := frozen_of hbox 2
  have hcap := h.cap
  have hlen := h.len
  have hl63 : l.length ≤ 9223372036854775807 := by unfold maxLen at hcap; omega
  have hwW : w.heap.size < W0.heap.size := by omega
  by_cases hlt : 0 ≤ a + n ∧ a + n < l.length
  · obtain ⟨k, hk⟩ : ∃ k : Nat, a + n = (k : Int) := ⟨(a + n).toNat, by omega⟩
    rw [hk] at hlt hlo hhi ⊢
    have hkl : k < l.length := by omega
    have hT : tokI l (k : Int) = l[k] := by rw [tokI_nat]; unfold tokN; rw [List.getElem?_eq_getElem hkl]
    obtain ⟨b, o, rfl, hbB, q0, q1, q2⟩ := h.toks.at_ hkl
    obtain ⟨t, ht⟩ : ∃ t, t = l[k] := ⟨_, rfl⟩
    rw [← ht] at q0 q1 q2 hT
    obtain ⟨kk, kx, kp⟩ := t
    obtain ⟨L, hL⟩ : ∃ L, L = l.length := ⟨_, rfl⟩
    rw [← hL] at z0 hlen hl63 hlt hkl
    have HT := Lib.hid hT
    have HBX := Lib.hid hbox
    have HB0 := Lib.hid hb0
    have e0 : decide ((0 : Int) ≤ (k : Int)) = true := by simp
    have e1 : decide ((k : Int) < (L : Int)) = true := by simpa using hkl
    have hkk : (a : Int) + n = (k : Int) := hk
    clear hL ht hT h hbox hb0 hlt
    go_enter Tryd.func66, Tryd.ntmps66
    go_upto_region 1 with fail
    rw [← hW0]
    clear hW0
    go_wp2_with fail
    have hs := set3 HBX.out (.int .i64 kk) (.string kx) (.int .i64 kp)
    have hbf := below3 HB0.out (Nat.le_refl _) (.int .i64 kk) (.string kx) (.int .i64 kp)
    obtain ⟨Wf, hWf⟩ : ∃ Wf, Wf = ((W0.setCell ⟨w.heap.size, 0, none⟩ (.int .i64 kk)).setCell ⟨w.heap.size, 1, none⟩ (.string kx)).setCell ⟨w.heap.size, 2, none⟩ (.int .i64 kp) := ⟨_, rfl⟩
    rw [← hWf] at hs hbf ⊢
    obtain ⟨r0, r1, r2⟩ := row3 hs
    exact bodyPost_ret (v := .agg #[.int .i64 kk, .string kx, .int .i64 kp]) (by simp [results, Tryd.results66, go_sem, r0, r1, r2]) rfl ⟨by rw [HT.out]; rfl, hbf⟩
  · have hout : a + n < 0 ∨ (l.length : Int) ≤ a + n := by omega
    have HT := Lib.hid (tokI_end hout)
    obtain ⟨m, hm⟩ : ∃ m, m = a + n := ⟨_, rfl⟩
    rw [← hm] at hlt hlo hhi hout HT ⊢
    have hmm : a + n = m := hm.symm
    have HBX := Lib.hid hbox
    have HB0 := Lib.hid hb0
    rcases Nat.eq_zero_or_pos l.length with h0 | h0
    · have HE : Hid (endT l = ⟨0, ⟨#[]⟩, 0⟩) := Lib.hid (by
        have := List.eq_nil_of_length_eq_zero h0
        subst this
        rfl)
      rw [h0] at z0 hout
      rcases hout with hneg | hpos
      all_goals
        have HH := Lib.hid h
        clear hlt hlen hl63 h hbox hb0 h0 hm
        go_enter Tryd.func66, Tryd.ntmps66
        go_upto_region 1 with fail
        rw [← hW0]
        clear hW0
        go_wp2_with fail
        have hs0 := set3 HBX.out (.int .i64 0) (.string ⟨#[]⟩) (.int .i64 0)
        have hbf := (below3 HB0.out (Nat.le_refl _) (.int .i64 0) (.string ⟨#[]⟩) (.int .i64 0)).alloc (by simp; omega) (.cells #[.int .i64 0, .string ⟨#[]⟩, .int .i64 0] 49)
        have hs := (Below.heap_alloc _ (.cells #[.int .i64 0, .string ⟨#[]⟩, .int .i64 0] 49) _ (heap_lt hs0)).trans hs0
        obtain ⟨Wf, hWf⟩ : ∃ Wf, Wf = (((W0.setCell ⟨w.heap.size, 0, none⟩ (.int .i64 0)).setCell ⟨w.heap.size, 1, none⟩ (.string ⟨#[]⟩)).setCell ⟨w.heap.size, 2, none⟩ (.int .i64 0)).alloc (.cells #[.int .i64 0, .string ⟨#[]⟩, .int .i64 0] 49) := ⟨_, rfl⟩
        rw [← hWf] at hs hbf ⊢
        obtain ⟨r0, r1, r2⟩ := row3 hs
        exact bodyPost_ret (v := .agg #[.int .i64 0, .string ⟨#[]⟩, .int .i64 0]) (by simp [results, Tryd.results66, go_sem, r0, r1, r2]) rfl ⟨by rw [HT.out, HE.out]; rfl, hbf⟩
    · obtain ⟨p, hp⟩ : ∃ p, l.length = p + 1 := ⟨l.length - 1, by omega⟩
      obtain ⟨b, o, rfl, hbB, q0, q1, q2⟩ := h.toks.at_ (k := p) (by omega)
      have HE : Hid (endT l = ⟨0, ⟨#[]⟩, (l[p]'(by omega)).pos⟩) := Lib.hid (by
        have : l.getLast? = some (l[p]'(by omega)) := by
          rw [List.getLast?_eq_getElem?, show l.length - 1 = p by omega]
          exact List.getElem?_eq_getElem (by omega)
        unfold endT
        rw [this])
      obtain ⟨t, ht⟩ : ∃ t, t = l[p]'(by omega) := ⟨_, rfl⟩
      rw [← ht] at q0 q1 q2 HE
      obtain ⟨kk, kx, kp⟩ := t
      have HE : Hid (endT l = ⟨0, ⟨#[]⟩, kp⟩) := HE
      rw [hp] at z0 hlen hout
      have hp63 : p + 1 ≤ 9223372036854775807 := by omega
      have hbW : b < W0.heap.size := by have := h.hB; omega
      have hbw : b < w.heap.size := by have := h.hB; omega
      rcases hout with hneg | hpos
      all_goals
        clear hlt hl63 h hbox hb0 h0 ht hp hm
        go_enter Tryd.func66, Tryd.ntmps66
        go_upto_region 1 with fail
        rw [← hW0]
        clear hW0
        go_wp2_with fail
        have hs0 := set3 HBX.out (.int .i64 0) (.string ⟨#[]⟩) (.int .i64 kp)
        have hbf := (below3 HB0.out (Nat.le_refl _) (.int .i64 0) (.string ⟨#[]⟩) (.int .i64 kp)).alloc (by simp; omega) (.cells #[.int .i64 0, .string ⟨#[]⟩, .int .i64 kp] 49)
        have hs := (Below.heap_alloc _ (.cells #[.int .i64 0, .string ⟨#[]⟩, .int .i64 kp] 49) _ (heap_lt hs0)).trans hs0
        obtain ⟨Wf, hWf⟩ : ∃ Wf, Wf = (((W0.setCell ⟨w.heap.size, 0, none⟩ (.int .i64 0)).setCell ⟨w.heap.size, 1, none⟩ (.string ⟨#[]⟩)).setCell ⟨w.heap.size, 2, none⟩ (.int .i64 kp)).alloc (.cells #[.int .i64 0, .string ⟨#[]⟩, .int .i64 kp] 49) := ⟨_, rfl⟩
        rw [← hWf] at hs hbf ⊢
        obtain ⟨r0, r1, r2⟩ := row3 hs
        exact bodyPost_ret (v := .agg #[.int .i64 0, .string ⟨#[]⟩, .int .i64 kp]) (by simp [results, Tryd.results66, go_sem, r0, r1, r2]) rfl ⟨by rw [HT.out, HE.out]; rfl, hbf⟩

end Go.Proofs.YtdehpgdffafebaaDoor
namespace Go.Proofs.YtdehpgdffafebaaDoor
open Go.RowKit
set_option linter.unusedVariables false

/-- The next place, as the program counts. -/
def nx (a : Int) : Int := if a = 9223372036854775807 then -9223372036854775808 else a + 1
theorem nx_in {a : Int} (h : a < 9223372036854775807) : nx a = a + 1 := by unfold nx; rw [if_neg (by omega)]
theorem nx_low {a : Int} (h : -9223372036854775808 ≤ a) (h' : a ≤ 9223372036854775807) : -9223372036854775808 ≤ nx a ∧ nx a ≤ 9223372036854775807 := by unfold nx; split <;> omega

theorem gb_below {w w' : World} (h : Below w.heap.size w w') (row : Option Nat) : w.grownBy w' row := ⟨h.os, h.tape, h.output, h.size, fun k hk _ => h.block k hk⟩
theorem gb_set (W : World) (R o : Nat) (v : Value) : W.grownBy (W.setCell ⟨R, o, none⟩ v) (some R) :=
  ⟨(gb_below ((Below.refl _ W).setCell (p := ⟨W.heap.size, o, none⟩) (Nat.le_refl _) v) none).os, (gb_below ((Below.refl _ W).setCell (p := ⟨W.heap.size, o, none⟩) (Nat.le_refl _) v) none).tape, (gb_below ((Below.refl _ W).setCell (p := ⟨W.heap.size, o, none⟩) (Nat.le_refl _) v) none).output, (KeepsWalks.setCell W _ v).size,
   fun k hk hne => heap_setCell_other W ⟨R, o, none⟩ k v (fun e => hne (by rw [e]))⟩
/-- Behind one that the block of a reader alone was changed in. -/
theorem gb_past {w w' : World} {R : Nat} (h : w.grownBy w' (some R)) {B : Nat} (hB : B ≤ R) (hs : B ≤ w.heap.size) : Below B w w' := (Below.refl B w).grown h hs (fun k e => by cases e; exact hB)
theorem Cu.with {R B : Nat} {l : List Gt} {A : Option Addr} {c : Nat} {X : Array Value} {T : TypeId} {a a' : Int} {w w' : World} (h : Cu R B l A c X T a w) (hg : w.grownBy w' (some R)) (hr : w'.heap[R]? = some (.cells (#[.slice A l.length c, .int .i64 a'] ++ X) T (0, 0))) (hl : -9223372036854775808 ≤ a') (hh : a' ≤ 9223372036854775807) : Cu R B l A c X T a' w' :=
  ⟨hr, h.toks.below (gb_past hg h.hB (Nat.le_trans h.hB (Nat.le_of_lt (heap_lt h.row)))), h.hB, h.len, h.cap, hl, hh⟩
theorem row_set {w : World} {R : Nat} {x y : Value} {X : Array Value} {T : TypeId} (h : w.heap[R]? = some (.cells (#[x, y] ++ X) T (0, 0))) (v : Value) : (w.setCell ⟨R, 1, none⟩ v).heap[R]? = some (.cells (#[x, v] ++ X) T (0, 0)) := by
  have h1 := heap_setCell_same w R 1 _ T v h
  have h2 : (#[x, y] ++ X).setIfInBounds 1 v = #[x, v] ++ X := by
    rw [Array.setIfInBounds_append_left (by simp)]
    rfl
  rw [h2] at h1
  exact h1

theorem set3_other (W : World) (g k : Nat) (hk : k ≠ g) (x y z : Value) : (((W.setCell ⟨g, 0, none⟩ x).setCell ⟨g, 1, none⟩ y).setCell ⟨g, 2, none⟩ z).heap[k]? = W.heap[k]? :=
  (heap_setCell_other _ ⟨g, 2, none⟩ k z hk).trans ((heap_setCell_other _ ⟨g, 1, none⟩ k y hk).trans (heap_setCell_other _ ⟨g, 0, none⟩ k x hk))
theorem gb_set3 (W : World) (g : Nat) (x y z : Value) : W.grownBy (((W.setCell ⟨g, 0, none⟩ x).setCell ⟨g, 1, none⟩ y).setCell ⟨g, 2, none⟩ z) (some g) :=
  ((gb_set W g 0 x).trans (gb_set _ g 1 y)).trans (gb_set _ g 2 z)
/-- A fault. -/
abbrev fV (e p : Int) : Value := .agg #[.int .i64 e, .int .i64 p]
abbrev flt0 : Obj := .cells #[.int .i64 0, .int .i64 0] 35
theorem row2 {W : World} {g : Nat} {a b : Value} {t : TypeId} (h : W.heap[g]? = some (.cells #[a, b] t (0, 0))) :
    W.cell? ⟨g, 0, none⟩ = some a ∧ W.cell? ⟨g, 1, none⟩ = some b := ⟨cell_of_row W _ 0 _ _ (0, 0) h, cell_of_row W _ 1 _ _ (0, 0) h⟩
theorem set2 {W : World} {g : Nat} {a b : Value} {t : TypeId} (h : W.heap[g]? = some (.cells #[a, b] t (0, 0))) (x y : Value) :
    ((W.setCell ⟨g, 0, none⟩ x).setCell ⟨g, 1, none⟩ y).heap[g]? = some (.cells #[x, y] t (0, 0)) := by
  have h0 : (W.setCell ⟨g, 0, none⟩ x).heap[g]? = some (.cells #[x, b] t (0, 0)) := heap_setCell_same _ _ 0 _ _ _ h
  exact heap_setCell_same _ _ 1 _ _ _ h0
theorem set2_other (W : World) (g k : Nat) (hk : k ≠ g) (x y : Value) : ((W.setCell ⟨g, 0, none⟩ x).setCell ⟨g, 1, none⟩ y).heap[k]? = W.heap[k]? :=
  (heap_setCell_other _ ⟨g, 1, none⟩ k y hk).trans (heap_setCell_other _ ⟨g, 0, none⟩ k x hk)
theorem gb_set2 (W : World) (g : Nat) (x y : Value) : W.grownBy ((W.setCell ⟨g, 0, none⟩ x).setCell ⟨g, 1, none⟩ y) (some g) := (gb_set W g 0 x).trans (gb_set _ g 1 y)
theorem below2 {B : Nat} {w W : World} {g : Nat} (h : Below B w W) (hg : B ≤ g) (x y : Value) : Below B w ((W.setCell ⟨g, 0, none⟩ x).setCell ⟨g, 1, none⟩ y) :=
  (h.setCell (p := ⟨g, 0, none⟩) hg x).setCell (p := ⟨g, 1, none⟩) hg y

theorem new_any (A : Option Addr) (L c : Nat) (a : Int) (w : World) : Calls Tryd.prog 27 #[.slice A L c, .int .i64 a] w fun x w' => x = .returned (.agg #[.slice A L c, .int .i64 a]) ∧ Below w.heap.size w w' := by
  go_enter Tryd.func27, Tryd.ntmps27
  go_wp2_with fail
  have hs := heap_new w (.cells #[.slice A L c, .int .i64 a] 54)
  have hb := boxed w (.cells #[.slice A L c, .int .i64 a] 54)
  obtain ⟨WC, hWC⟩ : ∃ WC, WC = w.alloc (.cells #[.slice A L c, .int .i64 a] 54) := ⟨_, rfl⟩
  rw [← hWC] at hs hb ⊢
  obtain ⟨r0, r1⟩ := row2 hs
  exact bodyPost_ret (v := .agg #[.slice A L c, .int .i64 a]) (by simp [results, Tryd.results27, go_sem, r0, r1]) rfl ⟨rfl, hb⟩

theorem wrong_any (e : Int) (t : Gt) (w : World) : Calls Tryd.prog 79 #[.int .i64 e, t.val] w fun x w' => x = .returned (fV e t.pos) ∧ Below w.heap.size w w' := by
  obtain ⟨tk, tx, tp⟩ := t
  have hv : Gt.val ⟨tk, tx, tp⟩ = .agg #[.int .i64 tk, .string tx, .int .i64 tp] := rfl
  rw [hv]
  clear hv
  go_enter Tryd.func79, Tryd.ntmps79
  go_wp2_with fail
  have hs := heap_new (w.alloc (.cells #[.int .i64 tk, .string tx, .int .i64 tp] 49)) (.cells #[.int .i64 e, .int .i64 tp] 35)
  rw [World.size_alloc] at hs
  have hb := ((boxed w (.cells #[.int .i64 tk, .string tx, .int .i64 tp] 49)).trans ((boxed (w.alloc (.cells #[.int .i64 tk, .string tx, .int .i64 tp] 49)) (.cells #[.int .i64 e, .int .i64 tp] 35)).mono (by simp)))
  obtain ⟨WC, hWC⟩ : ∃ WC, WC = (w.alloc (.cells #[.int .i64 tk, .string tx, .int .i64 tp] 49)).alloc (.cells #[.int .i64 e, .int .i64 tp] 35) := ⟨_, rfl⟩
  rw [← hWC] at hs hb ⊢
  obtain ⟨r0, r1⟩ := row2 hs
  exact bodyPost_ret (v := fV e tp) (by simp [results, Tryd.results79, go_sem, r0, r1]) rfl ⟨rfl, hb⟩

section
variable (R B : Nat) (l : List Gt) (A : Option Addr) (c : Nat) (X : Array Value) (T : TypeId) (a : Int)
/-- A step of the cursor: it hands something back, stands somewhere, and nothing but its own block has changed. -/
def CuP (w : World) (v : Value) (a' : Int) (x : Ending) (w' : World) : Prop := x = .returned v ∧ Cu R B l A c X T a' w' ∧ w.grownBy w' (some R)

theorem place_any (w : World) (h : Cu R B l A c X T a w) : Calls Tryd.prog 29 #[pR R] w fun x w' => x = .returned (.int .i64 a) ∧ w = w' := by
  obtain ⟨z0, z1⟩ := h.cells
  have hRw := heap_lt h.row
  clear h
  go_enter Tryd.func29, Tryd.ntmps29
  go_wp2
  go_ret
  exact ⟨rfl, rfl⟩

theorem token_any (w : World) (h : Cu R B l A c X T a w) : Calls Tryd.prog 51 #[pR R] w fun x w' => x = .returned (tokI l a).val ∧ Below w.heap.size w w' := by
  have hb0 := boxed w tok0
  have hbox := heap_new w tok0
  have hlow := h.low
  have hhigh := h.high
  have HB := Lib.hid (behind_any R B l A c X T a 0 _ (h.below hb0) (by omega) (by omega))
  rw [Int.add_zero] at HB
  obtain ⟨W0, hW0⟩ : ∃ W0, W0 = w.alloc tok0 := ⟨_, rfl⟩
  rw [← hW0] at hbox hb0 HB
  have HBX := Lib.hid hbox
  have HB0 := Lib.hid hb0
  obtain ⟨t, ht⟩ : ∃ t, t = tokI l a := ⟨_, rfl⟩
  rw [← ht] at HB ⊢
  obtain ⟨tk, tx, tp⟩ := t
  have hv : Gt.val ⟨tk, tx, tp⟩ = .agg #[.int .i64 tk, .string tx, .int .i64 tp] := rfl
  rw [hv] at HB ⊢
  clear ht hv h hbox hb0
  go_enter Tryd.func51, Tryd.ntmps51
  go_upto_region 1 with fail
  rw [← hW0]
  clear hW0
  go_wp2_with fail
  refine HB.out.mono ?_
  rintro e w1 ⟨rfl, hb1⟩
  have hx1 := (hb1.block _ (heap_lt HBX.out)).trans HBX.out
  obtain ⟨x0, x1, x2⟩ := row3 hx1
  have f0 := frozen_of hx1 0
  have f1 := frozen_of hx1 1
  have f2 := frozen_of hx1 2
  have HX1 := Lib.hid hx1
  clear hx1
  go_wp2_with fail
  have hs := set3 HX1.out (.int .i64 tk) (.string tx) (.int .i64 tp)
  have hbf := below3 (HB0.out.trans (hb1.mono HB0.out.size)) (Nat.le_refl _) (.int .i64 tk) (.string tx) (.int .i64 tp)
  obtain ⟨Wf, hWf⟩ : ∃ Wf, Wf = ((w1.setCell ⟨w.heap.size, 0, none⟩ (.int .i64 tk)).setCell ⟨w.heap.size, 1, none⟩ (.string tx)).setCell ⟨w.heap.size, 2, none⟩ (.int .i64 tp) := ⟨_, rfl⟩
  rw [← hWf] at hs hbf ⊢
  obtain ⟨r0, r1, r2⟩ := row3 hs
  exact bodyPost_ret (v := .agg #[.int .i64 tk, .string tx, .int .i64 tp]) (by simp [results, Tryd.results51, go_sem, r0, r1, r2]) rfl ⟨rfl, hbf⟩

set_option maxRecDepth 100000 in
set_option maxHeartbeats 4000000 in
theorem take_any (w : World) (h : Cu R B l A c X T a w) : Calls Tryd.prog 67 #[pR R] w (CuP R B l A c X T w (tokI l a).val (nx a)) := by
  have hRw := heap_lt h.row
  have hbox := heap_new w tok0
  have hb0 := boxed w tok0
  have hsz : (w.alloc tok0).heap.size = w.heap.size + 1 := World.size_alloc ..
  have hTK := Lib.hid (token_any R B l A c X T a _ (h.below hb0))
  have hlow := h.low
  have hhigh := h.high
  obtain ⟨W0, hW0⟩ : ∃ W0, W0 = w.alloc tok0 := ⟨_, rfl⟩
  rw [← hW0] at hbox hb0 hsz hTK
  have HR := Lib.hid h
  have HBX := Lib.hid hbox
  have HB0 := Lib.hid hb0
  obtain ⟨t, ht⟩ : ∃ t, t = tokI l a := ⟨_, rfl⟩
  rw [← ht] at hTK ⊢
  obtain ⟨tk, tx, tp⟩ := t
  have hv : Gt.val ⟨tk, tx, tp⟩ = .agg #[.int .i64 tk, .string tx, .int .i64 tp] := rfl
  rw [hv] at hTK ⊢
  clear ht hv h hbox hb0
  rcases (show a = 9223372036854775807 ∨ a < 9223372036854775807 by omega) with ha | ha
  · subst ha
    rw [show nx 9223372036854775807 = -9223372036854775808 from rfl]
    go_enter Tryd.func67, Tryd.ntmps67
    go_upto_region 1 with fail
    rw [← hW0]
    clear hW0
    go_wp2_with fail
    refine hTK.out.mono ?_
    rintro e w1 ⟨rfl, hb1⟩
    have hs1 := hb1.size
    have hb2 := boxed w1 (.cells #[.int .i64 tk, .string tx, .int .i64 tp] 49)
    have ht2 := heap_new w1 (.cells #[.int .i64 tk, .string tx, .int .i64 tp] 49)
    have hsz2 : (w1.alloc (.cells #[.int .i64 tk, .string tx, .int .i64 tp] 49)).heap.size = w1.heap.size + 1 := World.size_alloc ..
    have h2 := ((HR.out.below HB0.out).below hb1).below hb2
    have hx2 := (hb2.block _ (by omega)).trans ((hb1.block _ (heap_lt HBX.out)).trans HBX.out)
    have HBA := Lib.hid (HB0.out.trans ((hb1.mono (by omega)).trans (hb2.mono (by omega : w.heap.size ≤ w1.heap.size))))
    obtain ⟨W2, hW2⟩ : ∃ W2, W2 = w1.alloc (.cells #[.int .i64 tk, .string tx, .int .i64 tp] 49) := ⟨_, rfl⟩
    rw [← hW2] at hb2 ht2 hsz2 h2 hx2 HBA
    go_upto_region 2 with fail
    rw [← hW2]
    clear hW2
    obtain ⟨z0, z1⟩ := h2.cells
    have fz1 := frozen_of h2.row 1
    obtain ⟨x0, x1, x2⟩ := row3 hx2
    have f0 := frozen_of hx2 0
    have f1 := frozen_of hx2 1
    have f2 := frozen_of hx2 2
    obtain ⟨q0, q1, q2⟩ := row3 ht2
    have hRw2 : R < W2.heap.size := by omega
    have hne0 : ¬ w.heap.size = R := by omega
    have hne1 : ¬ R = w.heap.size := by omega
    have hne2 : ¬ w1.heap.size = R := by omega
    have hne3 : ¬ R = w1.heap.size := by omega
    have H2 := Lib.hid h2
    have HX2 := Lib.hid hx2
    have HT2 := Lib.hid ht2
    clear h2 hx2 ht2 hb2
    go_wp2_with fail
    rw [show wrap64 9223372036854775808 = -9223372036854775808 by kernel_rfl]
    have hRA := row_set H2.out.row (.int .i64 (-9223372036854775808))
    have hxA := (heap_setCell_other W2 ⟨R, 1, none⟩ w.heap.size (.int .i64 (-9223372036854775808)) hne0).trans HX2.out
    obtain ⟨WA, hWA⟩ : ∃ WA, WA = W2.setCell ⟨R, 1, none⟩ (.int .i64 (-9223372036854775808)) := ⟨_, rfl⟩
    have hgA : W2.grownBy WA (some R) := by rw [hWA]; exact gb_set W2 R 1 _
    rw [← hWA] at hRA hxA ⊢
    have hxB := set3 hxA (.int .i64 tk) (.string tx) (.int .i64 tp)
    have hRB := (set3_other WA w.heap.size R hne1 (.int .i64 tk) (.string tx) (.int .i64 tp)).trans hRA
    have hgB := gb_set3 WA w.heap.size (.int .i64 tk) (.string tx) (.int .i64 tp)
    obtain ⟨WB, hWB⟩ : ∃ WB, WB = ((WA.setCell ⟨w.heap.size, 0, none⟩ (.int .i64 tk)).setCell ⟨w.heap.size, 1, none⟩ (.string tx)).setCell ⟨w.heap.size, 2, none⟩ (.int .i64 tp) := ⟨_, rfl⟩
    rw [← hWB] at hxB hRB hgB ⊢
    have hg : w.grownBy WB (some R) := ((gb_below HBA.out (some R)).trans hgA).andThen hgB (fun j e => by cases e; exact .inl (Nat.le_refl _))
    obtain ⟨r0, r1, r2⟩ := row3 hxB
    exact bodyPost_ret (v := .agg #[.int .i64 tk, .string tx, .int .i64 tp]) (by simp [results, Tryd.results67, go_sem, r0, r1, r2]) rfl ⟨rfl, HR.out.with hg hRB (by omega) (by omega), hg⟩
  · rw [nx_in ha]
    have ha1 : a + 1 ≤ 9223372036854775807 := by omega
    have ha2 : -9223372036854775808 ≤ a + 1 := by omega
    go_enter Tryd.func67, Tryd.ntmps67
    go_upto_region 1 with fail
    rw [← hW0]
    clear hW0
    go_wp2_with fail
    refine hTK.out.mono ?_
    rintro e w1 ⟨rfl, hb1⟩
    have hs1 := hb1.size
    have hb2 := boxed w1 (.cells #[.int .i64 tk, .string tx, .int .i64 tp] 49)
    have ht2 := heap_new w1 (.cells #[.int .i64 tk, .string tx, .int .i64 tp] 49)
    have hsz2 : (w1.alloc (.cells #[.int .i64 tk, .string tx, .int .i64 tp] 49)).heap.size = w1.heap.size + 1 := World.size_alloc ..
    have h2 := ((HR.out.below HB0.out).below hb1).below hb2
    have hx2 := (hb2.block _ (by omega)).trans ((hb1.block _ (heap_lt HBX.out)).trans HBX.out)
    have HBA := Lib.hid (HB0.out.trans ((hb1.mono (by omega)).trans (hb2.mono (by omega : w.heap.size ≤ w1.heap.size))))
    obtain ⟨W2, hW2⟩ : ∃ W2, W2 = w1.alloc (.cells #[.int .i64 tk, .string tx, .int .i64 tp] 49) := ⟨_, rfl⟩
    rw [← hW2] at hb2 ht2 hsz2 h2 hx2 HBA
    go_upto_region 2 with fail
    rw [← hW2]
    clear hW2
    obtain ⟨z0, z1⟩ := h2.cells
    have fz1 := frozen_of h2.row 1
    obtain ⟨x0, x1, x2⟩ := row3 hx2
    have f0 := frozen_of hx2 0
    have f1 := frozen_of hx2 1
    have f2 := frozen_of hx2 2
    obtain ⟨q0, q1, q2⟩ := row3 ht2
    have hRw2 : R < W2.heap.size := by omega
    have hne0 : ¬ w.heap.size = R := by omega
    have hne1 : ¬ R = w.heap.size := by omega
    have hne2 : ¬ w1.heap.size = R := by omega
    have hne3 : ¬ R = w1.heap.size := by omega
    have H2 := Lib.hid h2
    have HX2 := Lib.hid hx2
    have HT2 := Lib.hid ht2
    clear h2 hx2 ht2 hb2
    go_wp2_with fail
    have hRA := row_set H2.out.row (.int .i64 (a + 1))
    have hxA := (heap_setCell_other W2 ⟨R, 1, none⟩ w.heap.size (.int .i64 (a + 1)) hne0).trans HX2.out
    obtain ⟨WA, hWA⟩ : ∃ WA, WA = W2.setCell ⟨R, 1, none⟩ (.int .i64 (a + 1)) := ⟨_, rfl⟩
    have hgA : W2.grownBy WA (some R) := by rw [hWA]; exact gb_set W2 R 1 _
    rw [← hWA] at hRA hxA ⊢
    have hxB := set3 hxA (.int .i64 tk) (.string tx) (.int .i64 tp)
    have hRB := (set3_other WA w.heap.size R hne1 (.int .i64 tk) (.string tx) (.int .i64 tp)).trans hRA
    have hgB := gb_set3 WA w.heap.size (.int .i64 tk) (.string tx) (.int .i64 tp)
    obtain ⟨WB, hWB⟩ : ∃ WB, WB = ((WA.setCell ⟨w.heap.size, 0, none⟩ (.int .i64 tk)).setCell ⟨w.heap.size, 1, none⟩ (.string tx)).setCell ⟨w.heap.size, 2, none⟩ (.int .i64 tp) := ⟨_, rfl⟩
    rw [← hWB] at hxB hRB hgB ⊢
    have hg : w.grownBy WB (some R) := ((gb_below HBA.out (some R)).trans hgA).andThen hgB (fun j e => by cases e; exact .inl (Nat.le_refl _))
    obtain ⟨r0, r1, r2⟩ := row3 hxB
    exact bodyPost_ret (v := .agg #[.int .i64 tk, .string tx, .int .i64 tp]) (by simp [results, Tryd.results67, go_sem, r0, r1, r2]) rfl ⟨rfl, HR.out.with hg hRB (by omega) (by omega), hg⟩

theorem is_in {l : List Gt} {a : Int} {s : ByteArray} (h : (tokI l a).is s = true) : 0 ≤ a ∧ a < l.length := by
  apply tokI_in
  intro h0
  unfold Gt.is at h
  rw [h0] at h
  simp at h

set_option maxRecDepth 100000 in
set_option maxHeartbeats 4000000 in
theorem skip_tok (s : ByteArray) (w : World) (h : Cu R B l A c X T a w) : Calls Tryd.prog 84 #[pR R, .string s] w (CuP R B l A c X T w (.bool ((tokI l a).is s)) (if (tokI l a).is s = true then a + 1 else a)) := by
  have hRw := heap_lt h.row
  have hTK := Lib.hid (token_any R B l A c X T a w h)
  have HR := Lib.hid h
  have hlow := h.low
  have hhigh := h.high
  have hcap := h.cap
  have hlen := h.len
  have HIN := Lib.hid (@is_in l a s)
  obtain ⟨t, ht⟩ : ∃ t, t = tokI l a := ⟨_, rfl⟩
  rw [← ht] at hTK HIN ⊢
  have HIS : Hid (∀ W, Calls Tryd.prog 61 #[t.val, .string s] W fun e w' => e = .returned (.bool (t.is s)) ∧ Below W.heap.size W w') := Lib.hid (fun W => is_any t s W)
  obtain ⟨tk, tx, tp⟩ := t
  have hv : Gt.val ⟨tk, tx, tp⟩ = .agg #[.int .i64 tk, .string tx, .int .i64 tp] := rfl
  rw [hv] at hTK HIS
  obtain ⟨b, hb⟩ : ∃ b, b = Gt.is ⟨tk, tx, tp⟩ s := ⟨_, rfl⟩
  rw [← hb] at HIS HIN ⊢
  clear ht hv h hb
  cases b with
  | false =>
    rw [if_neg Bool.false_ne_true]
    go_enter Tryd.func84, Tryd.ntmps84
    go_wp2_with fail
    refine hTK.out.mono ?_
    rintro e w1 ⟨rfl, hb1⟩
    go_wp2_with fail
    refine (HIS.out _).mono ?_
    rintro e w2 ⟨rfl, hb2⟩
    go_wp2_with fail
    go_ret
    have hbf := hb1.trans (hb2.mono hb1.size)
    exact ⟨rfl, HR.out.below hbf, gb_below hbf _⟩
  | true =>
    rw [if_pos rfl]
    obtain ⟨hlo, hhi⟩ := HIN.out rfl
    have ha1 : a + 1 ≤ 9223372036854775807 := by unfold maxLen at hcap; omega
    have ha2 : -9223372036854775808 ≤ a + 1 := by omega
    go_enter Tryd.func84, Tryd.ntmps84
    go_wp2_with fail
    refine hTK.out.mono ?_
    rintro e w1 ⟨rfl, hb1⟩
    go_wp2_with fail
    refine (HIS.out _).mono ?_
    rintro e w2 ⟨rfl, hb2⟩
    have hbf := hb1.trans (hb2.mono hb1.size)
    have h2 := HR.out.below hbf
    obtain ⟨z0, z1⟩ := h2.cells
    have fz1 := frozen_of h2.row 1
    have hR2 := heap_lt h2.row
    have HBF := Lib.hid hbf
    have H2 := Lib.hid h2
    clear h2 hbf
    go_wp2_with fail
    have hRA := row_set H2.out.row (.int .i64 (a + 1))
    have hg := (gb_below HBF.out (some R)).trans (gb_set w2 R 1 (.int .i64 (a + 1)))
    go_ret
    exact ⟨rfl, HR.out.with hg hRA (by omega) (by omega), hg⟩

set_option maxRecDepth 100000 in
set_option maxHeartbeats 4000000 in
theorem want_any (s : ByteArray) (w : World) (h : Cu R B l A c X T a w) :
    Calls Tryd.prog 76 #[pR R, .string s] w (CuP R B l A c X T w (if (tokI l a).is s = true then fV 0 0 else fV 3 (tokI l a).pos) (if (tokI l a).is s = true then a + 1 else a)) := by
  have hRw := heap_lt h.row
  have hbox := heap_new w flt0
  have hb0 := boxed w flt0
  have hsz : (w.alloc flt0).heap.size = w.heap.size + 1 := World.size_alloc ..
  have hTK := Lib.hid (token_any R B l A c X T a _ (h.below hb0))
  have hSK : Hid (∀ W, Cu R B l A c X T a W → Calls Tryd.prog 84 #[pR R, .string s] W (CuP R B l A c X T W (.bool ((tokI l a).is s)) (if (tokI l a).is s = true then a + 1 else a))) := Lib.hid (fun W hW => skip_tok R B l A c X T a s W hW)
  obtain ⟨W0, hW0⟩ : ∃ W0, W0 = w.alloc flt0 := ⟨_, rfl⟩
  rw [← hW0] at hbox hb0 hsz hTK
  have HR := Lib.hid h
  have HBX := Lib.hid hbox
  have HB0 := Lib.hid hb0
  obtain ⟨t, ht⟩ : ∃ t, t = tokI l a := ⟨_, rfl⟩
  rw [← ht] at hTK hSK ⊢
  have HWR : Hid (∀ W, Calls Tryd.prog 79 #[.int .i64 3, t.val] W fun x w' => x = .returned (fV 3 t.pos) ∧ Below W.heap.size W w') := Lib.hid (fun W => wrong_any 3 t W)
  obtain ⟨tk, tx, tp⟩ := t
  have hv : Gt.val ⟨tk, tx, tp⟩ = .agg #[.int .i64 tk, .string tx, .int .i64 tp] := rfl
  have hp : Gt.pos ⟨tk, tx, tp⟩ = tp := rfl
  rw [hv] at hTK HWR
  rw [hp] at HWR ⊢
  obtain ⟨b, hb⟩ : ∃ b, b = Gt.is ⟨tk, tx, tp⟩ s := ⟨_, rfl⟩
  rw [← hb] at hSK ⊢
  clear ht hv h hbox hb0 hp hb
  cases b
  all_goals
    first | rw [if_neg Bool.false_ne_true] at hSK | rw [if_pos rfl] at hSK
    go_enter Tryd.func76, Tryd.ntmps76
    go_upto_region 1 with fail
    rw [← hW0]
    clear hW0
    go_wp2_with fail
    refine hTK.out.mono ?_
    rintro e w1 ⟨rfl, hb1⟩
    have hs1 := hb1.size
    have hb2 := boxed w1 (.cells #[.int .i64 tk, .string tx, .int .i64 tp] 49)
    have ht2 := heap_new w1 (.cells #[.int .i64 tk, .string tx, .int .i64 tp] 49)
    have hsz2 : (w1.alloc (.cells #[.int .i64 tk, .string tx, .int .i64 tp] 49)).heap.size = w1.heap.size + 1 := World.size_alloc ..
    obtain ⟨W2, hW2⟩ : ∃ W2, W2 = w1.alloc (.cells #[.int .i64 tk, .string tx, .int .i64 tp] 49) := ⟨_, rfl⟩
    rw [← hW2] at hb2 ht2 hsz2
    have HT2 := Lib.hid ht2
    have HBA := Lib.hid (HB0.out.trans ((hb1.mono (by omega)).trans (hb2.mono (by omega : w.heap.size ≤ w1.heap.size))))
    have HX2 := Lib.hid ((hb2.block _ (by omega)).trans ((hb1.block _ (heap_lt HBX.out)).trans HBX.out))
    have hRw2 : R < w1.heap.size := by omega
    clear ht2 hb2
    go_upto_region 2 with fail
    rw [← hW2]
    clear hW2
    go_wp2_with fail
    refine (hSK.out _ (HR.out.below HBA.out)).mono ?_
    rintro e w3 ⟨rfl, hr3, hg3⟩
    have hs3 := hg3.size
    have hne0 : ¬ w.heap.size = R := by omega
    have hne1 : ¬ w1.heap.size = R := by omega
    have hx3 := (hg3.block _ (heap_lt HX2.out) (fun e => hne0 (by cases e; rfl))).trans HX2.out
    have ht3 := (hg3.block _ (heap_lt HT2.out) (fun e => hne1 (by cases e; rfl))).trans HT2.out
    obtain ⟨q0, q1, q2⟩ := row3 ht3
    obtain ⟨x0, x1⟩ := row2 hx3
    have f0 := frozen_of hx3 0
    have f1 := frozen_of hx3 1
    have HX3 := Lib.hid hx3
    have HR3 := Lib.hid hr3
    have HG3 := Lib.hid ((gb_below HBA.out (some R)).trans hg3)
    clear hx3 ht3 hr3 hg3
    go_wp2_with fail
  · refine (HWR.out _).mono ?_
    rintro e w4 ⟨rfl, hb4⟩
    clear x0 x1 f0 f1
    have hx4 := (hb4.block _ (heap_lt HX3.out)).trans HX3.out
    obtain ⟨x0, x1⟩ := row2 hx4
    have f0 := frozen_of hx4 0
    have f1 := frozen_of hx4 1
    have HX4 := Lib.hid hx4
    have HR4 := Lib.hid (HR3.out.below hb4)
    have HG4 := Lib.hid (HG3.out.andThen (gb_below hb4 none) (fun j e => by cases e))
    clear hx4 hb4 q0 q1 q2
    go_wp2_with fail
    have hs := set2 HX4.out (.int .i64 3) (.int .i64 tp)
    have hgB := gb_set2 w4 w.heap.size (.int .i64 3) (.int .i64 tp)
    have hRB := (set2_other w4 w.heap.size R (by omega) (.int .i64 3) (.int .i64 tp)).trans HR4.out.row
    obtain ⟨Wf, hWf⟩ : ∃ Wf, Wf = (w4.setCell ⟨w.heap.size, 0, none⟩ (.int .i64 3)).setCell ⟨w.heap.size, 1, none⟩ (.int .i64 tp) := ⟨_, rfl⟩
    rw [← hWf] at hs hgB hRB ⊢
    have hg := HG4.out.andThen hgB (fun j e => by cases e; exact .inl (Nat.le_refl _))
    obtain ⟨r0, r1⟩ := row2 hs
    exact bodyPost_ret (v := fV 3 tp) (by simp [results, Tryd.results76, go_sem, r0, r1]) rfl ⟨rfl, HR.out.with hg hRB HR.out.low HR.out.high, hg⟩
  · have hs := set2 HX3.out (.int .i64 0) (.int .i64 0)
    have hgB := gb_set2 w3 w.heap.size (.int .i64 0) (.int .i64 0)
    have hRB := (set2_other w3 w.heap.size R (by omega) (.int .i64 0) (.int .i64 0)).trans HR3.out.row
    obtain ⟨Wf, hWf⟩ : ∃ Wf, Wf = (w3.setCell ⟨w.heap.size, 0, none⟩ (.int .i64 0)).setCell ⟨w.heap.size, 1, none⟩ (.int .i64 0) := ⟨_, rfl⟩
    rw [← hWf] at hs hgB hRB ⊢
    have hg := HG3.out.andThen hgB (fun j e => by cases e; exact .inl (Nat.le_refl _))
    obtain ⟨r0, r1⟩ := row2 hs
    exact bodyPost_ret (v := fV 0 0) (by simp [results, Tryd.results76, go_sem, r0, r1]) rfl ⟨rfl, HR.out.with hg hRB HR3.out.low HR3.out.high, hg⟩

end
end Go.Proofs.YtdehpgdffafebaaDoor
namespace Go.Proofs.YtdehpgdffafebaaDoor
open Go.RowKit
set_option linter.unusedVariables false

/-- A reader in a block of its own, and its tokens. -/
structure Rd (R B : Nat) (l : List Gt) (A : Option Addr) (c : Nat) (a r : Nat) (w : World) : Prop where
  row : w.heap[R]? = some (.cells #[.slice A l.length c, .int .i64 (a : Int), .int .i64 (r : Int)] 57 (0, 0))
  toks : RT w B A l
  hB : B ≤ R
  len : l.length ≤ c
  cap : c ≤ maxLen
theorem Rd.below {R B : Nat} {l : List Gt} {A : Option Addr} {c a r : Nat} {w w' : World} (h : Rd R B l A c a r w) (hb : Below w.heap.size w w') : Rd R B l A c a r w' :=
  ⟨(hb.block _ (heap_lt h.row)).trans h.row, h.toks.below (hb.mono (Nat.le_trans h.hB (Nat.le_of_lt (heap_lt h.row)))), h.hB, h.len, h.cap⟩
theorem Rd.with {R B : Nat} {l : List Gt} {A : Option Addr} {c a r a' r' : Nat} {w w' : World} (h : Rd R B l A c a r w) (hg : w.grownBy w' (some R)) (hr : w'.heap[R]? = some (.cells #[.slice A l.length c, .int .i64 (a' : Int), .int .i64 (r' : Int)] 57 (0, 0))) : Rd R B l A c a' r' w' :=
  ⟨hr, h.toks.below (gb_past hg h.hB (Nat.le_trans h.hB (Nat.le_of_lt (heap_lt h.row)))), h.hB, h.len, h.cap⟩
theorem Rd.cu {R B : Nat} {l : List Gt} {A : Option Addr} {c a r : Nat} {w : World} (h : Rd R B l A c a r w) (ha : a ≤ 4611686018427387904) : Cu R B l A c #[.int .i64 (r : Int)] 57 (a : Int) w :=
  ⟨h.row, h.toks, h.hB, h.len, h.cap, by omega, by omega⟩
theorem Rd.of {R B : Nat} {l : List Gt} {A : Option Addr} {c a r : Nat} {w : World} {x : Int} (hx : x = (a : Int)) (h : Cu R B l A c #[.int .i64 (r : Int)] 57 x w) : Rd R B l A c a r w := by
  subst hx
  exact ⟨h.row, h.toks, h.hB, h.len, h.cap⟩
def RdP (R B : Nat) (l : List Gt) (A : Option Addr) (c : Nat) (w : World) (v : Value) (a r : Nat) (x : Ending) (w' : World) : Prop := x = .returned v ∧ Rd R B l A c a r w' ∧ w.grownBy w' (some R)

theorem rd_token (R B : Nat) (l : List Gt) (A : Option Addr) (c a r : Nat) (w : World) (h : Rd R B l A c a r w) (ha : a ≤ 4611686018427387904) : Calls Tryd.prog 51 #[pR R] w fun x w' => x = .returned (tokN l a).val ∧ Below w.heap.size w w' := by
  have := token_any R B l A c _ _ _ w (h.cu ha)
  rw [tokI_nat] at this
  exact this
theorem rd_take (R B : Nat) (l : List Gt) (A : Option Addr) (c a r : Nat) (w : World) (h : Rd R B l A c a r w) (ha : a ≤ 4611686018427387904) : Calls Tryd.prog 67 #[pR R] w fun x w' => x = .returned (tokN l a).val ∧ Rd R B l A c (a + 1) r w' ∧ w.grownBy w' (some R) := by
  have := take_any R B l A c _ _ _ w (h.cu ha)
  rw [tokI_nat] at this
  exact this.mono fun x w' ⟨h1, h2, h3⟩ => ⟨h1, Rd.of (by rw [nx_in (by omega)]; omega) h2, h3⟩
theorem rd_want (R B : Nat) (l : List Gt) (A : Option Addr) (c a r : Nat) (s : ByteArray) (w : World) (h : Rd R B l A c a r w) (ha : a ≤ 4611686018427387904) :
    Calls Tryd.prog 76 #[pR R, .string s] w (RdP R B l A c w (if (tokN l a).is s = true then fV 0 0 else fV 3 (tokN l a).pos) (if (tokN l a).is s = true then a + 1 else a) r) := by
  have := want_any R B l A c _ _ _ s w (h.cu ha)
  rw [tokI_nat] at this
  exact this.mono fun x w' ⟨h1, h2, h3⟩ => ⟨h1, Rd.of (by split <;> omega) h2, h3⟩
end Go.Proofs.YtdehpgdffafebaaDoor
