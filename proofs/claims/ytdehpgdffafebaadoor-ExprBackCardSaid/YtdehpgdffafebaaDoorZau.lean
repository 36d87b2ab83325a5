/- Parse, where the reading from the first token on is told. Conditions: none.
The plain function that the reader follows: what is read ends behind its first token, and within the tokens; it is at most 20 deep; fuel of 12 a token, and 12, suffices. No function is walked here. Conditions: none.
The reader: what is bound as tightly as a ! is, where the tight reading is told. Conditions: none. -/
import Derived.Test.YtdehpgdffafebaaDoorZat
namespace Go.Proofs.YtdehpgdffafebaaDoor
open Go.RowKit
set_option linter.unusedVariables false

theorem set4_other (W : World) (g k : Nat) (hk : k ≠ g) (x0 x1 x2 x3 : Value) : ((((W.setCell ⟨g, 0, none⟩ x0).setCell ⟨g, 1, none⟩ x1).setCell ⟨g, 2, none⟩ x2).setCell ⟨g, 3, none⟩ x3).heap[k]? = W.heap[k]? :=
  (heap_setCell_other _ ⟨g, 3, none⟩ k x3 hk).trans ((heap_setCell_other _ ⟨g, 2, none⟩ k x2 hk).trans ((heap_setCell_other _ ⟨g, 1, none⟩ k x1 hk).trans (heap_setCell_other _ ⟨g, 0, none⟩ k x0 hk)))
def stEF (g : Nat) (W : World) (x0 x1 x2 x3 y0 y1 : Value) : World :=
  (((((W.setCell ⟨g, 0, none⟩ x0).setCell ⟨g, 1, none⟩ x1).setCell ⟨g, 2, none⟩ x2).setCell ⟨g, 3, none⟩ x3).setCell ⟨g + 1, 0, none⟩ y0).setCell ⟨g + 1, 1, none⟩ y1
theorem stEF_rows {W : World} {g : Nat} {a b c d a' b' : Value} (h0 : W.heap[g]? = some (.cells #[a, b, c, d] tE (0, 0))) (h1 : W.heap[g + 1]? = some (.cells #[a', b'] 35 (0, 0))) (x0 x1 x2 x3 y0 y1 : Value) :
    (stEF g W x0 x1 x2 x3 y0 y1).heap[g]? = some (.cells #[x0, x1, x2, x3] tE (0, 0)) ∧ (stEF g W x0 x1 x2 x3 y0 y1).heap[g + 1]? = some (.cells #[y0, y1] 35 (0, 0)) := by
  have r1 := set4 h0 x0 x1 x2 x3
  have f1 := (set4_other W g (g + 1) (by omega) x0 x1 x2 x3).trans h1
  exact ⟨(set2_other _ (g + 1) g (by omega) y0 y1).trans r1, set2 f1 y0 y1⟩
theorem stEF_below (g : Nat) (W : World) (x0 x1 x2 x3 y0 y1 : Value) : Below g W (stEF g W x0 x1 x2 x3 y0 y1) := below2 (below4 (Below.refl g W) (Nat.le_refl _) x0 x1 x2 x3) (Nat.le_succ _) y0 y1
theorem stEF_keep (g : Nat) (W : World) (x0 x1 x2 x3 y0 y1 : Value) (b : Nat) (h0 : b ≠ g) (h1 : b ≠ g + 1) : (stEF g W x0 x1 x2 x3 y0 y1).heap[b]? = W.heap[b]? := (set2_other _ (g + 1) b h1 y0 y1).trans (set4_other W g b h0 x0 x1 x2 x3)
/-- What Parse hands back. -/
def PaP (w : World) (pr : Pr) (x : Ending) (w' : World) : Prop :=
  Below w.heap.size w w' ∧ match pr with
  | .ok e d a => ∃ k n s A' L' c', x = .returned (.tuple #[.agg #[.int .i64 k, .int .i64 n, .string s, .slice A' L' c'], .int .i64 (a : Int), fV 0 0]) ∧ InP (Fresh w w') w' e (.agg #[.int .i64 k, .int .i64 n, .string s, .slice A' L' c'])
  | .err e p => x = .returned (.tuple #[.agg #[.int .i64 0, .int .i64 0, .string ⟨#[]⟩, .slice none 0 0], .int .i64 0, fV e p]) ∧ e ≠ 0

/-- The region that hands the results over: what its slots hold once their operations are listed, and how the world stands. -/
structure PI (VL : List Value) (g R p : Nat) (pl : Value) (X : List Value) (W4 : World) (listed : Array Bool) (T : Array Value) (w : World) : Prop where
  sz : T.size = 28
  h4 : T[4]? = some (.pointer (some ⟨g, 0, none⟩))
  h6 : T[6]? = some (.pointer (some ⟨g + 1, 0, none⟩))
  h7 : T[7]? = some (.pointer (some ⟨R, 0, none⟩))
  h8 : T[8]? = some (.pointer (some ⟨p, 0, none⟩))
  hv : ∀ i, i < 5 → listed.getD i false = true → T[23 + i]? = VL[i]?
  h5 : listed.getD 6 false = true → T[5]? = some pl
  e0 : ∃ xs : List Value, xs.length = 4 ∧ w.heap[g]? = some (.cells xs.toArray tE (0, 0))
  e1 : listed.getD 5 false = true → w.heap[g]? = some (.cells X.toArray tE (0, 0))
  f : w.heap[g + 1]? = some flt0
  hk : ∀ b, b ≠ g → b ≠ g + 1 → w.heap[b]? = W4.heap[b]?
  bl : Below g W4 w
section
variable {VL : List Value} {g R p : Nat} {pl : Value} {X : List Value} {W4 : World} {listed : Array Bool} {T : Array Value} {w : World}
theorem PI.put (h : PI VL g R p pl X W4 listed T w) (i : Nat) (hi : i < 5) (v : Value) (hvi : VL[i]? = some v) : PI VL g R p pl X W4 (listed.setIfInBounds i true) (T.setIfInBounds (23 + i) v) w := by
  have hne : ∀ j, j < 23 → (T.setIfInBounds (23 + i) v)[j]? = T[j]? := fun j hj => Array.getElem?_setIfInBounds_ne (by omega)
  have hsz := h.sz
  refine ⟨by simpa using h.sz, (hne 4 (by omega)).trans h.h4, (hne 6 (by omega)).trans h.h6, (hne 7 (by omega)).trans h.h7, (hne 8 (by omega)).trans h.h8, fun j hj hl => ?_, fun hl => ?_, h.e0, fun hl => ?_, h.f, h.hk, h.bl⟩
  · by_cases hji : j = i
    · subst hji
      rw [Array.getElem?_setIfInBounds_self_of_lt (by omega), hvi]
    · rw [Array.getElem?_setIfInBounds_ne (by omega)]
      rw [getD_set hji] at hl
      exact h.hv j hj hl
  · rw [getD_set (by omega)] at hl
    exact (hne 5 (by omega)).trans (h.h5 hl)
  · rw [getD_set (by omega)] at hl
    exact h.e1 hl
theorem PI.pl5 (h : PI VL g R p pl X W4 listed T w) : PI VL g R p pl X W4 (listed.setIfInBounds 6 true) (T.setIfInBounds 5 pl) w := by
  have hne : ∀ j, j ≠ 5 → (T.setIfInBounds 5 pl)[j]? = T[j]? := fun j hj => Array.getElem?_setIfInBounds_ne (by omega)
  have hsz := h.sz
  refine ⟨by simpa using h.sz, (hne 4 (by omega)).trans h.h4, (hne 6 (by omega)).trans h.h6, (hne 7 (by omega)).trans h.h7, (hne 8 (by omega)).trans h.h8, fun j hj hl => ?_, fun hl => ?_, h.e0, fun hl => ?_, h.f, h.hk, h.bl⟩
  · rw [getD_set (by omega)] at hl
    exact (hne _ (by omega)).trans (h.hv j hj hl)
  · exact Array.getElem?_setIfInBounds_self_of_lt (by omega)
  · rw [getD_set (by omega)] at hl
    exact h.e1 hl
theorem PI.se (h : PI VL g R p pl X W4 listed T w) (hX : X.length = 4) : PI VL g R p pl X W4 (listed.setIfInBounds 5 true) T (w.setCells g 0 X) := by
  obtain ⟨xs, hx, h0⟩ := h.e0
  have h1 := set_all h0 X (by omega)
  refine ⟨h.sz, h.h4, h.h6, h.h7, h.h8, fun j hj hl => ?_, fun hl => ?_, ⟨X, hX, h1⟩, fun _ => h1, (setCells_other (by omega) X 0 w).trans h.f, fun b h2 h3 => (setCells_other h2 X 0 w).trans (h.hk b h2 h3), setCells_below g (Nat.le_refl _) X 0 w h.bl⟩
  · rw [getD_set (by omega)] at hl
    exact h.hv j hj hl
  · rw [getD_set (by omega)] at hl
    exact h.h5 hl
theorem PI.sf (h : PI VL g R p pl X W4 listed T w) : PI VL g R p pl X W4 (listed.setIfInBounds 7 true) T (w.setCells (g + 1) 0 [.int .i64 0, .int .i64 0]) := by
  obtain ⟨xs, hx, h0⟩ := h.e0
  have h1 := set_all (cs := [.int .i64 0, .int .i64 0]) h.f [.int .i64 0, .int .i64 0] rfl
  refine ⟨h.sz, h.h4, h.h6, h.h7, h.h8, fun j hj hl => ?_, fun hl => ?_, ⟨xs, hx, (setCells_other (by omega) _ 0 w).trans h0⟩, fun hl => ?_, h1, fun b h2 h3 => (setCells_other h3 _ 0 w).trans (h.hk b h2 h3), setCells_below (g + 1) (Nat.le_succ _) _ 0 w h.bl⟩
  · rw [getD_set (by omega)] at hl
    exact h.hv j hj hl
  · rw [getD_set (by omega)] at hl
    exact h.h5 hl
  · rw [getD_set (by omega)] at hl
    exact (setCells_other (by omega) _ 0 w).trans (h.e1 hl)
end

set_option maxRecDepth 100000 in
set_option maxHeartbeats 8000000 in
theorem parse_any (pr : Pr) (hpa : ∀ e d a', pr = .ok e d a' → a' ≤ 4611686018427387904) (l : List Gt) (A : Option Addr) (c : Nat) (w : World) (hT : RT w w.heap.size A l) (hlc : l.length ≤ c) (hcm : c ≤ maxLen)
    (hB : ∀ R W, w.heap.size + 2 ≤ R → Below w.heap.size w W → Rd R w.heap.size l A c 0 0 W → Calls Tryd.prog 28 #[pR R, .int .i64 1] W (PtP R w.heap.size l A c 0 W pr)) :
    Calls Tryd.prog 16 #[.slice A l.length c, .int .i64 0] w (PaP w pr) := by
  have h0 := heap_new w exp0
  have h1 := heap_new (w.alloc exp0) flt0
  simp only [World.size_alloc] at h1
  have hb : Below w.heap.size w ((w.alloc exp0).alloc flt0) := ((Below.refl _ w).alloc (Nat.le_refl _) _).alloc (by simp only [World.size_alloc]; omega) _
  have h0' := (Below.heap_alloc (w.alloc exp0) flt0 w.heap.size (by simp only [World.size_alloc]; omega)).trans h0
  have hsz : ((w.alloc exp0).alloc flt0).heap.size = w.heap.size + 1 + 1 := by simp
  obtain ⟨W0, hW0⟩ : ∃ W0, W0 = (w.alloc exp0).alloc flt0 := ⟨_, rfl⟩
  rw [← hW0] at h0' h1 hb hsz
  have HNW := Lib.hid (new_any A l.length c 0 W0)
  obtain ⟨L, hL⟩ : ∃ L, L = l.length := ⟨_, rfl⟩
  rw [← hL] at HNW ⊢
  have HX : Hid (L = l.length ∧ RT w w.heap.size A l ∧ l.length ≤ c ∧ c ≤ maxLen) := Lib.hid ⟨hL, hT, hlc, hcm⟩
  have HB := Lib.hid hB
  have H0 := Lib.hid h0'
  have H1 := Lib.hid h1
  have HBe := Lib.hid hb
  have HPA := Lib.hid hpa
  clear hL hB h0 h1 h0' hb hT hlc hcm hpa
  go_enter Tryd.func16, Tryd.ntmps16
  go_wp2_with fail
  rw [← hW0]
  clear hW0
  refine HNW.out.mono ?_
  rintro e w1 ⟨rfl, hb1⟩
  have hb2 := boxed w1 (.cells #[.slice A L c, .int .i64 0, .int .i64 0] 57)
  have hn2 := heap_new w1 (.cells #[.slice A L c, .int .i64 0, .int .i64 0] 57)
  have hl10 := (hb1.block _ (heap_lt H0.out)).trans H0.out
  have hl11 := (hb1.block _ (heap_lt H1.out)).trans H1.out
  have h20 := (hb2.block _ (heap_lt hl10)).trans hl10
  have h21 := (hb2.block _ (heap_lt hl11)).trans hl11
  have hb02 := HBe.out.trans ((hb1.trans (hb2.mono hb1.size)).mono HBe.out.size)
  have hs1 := hb1.size
  obtain ⟨W2, hW2⟩ : ∃ W2, W2 = w1.alloc (.cells #[.slice A L c, .int .i64 0, .int .i64 0] 57) := ⟨_, rfl⟩
  rw [← hW2] at hb2 hn2 h20 h21 hb02
  obtain ⟨R, hR⟩ : ∃ R, R = w1.heap.size := ⟨_, rfl⟩
  have hRw : w.heap.size + 2 ≤ R := by omega
  rw [← hR] at hn2
  have HRD : Hid (Rd R w.heap.size l A c 0 0 W2) := Lib.hid ⟨by rw [← HX.out.1]; exact hn2, HX.out.2.1.below hb02, by omega, HX.out.2.2.1, HX.out.2.2.2⟩
  have HB2 := Lib.hid (HB.out R W2 hRw hb02 HRD.out)
  have hW2s := heap_lt HRD.out.row
  have H20 := Lib.hid h20
  have H21 := Lib.hid h21
  have HB02 := Lib.hid hb02
  clear hb2 hn2 hl10 hl11 h20 h21 hb02 hb1
  go_upto_region 2 with fail
  rw [← hW2, ← hR]
  clear hW2 hR hs1
  go_wp2_with fail
  refine HB2.out.mono ?_
  rintro e w3 ⟨hg3, hpt⟩
  have hg3s := hg3.size
  have H03 := Lib.hid ((hg3.block _ (heap_lt H20.out) (fun e => by have := Option.some.inj e; omega)).trans H20.out)
  have H13 := Lib.hid ((hg3.block _ (heap_lt H21.out) (fun e => by have := Option.some.inj e; omega)).trans H21.out)
  have HG3 := Lib.hid hg3
  clear hg3
  cases pr with
  | err er po =>
    obtain ⟨rfl, he0, a', hrd3⟩ := hpt
    have HE0 := Lib.hid he0
    have hne0 : (er != 0) = true := by simpa using he0
    clear he0
    obtain ⟨hf1, hb4⟩ := two_at w3 (.cells #[.int .i64 0, .int .i64 0, .string ⟨#[]⟩, .slice none 0 0, .int .i64 0] 59) #[.int .i64 er, .int .i64 po] 35
    have hp1 := (Below.heap_alloc (w3.alloc (.cells #[.int .i64 0, .int .i64 0, .string ⟨#[]⟩, .slice none 0 0, .int .i64 0] 59)) (.cells #[.int .i64 er, .int .i64 po] 35) _ (by simp)).trans (heap_new w3 (.cells #[.int .i64 0, .int .i64 0, .string ⟨#[]⟩, .slice none 0 0, .int .i64 0] 59))
    obtain ⟨W4, hW4⟩ : ∃ W4, W4 = (w3.alloc (.cells #[.int .i64 0, .int .i64 0, .string ⟨#[]⟩, .slice none 0 0, .int .i64 0] 59)).alloc (.cells #[.int .i64 er, .int .i64 po] 35) := ⟨_, rfl⟩
    rw [← hW4] at hf1 hp1 hb4
    have HB4 := Lib.hid hb4
    have hrd4 := hrd3.below hb4
    have hrd4' := hrd4
    obtain ⟨c0, c1, c2⟩ := row3 hrd4.row
    have H04 := Lib.hid ((hb4.block _ (heap_lt H03.out)).trans H03.out)
    have H14 := Lib.hid ((hb4.block _ (heap_lt H13.out)).trans H13.out)
    obtain ⟨q0, q1⟩ := row2 hf1
    obtain ⟨p0, p1, p2, p3, p4⟩ := row5 hp1
    obtain ⟨x0, x1, x2, x3⟩ := row4 H04.out
    obtain ⟨y0, y1⟩ := row2 H14.out
    have f0 := frozen_of H04.out 0
    have f1 := frozen_of H04.out 1
    have f2 := frozen_of H04.out 2
    have f3 := frozen_of H04.out 3
    have g0 := frozen_of H14.out 0
    have g1 := frozen_of H14.out 1
    have n0 : ¬ w.heap.size = w3.heap.size := by omega
    have n1 : ¬ w.heap.size = w3.heap.size + 1 := by omega
    have n2 : ¬ w.heap.size + 1 = w3.heap.size := by omega
    have n4 : ¬ w3.heap.size = w.heap.size := by omega
    have n5 : ¬ w3.heap.size + 1 = w.heap.size := by omega
    have n6 : ¬ w3.heap.size = w.heap.size + 1 := by omega
    have n7 : ¬ w3.heap.size + 1 = w.heap.size + 1 := by omega
    have n8 : ¬ w.heap.size = w.heap.size + 1 + 1 := by omega
    have n9 : ¬ w.heap.size + 1 + 1 = w.heap.size := by omega
    clear hf1 hp1 hb4 hrd4 hrd3
    go_upto_region 3 with fail
    rw [← hW4]
    clear hW4
    go_wp2_with fail
    go_region
    go_wp2_with fail
    have hF := stEF_rows H04.out H14.out (.int .i64 0) (.int .i64 0) (.string ⟨#[]⟩) (.slice none 0 0) (.int .i64 er) (.int .i64 po)
    have hbF := ((stEF_below w.heap.size W4 (.int .i64 0) (.int .i64 0) (.string ⟨#[]⟩) (.slice none 0 0) (.int .i64 er) (.int .i64 po))).drew
    have hk := fun (b : Nat) (h0 : b ≠ w.heap.size) (h1 : b ≠ w.heap.size + 1) => (drew_heap (stEF w.heap.size W4 (.int .i64 0) (.int .i64 0) (.string ⟨#[]⟩) (.slice none 0 0) (.int .i64 er) (.int .i64 po)) b).trans (stEF_keep w.heap.size W4 (.int .i64 0) (.int .i64 0) (.string ⟨#[]⟩) (.slice none 0 0) (.int .i64 er) (.int .i64 po) b h0 h1)
    have hF0 := (drew_heap (stEF w.heap.size W4 (.int .i64 0) (.int .i64 0) (.string ⟨#[]⟩) (.slice none 0 0) (.int .i64 er) (.int .i64 po)) w.heap.size).trans hF.1
    have hF1 := (drew_heap (stEF w.heap.size W4 (.int .i64 0) (.int .i64 0) (.string ⟨#[]⟩) (.slice none 0 0) (.int .i64 er) (.int .i64 po)) (w.heap.size + 1)).trans hF.2
    change bodyPost _ _ _ _ _ (World.drew (stEF w.heap.size W4 (.int .i64 0) (.int .i64 0) (.string ⟨#[]⟩) (.slice none 0 0) (.int .i64 er) (.int .i64 po)))
    generalize World.drew (stEF w.heap.size W4 (.int .i64 0) (.int .i64 0) (.string ⟨#[]⟩) (.slice none 0 0) (.int .i64 er) (.int .i64 po)) = Wf at hF0 hF1 hbF hk ⊢
    obtain ⟨r0, r1, r2, r3⟩ := row4 hF0
    obtain ⟨s0, s1⟩ := row2 hF1
    have hB3 := gb_past HG3.out (B := w.heap.size) (by omega) (by omega)
    have hBf := ((HB02.out.trans hB3).trans (HB4.out.mono (by omega))).trans hbF
    refine bodyPost_ret (v := .tuple #[.agg #[.int .i64 0, .int .i64 0, .string ⟨#[]⟩, .slice none 0 0], .int .i64 0, fV er po]) (by simp [results, Tryd.results16, go_sem, r0, r1, r2, r3, s0, s1]) rfl ⟨hBf, rfl, HE0.out⟩
  | ok e d0 a' =>
    obtain ⟨K, N, S, A', L', C', rfl, hi3, hrd3⟩ := hpt
    have HI3 := Lib.hid hi3
    clear hi3
    obtain ⟨hf1, hb4⟩ := two_at w3 (.cells #[.int .i64 K, .int .i64 N, .string S, .slice A' L' C', .int .i64 (d0 : Int)] 59) #[.int .i64 0, .int .i64 0] 35
    have hp1 := (Below.heap_alloc (w3.alloc (.cells #[.int .i64 K, .int .i64 N, .string S, .slice A' L' C', .int .i64 (d0 : Int)] 59)) (.cells #[.int .i64 0, .int .i64 0] 35) _ (by simp)).trans (heap_new w3 (.cells #[.int .i64 K, .int .i64 N, .string S, .slice A' L' C', .int .i64 (d0 : Int)] 59))
    obtain ⟨W4, hW4⟩ : ∃ W4, W4 = (w3.alloc (.cells #[.int .i64 K, .int .i64 N, .string S, .slice A' L' C', .int .i64 (d0 : Int)] 59)).alloc (.cells #[.int .i64 0, .int .i64 0] 35) := ⟨_, rfl⟩
    rw [← hW4] at hf1 hp1 hb4
    have HB4 := Lib.hid hb4
    have hrd4 := hrd3.below hb4
    have hrd4' := hrd4
    obtain ⟨c0, c1, c2⟩ := row3 hrd4.row
    have H04 := Lib.hid ((hb4.block _ (heap_lt H03.out)).trans H03.out)
    have H14 := Lib.hid ((hb4.block _ (heap_lt H13.out)).trans H13.out)
    obtain ⟨q0, q1⟩ := row2 hf1
    have hp4 := hp1
    obtain ⟨p0, p1, p2, p3, p4⟩ := row5 hp1
    obtain ⟨x0, x1, x2, x3⟩ := row4 H04.out
    obtain ⟨y0, y1⟩ := row2 H14.out
    have f0 := frozen_of H04.out 0
    have f1 := frozen_of H04.out 1
    have f2 := frozen_of H04.out 2
    have f3 := frozen_of H04.out 3
    have g0 := frozen_of H14.out 0
    have g1 := frozen_of H14.out 1
    have n0 : ¬ w.heap.size = w3.heap.size := by omega
    have n1 : ¬ w.heap.size = w3.heap.size + 1 := by omega
    have n2 : ¬ w.heap.size + 1 = w3.heap.size := by omega
    have n4 : ¬ w3.heap.size = w.heap.size := by omega
    have n5 : ¬ w3.heap.size + 1 = w.heap.size := by omega
    have n6 : ¬ w3.heap.size = w.heap.size + 1 := by omega
    have n7 : ¬ w3.heap.size + 1 = w.heap.size + 1 := by omega
    have n8 : ¬ w.heap.size = w.heap.size + 1 + 1 := by omega
    have n9 : ¬ w.heap.size + 1 + 1 = w.heap.size := by omega
    clear hf1 hp1 hb4 hrd4 hrd3
    go_upto_region 3 with fail
    rw [← hW4]
    clear hW4
    go_upto_region 5 with fail
    have HP4 := Lib.hid hp4
    have HRD4 := Lib.hid hrd4'
    have HA4 : Hid (a' ≤ 4611686018427387904) := Lib.hid (HPA.out _ _ _ rfl)
    clear hrd4' hp4 c0 c1 c2 q0 q1 p0 p1 p2 p3 p4 x0 x1 x2 x3 y0 y1 f0 f1 f2 f3 g0 g1 n0 n1 n2 n4 n5 n6 n7 n8 n9
    have hIE : (Tryd.prog.info? tE).map (·.size) = some 4 := by kernel_rfl
    have hIF : (Tryd.prog.info? 35).map (·.size) = some 2 := by kernel_rfl
    refine region_inv (by kernel_rfl) (fun d x W => ∃ T, x = ⟨T, []⟩ ∧ PI [.pointer (some ⟨w3.heap.size, 0, none⟩), .agg #[.int .i64 K, .int .i64 N, .string S, .slice A' L' C'], .pointer (some ⟨R, 0, none⟩), .int .i64 (a' : Int), .agg #[.int .i64 0, .int .i64 0]] w.heap.size R w3.heap.size (.int .i64 (a' : Int)) [.int .i64 K, .int .i64 N, .string S, .slice A' L' C'] W4 d T W) (by kernel_rfl) ?step ?fin ?ini
    case ini =>
      refine ⟨_, rfl, rfl, rfl, rfl, rfl, rfl, fun i hi h => ?_, fun h => ?_, ⟨[.int .i64 0, .int .i64 0, .string ⟨#[]⟩, .slice none 0 0], rfl, (drew_heap W4 _).trans H04.out⟩, fun h => ?_, (drew_heap W4 _).trans H14.out, fun b _ _ => drew_heap W4 b, (Below.refl _ _).drew⟩
      · exact absurd h (by simp [Array.getD_eq_getD_getElem?, Array.getElem?_replicate]; split <;> simp)
      · exact absurd h (by simp [Array.getD_eq_getD_getElem?])
      · exact absurd h (by simp [Array.getD_eq_getD_getElem?])
    case fin =>
      rintro d x' W' ⟨T, rfl, hI⟩ hall
      have hF0 := hI.e1 (hall 5 (by decide))
      have hF1 := hI.f
      have d4 := hI.h4
      have d5 := hI.h5 (hall 6 (by decide))
      have d6 := hI.h6
      obtain ⟨r0, r1, r2, r3⟩ := row4 hF0
      obtain ⟨s0, s1⟩ := row2 hF1
      have hk := hI.hk
      have hbF := hI.bl
      have hB3 := gb_past HG3.out (B := w.heap.size) (by omega) (by omega)
      have hBf := ((HB02.out.trans hB3).trans (HB4.out.mono (by omega))).trans hbF
      have hbs := hbF.size
      clear hI hall hF0 hF1 hbF hB3
      go_wp2_with fail
      refine bodyPost_ret (v := .tuple #[.agg #[.int .i64 K, .int .i64 N, .string S, .slice A' L' C'], .int .i64 (a' : Int), fV 0 0]) (by simp [results, Tryd.results16, go_sem, r0, r1, r2, r3, s0, s1, d4, d5, d6]) rfl ⟨hBf, K, N, S, A', L', C', rfl, HI3.out.imp (fun b hb => ⟨by have := hb.1; omega, by have := hb.2; have := HB4.out.size; have := hbs; omega⟩) (fun b hb => by
        have h1 := hb.1
        have h2 := hb.2
        rw [hk b (by omega) (by omega), HB4.out.block b h2])⟩
    case step =>
      rintro d x' W' j hD ⟨T, rfl, hI⟩ hj
      have hj8 : j < 8 := (ready_open hj).1
      have HI := Lib.hid hI
      have HJ := Lib.hid hj
      have hpr : W'.heap[w3.heap.size]? = some (.cells #[.int .i64 K, .int .i64 N, .string S, .slice A' L' C', .int .i64 (d0 : Int)] 59 (0, 0)) := (hI.hk _ (by omega) (by omega)).trans HP4.out
      have hrr : Rd R w.heap.size l A c a' 0 W' := ⟨(hI.hk _ (by omega) (by omega)).trans HRD4.out.row, HRD4.out.toks.below hI.bl, HRD4.out.hB, HRD4.out.len, HRD4.out.cap⟩
      clear hD hj
      rcases (by omega : j = 0 ∨ j = 1 ∨ j = 2 ∨ j = 3 ∨ j = 4 ∨ j = 5 ∨ j = 6 ∨ j = 7) with rfl | rfl | rfl | rfl | rfl | rfl | rfl | rfl
      · have d8 := tget hI.h8
        refine wpOp_step rfl rfl (fun K0 hK => ?_)
        refine wp_val (Op.fieldAddr 59 (.tmp 8) 0) _ rfl ?_ (hK _ _ ⟨_, rfl, HI.out.put 0 (by omega) _ rfl⟩)
        intro o ho
        unfold execOp
        rw [ho]
        simp only [d8]
        go_simp
      · have e0 := tget (T := T) (hI.hv 0 (by omega) (ready_dep HJ.out rfl 0 (by kernel_rfl)))
        refine wpOp_step rfl rfl (fun K0 hK => ?_)
        refine wp_load_mid tE (.tmp 23) rfl w3.heap.size 0 e0 [.int .i64 K, .int .i64 N, .string S, .slice A' L' C'] _ (fun j v hv => ?_) Tryd.underlying24 rfl hIE (hK _ _ ⟨_, rfl, HI.out.put 1 (by omega) _ rfl⟩)
        have hj4 : j < 4 := (List.getElem?_eq_some_iff.1 hv).1
        rw [Nat.zero_add]
        refine cell_at (cs := [.int .i64 K, .int .i64 N, .string S, .slice A' L' C', .int .i64 (d0 : Int)]) hpr j v ?_
        rcases (by omega : j = 0 ∨ j = 1 ∨ j = 2 ∨ j = 3) with rfl | rfl | rfl | rfl <;> exact hv
      · have d7 := tget hI.h7
        refine wpOp_step rfl rfl (fun K0 hK => ?_)
        refine wp_val (Op.fieldAddr 57 (.tmp 7) 0) _ rfl ?_ (hK _ _ ⟨_, rfl, HI.out.put 2 (by omega) _ rfl⟩)
        intro o ho
        unfold execOp
        rw [ho]
        simp only [d7]
        go_simp
      · have e25 : T[25]? = some (.pointer (some ⟨R, 0, none⟩)) := hI.hv 2 (by omega) (ready_dep HJ.out rfl 2 (by kernel_rfl))
        have hsT := hI.sz
        have hc : Calls Tryd.prog 29 #[.pointer (some ⟨R, 0, none⟩)] W' fun x w' => x = .returned (.int .i64 (a' : Int)) ∧ W' = w' := place_any R w.heap.size l A c _ _ _ W' (hrr.cu HA4.out)
        refine wpOp_step rfl rfl (fun K0 hK => ?_)
        refine wp_enter0 _ _ _ _ rfl ?_ hc (hK _ _ ⟨_, rfl, HI.out.put 3 (by omega) _ rfl⟩)
        intro o ho
        unfold execOp
        rw [ho]
        clear hI hc hrr hpr
        go_simp
        exact (Array.getElem?_eq_some_iff.1 e25).2
      · have hbu : Tryd.prog.built 35 [] = some #[.int .i64 0, .int .i64 0] := by kernel_rfl
        refine wpOp_step rfl rfl (fun K0 hK => ?_)
        exact wp_built 35 #[] [] _ rfl (by simp) hbu (hK _ _ ⟨_, rfl, HI.out.put 4 (by omega) _ rfl⟩)
      · have d4 := tget hI.h4
        have d24 := tget (T := T) (hI.hv 1 (by omega) (ready_dep HJ.out rfl 1 (by kernel_rfl)))
        obtain ⟨xs, hx, h0⟩ := hI.e0
        refine wpOp_step rfl rfl (fun K0 hK => ?_)
        exact wp_store_mid tE (.tmp 4) (.tmp 24) rfl w.heap.size 0 _ d4 d24 (there_row h0 hx.symm) hIE (by simp [Value.oneCell']) (hK _ _ ⟨T, rfl, HI.out.se rfl⟩)
      · have d26 := tget (T := T) (hI.hv 3 (by omega) (ready_dep HJ.out rfl 3 (by kernel_rfl)))
        refine wpOp_step rfl rfl (fun K0 hK => ?_)
        refine wp_as (.tmp 26) rfl (hK _ _ ⟨_, ?_, HI.out.pl5⟩)
        rw [d26]; rfl
      · have d6 := tget hI.h6
        have d27 := tget (T := T) (hI.hv 4 (by omega) (ready_dep HJ.out rfl 4 (by kernel_rfl)))
        refine wpOp_step rfl rfl (fun K0 hK => ?_)
        exact wp_store_mid 35 (.tmp 6) (.tmp 27) rfl (w.heap.size + 1) 0 _ d6 d27 (there_row (cs := [.int .i64 0, .int .i64 0]) HI.out.f rfl) hIF (by simp [Value.oneCell']) (hK _ _ ⟨T, rfl, HI.out.sf⟩)
end Go.Proofs.YtdehpgdffafebaaDoor
namespace Go.Proofs.YtdehpgdffafebaaDoor
open Go.RowKit
set_option linter.unusedVariables false

theorem tok_in {l : List Gt} {a : Nat} (h : (tokN l a).kind ≠ 0) : a < l.length := by
  rcases Nat.lt_or_ge a l.length with g | g
  · exact g
  · exfalso
    apply h
    unfold tokN
    rw [List.getElem?_eq_none g]
theorem isN_in {l : List Gt} {a : Nat} {s : ByteArray} (h : (tokN l a).is s = true) : a < l.length := by
  apply tok_in
  intro h0
  unfold Gt.is at h
  rw [h0] at h
  simp at h
theorem plainE_in {l : List Gt} {a : Nat} {y : Int × Int × ByteArray} (h : plainE (tokN l a) = some y) : a < l.length := by
  apply tok_in
  intro h0
  unfold plainE at h
  rw [if_neg (by omega), if_neg (by omega)] at h
  have hn : ∀ s, (tokN l a).is s = false := fun s => by unfold Gt.is; rw [h0]; simp
  simp [hn] at h
theorem signAt_in {l : List Gt} {a : Nat} {b : Int} {s : Sg} (h : signAt (tokN l a) b = some s) : a < l.length ∧ s.bind = b := by
  have h1 := List.find?_some h
  simp only [Bool.and_eq_true, decide_eq_true_eq] at h1
  exact ⟨isN_in h1.2, h1.1⟩

/-- What is read ends behind its first token, within the tokens; it is not too deep. -/
def Okk (l : List Gt) (a : Nat) (pr : Pr) : Prop := ∀ e d a', pr = .ok e d a' → a < a' ∧ a' ≤ l.length ∧ d ≤ 20
theorem Okk.err {l : List Gt} {a : Nat} {x p : Int} : Okk l a (.err x p) := fun e d a' h => by cases h
theorem want_ok {l : List Gt} {a b : Nat} {s : ByteArray} {next : Nat → Pr} (h : b < l.length → Okk l a (next (b + 1))) : Okk l a (wantP l b s next) := by
  unfold wantP
  split
  · exact h (isN_in (by assumption))
  · exact .err
theorem bare_ok {k : Int} {l : List Gt} {a : Nat} {e : E} {d a' : Nat} (h : bareP k l a = .ok e d a') : a' = a + 1 ∧ a' ≤ l.length ∧ d = 1 := by
  unfold bareP at h
  split at h
  · split at h
    · cases h
      exact ⟨rfl, plainE_in (by assumption), rfl⟩
    · cases h
  · cases h
theorem nil_ok (l : List Gt) (a : Nat) : Okk l a (nilP l a) := by
  unfold nilP
  refine want_ok fun h1 => ?_
  cases hb : bareP 13 l (a + 1 + 1) with
  | err x p => exact .err
  | ok e d a2 =>
    obtain ⟨rfl, h2, rfl⟩ := bare_ok hb
    refine want_ok fun h3 => ?_
    intro e d a' h
    cases h
    omega
theorem same_ok (l : List Gt) (a : Nat) : Okk l a (sameP l a) := by
  unfold sameP
  refine want_ok fun h1 => ?_
  cases hb : bareP 14 l (a + 1 + 1) with
  | err x p => exact .err
  | ok e d a2 =>
    obtain ⟨rfl, h2, rfl⟩ := bare_ok hb
    unfold thenP
    dsimp only
    refine want_ok fun h3 => ?_
    cases hb2 : bareP 14 l (a + 1 + 1 + 1 + 1) with
    | err x p => exact .err
    | ok e2 d2 a4 =>
      obtain ⟨rfl, h4, rfl⟩ := bare_ok hb2
      refine want_ok fun h5 => ?_
      intro e d a' h
      cases h
      exact ⟨by omega, by omega, by decide⟩
theorem plain_ok (l : List Gt) (a : Nat) : Okk l a (plainP l a) := by
  unfold plainP
  split
  · intro e d a' h
    cases h
    have := plainE_in (by assumption)
    omega
  · exact .err
theorem not_ok {l : List Gt} {a : Nat} {pr : Pr} (h : Okk l (a + 1) pr) : Okk l a (notP l a pr) := by
  unfold notP notQ
  cases pr with
  | err x p => exact .err
  | ok e d a2 =>
    dsimp only
    split
    · exact .err
    · intro e' d' a' hh
      obtain ⟨h1, h2, h3⟩ := h e d a2 rfl
      cases hh
      omega
theorem bracket_ok {l : List Gt} {a : Nat} {pr : Pr} (h : Okk l (a + 1) pr) : Okk l a (bracketP l pr) := by
  cases pr with
  | err x p => exact .err
  | ok e d a2 =>
    obtain ⟨h1, h2, h3⟩ := h e d a2 rfl
    simp only [bracketP]
    split
    · rename_i hs
      have := isN_in hs
      intro e' d' a' hh
      cases hh
      omega
    · exact .err
theorem within_ok {l : List Gt} {a b r : Nat} {pr : Pr} (h : Okk l a pr) : Okk l a (withinP l b r pr) := by
  unfold withinP
  split
  · exact .err
  · exact h
theorem join_ok {l : List Gt} {a : Nat} {t : Gt} {k : Int} {e : E} {d : Nat} {pr : Pr} (h : Okk l a pr) : Okk l a (joinQ t k e d pr) := by
  cases pr with
  | err x p => exact .err
  | ok e2 d2 a2 =>
    obtain ⟨h1, h2, h3⟩ := h e2 d2 a2 rfl
    simp only [joinQ]
    split
    · exact .err
    · intro e' d' a' hh
      cases hh
      omega
theorem Okk.le {l : List Gt} {a b : Nat} {pr : Pr} (h : Okk l b pr) (hab : a ≤ b) : Okk l a pr := fun e d a' hh => by
  have := h e d a' hh
  omega
theorem all_ok (l : List Gt) : ∀ f, (∀ b a r, Okk l a (boundP l f b a r)) ∧ (∀ a r, Okk l a (tightP l f a r)) ∧ (∀ b r pr a, Okk l a pr → Okk l a (loopP l f b r pr)) := by
  intro f
  induction f with
  | zero =>
    refine ⟨fun b a r => ?_, fun a r => ?_, fun b r pr a h => ?_⟩
    · unfold boundP; exact .err
    · unfold tightP; exact .err
    · unfold loopP; exact .err
  | succ f ih =>
    obtain ⟨hB, hT, hL⟩ := ih
    refine ⟨fun b a r => ?_, fun a r => ?_, fun b r pr a h => ?_⟩
    · unfold boundP
      split
      · exact hT a r
      · exact hL _ _ _ _ (hB _ _ _)
    · unfold tightP
      split
      · exact not_ok (within_ok (hB _ _ _))
      · split
        · exact bracket_ok (within_ok (hB _ _ _))
        · split
          · exact nil_ok l a
          · split
            · exact same_ok l a
            · exact plain_ok l a
    · cases pr with
      | err x p => unfold loopP; exact .err
      | ok e d a0 =>
        obtain ⟨h1, h2, h3⟩ := h e d a0 rfl
        unfold loopP
        split
        · intro e' d' a' hh
          cases hh
          omega
        · have hj : ∀ t k bb, Okk l a (joinQ t k e d (boundP l f bb (a0 + 1) r)) := fun t k bb => (join_ok (hB bb (a0 + 1) r)).le (by omega)
          split
          · exact hL _ _ _ _ (hj _ _ _)
          · exact hj _ _ _
/-- What is wrong is told by a number of its own. -/
def NE (pr : Pr) : Prop := ∀ x p, pr = .err x p → x ≠ 0
theorem NE.ok {e : E} {d a : Nat} : NE (.ok e d a) := fun x p h => by cases h
theorem NE.e3 {p : Int} : NE (.err 3 p) := fun x q h => by cases h; decide
theorem NE.e5 {p : Int} : NE (.err 5 p) := fun x q h => by cases h; decide
theorem want_ne {l : List Gt} {b : Nat} {s : ByteArray} {next : Nat → Pr} (h : NE (next (b + 1))) : NE (wantP l b s next) := by
  unfold wantP
  split
  · exact h
  · exact .e3
theorem bare_ne (k : Int) (l : List Gt) (a : Nat) : NE (bareP k l a) := by
  unfold bareP
  split
  · split
    · exact .ok
    · exact .e3
  · exact .e3
theorem then_ne {pr : Pr} {next : E → Nat → Nat → Pr} (h : NE pr) (hn : ∀ e d a, NE (next e d a)) : NE (thenP pr next) := by
  cases pr with
  | ok e d a => exact hn e d a
  | err x p => exact fun y q hh => h y q hh
theorem nil_ne (l : List Gt) (a : Nat) : NE (nilP l a) := want_ne (then_ne (bare_ne _ _ _) fun _ _ _ => want_ne .ok)
theorem same_ne (l : List Gt) (a : Nat) : NE (sameP l a) := want_ne (then_ne (bare_ne _ _ _) fun _ _ _ => want_ne (then_ne (bare_ne _ _ _) fun _ _ _ => want_ne .ok))
theorem plain_ne (l : List Gt) (a : Nat) : NE (plainP l a) := by
  unfold plainP
  split
  · exact .ok
  · exact .e3
theorem not_ne {l : List Gt} {a : Nat} {pr : Pr} (h : NE pr) : NE (notP l a pr) := by
  unfold notP
  cases pr with
  | err x p => exact fun y q hh => h y q hh
  | ok e d a2 =>
    simp only [notQ]
    split
    · exact .e5
    · exact .ok
theorem bracket_ne {l : List Gt} {pr : Pr} (h : NE pr) : NE (bracketP l pr) := by
  cases pr with
  | err x p => exact fun y q hh => h y q hh
  | ok e d a2 =>
    simp only [bracketP]
    split
    · exact .ok
    · exact .e3
theorem within_ne {l : List Gt} {b r : Nat} {pr : Pr} (h : NE pr) : NE (withinP l b r pr) := by
  unfold withinP
  split
  · exact .e5
  · exact h
theorem join_ne {t : Gt} {k : Int} {e : E} {d : Nat} {pr : Pr} (h : NE pr) : NE (joinQ t k e d pr) := by
  cases pr with
  | err x p => exact fun y q hh => h y q hh
  | ok e2 d2 a2 =>
    simp only [joinQ]
    split
    · exact .e5
    · exact .ok
/-- Fuel of 7 a token, and some, suffices. -/
theorem all_ne (l : List Gt) : ∀ f : Nat, (∀ (b : Int) (a r : Nat), 1 ≤ b → b ≤ 5 → (7 * (l.length - a) : Nat) + 7 - b ≤ (f : Int) → NE (boundP l f b a r)) ∧ (∀ a r, 7 * (l.length - a) + 1 ≤ f → NE (tightP l f a r)) ∧
    (∀ (b : Int) (r : Nat) (pr : Pr) (a : Nat), 1 ≤ b → b ≤ 4 → Okk l a pr → NE pr → 7 * (l.length - (a + 1)) + 1 ≤ f → NE (loopP l f b r pr)) := by
  intro f
  induction f with
  | zero =>
    refine ⟨fun b a r h1 h2 h => by omega, fun a r h => by omega, fun b r pr a h1 h2 h h3 h4 => by omega⟩
  | succ f ih =>
    obtain ⟨hB, hT, hL⟩ := ih
    refine ⟨fun b a r h1 h2 h => ?_, fun a r h => ?_, fun b r pr a h1 h2 h h3 h4 => ?_⟩
    · unfold boundP
      split
      · exact hT a r (by omega)
      · exact hL _ _ _ a h1 (by omega) ((all_ok l f).1 _ _ _) (hB _ _ _ (by omega) (by omega) (by omega)) (by omega)
    · unfold tightP
      split
      · have := isN_in (by assumption)
        exact not_ne (within_ne (hB _ _ _ (by omega) (by omega) (by omega)))
      · split
        · have := isN_in (by assumption)
          exact bracket_ne (within_ne (hB _ _ _ (by omega) (by omega) (by omega)))
        · split
          · exact nil_ne l a
          · split
            · exact same_ne l a
            · exact plain_ne l a
    · cases pr with
      | err x p => unfold loopP; exact fun y q hh => h3 y q hh
      | ok e d a0 =>
        obtain ⟨g1, g2, g3⟩ := h e d a0 rfl
        unfold loopP
        split
        · exact .ok
        · rename_i s hs
          obtain ⟨k1, k2⟩ := signAt_in hs
          have hj : NE (joinQ (tokN l a0) s.kind e d (boundP l f (s.bind + 1) (a0 + 1) r)) := join_ne (hB _ _ _ (by omega) (by omega) (by omega))
          have hk : Okk l (a0 + 1) (joinQ (tokN l a0) s.kind e d (boundP l f (s.bind + 1) (a0 + 1) r)) := join_ok ((all_ok l f).1 _ _ _)
          split
          · exact hL _ _ _ (a0 + 1) h1 h2 hk hj (by omega)
          · exact hj
end Go.Proofs.YtdehpgdffafebaaDoor
namespace Go.Proofs.YtdehpgdffafebaaDoor
open Go.RowKit
set_option linter.unusedVariables false

set_option maxRecDepth 100000 in
set_option maxHeartbeats 4000000 in
theorem bound_tight (pr : Pr) (b : Int) (hb : 5 ≤ b) (R B : Nat) (l : List Gt) (A : Option Addr) (c a r : Nat) (w : World) (h : Rd R B l A c a r w)
    (hT : ∀ W, w.grownBy W (some R) → Rd R B l A c a r W → Calls Tryd.prog 49 #[pR R] W (PtP R B l A c r W pr)) :
    Calls Tryd.prog 28 #[pR R, .int .i64 b] w (PtP R B l A c r w pr) := by
  have hS := Rs.new h
  obtain ⟨W0, hW0⟩ : ∃ W0, W0 = (w.alloc pt0).alloc flt0 := ⟨_, rfl⟩
  rw [← hW0] at hS
  have HS := Lib.hid hS
  have HCL := Lib.hid (hT W0 hS.gb hS.rd)
  have hbb : decide (5 ≤ b) = true := by simpa using hb
  clear h hS hT
  go_enter Tryd.func28, Tryd.ntmps28
  go_upto_region 2 with fail
  rw [← hW0]
  clear hW0
  go_wp2_with fail
  refine HCL.out.mono ?_
  rintro e w3 hpt
  obtain ⟨K, N, S, A', L', C', D, er, po, a', rfl, hrd3, hg3, hkeep⟩ := hpt.open
  have HKEEP := Lib.hid hkeep
  have HS3 := Lib.hid (HS.out.step hrd3 hg3)
  have hl2 := heap_lt HS.out.b1
  obtain ⟨x0, x1, x2, x3, x4⟩ := row5 HS3.out.b0
  obtain ⟨y0, y1⟩ := row2 HS3.out.b1
  have f0 := frozen_of HS3.out.b0 0
  have f1 := frozen_of HS3.out.b0 1
  have f2 := frozen_of HS3.out.b0 2
  have f3 := frozen_of HS3.out.b0 3
  have f4 := frozen_of HS3.out.b0 4
  have g0 := frozen_of HS3.out.b1 0
  have g1 := frozen_of HS3.out.b1 1
  clear hpt hkeep hrd3 hg3
  go_wp2_with fail
  have hF := HS3.out.put (.int .i64 K) (.int .i64 N) (.string S) (.slice A' L' C') (.int .i64 D) (.int .i64 er) (.int .i64 po)
  have hk := stPF_keep w.heap.size w3 (.int .i64 K) (.int .i64 N) (.string S) (.slice A' L' C') (.int .i64 D) (.int .i64 er) (.int .i64 po)
  have hsz := (stPF_gb (R := 0) w.heap.size w3 (.int .i64 K) (.int .i64 N) (.string S) (.slice A' L' C') (.int .i64 D) (.int .i64 er) (.int .i64 po)).size
  change bodyPost _ _ _ _ _ (stPF w.heap.size w3 (.int .i64 K) (.int .i64 N) (.string S) (.slice A' L' C') (.int .i64 D) (.int .i64 er) (.int .i64 po))
  generalize stPF w.heap.size w3 (.int .i64 K) (.int .i64 N) (.string S) (.slice A' L' C') (.int .i64 D) (.int .i64 er) (.int .i64 po) = Wf at hF hk hsz ⊢
  obtain ⟨r0, r1, r2, r3, r4⟩ := row5 hF.b0
  obtain ⟨s0, s1⟩ := row2 hF.b1
  refine bodyPost_ret (v := .tuple #[.agg #[.int .i64 K, .int .i64 N, .string S, .slice A' L' C', .int .i64 D], fV er po]) (by simp [results, Tryd.results28, go_sem, r0, r1, r2, r3, r4, s0, s1]) rfl ?_
  exact HKEEP.out w Wf r (fun b hb => hk b (by have := hb.1; omega) (by have := hb.1; omega)) (by omega) hsz hF.rd hF.gb
end Go.Proofs.YtdehpgdffafebaaDoor
