/- What an owner becomes, put for a list, as the document's answer tells it; the order of two owners; the chapter's example. Conditions: a list has at most 1000 owners. -/
import Derived.Test.YtelnmbhnokadlaaPut
namespace Go.Proofs.Ytelnmbhnokadlaa
open Go.RowKit
set_option linter.unusedVariables false

theorem ref_hit (o : Ow) (l : List Ow) (z : Int) (k : Nat) (hp : o.put l = Ow.at_ z l) (hz : (k : Int) = z) (h : k < l.length) : o.put l = ⟨l[k].kind, l[k].n⟩ := hp.trans (Ow.at_in k hz.symm h)
theorem ref_out (o : Ow) (l : List Ow) (z : Int) (k : Nat) (hp : o.put l = Ow.at_ z l) (hz : z < 0 ∨ (k : Int) ≤ z) (h : ¬ k < l.length) : o.put l = ⟨8, 0⟩ := hp.trans (Ow.at_out (by omega))

set_option maxHeartbeats 1000000 in
theorem refPut_any (o : Ow) (A : Option Addr) (c : Nat) (l : List Ow) (w : World) (hr : RO w w.heap.size A l) (hn : l.length ≤ 1000) (hc : l.length ≤ c) :
    Calls Try.prog 7 #[.agg #[.int .i64 o.kind, .int .i64 o.n], .slice A l.length c] w (Back (o.put l) w) := by
  have HR : Hid (RO ((w.alloc (.cells #[.int .i64 o.kind, .int .i64 o.n] 23)).alloc (.cells #[.int .i64 0, .int .i64 0] 23)) w.heap.size A l) := Lib.hid (hr.below (below2 w _ _))
  clear hr
  obtain ⟨k, z⟩ := o
  by_cases h3 : k = 3
  · subst h3
    have HP : Hid (Ow.put ⟨3, z⟩ l = Ow.at_ z l) := Lib.hid (Ow.put_three rfl)
    go_enter Try.func7, Try.ntmps7
    go_wp2
    go_loop [6] (fun i => ∃ k : Nat, k ≤ l.length ∧ i = .int .i64 k ∧ Hid (z < 0 ∨ (k : Int) ≤ z)) (fun i => l.length - (intOf i).toNat)
    case atStart => exact ⟨0, by omega, rfl, Lib.hid (by omega)⟩
    case round =>
      obtain ⟨k, hk, rfl, hzk⟩ := hrel
      by_cases hlt : k < l.length
      · obtain ⟨b, off, rfl, hB, q0, q1⟩ := HR.out.at_ hlt
        obtain ⟨x, hx⟩ : ∃ x, x = l[k] := ⟨_, rfl⟩
        rw [← hx] at q0 q1
        have HX := Lib.hid hx
        clear hx
        by_cases he : (k : Int) = z
        · have HE := Lib.hid (ref_hit _ l _ k HP.out he hlt)
          have e0 : ((k : Int) == z) = true := by simpa using he
          clear he
          go_wp2
          exact bodyPost_ret (v := .agg #[.int .i64 x.kind, .int .i64 x.n]) (by simp [results, Try.results7, go_sem]) rfl (back_of (by rw [HX.out]; exact HE.out) (below2 w _ _))
        · have e0 : ((k : Int) == z) = false := by simpa using he
          have HN : Hid (z < 0 ∨ ((k + 1 : Nat) : Int) ≤ z) := Lib.hid (by have := hzk.out; omega)
          clear he
          go_wp2
          go_round
          case rel => exact ⟨k + 1, by omega, by go_num, HN⟩
          case measure => simp [intOf]; omega
      · have HE := Lib.hid (ref_out _ l _ k HP.out hzk.out hlt)
        go_wp2
        exact bodyPost_ret (v := .agg #[.int .i64 8, .int .i64 0]) (by simp [results, Try.results7, go_sem]) rfl (back_of HE.out (below2 w _ _))
  · by_cases h2 : k = 2
    · subst h2
      clear h3
      by_cases hl : 0 < l.length
      · obtain ⟨b, off, rfl, hB, q0, q1⟩ := HR.out.at_ hl
        have HE := Lib.hid (put_first (n := z) hl)
        obtain ⟨x, hx⟩ : ∃ x, x = l[0] := ⟨_, rfl⟩
        rw [← hx] at q0 q1
        have HX := Lib.hid hx
        clear hx
        simp only [Nat.zero_mul, Nat.add_zero] at q0 q1
        obtain ⟨n, hn0⟩ : ∃ n, n = l.length := ⟨_, rfl⟩
        rw [← hn0] at hn hc hl ⊢
        clear hn0
        go_enter Try.func7, Try.ntmps7
        go_wp2
        go_loop [6] (fun i => i = .int .i64 0) (fun i => 0)
        case atStart => rfl
        case round =>
          subst hrel
          go_wp2
          exact bodyPost_ret (v := .agg #[.int .i64 x.kind, .int .i64 x.n]) (by simp [results, Try.results7, go_sem]) rfl (back_of (by rw [HX.out]; exact HE.out) (below2 w _ _))
      · have hl0 : l.length = 0 := by omega
        have HE := Lib.hid (put_none (n := z) hl0)
        rw [hl0]
        clear hl hl0
        go_enter Try.func7, Try.ntmps7
        go_wp2
        go_loop [6] (fun i => i = .int .i64 0) (fun i => 0)
        case atStart => rfl
        case round =>
          subst hrel
          go_wp2
          exact bodyPost_ret (v := .agg #[.int .i64 8, .int .i64 0]) (by simp [results, Try.results7, go_sem]) rfl (back_of HE.out (below2 w _ _))
    · have HE := Lib.hid (put_same (n := z) (l := l) h2 h3)
      have e3 : (k == 3) = false := by simpa using h3
      have e2 : (k == 2) = false := by simpa using h2
      have e3' : (k != 3) = true := by simpa using h3
      have e2' : (k != 2) = true := by simpa using h2
      clear h2 h3
      go_enter Try.func7, Try.ntmps7
      go_wp2
      exact bodyPost_ret (v := .agg #[.int .i64 k, .int .i64 z]) (by simp [results, Try.results7, go_sem]) rfl (back_of HE.out (below2 w _ _))

theorem isNaN_any (a : Int) (w : World) : Calls Try.prog 15 #[.int .i64 a] w fun e w' => e = .returned (.bool false) ∧ w = w' := by
  go_enter Try.func15, Try.ntmps15
  go_wp2
  go_ret
  exact ⟨by simp, rfl⟩
theorem compare_any (a b : Int) (w : World) : Calls Try.prog 13 #[.int .i64 a, .int .i64 b] w fun e w' => e = .returned (.int .i64 (Ow.cmp a b)) ∧ w = w' := by
  rcases Ow.cmp_ways a b with ⟨h, _, g⟩ | ⟨h, _, g⟩ | ⟨h, _, g⟩
  · rw [h]
    have g' : ¬ b < a := by omega
    clear h
    go_enter Try.func13, Try.ntmps13
    go_wp2_with (go_at_call 15; refine (isNaN_any _ _).mono ?_; rintro e w' ⟨rfl, rfl⟩)
    go_ret
    exact ⟨rfl, rfl⟩
  · rw [h]
    subst g
    clear h
    go_enter Try.func13, Try.ntmps13
    go_wp2_with (go_at_call 15; refine (isNaN_any _ _).mono ?_; rintro e w' ⟨rfl, rfl⟩)
    go_ret
    exact ⟨rfl, rfl⟩
  · rw [h]
    have g' : ¬ a < b := by omega
    clear h
    go_enter Try.func13, Try.ntmps13
    go_wp2_with (go_at_call 15; refine (isNaN_any _ _).mono ?_; rintro e w' ⟨rfl, rfl⟩)
    go_ret
    exact ⟨rfl, rfl⟩
theorem order_any (a b : Ow) (w : World) : Calls Try.prog 11 #[.agg #[.int .i64 a.kind, .int .i64 a.n], .agg #[.int .i64 b.kind, .int .i64 b.n]] w fun e w' => e = .returned (.int .i64 (Ow.ord a b)) ∧ Below w.heap.size w w' := by
  obtain ⟨x, hx⟩ : ∃ x, x = Ow.cmp a.kind b.kind := ⟨_, rfl⟩
  have HX := Lib.hid hx
  by_cases h0 : x = 0
  · have HO : Hid (Ow.ord a b = Ow.cmp a.n b.n) := Lib.hid (by unfold Ow.ord; rw [if_pos (by omega)])
    rw [h0] at HX
    clear hx h0
    go_enter Try.func11, Try.ntmps11
    go_wp2_with fail
    refine (compare_any _ _ _).mono ?_
    rintro e w1 ⟨rfl, rfl⟩
    rw [← HX.out]
    go_wp2_with fail
    refine (compare_any _ _ _).mono ?_
    rintro e w1 ⟨rfl, rfl⟩
    go_wp2
    go_ret
    exact ⟨by rw [HO.out]; rfl, below2 w _ _⟩
  · have HO : Hid (Ow.ord a b = x) := Lib.hid (by unfold Ow.ord; rw [if_neg (by omega)]; omega)
    have e0 : (x == 0) = false := by simpa using h0
    have e0' : (x != 0) = true := by simpa using h0
    clear hx h0
    go_enter Try.func11, Try.ntmps11
    go_wp2_with fail
    refine (compare_any _ _ _).mono ?_
    rintro e w1 ⟨rfl, rfl⟩
    rw [← HX.out]
    go_wp2
    go_ret
    exact ⟨by rw [HO.out]; rfl, below2 w _ _⟩

/-- The chapter's example, its parts. -/
theorem right_ex (w : World) : Calls Try.prog 14 #[.agg #[.int .i64 3, .int .i64 1], .int .i64 1] w fun e w' => e = .returned (.bool true) ∧ Below w.heap.size w w' := by
  go_enter Try.func14, Try.ntmps14
  go_wp2
  go_ret
  exact ⟨rfl, (Below.refl _ _).alloc (Nat.le_refl _) _⟩
theorem text_ex (w : World) (g : Nat) (h : w.cell? ⟨g, 0, none⟩ = some (.string ⟨#[100, 97, 116, 97]⟩)) (hg : g < w.heap.size) : Calls Try.prog 12 #[.agg #[.int .i64 3, .int .i64 1], .slice (some ⟨g, 0, none⟩) 1 1] w fun e w' => e = .returned (.string ⟨#[100, 97, 116, 97]⟩) ∧ Below w.heap.size w w' := by
  go_enter Try.func12, Try.ntmps12
  go_wp2_with fail
  refine (right_ex _).mono ?_
  rintro e w1 ⟨rfl, hb⟩
  have hz : w.heap.size < w1.heap.size := by have := hb.size; simp at this; omega
  have hn : w1.heap[w.heap.size]? = some (.cells #[.int .i64 3, .int .i64 1] 23 (0, 0)) := (hb.block _ (by simp)).trans (heap_new w _)
  have c0 : w1.cell? ⟨w.heap.size, 0, none⟩ = some (.int .i64 3) := cell_of_row w1 _ 0 _ 23 (0, 0) hn
  have c1 : w1.cell? ⟨w.heap.size, 1, none⟩ = some (.int .i64 1) := cell_of_row w1 _ 1 _ 23 (0, 0) hn
  have hbw : Below w.heap.size w w1 := ((Below.refl _ w).alloc (Nat.le_refl _) _).trans (hb.mono (by simp))
  have c2 : w1.cell? ⟨g, 0, none⟩ = some (.string ⟨#[100, 97, 116, 97]⟩) := (hbw.cell (p := ⟨g, 0, none⟩) hg).trans h
  clear hn hb h
  go_wp2
  go_ret
  exact ⟨rfl, hbw⟩
end Go.Proofs.Ytelnmbhnokadlaa
