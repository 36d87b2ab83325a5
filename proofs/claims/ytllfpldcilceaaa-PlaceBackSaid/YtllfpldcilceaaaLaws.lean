/- The three statements' functions return true. Conditions: none. -/
import Derived.Test.YtllfpldcilceaaaLine
namespace Go.Proofs.Ytllfpldcilceaaa
open Go.RowKit

theorem bcell {W w1 : World} (hb : Below W.heap.size W w1) : (∀ b o, b < W.heap.size → w1.cell? ⟨b, o, none⟩ = W.cell? ⟨b, o, none⟩) ∧ (∀ b o, b < W.heap.size → w1.frozen? ⟨b, o, none⟩ = W.frozen? ⟨b, o, none⟩) :=
  ⟨fun b o h => hb.cell (p := ⟨b, o, none⟩) h, fun b o h => hb.frozen (p := ⟨b, o, none⟩) h⟩

theorem of_3 (w : World) : Calls Try.prog 7 #[.string ⟨#[97, 98, 10, 99]⟩, .int .i64 3] w fun e w' => e = .returned (.tuple #[.int .i64 2, .int .i64 1]) ∧ Below w.heap.size w w' :=
  (of_any ⟨#[97, 98, 10, 99]⟩ (by decide) 3 w).mono fun e w' ⟨he, hw⟩ => ⟨by rw [he]; rfl, hw⟩
theorem of_2 (w : World) : Calls Try.prog 7 #[.string ⟨#[97, 98, 10, 99]⟩, .int .i64 2] w fun e w' => e = .returned (.tuple #[.int .i64 1, .int .i64 3]) ∧ Below w.heap.size w w' :=
  (of_any ⟨#[97, 98, 10, 99]⟩ (by decide) 2 w).mono fun e w' ⟨he, hw⟩ => ⟨by rw [he]; rfl, hw⟩

set_option maxHeartbeats 1000000 in
theorem awake_any (w : World) : Calls Try.prog 6 #[] w fun e w' => e = .returned (.bool true) ∧ Below w.heap.size w w' := by
  go_enter Try.func6, Try.ntmps6
  go_wp2_with fail
  refine (of_3 _).mono ?_
  rintro e w1 ⟨rfl, hb1⟩
  go_wp2_with fail
  refine (of_2 _).mono ?_
  rintro e w2 ⟨rfl, hb2⟩
  go_wp2_with fail
  go_ret
  exact ⟨rfl, hb1.trans (hb2.mono hb1.size)⟩

theorem cells2 (w : World) (x y : Value) (t : TypeId) : (w.alloc (.cells #[x, y] t)).cell? ⟨w.heap.size, 0, none⟩ = some x ∧ (w.alloc (.cells #[x, y] t)).cell? ⟨w.heap.size, 1, none⟩ = some y := by
  have h := World.alloc_heap_new w (.cells #[x, y] t)
  constructor
  · simp only [World.cell?, h]; rfl
  · simp only [World.cell?, h]; rfl

set_option maxRecDepth 100000 in
set_option maxHeartbeats 2000000 in
theorem law_of (s : ByteArray) (a p0 p1 : Int) (w : World) :
    Calls Try.prog 3 #[.string s, .int .i64 a, .agg #[.int .i64 p0, .int .i64 p1]] w fun e w' => e = .returned (.bool true) ∧ Below w.heap.size w w' := by
  by_cases hs : s.size ≤ 300
  · obtain ⟨x, y, hxy⟩ : ∃ x y : Int, x = (Pl.pos s.data.toList (min s.size a.toNat)).1 ∧ y = (Pl.pos s.data.toList (min s.size a.toNat)).2 := ⟨_, _, rfl, rfl⟩
    obtain ⟨i, b, hv⟩ : ∃ (i : Int) (b : Bool), backV s.data.toList p0 p1 = .tuple #[.int .i64 i, .bool b] := ⟨_, _, rfl⟩
    have HXY := Lib.hid hxy
    have HV := Lib.hid hv
    clear hxy hv
    go_enter Try.func3, Try.ntmps3
    go_wp2_with fail
    refine (of_any s (by omega) _ _).mono ?_
    rintro e w1 ⟨rfl, hb1⟩
    rw [← HXY.out.1, ← HXY.out.2]
    have hc0 := (hb1.cell (p := ⟨w.heap.size, 0, none⟩) (by simp)).trans (cells2 w (.int .i64 p0) (.int .i64 p1) 22).1
    have hc1 := (hb1.cell (p := ⟨w.heap.size, 1, none⟩) (by simp)).trans (cells2 w (.int .i64 p0) (.int .i64 p1) 22).2
    have hB1 : Below w.heap.size w w1 := ((Below.refl _ w).alloc (Nat.le_refl _) _).trans (hb1.mono (by simp))
    have hsz1 := hb1.size
    simp only [World.size_alloc] at hsz1
    clear hb1
    go_wp2_with fail
    refine (refOf_any s a _ (by omega)).mono ?_
    rintro e w2 ⟨rfl, rfl⟩
    rw [← HXY.out.1, ← HXY.out.2]
    go_wp2_with fail
    refine (back_any s (by omega) _ _ _).mono ?_
    rintro e w2 ⟨rfl, hb2⟩
    rw [HV.out]
    have hd0 := (hb2.cell (p := ⟨w.heap.size, 0, none⟩) (by simp; omega)).trans hc0
    have hd1 := (hb2.cell (p := ⟨w.heap.size, 1, none⟩) (by simp; omega)).trans hc1
    have hB2 := hB1.trans (hb2.mono hB1.size)
    clear hb2
    go_wp2_with fail
    refine (refBack_any s _ _ _ (by omega)).mono ?_
    rintro e w3 ⟨rfl, rfl⟩
    rw [HV.out]
    go_wp2_with fail
    refine (awake_any _).mono ?_
    rintro e w3 ⟨rfl, hb3⟩
    go_wp2_with fail
    go_ret
    exact ⟨rfl, hB2.trans (hb3.mono hB2.size)⟩
  · go_enter Try.func3, Try.ntmps3
    go_wp2_with fail
    refine (awake_any _).mono ?_
    rintro e w3 ⟨rfl, hb3⟩
    go_wp2_with fail
    go_ret
    exact ⟨rfl, ((Below.refl _ w).alloc (Nat.le_refl _) _).trans (hb3.mono (by simp))⟩

set_option maxHeartbeats 1000000 in
theorem law_back_no (s : ByteArray) (a b : Int) (w : World) (h : ¬ (s.size ≤ 1000 ∧ 0 ≤ a ∧ a ≤ s.size ∧ 0 ≤ b ∧ b ≤ s.size)) (hm : s.size ≤ maxLen) :
    Calls Try.prog 4 #[.string s, .int .i64 a, .int .i64 b] w fun e w' => e = .returned (.bool true) ∧ Below w.heap.size w w' := by
  unfold maxLen at hm
  by_cases h1 : s.size ≤ 1000
  · by_cases h2 : a < 0
    · go_enter Try.func4, Try.ntmps4
      go_wp2_with fail
      refine (awake_any _).mono ?_
      rintro e w3 ⟨rfl, hb3⟩
      go_wp2_with fail
      go_ret
      exact ⟨rfl, hb3⟩
    · by_cases h3 : (s.size : Int) < a
      · go_enter Try.func4, Try.ntmps4
        go_wp2_with fail
        refine (awake_any _).mono ?_
        rintro e w3 ⟨rfl, hb3⟩
        go_wp2_with fail
        go_ret
        exact ⟨rfl, hb3⟩
      · by_cases h4 : b < 0
        · go_enter Try.func4, Try.ntmps4
          go_wp2_with fail
          refine (awake_any _).mono ?_
          rintro e w3 ⟨rfl, hb3⟩
          go_wp2_with fail
          go_ret
          exact ⟨rfl, hb3⟩
        · have h5 : (s.size : Int) < b := by omega
          go_enter Try.func4, Try.ntmps4
          go_wp2_with fail
          refine (awake_any _).mono ?_
          rintro e w3 ⟨rfl, hb3⟩
          go_wp2_with fail
          go_ret
          exact ⟨rfl, hb3⟩
  · go_enter Try.func4, Try.ntmps4
    go_wp2_with fail
    refine (awake_any _).mono ?_
    rintro e w3 ⟨rfl, hb3⟩
    go_wp2_with fail
    go_ret
    exact ⟨rfl, hb3⟩

set_option maxRecDepth 100000 in
set_option maxHeartbeats 2000000 in
theorem law_back (s : ByteArray) (a b : Nat) (w : World) (hs : s.size ≤ 1000) (ha : a ≤ s.size) (hb : b ≤ s.size) :
    Calls Try.prog 4 #[.string s, .int .i64 a, .int .i64 b] w fun e w' => e = .returned (.bool true) ∧ Below w.heap.size w w' := by
  have hlen : s.data.toList.length = s.size := rfl
  obtain ⟨l, c, hlc⟩ : ∃ l c : Nat, (Pl.pos s.data.toList a) = (l, c) := ⟨_, _, rfl⟩
  obtain ⟨m, d, hmd⟩ : ∃ m d : Nat, (Pl.pos s.data.toList b) = (m, d) := ⟨_, _, rfl⟩
  obtain ⟨t, ht⟩ : ∃ t : Nat, (Pl.pos s.data.toList s.size).1 = t := ⟨_, rfl⟩
  have hx := Pl.pos_lex s.data.toList a b ha hb
  have hbd := Pl.pos_bd s.data.toList a ha
  have hbe := Pl.pos_bd s.data.toList b hb
  have hbt := Pl.line_mono s.data.toList a s.size ha (Nat.le_refl _)
  have hbs := Pl.pos_bd s.data.toList s.size (Nat.le_refl _)
  have hv : backV s.data.toList l c = .tuple #[.int .i64 a, .bool true] := by
    unfold backV
    rw [Pl.back_some s.data.toList l c a ha (by rw [hlc]) (by rw [hlc])]
    rfl
  have HV := Lib.hid hv
  have HA := Lib.hid (show Pl.pos s.data.toList (min s.size ((a : Int)).toNat) = (l, c) by rw [show min s.size ((a : Int)).toNat = a by omega]; exact hlc)
  have HB := Lib.hid (show Pl.pos s.data.toList (min s.size ((b : Int)).toNat) = (m, d) by rw [show min s.size ((b : Int)).toNat = b by omega]; exact hmd)
  have HT := Lib.hid ht
  rw [hlc, hmd] at hx
  rw [hlc] at hbd hbt
  rw [hmd] at hbe
  rw [ht] at hbt hbs
  simp only at hx hbd hbt hbe hbs
  clear hlc hmd ht hv hlen
  have hcase : (a < b ∧ l < m) ∨ (a < b ∧ ¬ l < m ∧ l = m ∧ c < d) ∨ (¬ a < b ∧ ¬ l < m ∧ l = m ∧ ¬ c < d) ∨ (¬ a < b ∧ ¬ l < m ∧ ¬ l = m) := by omega
  clear hx
  rcases hcase with ⟨g1, g2⟩ | ⟨g1, g2, rfl, g4⟩ | ⟨g1, g2, rfl, g4⟩ | ⟨g1, g2, g3⟩
  all_goals
    go_enter Try.func4, Try.ntmps4
    go_wp2_with fail
    refine (of_any s hs _ _).mono ?_
    rintro e w1 ⟨rfl, hb1⟩
    rw [HA.out]
    go_wp2_with fail
    refine (of_any s hs _ _).mono ?_
    rintro e w2 ⟨rfl, hb2⟩
    rw [HB.out]
    go_wp2_with fail
    refine (back_any s hs _ _ _).mono ?_
    rintro e w3 ⟨rfl, hb3⟩
    rw [HV.out]
    go_wp2_with fail
    refine (lines_any s hs _).mono ?_
    rintro e w4 ⟨rfl, hb4⟩
    rw [HT.out]
    go_wp2_with fail
    refine (awake_any _).mono ?_
    rintro e w5 ⟨rfl, hb5⟩
    go_wp2_with fail
    go_ret
    refine ⟨rfl, ((hb1.trans (hb2.mono hb1.size)).trans (hb3.mono (Nat.le_trans hb1.size hb2.size))).trans ((hb4.trans (hb5.mono hb4.size)).mono (Nat.le_trans hb1.size (Nat.le_trans hb2.size hb3.size)))⟩
end Go.Proofs.Ytllfpldcilceaaa
