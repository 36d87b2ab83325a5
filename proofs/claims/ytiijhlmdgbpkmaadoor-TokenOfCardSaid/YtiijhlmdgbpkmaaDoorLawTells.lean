/- The second law of layer 3 returns true for every input. Conditions: the table of words lies in memory. -/
import Derived.Test.YtiijhlmdgbpkmaaDoorLawBack
import Derived.Deep.RegionWith
namespace Go.Proofs.YtiijhlmdgbpkmaaDoor
open Go.RowKit
set_option linter.unusedVariables false

theorem join_len (M : Nat) : ∀ xs : List (List UInt8), (∀ x ∈ xs, x.length ≤ M) → (Lib.join xs [32]).length ≤ xs.length * (M + 1)
  | [], _ => by simp [Lib.join_nil]
  | x :: r, h => by
    have h1 := h x (by simp)
    have h2 : ∀ r : List (List UInt8), (∀ x ∈ r, x.length ≤ M) → (Lib.joinTail [32] r).length ≤ r.length * (M + 1) := by
      intro r
      induction r with
      | nil => intro _; simp [Lib.joinTail]
      | cons y q ih =>
        intro hq
        have a1 := hq y (by simp)
        have a2 := ih (fun z hz => hq z (by simp [hz]))
        have e : Lib.joinTail [32] (y :: q) = (32 :: y) ++ Lib.joinTail [32] q := by simp [Lib.joinTail]
        rw [e, List.length_append, List.length_cons, List.length_cons, Nat.add_mul]
        omega
    have h3 := h2 r (fun z hz => h z (by simp [hz]))
    rw [Lib.join_cons, List.length_append, List.length_cons, Nat.add_mul]
    omega
theorem txt_len (l : List Gt) (M : Nat) (h : ∀ i, (hi : i < l.length) → l[i].text.size ≤ M) : (Gt.txt l).length ≤ l.length * (M + 1) := by
  have h1 := join_len M ((Gt.texts l).map fun b => b.data.toList) (by
    intro x hx
    obtain ⟨b, hb, rfl⟩ := List.mem_map.1 hx
    unfold Gt.texts at hb
    obtain ⟨t, ht, rfl⟩ := List.mem_map.1 hb
    obtain ⟨i, hi, rfl⟩ := List.mem_iff_getElem.1 (List.mem_filter.1 ht).1
    exact h i hi)
  unfold Gt.txt
  refine Nat.le_trans h1 ?_
  rw [List.length_map]
  exact Nat.mul_le_mul_right _ (texts_le l)

theorem law_tells_big (A1 A2 : Option Addr) (c1 c2 : Nat) (l m : List Gt) (t : Gt) (s : ByteArray) (w : World) (hW : WordsIn w) (hbig : 60 < l.length ∨ 60 < m.length) :
    Calls Tryd.prog 4 #[.agg #[.slice A1 l.length c1, .slice A2 m.length c2], t.val, .string s] w fun e w' => e = .returned (.bool true) ∧ Below w.heap.size w w' := by
  obtain ⟨k, x, p⟩ := t
  rw [show Gt.val ⟨k, x, p⟩ = .agg #[.int .i64 k, .string x, .int .i64 p] from rfl]
  obtain ⟨n1, h1⟩ : ∃ n, n = l.length := ⟨_, rfl⟩
  obtain ⟨n2, h2⟩ : ∃ n, n = m.length := ⟨_, rfl⟩
  rw [← h1, ← h2] at hbig ⊢
  clear h1 h2
  have hz0 : (w.alloc (.cells #[.slice A1 n1 c1, .slice A2 n2 c2] 32)).heap.size = w.heap.size + 1 := by simp
  have HZ0 := Lib.hid hz0
  clear hz0
  go_enter Tryd.func4, Tryd.ntmps4
  go_wp2
  go_quiet (fail)
  have hb0 := below_drewN (((Below.refl w.heap.size w).alloc (Nat.le_refl _) (.cells #[.slice A1 n1 c1, .slice A2 n2 c2] 32)).alloc (by rw [HZ0.out]; omega) (.cells #[.int .i64 k, .string x, .int .i64 p] 30)) nq
  have HB0 := Lib.hid hb0
  clear hb0
  go_wp2_with fail
  all_goals
    refine (awake_any _ (hW.below HB0.out)).mono ?_
    rintro e w1 ⟨rfl, hb1⟩
    go_wp2
    go_ret
    exact ⟨rfl, HB0.out.trans (hb1.mono HB0.out.size)⟩

theorem same_self_any (A1 : Option Addr) (c1 : Nat) (l : List Gt) (w : World) (hr1 : RT w w.heap.size A1 l) (hn1 : l.length ≤ 1000) (hc1 : l.length ≤ c1) :
    Calls Tryd.prog 11 #[.slice A1 l.length c1, .slice A1 l.length c1] w fun e w' => e = .returned (.bool true) ∧ Below w.heap.size w w' := by
  have h := same_any A1 A1 c1 c1 l l w hr1 hr1 hn1 hn1 hc1 hc1
  rw [Gt.same_self] at h
  exact h
theorem is_ex (t : Gt) (s : ByteArray) (w : World) : Calls Tryd.prog 13 #[.agg #[.int .i64 t.kind, .string t.text, .int .i64 t.pos], .string s] w fun e w' => e = .returned (.bool (t.is s)) ∧ Below w.heap.size w w' := is_any t s w
theorem refIs_ex (t : Gt) (s : ByteArray) (w : World) : Calls Tryd.prog 14 #[.agg #[.int .i64 t.kind, .string t.text, .int .i64 t.pos], .string s] w fun e w' => e = .returned (.bool (t.is s)) ∧ Below w.heap.size w w' := refIs_any t s w

theorem keep3 {W0 W : World} {g : Nat} {a b c : Value} {t : TypeId} (h : W0.heap[g]? = some (.cells #[a, b, c] t (0, 0))) (X : Below W0.heap.size W0 W) :
    W.cell? ⟨g, 0, none⟩ = some a ∧ W.cell? ⟨g, 1, none⟩ = some b ∧ W.cell? ⟨g, 2, none⟩ = some c := by
  have hh := (X.block g (heap_lt h)).trans h
  exact ⟨cell_of_row W _ 0 _ t (0, 0) hh, cell_of_row W _ 1 _ t (0, 0) hh, cell_of_row W _ 2 _ t (0, 0) hh⟩

set_option maxHeartbeats 4000000 in
theorem law_tells_small (A1 A2 : Option Addr) (c1 c2 : Nat) (l m : List Gt) (t : Gt) (s : ByteArray) (w : World) (hW : WordsIn w) (h1 : l.length ≤ 60) (h2 : m.length ≤ 60) (hr1 : RT w w.heap.size A1 l) (hr2 : RT w w.heap.size A2 m) (hc1 : l.length ≤ c1) (hc2 : m.length ≤ c2)
    (hx : ∀ i, (h : i < l.length) → l[i].text.size ≤ maxLen) :
    Calls Tryd.prog 4 #[.agg #[.slice A1 l.length c1, .slice A2 m.length c2], t.val, .string s] w fun e w' => e = .returned (.bool true) ∧ Below w.heap.size w w' := by
  have HV : Hid (t.val = .agg #[.int .i64 t.kind, .string t.text, .int .i64 t.pos]) := Lib.hid rfl
  rw [HV.out]
  have HX := Lib.hid hx
  have hz0 : (w.alloc (.cells #[.slice A1 l.length c1, .slice A2 m.length c2] 32)).heap.size = w.heap.size + 1 := by simp
  have HZ0 := Lib.hid hz0
  have HR1 := Lib.hid hr1
  have HR2 := Lib.hid hr2
  clear hz0 hx hr1 hr2
  go_enter Tryd.func4, Tryd.ntmps4
  go_wp2
  go_quiet (fail)
  obtain ⟨W0, hW0⟩ : ∃ W0, W0 = ((w.alloc (.cells #[.slice A1 l.length c1, .slice A2 m.length c2] 32)).alloc (.cells #[.int .i64 t.kind, .string t.text, .int .i64 t.pos] 30)).drewN nq := ⟨_, rfl⟩
  have hb0 : Below w.heap.size w W0 := by
    rw [hW0]
    exact below_drewN (((Below.refl w.heap.size w).alloc (Nat.le_refl _) _).alloc (by rw [HZ0.out]; omega) _) nq
  have hk0 : W0.heap[w.heap.size + 1]? = some (.cells #[.int .i64 t.kind, .string t.text, .int .i64 t.pos] 30 (0, 0)) := by
    rw [hW0]
    have := heap_new (w.alloc (.cells #[.slice A1 l.length c1, .slice A2 m.length c2] 32)) (.cells #[.int .i64 t.kind, .string t.text, .int .i64 t.pos] 30)
    rw [HZ0.out] at this
    exact this
  rw [← hW0]
  have y0 : W0.cell? ⟨w.heap.size + 1, 0, none⟩ = some (.int .i64 t.kind) := cell_of_row W0 _ 0 _ 30 (0, 0) hk0
  have y1 : W0.cell? ⟨w.heap.size + 1, 1, none⟩ = some (.string t.text) := cell_of_row W0 _ 1 _ 30 (0, 0) hk0
  have y2 : W0.cell? ⟨w.heap.size + 1, 2, none⟩ = some (.int .i64 t.pos) := cell_of_row W0 _ 2 _ 30 (0, 0) hk0
  have hl0 := heap_lt hk0
  have HW0 : Hid (WordsIn W0) := Lib.hid (hW.below hb0)
  have HR1' : Hid (RT W0 w.heap.size A1 l) := Lib.hid (HR1.out.below hb0)
  have HR2' : Hid (RT W0 w.heap.size A2 m) := Lib.hid (HR2.out.below hb0)
  have HK0 := Lib.hid hk0
  clear hW0 hk0
  go_wp2
  go_loop [9, 10] (fun n i => ∃ (j : Nat) (z : Int), j ≤ l.length ∧ i = .int .i64 j ∧ n = .int .i64 z ∧ Hid (∀ i, (h : i < l.length) → i < j → (l[i].text.size : Int) ≤ z)) (fun _ i => l.length - (intOf i).toNat)
  case atStart => exact ⟨0, _, by omega, rfl, rfl, Lib.hid (fun i _ hi => absurd hi (by omega))⟩
  case round =>
    obtain ⟨j, z, hj, rfl, rfl, hz⟩ := hrel
    by_cases hlt : j < l.length
    · obtain ⟨b, o, rfl, hB, q0, q1, q2⟩ := HR1'.out.at_ hlt
      obtain ⟨y, hy⟩ : ∃ y, y = l[j] := ⟨_, rfl⟩
      rw [← hy] at q0 q1 q2
      have HY := Lib.hid hy
      clear hy q0 q2
      go_wp2
      go_round
      case rel =>
        refine ⟨j + 1, _, by omega, by go_num, rfl, Lib.hid (fun i hi hij => ?_)⟩
        by_cases e : i = j
        · subst e
          rw [← HY.out]; omega
        · have := hz.out i hi (by omega)
          omega
      case measure => simp [intOf]; omega
    · by_cases h200 : 200 < z
      · go_wp2_with fail
        refine (awake_any _ HW0.out).mono ?_
        rintro e w1 ⟨rfl, hb1⟩
        go_wp2
        go_ret
        exact ⟨rfl, hb0.trans (hb1.mono hb0.size)⟩
      · have HT : Hid (∀ i, (h : i < l.length) → l[i].text.size ≤ 200) := Lib.hid (fun i hi => by have := hz.out i hi (by omega); omega)
        have hlen : (Gt.txt l).length ≤ 100000 := by
          have := txt_len l 200 HT.out
          have h3 : l.length * (200 + 1) ≤ 60 * 201 := Nat.mul_le_mul_right _ h1
          omega
        have X : Below W0.heap.size W0 W0.drew := (Below.refl _ _).drew
        have HS := Lib.hid (Gt.same_self l)
        have hsz0 := hb0.size
        clear hz
        go_wp2_with fail
        go_region_with (first
          | (go_at_call 9; (with_reducible refine (text_any A1 c1 l _ ((HR1'.out.below (X.mono hsz0)).more (Nat.le_trans hsz0 X.size)) (by omega) hlen hc1).mono ?_); rintro e wa ⟨rfl, hba⟩; have X := X.trans (hba.mono X.size); obtain ⟨f0, f1, f2⟩ := keep3 HK0.out X)
          | (go_at_call 10; (with_reducible refine (refText_any A1 c1 l _ ((HR1'.out.below (X.mono hsz0)).more (Nat.le_trans hsz0 X.size)) (by omega) hlen hc1 (fun i hi => Nat.le_trans (HT.out i hi) (by omega))).mono ?_); rintro e wa ⟨rfl, rfl⟩)
          | (go_at_call 11; (with_reducible refine (same_any A1 A2 c1 c2 l m _ ((HR1'.out.below (X.mono hsz0)).more (Nat.le_trans hsz0 X.size)) ((HR2'.out.below (X.mono hsz0)).more (Nat.le_trans hsz0 X.size)) (by omega) (by omega) hc1 hc2).mono ?_); rintro e wa ⟨rfl, hba⟩; have X := X.trans (hba.mono X.size); obtain ⟨f0, f1, f2⟩ := keep3 HK0.out X)
          | (go_at_call 12; (with_reducible refine (refSame_any A1 A2 c1 c2 l m _ ((HR1'.out.below (X.mono hsz0)).more (Nat.le_trans hsz0 X.size)) ((HR2'.out.below (X.mono hsz0)).more (Nat.le_trans hsz0 X.size)) (by omega) (by omega) hc1 hc2).mono ?_); rintro e wa ⟨rfl, hba⟩; have X := X.trans (hba.mono X.size); obtain ⟨f0, f1, f2⟩ := keep3 HK0.out X)
          | (go_at_call 11; (with_reducible refine (same_self_any A1 c1 l _ ((HR1'.out.below (X.mono hsz0)).more (Nat.le_trans hsz0 X.size)) (by omega) hc1).mono ?_); rintro e wa ⟨rfl, hba⟩; have X := X.trans (hba.mono X.size); obtain ⟨f0, f1, f2⟩ := keep3 HK0.out X)
          | (go_at_call 13; (with_reducible refine (is_ex t s _).mono ?_); rintro e wa ⟨rfl, hba⟩; have X := X.trans (hba.mono X.size); obtain ⟨f0, f1, f2⟩ := keep3 HK0.out X)
          | (go_at_call 14; (with_reducible refine (refIs_ex t s _).mono ?_); rintro e wa ⟨rfl, hba⟩; have X := X.trans (hba.mono X.size); obtain ⟨f0, f1, f2⟩ := keep3 HK0.out X)
          | (go_at_call 6; (with_reducible refine (awake_any _ (HW0.out.below X)).mono ?_); rintro e wa ⟨rfl, hba⟩; have X := X.trans (hba.mono X.size); obtain ⟨f0, f1, f2⟩ := keep3 HK0.out X))
        all_goals
          go_wp2
          go_ret
          exact ⟨rfl, hb0.trans (X.mono hsz0)⟩
end Go.Proofs.YtiijhlmdgbpkmaaDoor
