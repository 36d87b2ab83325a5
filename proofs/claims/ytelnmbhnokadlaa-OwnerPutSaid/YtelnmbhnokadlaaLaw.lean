/- The first law of layer 4 returns true for every input. Conditions: none. -/
import Derived.Test.YtelnmbhnokadlaaAwake
namespace Go.Proofs.Ytelnmbhnokadlaa
open Go.RowKit
set_option linter.unusedVariables false

theorem back_list {r : List Ow} {w w' : World} {e : Ending} (h : BackL r w e w') : ∃ (A : Option Addr) (c : Nat), e = .returned (.slice A r.length c) ∧ r.length ≤ c ∧ Below w.heap.size w w' ∧ RO w' w'.heap.size A r := by
  obtain ⟨v, rfl, hb, ho⟩ := h
  rcases ho.2 with ⟨rfl, h0⟩ | ⟨g, cap, cur, rfl, hg, hh, hc, hcm, _, _⟩
  · exact ⟨none, 0, by rw [h0], by omega, hb, fun hp => by omega⟩
  · refine ⟨some ⟨g, 0, none⟩, cap, rfl, hc, hb, fun hp => ⟨g, 0, rfl, heap_lt hh, fun i hi => ?_⟩⟩
    obtain ⟨q0, q1⟩ := ocells_at hi
    have ha : ∀ j, (⟨g, 0, none⟩ : Addr).add j = ⟨g, 0 + j, none⟩ := by intro j; unfold Addr.add; split <;> simp_all
    have c0 := ho.cells (g := g) rfl _ _ q0
    have c1 := ho.cells (g := g) rfl _ _ q1
    rw [ha] at c0 c1
    exact ⟨c0, c1⟩

theorem law_put_big (o : Ow) (A1 A2 : Option Addr) (n1 n2 c1 c2 : Nat) (w : World) (hbig : 20 < n1 ∨ 20 < n2) :
    Calls Try.prog 3 #[.agg #[.int .i64 o.kind, .int .i64 o.n], .slice A1 n1 c1, .slice A2 n2 c2] w fun e w' => e = .returned (.bool true) ∧ Below w.heap.size w w' := by
  have HB0 : Hid (Below w.heap.size w (w.alloc (.cells #[.int .i64 o.kind, .int .i64 o.n] 23))) := Lib.hid ((Below.refl _ w).alloc (Nat.le_refl _) _)
  go_enter Try.func3, Try.ntmps3
  go_wp2_with fail
  all_goals
    refine (awake_any _).mono ?_
    rintro e w1 ⟨rfl, hb1⟩
    go_wp2
    go_ret
    exact ⟨rfl, HB0.out.trans (hb1.mono HB0.out.size)⟩

set_option maxHeartbeats 4000000 in
theorem law_put_small (o : Ow) (A1 A2 : Option Addr) (c1 c2 : Nat) (l m : List Ow) (w : World) (hr1 : RO w w.heap.size A1 l) (hr2 : RO w w.heap.size A2 m) (hn1 : l.length ≤ 20) (hn2 : m.length ≤ 20) (hc1 : l.length ≤ c1) (hc2 : m.length ≤ c2) :
    Calls Try.prog 3 #[.agg #[.int .i64 o.kind, .int .i64 o.n], .slice A1 l.length c1, .slice A2 m.length c2] w fun e w' => e = .returned (.bool true) ∧ Below w.heap.size w w' := by
  obtain ⟨W0, hW0⟩ : ∃ W0, W0 = w.alloc (.cells #[.int .i64 o.kind, .int .i64 o.n] 23) := ⟨_, rfl⟩
  have hb0 : Below w.heap.size w W0 := by rw [hW0]; exact (Below.refl _ w).alloc (Nat.le_refl _) _
  have hk0 : W0.heap[w.heap.size]? = some (.cells #[.int .i64 o.kind, .int .i64 o.n] 23 (0, 0)) := by rw [hW0]; exact heap_new w _
  obtain ⟨y, hy⟩ : ∃ y, y = o.put l := ⟨_, rfl⟩
  obtain ⟨r, hr⟩ : ∃ r, r = l.map fun o => o.put m := ⟨_, rfl⟩
  have hrl : r.length ≤ 1000 := by rw [hr, List.length_map]; omega
  have HB0 := Lib.hid hb0
  have HK0 := Lib.hid hk0
  have HY := Lib.hid hy
  have HR := Lib.hid hr
  have HR1 : Hid (RO W0 W0.heap.size A1 l) := Lib.hid ((hr1.below hb0).more hb0.size)
  have HR2 : Hid (RO W0 W0.heap.size A2 m) := Lib.hid ((hr2.below hb0).more hb0.size)
  have hC6 : ∀ W, Below W0.heap.size W0 W → Calls Try.prog 6 #[.agg #[.int .i64 o.kind, .int .i64 o.n], .slice A1 l.length c1] W (Back y W) := fun W X => by rw [HY.out]; exact put_any o A1 c1 l W ((HR1.out.below X).more X.size) (by omega) hc1
  have hC7 : ∀ W, Below W0.heap.size W0 W → Calls Try.prog 7 #[.agg #[.int .i64 o.kind, .int .i64 o.n], .slice A1 l.length c1] W (Back y W) := fun W X => by rw [HY.out]; exact refPut_any o A1 c1 l W ((HR1.out.below X).more X.size) (by omega) hc1
  have hC9 : ∀ W, Below W0.heap.size W0 W → Calls Try.prog 9 #[.slice A1 l.length c1, .slice A2 m.length c2] W (BackL r W) := fun W X => by rw [HR.out]; exact all_any A1 A2 c1 c2 l m W ((HR1.out.below X).more X.size) ((HR2.out.below X).more X.size) (by omega) (by omega) hc1 hc2
  have hC10 : ∀ W, Below W0.heap.size W0 W → Calls Try.prog 10 #[.slice A1 l.length c1, .slice A2 m.length c2] W (BackL r W) := fun W X => by rw [HR.out]; exact refAll_any A1 A2 c1 c2 l m W ((HR1.out.below X).more X.size) ((HR2.out.below X).more X.size) (by omega) (by omega) hc1 hc2
  have C6 := Lib.hid hC6
  have C7 := Lib.hid hC7
  have C9 := Lib.hid hC9
  have C10 := Lib.hid hC10
  clear hb0 hk0 hy hr hr1 hr2 hC6 hC7 hC9 hC10
  go_enter Try.func3, Try.ntmps3
  go_wp2_with fail
  rw [← hW0]
  clear hW0
  have X : Below W0.heap.size W0 W0.drew := (Below.refl _ _).drew
  obtain ⟨f0, f1, f2⟩ := keep2 HK0.out (Below.refl _ _)
  go_region_with (first
    | (go_at_call 6; (with_reducible refine (C6.out _ X).mono ?_); rintro e wa ⟨rfl, hba⟩; have X := X.trans (hba.mono X.size); obtain ⟨f0, f1, f2⟩ := keep2 HK0.out X)
    | (go_at_call 7; (with_reducible refine (C7.out _ X).mono ?_); rintro e wa ⟨rfl, hba⟩; have X := X.trans (hba.mono X.size); obtain ⟨f0, f1, f2⟩ := keep2 HK0.out X)
    | (go_at_call 9; (with_reducible refine (C9.out _ X).mono ?_); intro e wa hba; obtain ⟨AA, ca, rfl, hca, hba, hra⟩ := back_list hba; have HRA := Lib.hid hra; clear hra; have X := X.trans (hba.mono X.size); obtain ⟨f0, f1, f2⟩ := keep2 HK0.out X)
    | (go_at_call 10; (with_reducible refine (C10.out _ X).mono ?_); intro e wb hbb; obtain ⟨AB, cb, rfl, hcb, hbb, hrb⟩ := back_list hbb; have HRB := Lib.hid hrb; clear hrb; have XA := (Below.refl _ _).trans hbb; have X := X.trans (hbb.mono X.size); obtain ⟨f0, f1, f2⟩ := keep2 HK0.out X)
    | (go_at_call 8; (with_reducible refine (same_any _ _ _ _ r _ ((HRA.out.below XA).more XA.size) HRB.out hrl hca hcb).mono ?_); rintro e wa ⟨rfl, hba⟩; have X := X.trans (hba.mono X.size); obtain ⟨f0, f1, f2⟩ := keep2 HK0.out X)
    | (go_at_call 5; (with_reducible refine (awake_any _).mono ?_); rintro e wa ⟨rfl, hba⟩; have X := X.trans (hba.mono X.size); obtain ⟨f0, f1, f2⟩ := keep2 HK0.out X))
  all_goals
    go_wp2
    go_ret
    exact ⟨rfl, HB0.out.trans (X.mono HB0.out.size)⟩
end Go.Proofs.Ytelnmbhnokadlaa
