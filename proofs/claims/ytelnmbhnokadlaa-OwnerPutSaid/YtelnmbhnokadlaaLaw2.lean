/- The second law of layer 4 returns true for every input. Conditions: none. -/
import Derived.Test.YtelnmbhnokadlaaLaw
import Derived.Deep.DeepCutAuto
import Derived.Deep.RegionHeld3
namespace Go.Proofs.Ytelnmbhnokadlaa
open Go.RowKit
set_option linter.unusedVariables false

/-- Three owners lie in memory, each in a block of its own, and nothing that was there has changed. -/
def Three (o p q : Ow) (a b c : Value) (w wx : World) : Prop :=
  ∃ g7 g8 g9 : Nat, a = .pointer (some ⟨g7, 0, none⟩) ∧ b = .pointer (some ⟨g8, 0, none⟩) ∧ c = .pointer (some ⟨g9, 0, none⟩) ∧ Below w.heap.size w wx ∧
    wx.heap[g7]? = some (.cells #[.int .i64 o.kind, .int .i64 o.n] 23 (0, 0)) ∧ wx.heap[g8]? = some (.cells #[.int .i64 p.kind, .int .i64 p.n] 23 (0, 0)) ∧ wx.heap[g9]? = some (.cells #[.int .i64 q.kind, .int .i64 q.n] 23 (0, 0))

theorem four (w : World) (A B C D : Obj) : Below w.heap.size w ((((w.alloc A).alloc B).alloc C).alloc D).drew ∧ ((((w.alloc A).alloc B).alloc C).alloc D).drew.heap[w.heap.size + 1]? = some B ∧
    ((((w.alloc A).alloc B).alloc C).alloc D).drew.heap[w.heap.size + 1 + 1]? = some C ∧ ((((w.alloc A).alloc B).alloc C).alloc D).drew.heap[w.heap.size + 1 + 1 + 1]? = some D := by
  have s1 : (w.alloc A).heap.size = w.heap.size + 1 := by simp
  have s2 : ((w.alloc A).alloc B).heap.size = w.heap.size + 1 + 1 := by simp
  have s3 : (((w.alloc A).alloc B).alloc C).heap.size = w.heap.size + 1 + 1 + 1 := by simp
  have n1 := heap_new (w.alloc A) B
  have n2 := heap_new ((w.alloc A).alloc B) C
  have n3 := heap_new (((w.alloc A).alloc B).alloc C) D
  rw [s1] at n1
  rw [s2] at n2
  rw [s3] at n3
  refine ⟨(((((Below.refl _ w).alloc (Nat.le_refl _) A).alloc (by omega) B).alloc (by omega) C).alloc (by omega) D).drew, ?_, ?_, n3⟩
  · exact (Below.heap_alloc _ _ _ (by omega)).trans ((Below.heap_alloc _ _ _ (by omega)).trans n1)
  · exact (Below.heap_alloc _ _ _ (by omega)).trans n2

/-- Three owners stay where they lie, and nothing else that was there has changed. -/
def Held (o p q : Ow) (g7 g8 g9 : Nat) (W0 W : World) : Prop :=
  W.cell? ⟨g7, 0, none⟩ = some (.int .i64 o.kind) ∧ W.cell? ⟨g7, 1, none⟩ = some (.int .i64 o.n) ∧ W.cell? ⟨g8, 0, none⟩ = some (.int .i64 p.kind) ∧ W.cell? ⟨g8, 1, none⟩ = some (.int .i64 p.n) ∧
    W.cell? ⟨g9, 0, none⟩ = some (.int .i64 q.kind) ∧ W.cell? ⟨g9, 1, none⟩ = some (.int .i64 q.n) ∧ Below W0.heap.size W0 W
theorem held {o p q : Ow} {g7 g8 g9 : Nat} {W0 W : World} (h7 : W0.heap[g7]? = some (.cells #[.int .i64 o.kind, .int .i64 o.n] 23 (0, 0))) (h8 : W0.heap[g8]? = some (.cells #[.int .i64 p.kind, .int .i64 p.n] 23 (0, 0))) (h9 : W0.heap[g9]? = some (.cells #[.int .i64 q.kind, .int .i64 q.n] 23 (0, 0)))
    (X : Below W0.heap.size W0 W) : Held o p q g7 g8 g9 W0 W :=
  ⟨(keep2 h7 X).1, (keep2 h7 X).2.1, (keep2 h8 X).1, (keep2 h8 X).2.1, (keep2 h9 X).1, (keep2 h9 X).2.1, X⟩
theorem Held.x {o p q : Ow} {g7 g8 g9 : Nat} {W0 W : World} (h : Held o p q g7 g8 g9 W0 W) : Below W0.heap.size W0 W := h.2.2.2.2.2.2

set_option maxHeartbeats 4000000 in
theorem law_twice (o p q : Ow) (A1 A2 : Option Addr) (c1 c2 : Nat) (l m : List Ow) (w : World) (hr1 : RO w w.heap.size A1 l) (hr2 : RO w w.heap.size A2 m) (hc1 : l.length ≤ c1) (hc2 : m.length ≤ c2) :
    Calls Try.prog 4 #[.agg #[.int .i64 o.kind, .int .i64 o.n, .int .i64 p.kind, .int .i64 p.n, .int .i64 q.kind, .int .i64 q.n], .slice A1 l.length c1, .slice A2 m.length c2] w fun e w' => e = .returned (.bool true) ∧ Below w.heap.size w w' := by
  have HR1 := Lib.hid hr1
  have HR2 := Lib.hid hr2
  clear hr1 hr2
  go_enter Try.func4, Try.ntmps4
  go_upto_region 1 with fail
  go_cut [7, 8, 9] (fun a b c wx => Three o p q a b c w wx)
  case first =>
    go_region
    all_goals (go_wp2_with fail; go_meet; exact ⟨_, _, _, rfl, rfl, rfl, (four w _ _ _ _).1, by first | exact (four w _ _ _ _).2.1 | exact (four w _ _ _ _).2.2.1 | exact (four w _ _ _ _).2.2.2, by first | exact (four w _ _ _ _).2.1 | exact (four w _ _ _ _).2.2.1 | exact (four w _ _ _ _).2.2.2, by first | exact (four w _ _ _ _).2.1 | exact (four w _ _ _ _).2.2.1 | exact (four w _ _ _ _).2.2.2⟩)
  case rest =>
    obtain ⟨g7, g8, g9, rfl, rfl, rfl, hb, h7, h8, h9⟩ := hcut
    obtain ⟨W1, hW1⟩ : ∃ W1, W1 = wc := ⟨_, rfl⟩; subst hW1
    have HB := Lib.hid hb
    have H7 := Lib.hid h7
    have H8 := Lib.hid h8
    have H9 := Lib.hid h9
    clear hb h7 h8 h9
    by_cases hbig : 20 < l.length ∨ 20 < m.length
    · obtain ⟨n1, h1⟩ : ∃ n, n = l.length := ⟨_, rfl⟩
      obtain ⟨n2, h2⟩ : ∃ n, n = m.length := ⟨_, rfl⟩
      rw [← h1, ← h2] at hbig ⊢
      clear h1 h2
      go_wp2_with fail
      all_goals
        refine (awake_any _).mono ?_
        rintro e w1 ⟨rfl, hb1⟩
        go_wp2
        go_ret
        exact ⟨rfl, HB.out.trans (hb1.mono HB.out.size)⟩
    · have hn1 : l.length ≤ 20 := by omega
      have hn2 : m.length ≤ 20 := by omega
      clear hbig
      obtain ⟨x, hx⟩ : ∃ x, x = Ow.ord o p := ⟨_, rfl⟩
      obtain ⟨y, hy⟩ : ∃ y, y = Ow.ord p q := ⟨_, rfl⟩
      obtain ⟨t, ht⟩ : ∃ t, t = Ow.ord p o := ⟨_, rfl⟩
      obtain ⟨z, hz⟩ : ∃ z, z = Ow.ord o q := ⟨_, rfl⟩
      obtain ⟨HS, hHS⟩ : ∃ HS : World → Prop, HS = Held o p q g7 g8 g9 W1 := ⟨_, rfl⟩
      have HN : Hid (∀ W, Below W1.heap.size W1 W → HS W) := Lib.hid (fun W X => by rw [hHS]; exact held H7.out H8.out H9.out X)
      have HM : Hid (∀ W W', HS W → Below W.heap.size W W' → HS W') := Lib.hid (fun W W' h hb => by rw [hHS] at h ⊢; exact held H7.out H8.out H9.out (h.x.trans (hb.mono h.x.size)))
      have HO : Hid (∀ W, HS W → Held o p q g7 g8 g9 W1 W) := Lib.hid (fun W h => by rw [hHS] at h; exact h)
      have CO : Hid (∀ (a b : Ow) (v : Int), v = Ow.ord a b → ∀ W, HS W → Calls Try.prog 11 #[.agg #[.int .i64 a.kind, .int .i64 a.n], .agg #[.int .i64 b.kind, .int .i64 b.n]] W fun e w' => e = .returned (.int .i64 v) ∧ HS w') :=
        Lib.hid (fun a b v hv W h => by rw [hv]; exact (order_any a b W).mono fun e w' ⟨he, hb⟩ => ⟨he, HM.out _ _ h hb⟩)
      have C1 := Lib.hid (CO.out o p x hx)
      have C2 := Lib.hid (CO.out p q y hy)
      have C3 := Lib.hid (CO.out p o t ht)
      have C4 := Lib.hid (CO.out o q z hz)
      have HX := Lib.hid hx
      have HY := Lib.hid hy
      have HT := Lib.hid ht
      have HZ := Lib.hid hz
      clear hx hy ht hz hHS
      go_upto_region 4 with fail
      go_cut [10, 11] (fun a b wx => a = .int .i64 x ∧ b = .int .i64 y ∧ HS wx)
      case first =>
        go_region_held3 (fun w' => w'.cell? ⟨g7, 0, none⟩ = some (.int .i64 o.kind) ∧ w'.cell? ⟨g7, 1, none⟩ = some (.int .i64 o.n) ∧ w'.cell? ⟨g8, 0, none⟩ = some (.int .i64 p.kind) ∧ w'.cell? ⟨g8, 1, none⟩ = some (.int .i64 p.n) ∧ w'.cell? ⟨g9, 0, none⟩ = some (.int .i64 q.kind) ∧ w'.cell? ⟨g9, 1, none⟩ = some (.int .i64 q.n) ∧ HS w')
          (first | exact (show _ ∧ _ from ⟨(HO.out _ hS).1, (HO.out _ hS).2.1, (HO.out _ hS).2.2.1, (HO.out _ hS).2.2.2.1, (HO.out _ hS).2.2.2.2.1, (HO.out _ hS).2.2.2.2.2.1, hS⟩) | (have hS := HN.out _ ((Below.refl _ _).drew); exact ⟨(HO.out _ hS).1, (HO.out _ hS).2.1, (HO.out _ hS).2.2.1, (HO.out _ hS).2.2.2.1, (HO.out _ hS).2.2.2.2.1, (HO.out _ hS).2.2.2.2.2.1, hS⟩))
          (first
            | (go_at_call 11; (with_reducible refine (C1.out _ ?_).mono ?_); (go_split_ands; assumption); rintro e wa ⟨rfl, hS⟩)
            | (go_at_call 11; (with_reducible refine (C2.out _ ?_).mono ?_); (go_split_ands; assumption); rintro e wa ⟨rfl, hS⟩))
        all_goals (go_wp2_with fail; go_meet; exact ⟨rfl, rfl, by go_split_ands; assumption⟩)
      case rest =>
        obtain ⟨rfl, rfl, hbc⟩ := hcut
        obtain ⟨W2, hW2⟩ : ∃ W2, W2 = wc := ⟨_, rfl⟩
        subst hW2
        have HB2 := Lib.hid hbc
        clear hbc
        go_upto_region 5 with fail
        go_cut [60] (fun a wx => a = .bool false ∧ HS wx)
        case first =>
          obtain ⟨f0, f1, f2, f3, f4, f5, X⟩ := HO.out _ HB2.out
          go_wp2_with fail
          refine (C3.out _ HB2.out).mono ?_
          rintro e w3 ⟨rfl, hS3⟩
          obtain ⟨f0, f1, f2, f3, f4, f5, X⟩ := HO.out _ hS3
          have HY1 : Hid (y = -1 ∨ 0 ≤ y) := Lib.hid (by rcases Ow.ord_ways p q with h | h | h <;> rw [HY.out] <;> omega)
          have HZ1 : Hid (x = -1 → y = -1 → z = -1) := Lib.hid (fun h1 h2 => by rw [HZ.out]; exact Ow.ord_less (HX.out ▸ h1) (HY.out ▸ h2))
          by_cases hop : o = p
          · obtain rfl : x = 0 := by rw [HX.out, hop]; rcases Ow.ord_ways p p with h | h | h <;> omega
            obtain rfl : t = 0 := by rw [HT.out, hop]; rcases Ow.ord_ways p p with h | h | h <;> omega
            subst hop
            go_wp2_with fail
            go_meet
            exact ⟨rfl, hS3⟩
          · have HXT : Hid ((x = -1 ∧ t = 1) ∨ (x = 1 ∧ t = -1)) := Lib.hid (by rw [HX.out, HT.out]; exact (Ow.ord_ways o p).elim (fun h => .inl ⟨h.1, h.2.1⟩) (fun h => h.elim (fun h => absurd h.2.2 hop) (fun h => .inr ⟨h.1, h.2.1⟩)))
            by_cases hk : o.kind = p.kind
            · have hn : ¬ o.n = p.n := fun e => hop (by cases o; cases p; simp_all)
              obtain ⟨ok, on⟩ := o
              obtain ⟨pk, pn⟩ := p
              have hk' : ok = pk := hk
              have hn' : ¬ on = pn := hn
              clear hop hk hn
              subst hk'
              rcases HXT.out with ⟨h1, h2⟩ | ⟨h1, h2⟩
              · by_cases hy1 : y = -1
                · obtain rfl : z = -1 := HZ1.out h1 hy1
                  subst h1 h2 hy1
                  go_wp2_with fail
                  refine (C4.out _ hS3).mono ?_
                  rintro e w4 ⟨rfl, hS4⟩
                  go_wp2_with fail
                  go_meet
                  exact ⟨rfl, hS4⟩
                · have hy2 : ¬ y < 0 := by have := HY1.out; omega
                  clear hy1
                  subst h1 h2
                  go_wp2_with fail
                  go_meet
                  exact ⟨rfl, hS3⟩
              · subst h1 h2
                go_wp2_with fail
                go_meet
                exact ⟨rfl, hS3⟩
            · clear hop
              rcases HXT.out with ⟨h1, h2⟩ | ⟨h1, h2⟩
              · by_cases hy1 : y = -1
                · obtain rfl : z = -1 := HZ1.out h1 hy1
                  subst h1 h2 hy1
                  go_wp2_with fail
                  refine (C4.out _ hS3).mono ?_
                  rintro e w4 ⟨rfl, hS4⟩
                  go_wp2_with fail
                  go_meet
                  exact ⟨rfl, hS4⟩
                · have hy2 : ¬ y < 0 := by have := HY1.out; omega
                  clear hy1
                  subst h1 h2
                  go_wp2_with fail
                  go_meet
                  exact ⟨rfl, hS3⟩
              · subst h1 h2
                go_wp2_with fail
                go_meet
                exact ⟨rfl, hS3⟩
        case rest =>
          obtain ⟨rfl, hbc⟩ := hcut
          obtain ⟨W3, hW3⟩ : ∃ W3, W3 = wc := ⟨_, rfl⟩
          subst hW3
          have HB3 := Lib.hid hbc
          clear hbc
          obtain ⟨y1, hy1⟩ : ∃ y1, y1 = o.put l := ⟨_, rfl⟩
          obtain ⟨v, hv⟩ : ∃ v, v = y1.put m := ⟨_, rfl⟩
          obtain ⟨r, hr⟩ : ∃ r, r = l.map fun o => o.put m := ⟨_, rfl⟩
          have hvr : v = o.put r := by rw [hv, hy1, hr]; exact Ow.put_put o l m
          have hrl : r.length ≤ 1000 := by rw [hr, List.length_map]; omega
          have RL : Hid (∀ W, HS W → RO W W.heap.size A1 l) := Lib.hid (fun W h => by
            have X := (HO.out _ h).x
            exact (((HR1.out.below HB.out).more HB.out.size).below X).more X.size)
          have RM : Hid (∀ W, HS W → RO W W.heap.size A2 m) := Lib.hid (fun W h => by
            have X := (HO.out _ h).x
            exact (((HR2.out.below HB.out).more HB.out.size).below X).more X.size)
          have C6a : Hid (∀ W, HS W → Calls Try.prog 6 #[.agg #[.int .i64 o.kind, .int .i64 o.n], .slice A1 l.length c1] W fun e w' => e = .returned (.agg #[.int .i64 y1.kind, .int .i64 y1.n]) ∧ HS w') :=
            Lib.hid (fun W h => by rw [hy1]; exact (put_any o A1 c1 l W (RL.out _ h) (by omega) hc1).mono fun e w' ⟨he, hb⟩ => ⟨he, HM.out _ _ h hb⟩)
          have C6b : Hid (∀ W, HS W → Calls Try.prog 6 #[.agg #[.int .i64 y1.kind, .int .i64 y1.n], .slice A2 m.length c2] W fun e w' => e = .returned (.agg #[.int .i64 v.kind, .int .i64 v.n]) ∧ HS w') :=
            Lib.hid (fun W h => by rw [hv]; exact (put_any y1 A2 c2 m W (RM.out _ h) (by omega) hc2).mono fun e w' ⟨he, hb⟩ => ⟨he, HM.out _ _ h hb⟩)
          have C6c : Hid (∀ W A c, HS W → RO W W.heap.size A r → r.length ≤ c → Calls Try.prog 6 #[.agg #[.int .i64 o.kind, .int .i64 o.n], .slice A r.length c] W fun e w' => e = .returned (.agg #[.int .i64 v.kind, .int .i64 v.n]) ∧ HS w') :=
            Lib.hid (fun W A c h hr hc => by rw [hvr]; exact (put_any o A c r W hr hrl hc).mono fun e w' ⟨he, hb⟩ => ⟨he, HM.out _ _ h hb⟩)
          have C9 : Hid (∀ W, HS W → Calls Try.prog 9 #[.slice A1 l.length c1, .slice A2 m.length c2] W (BackL r W)) :=
            Lib.hid (fun W h => by rw [hr]; exact all_any A1 A2 c1 c2 l m W (RL.out _ h) (RM.out _ h) (by omega) (by omega) hc1 hc2)
          have C5 : Hid (∀ W, HS W → Calls Try.prog 5 #[] W fun e w' => e = .returned (.bool true) ∧ HS w') :=
            Lib.hid (fun W h => (awake_any W).mono fun e w' ⟨he, hb⟩ => ⟨he, HM.out _ _ h hb⟩)
          clear hy1 hv hr hvr
          have X3 := (HO.out _ HB3.out).x
          go_upto_region 7 with fail
          go_region_held3 (fun w' => w'.cell? ⟨g7, 0, none⟩ = some (.int .i64 o.kind) ∧ w'.cell? ⟨g7, 1, none⟩ = some (.int .i64 o.n) ∧ HS w')
            (first | exact (show _ ∧ _ from ⟨(HO.out _ hS).1, (HO.out _ hS).2.1, hS⟩) | (have hS := HM.out _ _ HB3.out ((Below.refl _ _).drew); exact ⟨(HO.out _ hS).1, (HO.out _ hS).2.1, hS⟩))
            (first
              | (go_at_call 6; (with_reducible refine (C6a.out _ ?_).mono ?_); (go_split_ands; assumption); rintro e wa ⟨rfl, hS⟩)
              | (go_at_call 6; (with_reducible refine (C6b.out _ ?_).mono ?_); (go_split_ands; assumption); rintro e wa ⟨rfl, hS⟩)
              | (go_at_call 6; (with_reducible refine (C6c.out _ _ _ ?_ HRA.out hca).mono ?_); (go_split_ands; assumption); rintro e wa ⟨rfl, hS⟩)
              | (go_at_call 9; (with_reducible refine (C9.out _ ?_).mono ?_); (go_split_ands; assumption); intro e wa hba; obtain ⟨AA, ca, rfl, hca, hba, hra⟩ := back_list hba; have HRA := Lib.hid hra; clear hra; have hS := HM.out _ _ (by go_split_ands; assumption) hba)
              | (go_at_call 5; (with_reducible refine (C5.out _ ?_).mono ?_); (go_split_ands; assumption); rintro e wa ⟨rfl, hS⟩))
          all_goals
            go_wp2
            go_ret
            exact ⟨rfl, by go_split_ands; exact HB.out.trans ((HO.out _ (by assumption)).x.mono HB.out.size)⟩
end Go.Proofs.Ytelnmbhnokadlaa
