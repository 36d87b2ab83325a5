/- The first law of layer 3 returns true for every input. Conditions: the table of words lies in memory. -/
import Derived.Test.YtiijhlmdgbpkmaaDoorAwake
namespace Go.Proofs.YtiijhlmdgbpkmaaDoor
open Go.RowKit
set_option linter.unusedVariables false

theorem tcells_at {r : List Tk.Tok} {k : Nat} (h : k < r.length) : (tcells r)[k * 3]? = some (.int .i64 (r[k].kind : Int)) ∧ (tcells r)[k * 3 + 1]? = some (.string r[k].text) ∧ (tcells r)[k * 3 + 2]? = some (.int .i64 (r[k].pos : Int)) := by
  have hs : r = r.take k ++ r[k] :: r.drop (k + 1) := by
    rw [← List.drop_eq_getElem_cons h, List.take_append_drop]
  have ht : tcells r = tcells (r.take k) ++ (tcell r[k] ++ tcells (r.drop (k + 1))) := by
    conv => lhs; rw [hs]
    unfold tcells
    rw [List.flatMap_append, List.flatMap_cons]
  have hl : (tcells (r.take k)).length = k * 3 := by rw [tcells_len, List.length_take]; omega
  rw [ht]
  refine ⟨?_, ?_, ?_⟩
  · rw [List.getElem?_append_right (by omega), hl, Nat.sub_self]; rfl
  · rw [List.getElem?_append_right (by omega), hl, Nat.add_sub_cancel_left]; rfl
  · rw [List.getElem?_append_right (by omega), hl, Nat.add_sub_cancel_left]; rfl

/-- The two cells of the newest block stay, whatever is made behind it. -/
theorem two {w w1 : World} {a b : Value} {t : TypeId} (hb : Below (w.alloc (.cells #[a, b] t)).heap.size (w.alloc (.cells #[a, b] t)) w1) :
    w1.cell? ⟨w.heap.size, 0, none⟩ = some a ∧ w1.cell? ⟨w.heap.size, 1, none⟩ = some b ∧ w.heap.size < w1.heap.size ∧ Below w.heap.size w w1 := by
  have hn : (w.alloc (.cells #[a, b] t)).heap[w.heap.size]? = some (.cells #[a, b] t (0, 0)) := heap_new w _
  have hs : (w.alloc (.cells #[a, b] t)).heap.size = w.heap.size + 1 := by simp
  have hh : w1.heap[w.heap.size]? = some (.cells #[a, b] t (0, 0)) := (hb.block w.heap.size (by omega)).trans hn
  exact ⟨cell_of_row w1 _ 0 _ t (0, 0) hh, cell_of_row w1 _ 1 _ t (0, 0) hh, by have := hb.size; omega, ((Below.refl _ w).alloc (Nat.le_refl _) _).trans (hb.mono (by omega))⟩

theorem law_of_big (s : ByteArray) (h : 400 < s.size) (w : World) (hW : WordsIn w) : Calls Tryd.prog 3 #[.string s] w fun e w' => e = .returned (.bool true) ∧ Below w.heap.size w w' := by
  go_enter Tryd.func3, Tryd.ntmps3
  go_wp2_with fail
  refine (awake_any _ hW).mono ?_
  rintro e w1 ⟨rfl, hb⟩
  go_wp2
  go_ret
  exact ⟨rfl, hb⟩

theorem law_of_err (s : ByteArray) (h : s.size ≤ 400) (x a : Nat) (hr : Tk.ofL s.data.toList = .err x a) (w : World) (hW : WordsIn w) : Calls Tryd.prog 3 #[.string s] w fun e w' => e = .returned (.bool true) ∧ Below w.heap.size w w' := by
  have HR := Lib.hid hr
  clear hr
  go_enter Tryd.func3, Tryd.ntmps3
  go_wp2_with fail
  refine (of_any s (by omega) _ hW).mono ?_
  rintro e w1 hp
  obtain ⟨rfl, hb1⟩ := of_err hp HR.out
  clear hp
  go_wp2_with fail
  refine (refOf_any s (by omega) _).mono ?_
  rintro e w2 hp
  obtain ⟨rfl, hb2⟩ := of_err hp HR.out
  clear hp
  obtain ⟨k0, k1, hz1, hb12⟩ := two hb2
  have hbw : Below w.heap.size w w2 := hb1.trans (hb12.mono hb1.size)
  have hsz := hbw.size
  clear hb2
  go_wp2
  go_loop [7] (fun i => i = .int .i64 0) (fun i => 0)
  case atStart => rfl
  case round =>
    subst hrel
    go_wp2_with fail
    refine (awake_any _ ((hW.below hbw).below ((Below.refl _ _).alloc (Nat.le_refl _) _))).mono ?_
    rintro e w3 ⟨rfl, hb3⟩
    go_wp2
    go_ret
    exact ⟨rfl, (hbw.alloc hsz _).trans (hb3.mono (by simp; omega))⟩

theorem law_of_ok (s : ByteArray) (h : s.size ≤ 400) (r : List Tk.Tok) (hr : Tk.ofL s.data.toList = .ok r) (w : World) (hW : WordsIn w) : Calls Tryd.prog 3 #[.string s] w fun e w' => e = .returned (.bool true) ∧ Below w.heap.size w w' := by
  have HR := Lib.hid hr
  clear hr
  go_enter Tryd.func3, Tryd.ntmps3
  go_wp2_with fail
  refine (of_any s (by omega) _ hW).mono ?_
  rintro e w1 hp
  obtain ⟨g1, c1, rfl, hg1, hl1, hc1, hm1, hcell1, hb1⟩ := of_ok hp HR.out
  clear hp
  have HC1 := Lib.hid hcell1
  clear hcell1
  go_wp2_with fail
  refine (refOf_any s (by omega) _).mono ?_
  rintro e w2 hp
  obtain ⟨g2, c2, rfl, hg2, hl2, hc2, hm2, hcell2, hb2⟩ := of_ok hp HR.out
  clear hp
  have HC2 := Lib.hid hcell2
  obtain ⟨k0, k1, hz1, hb12⟩ := two hb2
  have hbw : Below w.heap.size w w2 := hb1.trans (hb12.mono hb1.size)
  have hsz := hbw.size
  clear hcell2 hb2
  have hrs := Tk.ofL_len HR.out
  have hrs' : r.length ≤ s.size + 1 := hrs
  clear hrs
  go_wp2
  go_loopw [7] (fun i wr => ∃ k : Nat, k ≤ r.length ∧ i = .int .i64 k ∧ Below w2.heap.size w2 wr) (fun i _ => r.length - (intOf i).toNat)
  case atStart => exact ⟨0, by omega, rfl, (Below.refl _ _).alloc (Nat.le_refl _) _⟩
  case round =>
    obtain ⟨k, hk, rfl, hbr⟩ := hrel
    by_cases hlt : k < r.length
    · obtain ⟨q0, q1, q2⟩ := tcells_at hlt
      have e0 := (hbr.cell (p := ⟨g1, k * 3, none⟩) (by show g1 < _; omega)).trans ((hb12.cell (p := ⟨g1, k * 3, none⟩) hl1).trans (HC1.out _ _ q0))
      have e1 := (hbr.cell (p := ⟨g1, k * 3 + 1, none⟩) (by show g1 < _; omega)).trans ((hb12.cell (p := ⟨g1, k * 3 + 1, none⟩) hl1).trans (HC1.out _ _ q1))
      have e2 := (hbr.cell (p := ⟨g1, k * 3 + 2, none⟩) (by show g1 < _; omega)).trans ((hb12.cell (p := ⟨g1, k * 3 + 2, none⟩) hl1).trans (HC1.out _ _ q2))
      have f0 := (hbr.cell (p := ⟨g2, k * 3, none⟩) hl2).trans (HC2.out _ _ q0)
      have f1 := (hbr.cell (p := ⟨g2, k * 3 + 1, none⟩) hl2).trans (HC2.out _ _ q1)
      have f2 := (hbr.cell (p := ⟨g2, k * 3 + 2, none⟩) hl2).trans (HC2.out _ _ q2)
      obtain ⟨y, hy⟩ : ∃ y, y = r[k] := ⟨_, rfl⟩
      rw [← hy] at e0 e1 e2 f0 f1 f2
      clear q0 q1 q2 hy
      go_wp2
      go_quiet (fail)
      go_wp2
      go_roundw
      case rel => exact ⟨k + 1, by omega, by go_num, below_drewN hbr nq⟩
      case measure => simp [intOf]; omega
    · go_wp2_with fail
      refine (awake_any _ ((hW.below hbw).below hbr)).mono ?_
      rintro e w3 ⟨rfl, hb3⟩
      go_wp2
      go_ret
      exact ⟨rfl, (hbw.trans (hbr.mono hsz)).trans (hb3.mono (by have := hbr.size; omega))⟩

theorem law_of (s : ByteArray) (w : World) (hW : WordsIn w) : Calls Tryd.prog 3 #[.string s] w fun e w' => e = .returned (.bool true) ∧ Below w.heap.size w w' := by
  rcases Nat.lt_or_ge 400 s.size with h | h
  · exact law_of_big s h w hW
  · cases hr : Tk.ofL s.data.toList with
    | err x a => exact law_of_err s h x a hr w hW
    | ok r => exact law_of_ok s h r hr w hW
end Go.Proofs.YtiijhlmdgbpkmaaDoor
