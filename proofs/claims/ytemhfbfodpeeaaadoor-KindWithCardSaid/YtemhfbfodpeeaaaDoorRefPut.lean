/- What an owner becomes, put for a list, as the document's answer tells it. Conditions: a list has at most 1000 owners. -/
import Derived.Test.YtemhfbfodpeeaaaDoorPut
namespace Go.Proofs.YtemhfbfodpeeaaaDoor
open Go.RowKit
set_option linter.unusedVariables false

theorem ref_hit (o : Ow) (l : List Ow) (z : Int) (k : Nat) (hp : o.put l = Ow.at_ z l) (hz : (k : Int) = z) (h : k < l.length) : o.put l = ⟨l[k].kind, l[k].n⟩ := hp.trans (Ow.at_in k hz.symm h)
theorem ref_out (o : Ow) (l : List Ow) (z : Int) (k : Nat) (hp : o.put l = Ow.at_ z l) (hz : z < 0 ∨ (k : Int) ≤ z) (h : ¬ k < l.length) : o.put l = ⟨8, 0⟩ := hp.trans (Ow.at_out (by omega))

set_option maxHeartbeats 1000000 in
theorem refPut_any (o : Ow) (A : Option Addr) (c : Nat) (l : List Ow) (w : World) (hr : RO w w.heap.size A l) (hn : l.length ≤ 1000) (hc : l.length ≤ c) :
    Calls Tryd.prog 29 #[.agg #[.int .i64 o.kind, .int .i64 o.n], .slice A l.length c] w (Back (o.put l) w) := by
  have HR : Hid (RO ((w.alloc (.cells #[.int .i64 o.kind, .int .i64 o.n] 23)).alloc (.cells #[.int .i64 0, .int .i64 0] 23)) w.heap.size A l) := Lib.hid (hr.below (below2 w _ _))
  clear hr
  obtain ⟨k, z⟩ := o
  by_cases h3 : k = 3
  · subst h3
    have HP : Hid (Ow.put ⟨3, z⟩ l = Ow.at_ z l) := Lib.hid (Ow.put_three rfl)
    go_enter Tryd.func29, Tryd.ntmps29
    go_wp2
    go_loop [6] (fun i => ∃ k : Nat, k ≤ l.length ∧ i = .int .i64 k ∧ Hid (z < 0 ∨ (k : Int) ≤ z)) (fun i => l.length - (intOf i).toNat)
    case atStart => exact ⟨0, by omega, rfl, Lib.hid (by omega)⟩
    case round =>
      obtain ⟨k, hk, rfl, hzk⟩ := hrel
      by_cases hlt : k < l.length
      · obtain ⟨b, off, rfl, hB, q0, q1⟩ := HR.out.at_ hlt
        obtain ⟨x, hx⟩ : ∃ x, x = l[k] := ⟨_, rfl⟩
        rw [← hx] at q0 q1
        have HX := Lib.hid hx
        clear hx
        by_cases he : (k : Int) = z
        · have HE := Lib.hid (ref_hit _ l _ k HP.out he hlt)
          have e0 : ((k : Int) == z) = true := by simpa using he
          clear he
          go_wp2
          exact bodyPost_ret (v := .agg #[.int .i64 x.kind, .int .i64 x.n]) (by simp [results, Tryd.results29, go_sem]) rfl (back_of (by rw [HX.out]; exact HE.out) (below2 w _ _))
        · have e0 : ((k : Int) == z) = false := by simpa using he
          have HN : Hid (z < 0 ∨ ((k + 1 : Nat) : Int) ≤ z) := Lib.hid (by have := hzk.out; omega)
          clear he
          go_wp2
          go_round
          case rel => exact ⟨k + 1, by omega, by go_num, HN⟩
          case measure => simp [intOf]; omega
      · have HE := Lib.hid (ref_out _ l _ k HP.out hzk.out hlt)
        go_wp2
        exact bodyPost_ret (v := .agg #[.int .i64 8, .int .i64 0]) (by simp [results, Tryd.results29, go_sem]) rfl (back_of HE.out (below2 w _ _))
  · by_cases h2 : k = 2
    · subst h2
      clear h3
      by_cases hl : 0 < l.length
      · obtain ⟨b, off, rfl, hB, q0, q1⟩ := HR.out.at_ hl
        have HE := Lib.hid (put_first (n := z) hl)
        obtain ⟨x, hx⟩ : ∃ x, x = l[0] := ⟨_, rfl⟩
        rw [← hx] at q0 q1
        have HX := Lib.hid hx
        clear hx
        simp only [Nat.zero_mul, Nat.add_zero] at q0 q1
        obtain ⟨n, hn0⟩ : ∃ n, n = l.length := ⟨_, rfl⟩
        rw [← hn0] at hn hc hl ⊢
        clear hn0
        go_enter Tryd.func29, Tryd.ntmps29
        go_wp2
        go_loop [6] (fun i => i = .int .i64 0) (fun i => 0)
        case atStart => rfl
        case round =>
          subst hrel
          go_wp2
          exact bodyPost_ret (v := .agg #[.int .i64 x.kind, .int .i64 x.n]) (by simp [results, Tryd.results29, go_sem]) rfl (back_of (by rw [HX.out]; exact HE.out) (below2 w _ _))
      · have hl0 : l.length = 0 := by omega
        have HE := Lib.hid (put_none (n := z) hl0)
        rw [hl0]
        clear hl hl0
        go_enter Tryd.func29, Tryd.ntmps29
        go_wp2
        go_loop [6] (fun i => i = .int .i64 0) (fun i => 0)
        case atStart => rfl
        case round =>
          subst hrel
          go_wp2
          exact bodyPost_ret (v := .agg #[.int .i64 8, .int .i64 0]) (by simp [results, Tryd.results29, go_sem]) rfl (back_of HE.out (below2 w _ _))
    · have HE := Lib.hid (put_same (n := z) (l := l) h2 h3)
      have e3 : (k == 3) = false := by simpa using h3
      have e2 : (k == 2) = false := by simpa using h2
      have e3' : (k != 3) = true := by simpa using h3
      have e2' : (k != 2) = true := by simpa using h2
      clear h2 h3
      go_enter Tryd.func29, Tryd.ntmps29
      go_wp2
      exact bodyPost_ret (v := .agg #[.int .i64 k, .int .i64 z]) (by simp [results, Tryd.results29, go_sem]) rfl (back_of HE.out (below2 w _ _))
end Go.Proofs.YtemhfbfodpeeaaaDoor
