/- Whether the name at a place is an owner, as the program and the document's answer tell it. Conditions: a token stands at the place. -/
import Derived.Test.YtbcgooofelnkoaaAv
namespace Go.Proofs.Ytbcgooofelnkoaa
open Go.RowKit
set_option linter.unusedVariables false

def sLt : ByteArray := ⟨#[60]⟩
def sThis : ByteArray := ⟨#[116, 104, 105, 115]⟩
def sNull : ByteArray := ⟨#[110, 117, 108, 108]⟩
/-- Whether the name at a place is an owner. -/
def aheadP (l : List Gt) (a : Int) (f : Bool) : Bool :=
  decide ((tokI l (a + 1)).kind = 1) && (!f || (decide ((tokI l (a + 2)).kind = 1) || (tokI l (a + 2)).is sLt || (tokI l (a + 2)).is sThis || (tokI l (a + 2)).is sNull))
theorem val_eq (t : Gt) : t.val = .agg #[.int .i64 t.kind, .string t.text, .int .i64 t.pos] := rfl


set_option maxRecDepth 100000 in
set_option maxHeartbeats 4000000 in
theorem refAhead_any (l : List Gt) (A : Option Addr) (c : Nat) (a : Int) (f : Bool) (w : World) (hr : RT w w.heap.size A l) (hlc : l.length ≤ c) (hcm : c ≤ maxLen) (hbd : l.length ≤ 1000000) (h0 : 0 ≤ a) (h9 : a < l.length) :
    Calls Try.prog 24 #[.slice A l.length c, .int .i64 a, .bool f] w fun x w' => x = .returned (.bool (aheadP l a f)) ∧ Below w.heap.size w w' := by
  have HR := Lib.hid hr
  have HTK1 := Lib.hid (fun W hW => refTok_any l A c (a + 1) W hW hlc hcm)
  have HTK2 := Lib.hid (fun W hW => refTok_any l A c (a + 2) W hW hlc hcm)
  have hb9 : a + 2 ≤ 9223372036854775807 := by omega
  have hb8 : a + 1 ≤ 9223372036854775807 := by omega
  have hb7 : -9223372036854775808 ≤ a + 1 := by omega
  have hb6 : -9223372036854775808 ≤ a + 2 := by omega
  clear hr
  obtain ⟨t1, ht1⟩ : ∃ t, t = tokI l (a + 1) := ⟨_, rfl⟩
  obtain ⟨t2, ht2⟩ : ∃ t, t = tokI l (a + 2) := ⟨_, rfl⟩
  have HA : Hid (aheadP l a f = (decide (t1.kind = 1) && (!f || (decide (t2.kind = 1) || t2.is sLt || t2.is sThis || t2.is sNull)))) := Lib.hid (by rw [ht1, ht2]; rfl)
  have HIS1 : Hid (∀ W, Calls Try.prog 22 #[t2.val, .string ⟨#[60]⟩] W fun e w' => e = .returned (.bool (t2.is sLt)) ∧ Below W.heap.size W w') := Lib.hid (fun W => refIs_any t2 _ W)
  have HIS2 : Hid (∀ W, Calls Try.prog 22 #[t2.val, .string ⟨#[116, 104, 105, 115]⟩] W fun e w' => e = .returned (.bool (t2.is sThis)) ∧ Below W.heap.size W w') := Lib.hid (fun W => refIs_any t2 _ W)
  have HIS3 : Hid (∀ W, Calls Try.prog 22 #[t2.val, .string ⟨#[110, 117, 108, 108]⟩] W fun e w' => e = .returned (.bool (t2.is sNull)) ∧ Below W.heap.size W w') := Lib.hid (fun W => refIs_any t2 _ W)
  rw [← ht1] at HTK1
  rw [← ht2] at HTK2
  obtain ⟨b1, hb1⟩ : ∃ b, b = t2.is sLt := ⟨_, rfl⟩
  obtain ⟨b2, hb2⟩ : ∃ b, b = t2.is sThis := ⟨_, rfl⟩
  obtain ⟨b3, hb3⟩ : ∃ b, b = t2.is sNull := ⟨_, rfl⟩
  rw [← hb1] at HA HIS1
  rw [← hb2] at HA HIS2
  rw [← hb3] at HA HIS3
  clear ht1 ht2 hb1 hb2 hb3
  obtain ⟨k1, x1, p1⟩ := t1
  obtain ⟨k2, x2, p2⟩ := t2
  rw [val_eq] at HTK1 HTK2 HIS1 HIS2 HIS3
  dsimp only at HTK1 HTK2 HIS1 HIS2 HIS3 HA
  by_cases h1 : k1 = 1
  case neg =>
    have hk : (k1 != 1) = true := by simpa using h1
    have hk0 : (k1 == 1) = false := by simpa using h1
    have HV : Hid (aheadP l a f = false) := Lib.hid (by rw [HA.out, decide_eq_false h1]; rfl)
    clear HA h1
    go_enter Try.func24, Try.ntmps24
    go_wp2_with fail
    refine (HTK1.out _ HR.out).mono ?_
    rintro e w1 ⟨rfl, hw1⟩
    go_wp2_with fail
    refine (HTK2.out _ ((HR.out.below hw1).more hw1.size)).mono ?_
    rintro e w2 ⟨rfl, hw2⟩
    go_upto_region 2 with fail
    obtain ⟨z0, z1, z2, z3⟩ := two2 (Below.refl ((w2.alloc (.cells #[.int .i64 k1, .string x1, .int .i64 p1] 55)).alloc (.cells #[.int .i64 k2, .string x2, .int .i64 p2] 55)).heap.size _)
    obtain ⟨W4, hW4⟩ : ∃ W4, W4 = (w2.alloc (.cells #[.int .i64 k1, .string x1, .int .i64 p1] 55)).alloc (.cells #[.int .i64 k2, .string x2, .int .i64 p2] 55) := ⟨_, rfl⟩
    rw [← hW4] at z0 z1 z2 z3 ⊢
    clear hW4
    have HT2 := Lib.hid z1
    have HBA : Hid (Below w.heap.size w W4) := Lib.hid ((hw1.trans (hw2.mono hw1.size)).trans (z2.mono (by have := hw1.size; have := hw2.size; omega)))
    obtain ⟨m0, m1, m2⟩ := row3 z0
    obtain ⟨q0, q1, q2⟩ := row3 z1
    clear z0 z1 z2 hw1 hw2
    go_wp2_with fail
    go_ret
    exact ⟨by rw [HV.out]; rfl, HBA.out⟩
  case pos =>
    subst h1
    cases f with
    | false =>
      have HV : Hid (aheadP l a false = true) := Lib.hid (by rw [HA.out]; rfl)
      clear HA
      go_enter Try.func24, Try.ntmps24
      go_wp2_with fail
      refine (HTK1.out _ HR.out).mono ?_
      rintro e w1 ⟨rfl, hw1⟩
      go_wp2_with fail
      refine (HTK2.out _ ((HR.out.below hw1).more hw1.size)).mono ?_
      rintro e w2 ⟨rfl, hw2⟩
      go_upto_region 2 with fail
      obtain ⟨z0, z1, z2, z3⟩ := two2 (Below.refl ((w2.alloc (.cells #[.int .i64 1, .string x1, .int .i64 p1] 55)).alloc (.cells #[.int .i64 k2, .string x2, .int .i64 p2] 55)).heap.size _)
      obtain ⟨W4, hW4⟩ : ∃ W4, W4 = (w2.alloc (.cells #[.int .i64 1, .string x1, .int .i64 p1] 55)).alloc (.cells #[.int .i64 k2, .string x2, .int .i64 p2] 55) := ⟨_, rfl⟩
      rw [← hW4] at z0 z1 z2 z3 ⊢
      clear hW4
      have HT2 := Lib.hid z1
      have HBA : Hid (Below w.heap.size w W4) := Lib.hid ((hw1.trans (hw2.mono hw1.size)).trans (z2.mono (by have := hw1.size; have := hw2.size; omega)))
      obtain ⟨m0, m1, m2⟩ := row3 z0
      obtain ⟨q0, q1, q2⟩ := row3 z1
      clear z0 z1 z2 hw1 hw2
      go_wp2_with fail
      go_ret
      exact ⟨by rw [HV.out]; rfl, HBA.out⟩
    | true =>
      by_cases h2 : k2 = 1
      case pos =>
        subst h2
        have HV : Hid (aheadP l a true = true) := Lib.hid (by rw [HA.out]; rfl)
        clear HA
        go_enter Try.func24, Try.ntmps24
        go_wp2_with fail
        refine (HTK1.out _ HR.out).mono ?_
        rintro e w1 ⟨rfl, hw1⟩
        go_wp2_with fail
        refine (HTK2.out _ ((HR.out.below hw1).more hw1.size)).mono ?_
        rintro e w2 ⟨rfl, hw2⟩
        go_upto_region 2 with fail
        obtain ⟨z0, z1, z2, z3⟩ := two2 (Below.refl ((w2.alloc (.cells #[.int .i64 1, .string x1, .int .i64 p1] 55)).alloc (.cells #[.int .i64 1, .string x2, .int .i64 p2] 55)).heap.size _)
        obtain ⟨W4, hW4⟩ : ∃ W4, W4 = (w2.alloc (.cells #[.int .i64 1, .string x1, .int .i64 p1] 55)).alloc (.cells #[.int .i64 1, .string x2, .int .i64 p2] 55) := ⟨_, rfl⟩
        rw [← hW4] at z0 z1 z2 z3 ⊢
        clear hW4
        have HT2 := Lib.hid z1
        have HBA : Hid (Below w.heap.size w W4) := Lib.hid ((hw1.trans (hw2.mono hw1.size)).trans (z2.mono (by have := hw1.size; have := hw2.size; omega)))
        obtain ⟨m0, m1, m2⟩ := row3 z0
        obtain ⟨q0, q1, q2⟩ := row3 z1
        clear z0 z1 z2 hw1 hw2
        go_wp2_with fail
        go_ret
        exact ⟨by rw [HV.out]; rfl, HBA.out⟩
      case neg =>
        have hk2 : (k2 == 1) = false := by simpa using h2
        have HA : Hid (aheadP l a true = (b1 || b2 || b3)) := Lib.hid (by rw [HA.out, decide_eq_false h2]; simp)
        clear h2
        cases b1 with
        | true =>
          have HV : Hid (aheadP l a true = true) := Lib.hid (by rw [HA.out]; simp)
          clear HA
          go_enter Try.func24, Try.ntmps24
          go_wp2_with fail
          refine (HTK1.out _ HR.out).mono ?_
          rintro e w1 ⟨rfl, hw1⟩
          go_wp2_with fail
          refine (HTK2.out _ ((HR.out.below hw1).more hw1.size)).mono ?_
          rintro e w2 ⟨rfl, hw2⟩
          go_upto_region 2 with fail
          obtain ⟨z0, z1, z2, z3⟩ := two2 (Below.refl ((w2.alloc (.cells #[.int .i64 1, .string x1, .int .i64 p1] 55)).alloc (.cells #[.int .i64 k2, .string x2, .int .i64 p2] 55)).heap.size _)
          obtain ⟨W4, hW4⟩ : ∃ W4, W4 = (w2.alloc (.cells #[.int .i64 1, .string x1, .int .i64 p1] 55)).alloc (.cells #[.int .i64 k2, .string x2, .int .i64 p2] 55) := ⟨_, rfl⟩
          rw [← hW4] at z0 z1 z2 z3 ⊢
          clear hW4
          have HT2 := Lib.hid z1
          have HBA : Hid (Below w.heap.size w W4) := Lib.hid ((hw1.trans (hw2.mono hw1.size)).trans (z2.mono (by have := hw1.size; have := hw2.size; omega)))
          obtain ⟨m0, m1, m2⟩ := row3 z0
          obtain ⟨q0, q1, q2⟩ := row3 z1
          clear z0 z1 z2 hw1 hw2
          go_wp2_with fail
          refine (HIS1.out _).mono ?_
          rintro e wi0 ⟨rfl, hbi0⟩
          have hti0 := (hbi0.block _ (heap_lt HT2.out)).trans HT2.out
          have HBA := Lib.hid (HBA.out.trans (hbi0.mono HBA.out.size))
          clear q0 q1 q2
          obtain ⟨q0, q1, q2⟩ := row3 hti0
          have HT2 := Lib.hid hti0
          clear hti0 hbi0
          go_wp2_with fail
          go_ret
          exact ⟨by rw [HV.out]; rfl, HBA.out⟩
        | false =>
          cases b2 with
          | true =>
            have HV : Hid (aheadP l a true = true) := Lib.hid (by rw [HA.out]; simp)
            clear HA
            go_enter Try.func24, Try.ntmps24
            go_wp2_with fail
            refine (HTK1.out _ HR.out).mono ?_
            rintro e w1 ⟨rfl, hw1⟩
            go_wp2_with fail
            refine (HTK2.out _ ((HR.out.below hw1).more hw1.size)).mono ?_
            rintro e w2 ⟨rfl, hw2⟩
            go_upto_region 2 with fail
            obtain ⟨z0, z1, z2, z3⟩ := two2 (Below.refl ((w2.alloc (.cells #[.int .i64 1, .string x1, .int .i64 p1] 55)).alloc (.cells #[.int .i64 k2, .string x2, .int .i64 p2] 55)).heap.size _)
            obtain ⟨W4, hW4⟩ : ∃ W4, W4 = (w2.alloc (.cells #[.int .i64 1, .string x1, .int .i64 p1] 55)).alloc (.cells #[.int .i64 k2, .string x2, .int .i64 p2] 55) := ⟨_, rfl⟩
            rw [← hW4] at z0 z1 z2 z3 ⊢
            clear hW4
            have HT2 := Lib.hid z1
            have HBA : Hid (Below w.heap.size w W4) := Lib.hid ((hw1.trans (hw2.mono hw1.size)).trans (z2.mono (by have := hw1.size; have := hw2.size; omega)))
            obtain ⟨m0, m1, m2⟩ := row3 z0
            obtain ⟨q0, q1, q2⟩ := row3 z1
            clear z0 z1 z2 hw1 hw2
            go_wp2_with fail
            refine (HIS1.out _).mono ?_
            rintro e wi0 ⟨rfl, hbi0⟩
            have hti0 := (hbi0.block _ (heap_lt HT2.out)).trans HT2.out
            have HBA := Lib.hid (HBA.out.trans (hbi0.mono HBA.out.size))
            clear q0 q1 q2
            obtain ⟨q0, q1, q2⟩ := row3 hti0
            have HT2 := Lib.hid hti0
            clear hti0 hbi0
            go_wp2_with fail
            refine (HIS2.out _).mono ?_
            rintro e wi1 ⟨rfl, hbi1⟩
            have hti1 := (hbi1.block _ (heap_lt HT2.out)).trans HT2.out
            have HBA := Lib.hid (HBA.out.trans (hbi1.mono HBA.out.size))
            clear q0 q1 q2
            obtain ⟨q0, q1, q2⟩ := row3 hti1
            have HT2 := Lib.hid hti1
            clear hti1 hbi1
            go_wp2_with fail
            go_ret
            exact ⟨by rw [HV.out]; rfl, HBA.out⟩
          | false =>
            cases b3 with
            | true =>
              have HV : Hid (aheadP l a true = true) := Lib.hid (by rw [HA.out]; simp)
              clear HA
              go_enter Try.func24, Try.ntmps24
              go_wp2_with fail
              refine (HTK1.out _ HR.out).mono ?_
              rintro e w1 ⟨rfl, hw1⟩
              go_wp2_with fail
              refine (HTK2.out _ ((HR.out.below hw1).more hw1.size)).mono ?_
              rintro e w2 ⟨rfl, hw2⟩
              go_upto_region 2 with fail
              obtain ⟨z0, z1, z2, z3⟩ := two2 (Below.refl ((w2.alloc (.cells #[.int .i64 1, .string x1, .int .i64 p1] 55)).alloc (.cells #[.int .i64 k2, .string x2, .int .i64 p2] 55)).heap.size _)
              obtain ⟨W4, hW4⟩ : ∃ W4, W4 = (w2.alloc (.cells #[.int .i64 1, .string x1, .int .i64 p1] 55)).alloc (.cells #[.int .i64 k2, .string x2, .int .i64 p2] 55) := ⟨_, rfl⟩
              rw [← hW4] at z0 z1 z2 z3 ⊢
              clear hW4
              have HT2 := Lib.hid z1
              have HBA : Hid (Below w.heap.size w W4) := Lib.hid ((hw1.trans (hw2.mono hw1.size)).trans (z2.mono (by have := hw1.size; have := hw2.size; omega)))
              obtain ⟨m0, m1, m2⟩ := row3 z0
              obtain ⟨q0, q1, q2⟩ := row3 z1
              clear z0 z1 z2 hw1 hw2
              go_wp2_with fail
              refine (HIS1.out _).mono ?_
              rintro e wi0 ⟨rfl, hbi0⟩
              have hti0 := (hbi0.block _ (heap_lt HT2.out)).trans HT2.out
              have HBA := Lib.hid (HBA.out.trans (hbi0.mono HBA.out.size))
              clear q0 q1 q2
              obtain ⟨q0, q1, q2⟩ := row3 hti0
              have HT2 := Lib.hid hti0
              clear hti0 hbi0
              go_wp2_with fail
              refine (HIS2.out _).mono ?_
              rintro e wi1 ⟨rfl, hbi1⟩
              have hti1 := (hbi1.block _ (heap_lt HT2.out)).trans HT2.out
              have HBA := Lib.hid (HBA.out.trans (hbi1.mono HBA.out.size))
              clear q0 q1 q2
              obtain ⟨q0, q1, q2⟩ := row3 hti1
              have HT2 := Lib.hid hti1
              clear hti1 hbi1
              go_wp2_with fail
              refine (HIS3.out _).mono ?_
              rintro e wi2 ⟨rfl, hbi2⟩
              have hti2 := (hbi2.block _ (heap_lt HT2.out)).trans HT2.out
              have HBA := Lib.hid (HBA.out.trans (hbi2.mono HBA.out.size))
              clear q0 q1 q2
              obtain ⟨q0, q1, q2⟩ := row3 hti2
              have HT2 := Lib.hid hti2
              clear hti2 hbi2
              go_wp2_with fail
              go_ret
              exact ⟨by rw [HV.out]; rfl, HBA.out⟩
            | false =>
              have HV : Hid (aheadP l a true = false) := Lib.hid (by rw [HA.out]; rfl)
              clear HA
              go_enter Try.func24, Try.ntmps24
              go_wp2_with fail
              refine (HTK1.out _ HR.out).mono ?_
              rintro e w1 ⟨rfl, hw1⟩
              go_wp2_with fail
              refine (HTK2.out _ ((HR.out.below hw1).more hw1.size)).mono ?_
              rintro e w2 ⟨rfl, hw2⟩
              go_upto_region 2 with fail
              obtain ⟨z0, z1, z2, z3⟩ := two2 (Below.refl ((w2.alloc (.cells #[.int .i64 1, .string x1, .int .i64 p1] 55)).alloc (.cells #[.int .i64 k2, .string x2, .int .i64 p2] 55)).heap.size _)
              obtain ⟨W4, hW4⟩ : ∃ W4, W4 = (w2.alloc (.cells #[.int .i64 1, .string x1, .int .i64 p1] 55)).alloc (.cells #[.int .i64 k2, .string x2, .int .i64 p2] 55) := ⟨_, rfl⟩
              rw [← hW4] at z0 z1 z2 z3 ⊢
              clear hW4
              have HT2 := Lib.hid z1
              have HBA : Hid (Below w.heap.size w W4) := Lib.hid ((hw1.trans (hw2.mono hw1.size)).trans (z2.mono (by have := hw1.size; have := hw2.size; omega)))
              obtain ⟨m0, m1, m2⟩ := row3 z0
              obtain ⟨q0, q1, q2⟩ := row3 z1
              clear z0 z1 z2 hw1 hw2
              go_wp2_with fail
              refine (HIS1.out _).mono ?_
              rintro e wi0 ⟨rfl, hbi0⟩
              have hti0 := (hbi0.block _ (heap_lt HT2.out)).trans HT2.out
              have HBA := Lib.hid (HBA.out.trans (hbi0.mono HBA.out.size))
              clear q0 q1 q2
              obtain ⟨q0, q1, q2⟩ := row3 hti0
              have HT2 := Lib.hid hti0
              clear hti0 hbi0
              go_wp2_with fail
              refine (HIS2.out _).mono ?_
              rintro e wi1 ⟨rfl, hbi1⟩
              have hti1 := (hbi1.block _ (heap_lt HT2.out)).trans HT2.out
              have HBA := Lib.hid (HBA.out.trans (hbi1.mono HBA.out.size))
              clear q0 q1 q2
              obtain ⟨q0, q1, q2⟩ := row3 hti1
              have HT2 := Lib.hid hti1
              clear hti1 hbi1
              go_wp2_with fail
              refine (HIS3.out _).mono ?_
              rintro e wi2 ⟨rfl, hbi2⟩
              have hti2 := (hbi2.block _ (heap_lt HT2.out)).trans HT2.out
              have HBA := Lib.hid (HBA.out.trans (hbi2.mono HBA.out.size))
              clear q0 q1 q2
              obtain ⟨q0, q1, q2⟩ := row3 hti2
              have HT2 := Lib.hid hti2
              clear hti2 hbi2
              go_wp2_with fail
              go_ret
              exact ⟨by rw [HV.out]; rfl, HBA.out⟩

set_option maxRecDepth 100000 in
set_option maxHeartbeats 4000000 in
theorem ownerFirst_any (R B : Nat) (l : List Gt) (A : Option Addr) (c : Nat) (X : Array Value) (T : TypeId) (a : Int) (f : Bool) (w : World) (h : Cu R B l A c X T a w) (hbd : l.length ≤ 1000000) (h0 : 0 ≤ a) (h9 : a < l.length) :
    Calls Try.prog 52 #[pR R, .bool f] w fun x w' => x = .returned (.bool (aheadP l a f)) ∧ Below w.heap.size w w' := by
  have HR := Lib.hid h
  have hRw := heap_lt h.row
  have hb9 : a + 2 ≤ 9223372036854775807 := by omega
  have HTK1 := Lib.hid (fun W hW => behind_any R B l A c X T a 1 W hW (by omega) (by omega))
  have HTK2 := Lib.hid (fun W hW => behind_any R B l A c X T a 2 W hW (by omega) (by omega))
  clear h
  obtain ⟨t1, ht1⟩ : ∃ t, t = tokI l (a + 1) := ⟨_, rfl⟩
  obtain ⟨t2, ht2⟩ : ∃ t, t = tokI l (a + 2) := ⟨_, rfl⟩
  have HA : Hid (aheadP l a f = (decide (t1.kind = 1) && (!f || (decide (t2.kind = 1) || t2.is sLt || t2.is sThis || t2.is sNull)))) := Lib.hid (by rw [ht1, ht2]; rfl)
  have HIS1 : Hid (∀ W, Calls Try.prog 33 #[t2.val, .string ⟨#[60]⟩] W fun e w' => e = .returned (.bool (t2.is sLt)) ∧ Below W.heap.size W w') := Lib.hid (fun W => is_any t2 _ W)
  have HIS2 : Hid (∀ W, Calls Try.prog 33 #[t2.val, .string ⟨#[116, 104, 105, 115]⟩] W fun e w' => e = .returned (.bool (t2.is sThis)) ∧ Below W.heap.size W w') := Lib.hid (fun W => is_any t2 _ W)
  have HIS3 : Hid (∀ W, Calls Try.prog 33 #[t2.val, .string ⟨#[110, 117, 108, 108]⟩] W fun e w' => e = .returned (.bool (t2.is sNull)) ∧ Below W.heap.size W w') := Lib.hid (fun W => is_any t2 _ W)
  rw [← ht1] at HTK1
  rw [← ht2] at HTK2
  obtain ⟨b1, hb1⟩ : ∃ b, b = t2.is sLt := ⟨_, rfl⟩
  obtain ⟨b2, hb2⟩ : ∃ b, b = t2.is sThis := ⟨_, rfl⟩
  obtain ⟨b3, hb3⟩ : ∃ b, b = t2.is sNull := ⟨_, rfl⟩
  rw [← hb1] at HA HIS1
  rw [← hb2] at HA HIS2
  rw [← hb3] at HA HIS3
  clear ht1 ht2 hb1 hb2 hb3
  obtain ⟨k1, x1, p1⟩ := t1
  obtain ⟨k2, x2, p2⟩ := t2
  rw [val_eq] at HTK1 HTK2 HIS1 HIS2 HIS3
  dsimp only at HTK1 HTK2 HIS1 HIS2 HIS3 HA
  by_cases h1 : k1 = 1
  case neg =>
    have hk : (k1 != 1) = true := by simpa using h1
    have hk0 : (k1 == 1) = false := by simpa using h1
    have HV : Hid (aheadP l a f = false) := Lib.hid (by rw [HA.out, decide_eq_false h1]; rfl)
    clear HA h1
    have hfd := tok_field0 k1 p1 x1
    go_enter Try.func52, Try.ntmps52
    go_wp2_with fail
    refine (HTK1.out _ HR.out).mono ?_
    rintro e w1 ⟨rfl, hw1⟩
    go_wp2_with fail
    go_ret
    exact ⟨by rw [HV.out]; rfl, hw1⟩
  case pos =>
    subst h1
    cases f with
    | false =>
      have HV : Hid (aheadP l a false = true) := Lib.hid (by rw [HA.out]; rfl)
      clear HA
      have hfd := tok_field0 1 p1 x1
      go_enter Try.func52, Try.ntmps52
      go_wp2_with fail
      refine (HTK1.out _ HR.out).mono ?_
      rintro e w1 ⟨rfl, hw1⟩
      go_wp2_with fail
      go_ret
      exact ⟨by rw [HV.out]; rfl, hw1⟩
    | true =>
      by_cases h2 : k2 = 1
      case pos =>
        subst h2
        have HV : Hid (aheadP l a true = true) := Lib.hid (by rw [HA.out]; rfl)
        clear HA
        have hfd := tok_field0 1 p1 x1
        go_enter Try.func52, Try.ntmps52
        go_wp2_with fail
        refine (HTK1.out _ HR.out).mono ?_
        rintro e w1 ⟨rfl, hw1⟩
        have HR1 := Lib.hid (HR.out.below hw1)
        have hRw1 := heap_lt HR1.out.row
        go_wp2_with fail
        refine (HTK2.out _ HR1.out).mono ?_
        rintro e w2 ⟨rfl, hw2⟩
        go_upto_region 6 with fail
        have z0 := heap_new w2 (.cells #[.int .i64 1, .string x2, .int .i64 p2] 55)
        have z1 := boxed w2 (.cells #[.int .i64 1, .string x2, .int .i64 p2] 55)
        obtain ⟨W4, hW4⟩ : ∃ W4, W4 = w2.alloc (.cells #[.int .i64 1, .string x2, .int .i64 p2] 55) := ⟨_, rfl⟩
        rw [← hW4] at z0 z1 ⊢
        clear hW4
        have HT2 := Lib.hid z0
        have HBA : Hid (Below w.heap.size w W4) := Lib.hid ((hw1.trans (hw2.mono hw1.size)).trans (z1.mono (by have := hw1.size; have := hw2.size; omega)))
        obtain ⟨q0, q1, q2⟩ := row3 z0
        clear z0 z1 hw1 hw2
        go_wp2_with fail
        go_ret
        exact ⟨by rw [HV.out]; rfl, HBA.out⟩
      case neg =>
        have hk2 : (k2 == 1) = false := by simpa using h2
        have HA : Hid (aheadP l a true = (b1 || b2 || b3)) := Lib.hid (by rw [HA.out, decide_eq_false h2]; simp)
        clear h2
        cases b1 with
        | true =>
          have HV : Hid (aheadP l a true = true) := Lib.hid (by rw [HA.out]; simp)
          clear HA
          have hfd := tok_field0 1 p1 x1
          go_enter Try.func52, Try.ntmps52
          go_wp2_with fail
          refine (HTK1.out _ HR.out).mono ?_
          rintro e w1 ⟨rfl, hw1⟩
          have HR1 := Lib.hid (HR.out.below hw1)
          have hRw1 := heap_lt HR1.out.row
          go_wp2_with fail
          refine (HTK2.out _ HR1.out).mono ?_
          rintro e w2 ⟨rfl, hw2⟩
          go_upto_region 6 with fail
          have z0 := heap_new w2 (.cells #[.int .i64 k2, .string x2, .int .i64 p2] 55)
          have z1 := boxed w2 (.cells #[.int .i64 k2, .string x2, .int .i64 p2] 55)
          obtain ⟨W4, hW4⟩ : ∃ W4, W4 = w2.alloc (.cells #[.int .i64 k2, .string x2, .int .i64 p2] 55) := ⟨_, rfl⟩
          rw [← hW4] at z0 z1 ⊢
          clear hW4
          have HT2 := Lib.hid z0
          have HBA : Hid (Below w.heap.size w W4) := Lib.hid ((hw1.trans (hw2.mono hw1.size)).trans (z1.mono (by have := hw1.size; have := hw2.size; omega)))
          obtain ⟨q0, q1, q2⟩ := row3 z0
          clear z0 z1 hw1 hw2
          go_wp2_with fail
          refine (HIS1.out _).mono ?_
          rintro e wi0 ⟨rfl, hbi0⟩
          have hti0 := (hbi0.block _ (heap_lt HT2.out)).trans HT2.out
          have HBA := Lib.hid (HBA.out.trans (hbi0.mono HBA.out.size))
          clear q0 q1 q2
          obtain ⟨q0, q1, q2⟩ := row3 hti0
          have HT2 := Lib.hid hti0
          clear hti0 hbi0
          go_wp2_with fail
          go_ret
          exact ⟨by rw [HV.out]; rfl, HBA.out⟩
        | false =>
          cases b2 with
          | true =>
            have HV : Hid (aheadP l a true = true) := Lib.hid (by rw [HA.out]; simp)
            clear HA
            have hfd := tok_field0 1 p1 x1
            go_enter Try.func52, Try.ntmps52
            go_wp2_with fail
            refine (HTK1.out _ HR.out).mono ?_
            rintro e w1 ⟨rfl, hw1⟩
            have HR1 := Lib.hid (HR.out.below hw1)
            have hRw1 := heap_lt HR1.out.row
            go_wp2_with fail
            refine (HTK2.out _ HR1.out).mono ?_
            rintro e w2 ⟨rfl, hw2⟩
            go_upto_region 6 with fail
            have z0 := heap_new w2 (.cells #[.int .i64 k2, .string x2, .int .i64 p2] 55)
            have z1 := boxed w2 (.cells #[.int .i64 k2, .string x2, .int .i64 p2] 55)
            obtain ⟨W4, hW4⟩ : ∃ W4, W4 = w2.alloc (.cells #[.int .i64 k2, .string x2, .int .i64 p2] 55) := ⟨_, rfl⟩
            rw [← hW4] at z0 z1 ⊢
            clear hW4
            have HT2 := Lib.hid z0
            have HBA : Hid (Below w.heap.size w W4) := Lib.hid ((hw1.trans (hw2.mono hw1.size)).trans (z1.mono (by have := hw1.size; have := hw2.size; omega)))
            obtain ⟨q0, q1, q2⟩ := row3 z0
            clear z0 z1 hw1 hw2
            go_wp2_with fail
            refine (HIS1.out _).mono ?_
            rintro e wi0 ⟨rfl, hbi0⟩
            have hti0 := (hbi0.block _ (heap_lt HT2.out)).trans HT2.out
            have HBA := Lib.hid (HBA.out.trans (hbi0.mono HBA.out.size))
            clear q0 q1 q2
            obtain ⟨q0, q1, q2⟩ := row3 hti0
            have HT2 := Lib.hid hti0
            clear hti0 hbi0
            go_wp2_with fail
            refine (HIS2.out _).mono ?_
            rintro e wi1 ⟨rfl, hbi1⟩
            have hti1 := (hbi1.block _ (heap_lt HT2.out)).trans HT2.out
            have HBA := Lib.hid (HBA.out.trans (hbi1.mono HBA.out.size))
            clear q0 q1 q2
            obtain ⟨q0, q1, q2⟩ := row3 hti1
            have HT2 := Lib.hid hti1
            clear hti1 hbi1
            go_wp2_with fail
            go_ret
            exact ⟨by rw [HV.out]; rfl, HBA.out⟩
          | false =>
            cases b3 with
            | true =>
              have HV : Hid (aheadP l a true = true) := Lib.hid (by rw [HA.out]; simp)
              clear HA
              have hfd := tok_field0 1 p1 x1
              go_enter Try.func52, Try.ntmps52
              go_wp2_with fail
              refine (HTK1.out _ HR.out).mono ?_
              rintro e w1 ⟨rfl, hw1⟩
              have HR1 := Lib.hid (HR.out.below hw1)
              have hRw1 := heap_lt HR1.out.row
              go_wp2_with fail
              refine (HTK2.out _ HR1.out).mono ?_
              rintro e w2 ⟨rfl, hw2⟩
              go_upto_region 6 with fail
              have z0 := heap_new w2 (.cells #[.int .i64 k2, .string x2, .int .i64 p2] 55)
              have z1 := boxed w2 (.cells #[.int .i64 k2, .string x2, .int .i64 p2] 55)
              obtain ⟨W4, hW4⟩ : ∃ W4, W4 = w2.alloc (.cells #[.int .i64 k2, .string x2, .int .i64 p2] 55) := ⟨_, rfl⟩
              rw [← hW4] at z0 z1 ⊢
              clear hW4
              have HT2 := Lib.hid z0
              have HBA : Hid (Below w.heap.size w W4) := Lib.hid ((hw1.trans (hw2.mono hw1.size)).trans (z1.mono (by have := hw1.size; have := hw2.size; omega)))
              obtain ⟨q0, q1, q2⟩ := row3 z0
              clear z0 z1 hw1 hw2
              go_wp2_with fail
              refine (HIS1.out _).mono ?_
              rintro e wi0 ⟨rfl, hbi0⟩
              have hti0 := (hbi0.block _ (heap_lt HT2.out)).trans HT2.out
              have HBA := Lib.hid (HBA.out.trans (hbi0.mono HBA.out.size))
              clear q0 q1 q2
              obtain ⟨q0, q1, q2⟩ := row3 hti0
              have HT2 := Lib.hid hti0
              clear hti0 hbi0
              go_wp2_with fail
              refine (HIS2.out _).mono ?_
              rintro e wi1 ⟨rfl, hbi1⟩
              have hti1 := (hbi1.block _ (heap_lt HT2.out)).trans HT2.out
              have HBA := Lib.hid (HBA.out.trans (hbi1.mono HBA.out.size))
              clear q0 q1 q2
              obtain ⟨q0, q1, q2⟩ := row3 hti1
              have HT2 := Lib.hid hti1
              clear hti1 hbi1
              go_wp2_with fail
              refine (HIS3.out _).mono ?_
              rintro e wi2 ⟨rfl, hbi2⟩
              have hti2 := (hbi2.block _ (heap_lt HT2.out)).trans HT2.out
              have HBA := Lib.hid (HBA.out.trans (hbi2.mono HBA.out.size))
              clear q0 q1 q2
              obtain ⟨q0, q1, q2⟩ := row3 hti2
              have HT2 := Lib.hid hti2
              clear hti2 hbi2
              go_wp2_with fail
              go_ret
              exact ⟨by rw [HV.out]; rfl, HBA.out⟩
            | false =>
              have HV : Hid (aheadP l a true = false) := Lib.hid (by rw [HA.out]; rfl)
              clear HA
              have hfd := tok_field0 1 p1 x1
              go_enter Try.func52, Try.ntmps52
              go_wp2_with fail
              refine (HTK1.out _ HR.out).mono ?_
              rintro e w1 ⟨rfl, hw1⟩
              have HR1 := Lib.hid (HR.out.below hw1)
              have hRw1 := heap_lt HR1.out.row
              go_wp2_with fail
              refine (HTK2.out _ HR1.out).mono ?_
              rintro e w2 ⟨rfl, hw2⟩
              go_upto_region 6 with fail
              have z0 := heap_new w2 (.cells #[.int .i64 k2, .string x2, .int .i64 p2] 55)
              have z1 := boxed w2 (.cells #[.int .i64 k2, .string x2, .int .i64 p2] 55)
              obtain ⟨W4, hW4⟩ : ∃ W4, W4 = w2.alloc (.cells #[.int .i64 k2, .string x2, .int .i64 p2] 55) := ⟨_, rfl⟩
              rw [← hW4] at z0 z1 ⊢
              clear hW4
              have HT2 := Lib.hid z0
              have HBA : Hid (Below w.heap.size w W4) := Lib.hid ((hw1.trans (hw2.mono hw1.size)).trans (z1.mono (by have := hw1.size; have := hw2.size; omega)))
              obtain ⟨q0, q1, q2⟩ := row3 z0
              clear z0 z1 hw1 hw2
              go_wp2_with fail
              refine (HIS1.out _).mono ?_
              rintro e wi0 ⟨rfl, hbi0⟩
              have hti0 := (hbi0.block _ (heap_lt HT2.out)).trans HT2.out
              have HBA := Lib.hid (HBA.out.trans (hbi0.mono HBA.out.size))
              clear q0 q1 q2
              obtain ⟨q0, q1, q2⟩ := row3 hti0
              have HT2 := Lib.hid hti0
              clear hti0 hbi0
              go_wp2_with fail
              refine (HIS2.out _).mono ?_
              rintro e wi1 ⟨rfl, hbi1⟩
              have hti1 := (hbi1.block _ (heap_lt HT2.out)).trans HT2.out
              have HBA := Lib.hid (HBA.out.trans (hbi1.mono HBA.out.size))
              clear q0 q1 q2
              obtain ⟨q0, q1, q2⟩ := row3 hti1
              have HT2 := Lib.hid hti1
              clear hti1 hbi1
              go_wp2_with fail
              refine (HIS3.out _).mono ?_
              rintro e wi2 ⟨rfl, hbi2⟩
              have hti2 := (hbi2.block _ (heap_lt HT2.out)).trans HT2.out
              have HBA := Lib.hid (HBA.out.trans (hbi2.mono HBA.out.size))
              clear q0 q1 q2
              obtain ⟨q0, q1, q2⟩ := row3 hti2
              have HT2 := Lib.hid hti2
              clear hti2 hbi2
              go_wp2_with fail
              go_ret
              exact ⟨by rw [HV.out]; rfl, HBA.out⟩
end Go.Proofs.Ytbcgooofelnkoaa
