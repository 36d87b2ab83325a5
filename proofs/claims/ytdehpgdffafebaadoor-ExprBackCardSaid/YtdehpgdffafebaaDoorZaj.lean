/- The text of an expression, by the document's answer, sign by sign. Conditions: there are at most 1048576 expressions in it. -/
import Derived.Test.YtdehpgdffafebaaDoorZag
import Derived.Test.YtdehpgdffafebaaDoorZai
namespace Go.Proofs.YtdehpgdffafebaaDoor
open Go.RowKit
open Go.Lib (decDigits itoa)
set_option linter.unusedVariables false

abbrev strs6 : Array Value := #[.string ⟨#[43]⟩, .string ⟨#[45]⟩, .string ⟨#[42]⟩, .string ⟨#[60]⟩, .string ⟨#[61, 61]⟩, .string ⟨#[38, 38]⟩]
def WrC (m : Nat) : Prop := ∀ (e : E) (v : Value) (q : Int) (w : World), E.count e ≤ m → E.form e = true → InV w.heap.size w e v → Calls Tryd.prog 22 #[v, .int .i64 q] w fun x w' => x = .returned (.string (ktB e (q + 1))) ∧ Below w.heap.size w w'

set_option maxRecDepth 100000 in
set_option maxHeartbeats 4000000 in
theorem write_6 (m : Nat) (hmm : m ≤ 1048576) (ih : WrC m) (n : Int) (s : ByteArray) (x y : E) (A : Option Addr) (c : Nat) (q : Int) (w : World) (hx : E.count x ≤ m) (hy : E.count y ≤ m) (fx : E.form x = true) (fy : E.form y = true) (hc : 2 ≤ c) (hk : KidsIn w.heap.size w A [x, y]) :
    Calls Tryd.prog 22 #[.agg (cE 6 n s A 2 c), .int .i64 q] w fun e w' => e = .returned (.string (ktB (.mk 6 n s [x, y]) (q + 1))) ∧ Below w.heap.size w w' := by
  have HX := Lib.hid (Duo.new w tE 9 (cE 6 n s A 2 c) strs6)
  obtain ⟨W0, hW0⟩ : ∃ W0, W0 = ((w.alloc (.cells (cE 6 n s A 2 c) tE)).alloc (.cells strs6 9)) := ⟨_, rfl⟩
  rw [← hW0] at HX
  have HLV := Lib.hid (level_any 6 n s A 2 c W0)
  rw [show bindI 6 - 1 = 2 from rfl] at HLV
  go_enter Tryd.func22, Tryd.ntmps22
  go_wp2_with fail
  have hW0' : ((w.alloc (.cells #[.int .i64 6, .int .i64 n, .string s, .slice A 2 c] tE)).alloc (.cells #[.string ⟨#[43]⟩, .string ⟨#[45]⟩, .string ⟨#[42]⟩, .string ⟨#[60]⟩, .string ⟨#[61, 61]⟩, .string ⟨#[38, 38]⟩] 9)) = W0 := hW0.symm
  rw [hW0']
  clear hW0 hW0'
  refine HLV.out.mono ?_
  rintro e w1 ⟨rfl, hb1⟩
  have HX1 := Lib.hid (HX.out.step hb1)
  clear HLV HX
  obtain ⟨z0, z1, z2, z3⟩ := row4 HX1.out.b0
  obtain ⟨b, o, k0, n0, s0, q0, A0, c0, hA, hbB, he0, x0, x1, x2, x3, hv0⟩ := (hk.below HX1.out.below).at_ (i := 0) (by simp)
  obtain ⟨b', o', k1, n1, s1, q1, A1, c1, hA', hbB', he1, y0, y1, y2, y3, hv1⟩ := (hk.below HX1.out.below).at_ (i := 1) (by simp)
  rw [hA] at hA'
  cases hA'
  simp only [List.getElem_cons_zero, List.getElem_cons_succ] at he0 he1
  subst hA he0 he1
  simp only [Nat.zero_mul, Nat.one_mul, Nat.add_zero] at x0 x1 x2 x3 y0 y1 y2 y3
  have p0 : w1.cell? ⟨w.heap.size + 1, 0, none⟩ = some (.string ⟨#[43]⟩) := cell_of_row _ _ 0 _ _ (0, 0) HX1.out.b1
  obtain ⟨X, hX⟩ : ∃ X, X = ktB (.mk k0 n0 s0 q0) (2 + 1) := ⟨_, rfl⟩
  obtain ⟨Y, hY⟩ : ∃ Y, Y = ktB (.mk k1 n1 s1 q1) (3 + 1) := ⟨_, rfl⟩
  have HXS : Hid (X.size ≤ 50331648) := Lib.hid (by have := ktB_size (.mk k0 n0 s0 q0) (2 + 1) fx; rw [hX]; omega)
  have HYS : Hid (Y.size ≤ 50331648) := Lib.hid (by have := ktB_size (.mk k1 n1 s1 q1) (3 + 1) fy; rw [hY]; omega)
  have HT : Hid (txB (.mk 6 n s [.mk k0 n0 s0 q0, .mk k1 n1 s1 q1]) = X ++ ⟨#[32]⟩ ++ ⟨#[43]⟩ ++ ⟨#[32]⟩ ++ Y) := Lib.hid (by rw [txB_sign _ _ _ _ _ rfl, hX, hY]; rfl)
  have HCX : Hid (∀ p : InC (Below w1.heap.size w1), Calls Tryd.prog 22 #[.agg #[.int .i64 k0, .int .i64 n0, .string s0, .slice A0 q0.length c0], .int .i64 2] p.w fun e w' => e = .returned (.string X) ∧ Below p.w.heap.size p.w w') := Lib.hid (fun p => by
    rw [hX]; exact ih _ _ 2 p.w hx fx (((hv0.more HX1.out.below.size).below p.ok).more p.ok.size))
  have HCY : Hid (∀ p : InC (Below w1.heap.size w1), Calls Tryd.prog 22 #[.agg #[.int .i64 k1, .int .i64 n1, .string s1, .slice A1 q1.length c1], .int .i64 3] p.w fun e w' => e = .returned (.string Y) ∧ Below p.w.heap.size p.w w') := Lib.hid (fun p => by
    rw [hY]; exact ih _ _ 3 p.w hy fy (((hv1.more HX1.out.below.size).below p.ok).more p.ok.size))
  have g0 := fun p : InC (Below w1.heap.size w1) => cls_cell z0 p
  have g3 := fun p : InC (Below w1.heap.size w1) => cls_cell z3 p
  have gp := fun p : InC (Below w1.heap.size w1) => cls_cell p0 p
  have gx0 := fun p : InC (Below w1.heap.size w1) => cls_cell x0 p
  have gx1 := fun p : InC (Below w1.heap.size w1) => cls_cell x1 p
  have gx2 := fun p : InC (Below w1.heap.size w1) => cls_cell x2 p
  have gx3 := fun p : InC (Below w1.heap.size w1) => cls_cell x3 p
  have gy0 := fun p : InC (Below w1.heap.size w1) => cls_cell y0 p
  have gy1 := fun p : InC (Below w1.heap.size w1) => cls_cell y1 p
  have gy2 := fun p : InC (Below w1.heap.size w1) => cls_cell y2 p
  have gy3 := fun p : InC (Below w1.heap.size w1) => cls_cell y3 p
  have t1 : ¬ 9223372036854775807 < X.size + (ByteArray.mk #[32]).size := by show ¬ 9223372036854775807 < X.size + 1; have := HXS.out; omega
  have t2 : ¬ 9223372036854775807 < (X ++ ByteArray.mk #[32]).size + (ByteArray.mk #[43]).size := by rw [ByteArray.size_append]; show ¬ 9223372036854775807 < X.size + 1 + 1; have := HXS.out; omega
  have t3 : ¬ 9223372036854775807 < (X ++ ByteArray.mk #[32] ++ ByteArray.mk #[43]).size + (ByteArray.mk #[32]).size := by rw [ByteArray.size_append, ByteArray.size_append]; show ¬ 9223372036854775807 < X.size + 1 + 1 + 1; have := HXS.out; omega
  have t4 : ¬ 9223372036854775807 < (X ++ ByteArray.mk #[32] ++ ByteArray.mk #[43] ++ ByteArray.mk #[32]).size + Y.size := by rw [ByteArray.size_append, ByteArray.size_append, ByteArray.size_append]; show ¬ 9223372036854775807 < X.size + 1 + 1 + 1 + Y.size; have := HXS.out; have := HYS.out; omega
  obtain ⟨T, hT⟩ : ∃ T, T = X ++ ⟨#[32]⟩ ++ ⟨#[43]⟩ ++ ⟨#[32]⟩ ++ Y := ⟨_, rfl⟩
  have HTS : Hid (T.size ≤ 100663400) := Lib.hid (by
    rw [hT, ByteArray.size_append, ByteArray.size_append, ByteArray.size_append, ByteArray.size_append]
    have := HXS.out; have := HYS.out
    show X.size + 1 + 1 + 1 + Y.size ≤ 100663400; omega)
  have HTT := Lib.hid hT
  rw [← hT] at HT
  clear hT hk hbB hbB' hv0 hv1 hX hY
  go_wp2_with fail
  clear z0 z1 z2 z3 x0 x1 x2 x3 y0 y1 y2 y3 p0
  refine region_class (Cl := Below w1.heap.size w1) (by kernel_rfl) (by kernel_rfl) (drew_below _) ?_
  repeat (go_big_quiet_step ((go_at_call 22; first | with_reducible exact cls_below _ (HCX.out _) | with_reducible exact cls_below _ (HCY.out _))))
  refine wpQuiet_nil ?_
  intro wq hw'
  obtain ⟨nq, hw''⟩ := hw'
  have hb9 : Below w1.heap.size w1 wq := by rw [hw'']; exact nq.ok
  have r0 : wq.cell? ⟨w.heap.size, 0, none⟩ = some (.int .i64 6) := by rw [hw'']; exact g0 nq
  clear hw'' nq
  clear g0 g3 gp gx0 gx1 gx2 gx3 gy0 gy1 gy2 gy3
  rw [← HTT.out]
  by_cases hq : (2 : Int) < q
  · have HE : Hid (ktB (.mk 6 n s [.mk k0 n0 s0 q0, .mk k1 n1 s1 q1]) (q + 1) = ⟨#[40]⟩ ++ txB (.mk 6 n s [.mk k0 n0 s0 q0, .mk k1 n1 s1 q1]) ++ ⟨#[41]⟩) := Lib.hid (ktB_yes (by show bindI 6 < q + 1; rw [show bindI 6 = 2 + 1 from rfl]; omega))
    rw [HT.out] at HE
    have s3 : ¬ 9223372036854775807 < (ByteArray.mk #[40]).size + T.size := by show ¬ 9223372036854775807 < 1 + T.size; have := HTS.out; omega
    have s4 : ¬ 9223372036854775807 < (ByteArray.mk #[40] ++ T).size + (ByteArray.mk #[41]).size := by rw [ByteArray.size_append]; show ¬ 9223372036854775807 < 1 + T.size + 1; have := HTS.out; omega
    go_wp2_with fail
    go_ret
    exact ⟨by rw [HE.out]; rfl, HX1.out.below.trans (hb9.mono HX1.out.below.size)⟩
  · have HE : Hid (ktB (.mk 6 n s [.mk k0 n0 s0 q0, .mk k1 n1 s1 q1]) (q + 1) = txB (.mk 6 n s [.mk k0 n0 s0 q0, .mk k1 n1 s1 q1])) := Lib.hid (ktB_no (by show ¬ bindI 6 < q + 1; rw [show bindI 6 = 2 + 1 from rfl]; omega))
    rw [HT.out] at HE
    have hq' : decide ((2 : Int) < q) = false := by simpa using hq
    go_wp2_with fail
    go_ret
    exact ⟨by rw [HE.out]; rfl, HX1.out.below.trans (hb9.mono HX1.out.below.size)⟩

set_option maxRecDepth 100000 in
set_option maxHeartbeats 4000000 in
theorem write_7 (m : Nat) (hmm : m ≤ 1048576) (ih : WrC m) (n : Int) (s : ByteArray) (x y : E) (A : Option Addr) (c : Nat) (q : Int) (w : World) (hx : E.count x ≤ m) (hy : E.count y ≤ m) (fx : E.form x = true) (fy : E.form y = true) (hc : 2 ≤ c) (hk : KidsIn w.heap.size w A [x, y]) :
    Calls Tryd.prog 22 #[.agg (cE 7 n s A 2 c), .int .i64 q] w fun e w' => e = .returned (.string (ktB (.mk 7 n s [x, y]) (q + 1))) ∧ Below w.heap.size w w' := by
  have HX := Lib.hid (Duo.new w tE 9 (cE 7 n s A 2 c) strs6)
  obtain ⟨W0, hW0⟩ : ∃ W0, W0 = ((w.alloc (.cells (cE 7 n s A 2 c) tE)).alloc (.cells strs6 9)) := ⟨_, rfl⟩
  rw [← hW0] at HX
  have HLV := Lib.hid (level_any 7 n s A 2 c W0)
  rw [show bindI 7 - 1 = 2 from rfl] at HLV
  go_enter Tryd.func22, Tryd.ntmps22
  go_wp2_with fail
  have hW0' : ((w.alloc (.cells #[.int .i64 7, .int .i64 n, .string s, .slice A 2 c] tE)).alloc (.cells #[.string ⟨#[43]⟩, .string ⟨#[45]⟩, .string ⟨#[42]⟩, .string ⟨#[60]⟩, .string ⟨#[61, 61]⟩, .string ⟨#[38, 38]⟩] 9)) = W0 := hW0.symm
  rw [hW0']
  clear hW0 hW0'
  refine HLV.out.mono ?_
  rintro e w1 ⟨rfl, hb1⟩
  have HX1 := Lib.hid (HX.out.step hb1)
  clear HLV HX
  obtain ⟨z0, z1, z2, z3⟩ := row4 HX1.out.b0
  obtain ⟨b, o, k0, n0, s0, q0, A0, c0, hA, hbB, he0, x0, x1, x2, x3, hv0⟩ := (hk.below HX1.out.below).at_ (i := 0) (by simp)
  obtain ⟨b', o', k1, n1, s1, q1, A1, c1, hA', hbB', he1, y0, y1, y2, y3, hv1⟩ := (hk.below HX1.out.below).at_ (i := 1) (by simp)
  rw [hA] at hA'
  cases hA'
  simp only [List.getElem_cons_zero, List.getElem_cons_succ] at he0 he1
  subst hA he0 he1
  simp only [Nat.zero_mul, Nat.one_mul, Nat.add_zero] at x0 x1 x2 x3 y0 y1 y2 y3
  have p0 : w1.cell? ⟨w.heap.size + 1, 1, none⟩ = some (.string ⟨#[45]⟩) := cell_of_row _ _ 1 _ _ (0, 0) HX1.out.b1
  obtain ⟨X, hX⟩ : ∃ X, X = ktB (.mk k0 n0 s0 q0) (2 + 1) := ⟨_, rfl⟩
  obtain ⟨Y, hY⟩ : ∃ Y, Y = ktB (.mk k1 n1 s1 q1) (3 + 1) := ⟨_, rfl⟩
  have HXS : Hid (X.size ≤ 50331648) := Lib.hid (by have := ktB_size (.mk k0 n0 s0 q0) (2 + 1) fx; rw [hX]; omega)
  have HYS : Hid (Y.size ≤ 50331648) := Lib.hid (by have := ktB_size (.mk k1 n1 s1 q1) (3 + 1) fy; rw [hY]; omega)
  have HT : Hid (txB (.mk 7 n s [.mk k0 n0 s0 q0, .mk k1 n1 s1 q1]) = X ++ ⟨#[32]⟩ ++ ⟨#[45]⟩ ++ ⟨#[32]⟩ ++ Y) := Lib.hid (by rw [txB_sign _ _ _ _ _ rfl, hX, hY]; rfl)
  have HCX : Hid (∀ p : InC (Below w1.heap.size w1), Calls Tryd.prog 22 #[.agg #[.int .i64 k0, .int .i64 n0, .string s0, .slice A0 q0.length c0], .int .i64 2] p.w fun e w' => e = .returned (.string X) ∧ Below p.w.heap.size p.w w') := Lib.hid (fun p => by
    rw [hX]; exact ih _ _ 2 p.w hx fx (((hv0.more HX1.out.below.size).below p.ok).more p.ok.size))
  have HCY : Hid (∀ p : InC (Below w1.heap.size w1), Calls Tryd.prog 22 #[.agg #[.int .i64 k1, .int .i64 n1, .string s1, .slice A1 q1.length c1], .int .i64 3] p.w fun e w' => e = .returned (.string Y) ∧ Below p.w.heap.size p.w w') := Lib.hid (fun p => by
    rw [hY]; exact ih _ _ 3 p.w hy fy (((hv1.more HX1.out.below.size).below p.ok).more p.ok.size))
  have g0 := fun p : InC (Below w1.heap.size w1) => cls_cell z0 p
  have g3 := fun p : InC (Below w1.heap.size w1) => cls_cell z3 p
  have gp := fun p : InC (Below w1.heap.size w1) => cls_cell p0 p
  have gx0 := fun p : InC (Below w1.heap.size w1) => cls_cell x0 p
  have gx1 := fun p : InC (Below w1.heap.size w1) => cls_cell x1 p
  have gx2 := fun p : InC (Below w1.heap.size w1) => cls_cell x2 p
  have gx3 := fun p : InC (Below w1.heap.size w1) => cls_cell x3 p
  have gy0 := fun p : InC (Below w1.heap.size w1) => cls_cell y0 p
  have gy1 := fun p : InC (Below w1.heap.size w1) => cls_cell y1 p
  have gy2 := fun p : InC (Below w1.heap.size w1) => cls_cell y2 p
  have gy3 := fun p : InC (Below w1.heap.size w1) => cls_cell y3 p
  have t1 : ¬ 9223372036854775807 < X.size + (ByteArray.mk #[32]).size := by show ¬ 9223372036854775807 < X.size + 1; have := HXS.out; omega
  have t2 : ¬ 9223372036854775807 < (X ++ ByteArray.mk #[32]).size + (ByteArray.mk #[45]).size := by rw [ByteArray.size_append]; show ¬ 9223372036854775807 < X.size + 1 + 1; have := HXS.out; omega
  have t3 : ¬ 9223372036854775807 < (X ++ ByteArray.mk #[32] ++ ByteArray.mk #[45]).size + (ByteArray.mk #[32]).size := by rw [ByteArray.size_append, ByteArray.size_append]; show ¬ 9223372036854775807 < X.size + 1 + 1 + 1; have := HXS.out; omega
  have t4 : ¬ 9223372036854775807 < (X ++ ByteArray.mk #[32] ++ ByteArray.mk #[45] ++ ByteArray.mk #[32]).size + Y.size := by rw [ByteArray.size_append, ByteArray.size_append, ByteArray.size_append]; show ¬ 9223372036854775807 < X.size + 1 + 1 + 1 + Y.size; have := HXS.out; have := HYS.out; omega
  obtain ⟨T, hT⟩ : ∃ T, T = X ++ ⟨#[32]⟩ ++ ⟨#[45]⟩ ++ ⟨#[32]⟩ ++ Y := ⟨_, rfl⟩
  have HTS : Hid (T.size ≤ 100663400) := Lib.hid (by
    rw [hT, ByteArray.size_append, ByteArray.size_append, ByteArray.size_append, ByteArray.size_append]
    have := HXS.out; have := HYS.out
    show X.size + 1 + 1 + 1 + Y.size ≤ 100663400; omega)
  have HTT := Lib.hid hT
  rw [← hT] at HT
  clear hT hk hbB hbB' hv0 hv1 hX hY
  go_wp2_with fail
  clear z0 z1 z2 z3 x0 x1 x2 x3 y0 y1 y2 y3 p0
  refine region_class (Cl := Below w1.heap.size w1) (by kernel_rfl) (by kernel_rfl) (drew_below _) ?_
  repeat (go_big_quiet_step ((go_at_call 22; first | with_reducible exact cls_below _ (HCX.out _) | with_reducible exact cls_below _ (HCY.out _))))
  refine wpQuiet_nil ?_
  intro wq hw'
  obtain ⟨nq, hw''⟩ := hw'
  have hb9 : Below w1.heap.size w1 wq := by rw [hw'']; exact nq.ok
  have r0 : wq.cell? ⟨w.heap.size, 0, none⟩ = some (.int .i64 7) := by rw [hw'']; exact g0 nq
  clear hw'' nq
  clear g0 g3 gp gx0 gx1 gx2 gx3 gy0 gy1 gy2 gy3
  rw [← HTT.out]
  by_cases hq : (2 : Int) < q
  · have HE : Hid (ktB (.mk 7 n s [.mk k0 n0 s0 q0, .mk k1 n1 s1 q1]) (q + 1) = ⟨#[40]⟩ ++ txB (.mk 7 n s [.mk k0 n0 s0 q0, .mk k1 n1 s1 q1]) ++ ⟨#[41]⟩) := Lib.hid (ktB_yes (by show bindI 7 < q + 1; rw [show bindI 7 = 2 + 1 from rfl]; omega))
    rw [HT.out] at HE
    have s3 : ¬ 9223372036854775807 < (ByteArray.mk #[40]).size + T.size := by show ¬ 9223372036854775807 < 1 + T.size; have := HTS.out; omega
    have s4 : ¬ 9223372036854775807 < (ByteArray.mk #[40] ++ T).size + (ByteArray.mk #[41]).size := by rw [ByteArray.size_append]; show ¬ 9223372036854775807 < 1 + T.size + 1; have := HTS.out; omega
    go_wp2_with fail
    go_ret
    exact ⟨by rw [HE.out]; rfl, HX1.out.below.trans (hb9.mono HX1.out.below.size)⟩
  · have HE : Hid (ktB (.mk 7 n s [.mk k0 n0 s0 q0, .mk k1 n1 s1 q1]) (q + 1) = txB (.mk 7 n s [.mk k0 n0 s0 q0, .mk k1 n1 s1 q1])) := Lib.hid (ktB_no (by show ¬ bindI 7 < q + 1; rw [show bindI 7 = 2 + 1 from rfl]; omega))
    rw [HT.out] at HE
    have hq' : decide ((2 : Int) < q) = false := by simpa using hq
    go_wp2_with fail
    go_ret
    exact ⟨by rw [HE.out]; rfl, HX1.out.below.trans (hb9.mono HX1.out.below.size)⟩

set_option maxRecDepth 100000 in
set_option maxHeartbeats 4000000 in
theorem write_8 (m : Nat) (hmm : m ≤ 1048576) (ih : WrC m) (n : Int) (s : ByteArray) (x y : E) (A : Option Addr) (c : Nat) (q : Int) (w : World) (hx : E.count x ≤ m) (hy : E.count y ≤ m) (fx : E.form x = true) (fy : E.form y = true) (hc : 2 ≤ c) (hk : KidsIn w.heap.size w A [x, y]) :
    Calls Tryd.prog 22 #[.agg (cE 8 n s A 2 c), .int .i64 q] w fun e w' => e = .returned (.string (ktB (.mk 8 n s [x, y]) (q + 1))) ∧ Below w.heap.size w w' := by
  have HX := Lib.hid (Duo.new w tE 9 (cE 8 n s A 2 c) strs6)
  obtain ⟨W0, hW0⟩ : ∃ W0, W0 = ((w.alloc (.cells (cE 8 n s A 2 c) tE)).alloc (.cells strs6 9)) := ⟨_, rfl⟩
  rw [← hW0] at HX
  have HLV := Lib.hid (level_any 8 n s A 2 c W0)
  rw [show bindI 8 - 1 = 3 from rfl] at HLV
  go_enter Tryd.func22, Tryd.ntmps22
  go_wp2_with fail
  have hW0' : ((w.alloc (.cells #[.int .i64 8, .int .i64 n, .string s, .slice A 2 c] tE)).alloc (.cells #[.string ⟨#[43]⟩, .string ⟨#[45]⟩, .string ⟨#[42]⟩, .string ⟨#[60]⟩, .string ⟨#[61, 61]⟩, .string ⟨#[38, 38]⟩] 9)) = W0 := hW0.symm
  rw [hW0']
  clear hW0 hW0'
  refine HLV.out.mono ?_
  rintro e w1 ⟨rfl, hb1⟩
  have HX1 := Lib.hid (HX.out.step hb1)
  clear HLV HX
  obtain ⟨z0, z1, z2, z3⟩ := row4 HX1.out.b0
  obtain ⟨b, o, k0, n0, s0, q0, A0, c0, hA, hbB, he0, x0, x1, x2, x3, hv0⟩ := (hk.below HX1.out.below).at_ (i := 0) (by simp)
  obtain ⟨b', o', k1, n1, s1, q1, A1, c1, hA', hbB', he1, y0, y1, y2, y3, hv1⟩ := (hk.below HX1.out.below).at_ (i := 1) (by simp)
  rw [hA] at hA'
  cases hA'
  simp only [List.getElem_cons_zero, List.getElem_cons_succ] at he0 he1
  subst hA he0 he1
  simp only [Nat.zero_mul, Nat.one_mul, Nat.add_zero] at x0 x1 x2 x3 y0 y1 y2 y3
  have p0 : w1.cell? ⟨w.heap.size + 1, 2, none⟩ = some (.string ⟨#[42]⟩) := cell_of_row _ _ 2 _ _ (0, 0) HX1.out.b1
  obtain ⟨X, hX⟩ : ∃ X, X = ktB (.mk k0 n0 s0 q0) (3 + 1) := ⟨_, rfl⟩
  obtain ⟨Y, hY⟩ : ∃ Y, Y = ktB (.mk k1 n1 s1 q1) (4 + 1) := ⟨_, rfl⟩
  have HXS : Hid (X.size ≤ 50331648) := Lib.hid (by have := ktB_size (.mk k0 n0 s0 q0) (3 + 1) fx; rw [hX]; omega)
  have HYS : Hid (Y.size ≤ 50331648) := Lib.hid (by have := ktB_size (.mk k1 n1 s1 q1) (4 + 1) fy; rw [hY]; omega)
  have HT : Hid (txB (.mk 8 n s [.mk k0 n0 s0 q0, .mk k1 n1 s1 q1]) = X ++ ⟨#[32]⟩ ++ ⟨#[42]⟩ ++ ⟨#[32]⟩ ++ Y) := Lib.hid (by rw [txB_sign _ _ _ _ _ rfl, hX, hY]; rfl)
  have HCX : Hid (∀ p : InC (Below w1.heap.size w1), Calls Tryd.prog 22 #[.agg #[.int .i64 k0, .int .i64 n0, .string s0, .slice A0 q0.length c0], .int .i64 3] p.w fun e w' => e = .returned (.string X) ∧ Below p.w.heap.size p.w w') := Lib.hid (fun p => by
    rw [hX]; exact ih _ _ 3 p.w hx fx (((hv0.more HX1.out.below.size).below p.ok).more p.ok.size))
  have HCY : Hid (∀ p : InC (Below w1.heap.size w1), Calls Tryd.prog 22 #[.agg #[.int .i64 k1, .int .i64 n1, .string s1, .slice A1 q1.length c1], .int .i64 4] p.w fun e w' => e = .returned (.string Y) ∧ Below p.w.heap.size p.w w') := Lib.hid (fun p => by
    rw [hY]; exact ih _ _ 4 p.w hy fy (((hv1.more HX1.out.below.size).below p.ok).more p.ok.size))
  have g0 := fun p : InC (Below w1.heap.size w1) => cls_cell z0 p
  have g3 := fun p : InC (Below w1.heap.size w1) => cls_cell z3 p
  have gp := fun p : InC (Below w1.heap.size w1) => cls_cell p0 p
  have gx0 := fun p : InC (Below w1.heap.size w1) => cls_cell x0 p
  have gx1 := fun p : InC (Below w1.heap.size w1) => cls_cell x1 p
  have gx2 := fun p : InC (Below w1.heap.size w1) => cls_cell x2 p
  have gx3 := fun p : InC (Below w1.heap.size w1) => cls_cell x3 p
  have gy0 := fun p : InC (Below w1.heap.size w1) => cls_cell y0 p
  have gy1 := fun p : InC (Below w1.heap.size w1) => cls_cell y1 p
  have gy2 := fun p : InC (Below w1.heap.size w1) => cls_cell y2 p
  have gy3 := fun p : InC (Below w1.heap.size w1) => cls_cell y3 p
  have t1 : ¬ 9223372036854775807 < X.size + (ByteArray.mk #[32]).size := by show ¬ 9223372036854775807 < X.size + 1; have := HXS.out; omega
  have t2 : ¬ 9223372036854775807 < (X ++ ByteArray.mk #[32]).size + (ByteArray.mk #[42]).size := by rw [ByteArray.size_append]; show ¬ 9223372036854775807 < X.size + 1 + 1; have := HXS.out; omega
  have t3 : ¬ 9223372036854775807 < (X ++ ByteArray.mk #[32] ++ ByteArray.mk #[42]).size + (ByteArray.mk #[32]).size := by rw [ByteArray.size_append, ByteArray.size_append]; show ¬ 9223372036854775807 < X.size + 1 + 1 + 1; have := HXS.out; omega
  have t4 : ¬ 9223372036854775807 < (X ++ ByteArray.mk #[32] ++ ByteArray.mk #[42] ++ ByteArray.mk #[32]).size + Y.size := by rw [ByteArray.size_append, ByteArray.size_append, ByteArray.size_append]; show ¬ 9223372036854775807 < X.size + 1 + 1 + 1 + Y.size; have := HXS.out; have := HYS.out; omega
  obtain ⟨T, hT⟩ : ∃ T, T = X ++ ⟨#[32]⟩ ++ ⟨#[42]⟩ ++ ⟨#[32]⟩ ++ Y := ⟨_, rfl⟩
  have HTS : Hid (T.size ≤ 100663400) := Lib.hid (by
    rw [hT, ByteArray.size_append, ByteArray.size_append, ByteArray.size_append, ByteArray.size_append]
    have := HXS.out; have := HYS.out
    show X.size + 1 + 1 + 1 + Y.size ≤ 100663400; omega)
  have HTT := Lib.hid hT
  rw [← hT] at HT
  clear hT hk hbB hbB' hv0 hv1 hX hY
  go_wp2_with fail
  clear z0 z1 z2 z3 x0 x1 x2 x3 y0 y1 y2 y3 p0
  refine region_class (Cl := Below w1.heap.size w1) (by kernel_rfl) (by kernel_rfl) (drew_below _) ?_
  repeat (go_big_quiet_step ((go_at_call 22; first | with_reducible exact cls_below _ (HCX.out _) | with_reducible exact cls_below _ (HCY.out _))))
  refine wpQuiet_nil ?_
  intro wq hw'
  obtain ⟨nq, hw''⟩ := hw'
  have hb9 : Below w1.heap.size w1 wq := by rw [hw'']; exact nq.ok
  have r0 : wq.cell? ⟨w.heap.size, 0, none⟩ = some (.int .i64 8) := by rw [hw'']; exact g0 nq
  clear hw'' nq
  clear g0 g3 gp gx0 gx1 gx2 gx3 gy0 gy1 gy2 gy3
  rw [← HTT.out]
  by_cases hq : (3 : Int) < q
  · have HE : Hid (ktB (.mk 8 n s [.mk k0 n0 s0 q0, .mk k1 n1 s1 q1]) (q + 1) = ⟨#[40]⟩ ++ txB (.mk 8 n s [.mk k0 n0 s0 q0, .mk k1 n1 s1 q1]) ++ ⟨#[41]⟩) := Lib.hid (ktB_yes (by show bindI 8 < q + 1; rw [show bindI 8 = 3 + 1 from rfl]; omega))
    rw [HT.out] at HE
    have s3 : ¬ 9223372036854775807 < (ByteArray.mk #[40]).size + T.size := by show ¬ 9223372036854775807 < 1 + T.size; have := HTS.out; omega
    have s4 : ¬ 9223372036854775807 < (ByteArray.mk #[40] ++ T).size + (ByteArray.mk #[41]).size := by rw [ByteArray.size_append]; show ¬ 9223372036854775807 < 1 + T.size + 1; have := HTS.out; omega
    go_wp2_with fail
    go_ret
    exact ⟨by rw [HE.out]; rfl, HX1.out.below.trans (hb9.mono HX1.out.below.size)⟩
  · have HE : Hid (ktB (.mk 8 n s [.mk k0 n0 s0 q0, .mk k1 n1 s1 q1]) (q + 1) = txB (.mk 8 n s [.mk k0 n0 s0 q0, .mk k1 n1 s1 q1])) := Lib.hid (ktB_no (by show ¬ bindI 8 < q + 1; rw [show bindI 8 = 3 + 1 from rfl]; omega))
    rw [HT.out] at HE
    have hq' : decide ((3 : Int) < q) = false := by simpa using hq
    go_wp2_with fail
    go_ret
    exact ⟨by rw [HE.out]; rfl, HX1.out.below.trans (hb9.mono HX1.out.below.size)⟩

set_option maxRecDepth 100000 in
set_option maxHeartbeats 4000000 in
theorem write_9 (m : Nat) (hmm : m ≤ 1048576) (ih : WrC m) (n : Int) (s : ByteArray) (x y : E) (A : Option Addr) (c : Nat) (q : Int) (w : World) (hx : E.count x ≤ m) (hy : E.count y ≤ m) (fx : E.form x = true) (fy : E.form y = true) (hc : 2 ≤ c) (hk : KidsIn w.heap.size w A [x, y]) :
    Calls Tryd.prog 22 #[.agg (cE 9 n s A 2 c), .int .i64 q] w fun e w' => e = .returned (.string (ktB (.mk 9 n s [x, y]) (q + 1))) ∧ Below w.heap.size w w' := by
  have HX := Lib.hid (Duo.new w tE 9 (cE 9 n s A 2 c) strs6)
  obtain ⟨W0, hW0⟩ : ∃ W0, W0 = ((w.alloc (.cells (cE 9 n s A 2 c) tE)).alloc (.cells strs6 9)) := ⟨_, rfl⟩
  rw [← hW0] at HX
  have HLV := Lib.hid (level_any 9 n s A 2 c W0)
  rw [show bindI 9 - 1 = 1 from rfl] at HLV
  go_enter Tryd.func22, Tryd.ntmps22
  go_wp2_with fail
  have hW0' : ((w.alloc (.cells #[.int .i64 9, .int .i64 n, .string s, .slice A 2 c] tE)).alloc (.cells #[.string ⟨#[43]⟩, .string ⟨#[45]⟩, .string ⟨#[42]⟩, .string ⟨#[60]⟩, .string ⟨#[61, 61]⟩, .string ⟨#[38, 38]⟩] 9)) = W0 := hW0.symm
  rw [hW0']
  clear hW0 hW0'
  refine HLV.out.mono ?_
  rintro e w1 ⟨rfl, hb1⟩
  have HX1 := Lib.hid (HX.out.step hb1)
  clear HLV HX
  obtain ⟨z0, z1, z2, z3⟩ := row4 HX1.out.b0
  obtain ⟨b, o, k0, n0, s0, q0, A0, c0, hA, hbB, he0, x0, x1, x2, x3, hv0⟩ := (hk.below HX1.out.below).at_ (i := 0) (by simp)
  obtain ⟨b', o', k1, n1, s1, q1, A1, c1, hA', hbB', he1, y0, y1, y2, y3, hv1⟩ := (hk.below HX1.out.below).at_ (i := 1) (by simp)
  rw [hA] at hA'
  cases hA'
  simp only [List.getElem_cons_zero, List.getElem_cons_succ] at he0 he1
  subst hA he0 he1
  simp only [Nat.zero_mul, Nat.one_mul, Nat.add_zero] at x0 x1 x2 x3 y0 y1 y2 y3
  have p0 : w1.cell? ⟨w.heap.size + 1, 3, none⟩ = some (.string ⟨#[60]⟩) := cell_of_row _ _ 3 _ _ (0, 0) HX1.out.b1
  obtain ⟨X, hX⟩ : ∃ X, X = ktB (.mk k0 n0 s0 q0) (2 + 1) := ⟨_, rfl⟩
  obtain ⟨Y, hY⟩ : ∃ Y, Y = ktB (.mk k1 n1 s1 q1) (2 + 1) := ⟨_, rfl⟩
  have HXS : Hid (X.size ≤ 50331648) := Lib.hid (by have := ktB_size (.mk k0 n0 s0 q0) (2 + 1) fx; rw [hX]; omega)
  have HYS : Hid (Y.size ≤ 50331648) := Lib.hid (by have := ktB_size (.mk k1 n1 s1 q1) (2 + 1) fy; rw [hY]; omega)
  have HT : Hid (txB (.mk 9 n s [.mk k0 n0 s0 q0, .mk k1 n1 s1 q1]) = X ++ ⟨#[32]⟩ ++ ⟨#[60]⟩ ++ ⟨#[32]⟩ ++ Y) := Lib.hid (by rw [txB_sign _ _ _ _ _ rfl, hX, hY]; rfl)
  have HCX : Hid (∀ p : InC (Below w1.heap.size w1), Calls Tryd.prog 22 #[.agg #[.int .i64 k0, .int .i64 n0, .string s0, .slice A0 q0.length c0], .int .i64 2] p.w fun e w' => e = .returned (.string X) ∧ Below p.w.heap.size p.w w') := Lib.hid (fun p => by
    rw [hX]; exact ih _ _ 2 p.w hx fx (((hv0.more HX1.out.below.size).below p.ok).more p.ok.size))
  have HCY : Hid (∀ p : InC (Below w1.heap.size w1), Calls Tryd.prog 22 #[.agg #[.int .i64 k1, .int .i64 n1, .string s1, .slice A1 q1.length c1], .int .i64 2] p.w fun e w' => e = .returned (.string Y) ∧ Below p.w.heap.size p.w w') := Lib.hid (fun p => by
    rw [hY]; exact ih _ _ 2 p.w hy fy (((hv1.more HX1.out.below.size).below p.ok).more p.ok.size))
  have g0 := fun p : InC (Below w1.heap.size w1) => cls_cell z0 p
  have g3 := fun p : InC (Below w1.heap.size w1) => cls_cell z3 p
  have gp := fun p : InC (Below w1.heap.size w1) => cls_cell p0 p
  have gx0 := fun p : InC (Below w1.heap.size w1) => cls_cell x0 p
  have gx1 := fun p : InC (Below w1.heap.size w1) => cls_cell x1 p
  have gx2 := fun p : InC (Below w1.heap.size w1) => cls_cell x2 p
  have gx3 := fun p : InC (Below w1.heap.size w1) => cls_cell x3 p
  have gy0 := fun p : InC (Below w1.heap.size w1) => cls_cell y0 p
  have gy1 := fun p : InC (Below w1.heap.size w1) => cls_cell y1 p
  have gy2 := fun p : InC (Below w1.heap.size w1) => cls_cell y2 p
  have gy3 := fun p : InC (Below w1.heap.size w1) => cls_cell y3 p
  have t1 : ¬ 9223372036854775807 < X.size + (ByteArray.mk #[32]).size := by show ¬ 9223372036854775807 < X.size + 1; have := HXS.out; omega
  have t2 : ¬ 9223372036854775807 < (X ++ ByteArray.mk #[32]).size + (ByteArray.mk #[60]).size := by rw [ByteArray.size_append]; show ¬ 9223372036854775807 < X.size + 1 + 1; have := HXS.out; omega
  have t3 : ¬ 9223372036854775807 < (X ++ ByteArray.mk #[32] ++ ByteArray.mk #[60]).size + (ByteArray.mk #[32]).size := by rw [ByteArray.size_append, ByteArray.size_append]; show ¬ 9223372036854775807 < X.size + 1 + 1 + 1; have := HXS.out; omega
  have t4 : ¬ 9223372036854775807 < (X ++ ByteArray.mk #[32] ++ ByteArray.mk #[60] ++ ByteArray.mk #[32]).size + Y.size := by rw [ByteArray.size_append, ByteArray.size_append, ByteArray.size_append]; show ¬ 9223372036854775807 < X.size + 1 + 1 + 1 + Y.size; have := HXS.out; have := HYS.out; omega
  obtain ⟨T, hT⟩ : ∃ T, T = X ++ ⟨#[32]⟩ ++ ⟨#[60]⟩ ++ ⟨#[32]⟩ ++ Y := ⟨_, rfl⟩
  have HTS : Hid (T.size ≤ 100663400) := Lib.hid (by
    rw [hT, ByteArray.size_append, ByteArray.size_append, ByteArray.size_append, ByteArray.size_append]
    have := HXS.out; have := HYS.out
    show X.size + 1 + 1 + 1 + Y.size ≤ 100663400; omega)
  have HTT := Lib.hid hT
  rw [← hT] at HT
  clear hT hk hbB hbB' hv0 hv1 hX hY
  go_wp2_with fail
  clear z0 z1 z2 z3 x0 x1 x2 x3 y0 y1 y2 y3 p0
  refine region_class (Cl := Below w1.heap.size w1) (by kernel_rfl) (by kernel_rfl) (drew_below _) ?_
  repeat (go_big_quiet_step ((go_at_call 22; first | with_reducible exact cls_below _ (HCX.out _) | with_reducible exact cls_below _ (HCY.out _))))
  refine wpQuiet_nil ?_
  intro wq hw'
  obtain ⟨nq, hw''⟩ := hw'
  have hb9 : Below w1.heap.size w1 wq := by rw [hw'']; exact nq.ok
  have r0 : wq.cell? ⟨w.heap.size, 0, none⟩ = some (.int .i64 9) := by rw [hw'']; exact g0 nq
  clear hw'' nq
  clear g0 g3 gp gx0 gx1 gx2 gx3 gy0 gy1 gy2 gy3
  rw [← HTT.out]
  by_cases hq : (1 : Int) < q
  · have HE : Hid (ktB (.mk 9 n s [.mk k0 n0 s0 q0, .mk k1 n1 s1 q1]) (q + 1) = ⟨#[40]⟩ ++ txB (.mk 9 n s [.mk k0 n0 s0 q0, .mk k1 n1 s1 q1]) ++ ⟨#[41]⟩) := Lib.hid (ktB_yes (by show bindI 9 < q + 1; rw [show bindI 9 = 1 + 1 from rfl]; omega))
    rw [HT.out] at HE
    have s3 : ¬ 9223372036854775807 < (ByteArray.mk #[40]).size + T.size := by show ¬ 9223372036854775807 < 1 + T.size; have := HTS.out; omega
    have s4 : ¬ 9223372036854775807 < (ByteArray.mk #[40] ++ T).size + (ByteArray.mk #[41]).size := by rw [ByteArray.size_append]; show ¬ 9223372036854775807 < 1 + T.size + 1; have := HTS.out; omega
    go_wp2_with fail
    go_ret
    exact ⟨by rw [HE.out]; rfl, HX1.out.below.trans (hb9.mono HX1.out.below.size)⟩
  · have HE : Hid (ktB (.mk 9 n s [.mk k0 n0 s0 q0, .mk k1 n1 s1 q1]) (q + 1) = txB (.mk 9 n s [.mk k0 n0 s0 q0, .mk k1 n1 s1 q1])) := Lib.hid (ktB_no (by show ¬ bindI 9 < q + 1; rw [show bindI 9 = 1 + 1 from rfl]; omega))
    rw [HT.out] at HE
    have hq' : decide ((1 : Int) < q) = false := by simpa using hq
    go_wp2_with fail
    go_ret
    exact ⟨by rw [HE.out]; rfl, HX1.out.below.trans (hb9.mono HX1.out.below.size)⟩

set_option maxRecDepth 100000 in
set_option maxHeartbeats 4000000 in
theorem write_10 (m : Nat) (hmm : m ≤ 1048576) (ih : WrC m) (n : Int) (s : ByteArray) (x y : E) (A : Option Addr) (c : Nat) (q : Int) (w : World) (hx : E.count x ≤ m) (hy : E.count y ≤ m) (fx : E.form x = true) (fy : E.form y = true) (hc : 2 ≤ c) (hk : KidsIn w.heap.size w A [x, y]) :
    Calls Tryd.prog 22 #[.agg (cE 10 n s A 2 c), .int .i64 q] w fun e w' => e = .returned (.string (ktB (.mk 10 n s [x, y]) (q + 1))) ∧ Below w.heap.size w w' := by
  have HX := Lib.hid (Duo.new w tE 9 (cE 10 n s A 2 c) strs6)
  obtain ⟨W0, hW0⟩ : ∃ W0, W0 = ((w.alloc (.cells (cE 10 n s A 2 c) tE)).alloc (.cells strs6 9)) := ⟨_, rfl⟩
  rw [← hW0] at HX
  have HLV := Lib.hid (level_any 10 n s A 2 c W0)
  rw [show bindI 10 - 1 = 1 from rfl] at HLV
  go_enter Tryd.func22, Tryd.ntmps22
  go_wp2_with fail
  have hW0' : ((w.alloc (.cells #[.int .i64 10, .int .i64 n, .string s, .slice A 2 c] tE)).alloc (.cells #[.string ⟨#[43]⟩, .string ⟨#[45]⟩, .string ⟨#[42]⟩, .string ⟨#[60]⟩, .string ⟨#[61, 61]⟩, .string ⟨#[38, 38]⟩] 9)) = W0 := hW0.symm
  rw [hW0']
  clear hW0 hW0'
  refine HLV.out.mono ?_
  rintro e w1 ⟨rfl, hb1⟩
  have HX1 := Lib.hid (HX.out.step hb1)
  clear HLV HX
  obtain ⟨z0, z1, z2, z3⟩ := row4 HX1.out.b0
  obtain ⟨b, o, k0, n0, s0, q0, A0, c0, hA, hbB, he0, x0, x1, x2, x3, hv0⟩ := (hk.below HX1.out.below).at_ (i := 0) (by simp)
  obtain ⟨b', o', k1, n1, s1, q1, A1, c1, hA', hbB', he1, y0, y1, y2, y3, hv1⟩ := (hk.below HX1.out.below).at_ (i := 1) (by simp)
  rw [hA] at hA'
  cases hA'
  simp only [List.getElem_cons_zero, List.getElem_cons_succ] at he0 he1
  subst hA he0 he1
  simp only [Nat.zero_mul, Nat.one_mul, Nat.add_zero] at x0 x1 x2 x3 y0 y1 y2 y3
  have p0 : w1.cell? ⟨w.heap.size + 1, 4, none⟩ = some (.string ⟨#[61, 61]⟩) := cell_of_row _ _ 4 _ _ (0, 0) HX1.out.b1
  obtain ⟨X, hX⟩ : ∃ X, X = ktB (.mk k0 n0 s0 q0) (2 + 1) := ⟨_, rfl⟩
  obtain ⟨Y, hY⟩ : ∃ Y, Y = ktB (.mk k1 n1 s1 q1) (2 + 1) := ⟨_, rfl⟩
  have HXS : Hid (X.size ≤ 50331648) := Lib.hid (by have := ktB_size (.mk k0 n0 s0 q0) (2 + 1) fx; rw [hX]; omega)
  have HYS : Hid (Y.size ≤ 50331648) := Lib.hid (by have := ktB_size (.mk k1 n1 s1 q1) (2 + 1) fy; rw [hY]; omega)
  have HT : Hid (txB (.mk 10 n s [.mk k0 n0 s0 q0, .mk k1 n1 s1 q1]) = X ++ ⟨#[32]⟩ ++ ⟨#[61, 61]⟩ ++ ⟨#[32]⟩ ++ Y) := Lib.hid (by rw [txB_sign _ _ _ _ _ rfl, hX, hY]; rfl)
  have HCX : Hid (∀ p : InC (Below w1.heap.size w1), Calls Tryd.prog 22 #[.agg #[.int .i64 k0, .int .i64 n0, .string s0, .slice A0 q0.length c0], .int .i64 2] p.w fun e w' => e = .returned (.string X) ∧ Below p.w.heap.size p.w w') := Lib.hid (fun p => by
    rw [hX]; exact ih _ _ 2 p.w hx fx (((hv0.more HX1.out.below.size).below p.ok).more p.ok.size))
  have HCY : Hid (∀ p : InC (Below w1.heap.size w1), Calls Tryd.prog 22 #[.agg #[.int .i64 k1, .int .i64 n1, .string s1, .slice A1 q1.length c1], .int .i64 2] p.w fun e w' => e = .returned (.string Y) ∧ Below p.w.heap.size p.w w') := Lib.hid (fun p => by
    rw [hY]; exact ih _ _ 2 p.w hy fy (((hv1.more HX1.out.below.size).below p.ok).more p.ok.size))
  have g0 := fun p : InC (Below w1.heap.size w1) => cls_cell z0 p
  have g3 := fun p : InC (Below w1.heap.size w1) => cls_cell z3 p
  have gp := fun p : InC (Below w1.heap.size w1) => cls_cell p0 p
  have gx0 := fun p : InC (Below w1.heap.size w1) => cls_cell x0 p
  have gx1 := fun p : InC (Below w1.heap.size w1) => cls_cell x1 p
  have gx2 := fun p : InC (Below w1.heap.size w1) => cls_cell x2 p
  have gx3 := fun p : InC (Below w1.heap.size w1) => cls_cell x3 p
  have gy0 := fun p : InC (Below w1.heap.size w1) => cls_cell y0 p
  have gy1 := fun p : InC (Below w1.heap.size w1) => cls_cell y1 p
  have gy2 := fun p : InC (Below w1.heap.size w1) => cls_cell y2 p
  have gy3 := fun p : InC (Below w1.heap.size w1) => cls_cell y3 p
  have t1 : ¬ 9223372036854775807 < X.size + (ByteArray.mk #[32]).size := by show ¬ 9223372036854775807 < X.size + 1; have := HXS.out; omega
  have t2 : ¬ 9223372036854775807 < (X ++ ByteArray.mk #[32]).size + (ByteArray.mk #[61, 61]).size := by rw [ByteArray.size_append]; show ¬ 9223372036854775807 < X.size + 1 + 2; have := HXS.out; omega
  have t3 : ¬ 9223372036854775807 < (X ++ ByteArray.mk #[32] ++ ByteArray.mk #[61, 61]).size + (ByteArray.mk #[32]).size := by rw [ByteArray.size_append, ByteArray.size_append]; show ¬ 9223372036854775807 < X.size + 1 + 2 + 1; have := HXS.out; omega
  have t4 : ¬ 9223372036854775807 < (X ++ ByteArray.mk #[32] ++ ByteArray.mk #[61, 61] ++ ByteArray.mk #[32]).size + Y.size := by rw [ByteArray.size_append, ByteArray.size_append, ByteArray.size_append]; show ¬ 9223372036854775807 < X.size + 1 + 2 + 1 + Y.size; have := HXS.out; have := HYS.out; omega
  obtain ⟨T, hT⟩ : ∃ T, T = X ++ ⟨#[32]⟩ ++ ⟨#[61, 61]⟩ ++ ⟨#[32]⟩ ++ Y := ⟨_, rfl⟩
  have HTS : Hid (T.size ≤ 100663400) := Lib.hid (by
    rw [hT, ByteArray.size_append, ByteArray.size_append, ByteArray.size_append, ByteArray.size_append]
    have := HXS.out; have := HYS.out
    show X.size + 1 + 2 + 1 + Y.size ≤ 100663400; omega)
  have HTT := Lib.hid hT
  rw [← hT] at HT
  clear hT hk hbB hbB' hv0 hv1 hX hY
  go_wp2_with fail
  clear z0 z1 z2 z3 x0 x1 x2 x3 y0 y1 y2 y3 p0
  refine region_class (Cl := Below w1.heap.size w1) (by kernel_rfl) (by kernel_rfl) (drew_below _) ?_
  repeat (go_big_quiet_step ((go_at_call 22; first | with_reducible exact cls_below _ (HCX.out _) | with_reducible exact cls_below _ (HCY.out _))))
  refine wpQuiet_nil ?_
  intro wq hw'
  obtain ⟨nq, hw''⟩ := hw'
  have hb9 : Below w1.heap.size w1 wq := by rw [hw'']; exact nq.ok
  have r0 : wq.cell? ⟨w.heap.size, 0, none⟩ = some (.int .i64 10) := by rw [hw'']; exact g0 nq
  clear hw'' nq
  clear g0 g3 gp gx0 gx1 gx2 gx3 gy0 gy1 gy2 gy3
  rw [← HTT.out]
  by_cases hq : (1 : Int) < q
  · have HE : Hid (ktB (.mk 10 n s [.mk k0 n0 s0 q0, .mk k1 n1 s1 q1]) (q + 1) = ⟨#[40]⟩ ++ txB (.mk 10 n s [.mk k0 n0 s0 q0, .mk k1 n1 s1 q1]) ++ ⟨#[41]⟩) := Lib.hid (ktB_yes (by show bindI 10 < q + 1; rw [show bindI 10 = 1 + 1 from rfl]; omega))
    rw [HT.out] at HE
    have s3 : ¬ 9223372036854775807 < (ByteArray.mk #[40]).size + T.size := by show ¬ 9223372036854775807 < 1 + T.size; have := HTS.out; omega
    have s4 : ¬ 9223372036854775807 < (ByteArray.mk #[40] ++ T).size + (ByteArray.mk #[41]).size := by rw [ByteArray.size_append]; show ¬ 9223372036854775807 < 1 + T.size + 1; have := HTS.out; omega
    go_wp2_with fail
    go_ret
    exact ⟨by rw [HE.out]; rfl, HX1.out.below.trans (hb9.mono HX1.out.below.size)⟩
  · have HE : Hid (ktB (.mk 10 n s [.mk k0 n0 s0 q0, .mk k1 n1 s1 q1]) (q + 1) = txB (.mk 10 n s [.mk k0 n0 s0 q0, .mk k1 n1 s1 q1])) := Lib.hid (ktB_no (by show ¬ bindI 10 < q + 1; rw [show bindI 10 = 1 + 1 from rfl]; omega))
    rw [HT.out] at HE
    have hq' : decide ((1 : Int) < q) = false := by simpa using hq
    go_wp2_with fail
    go_ret
    exact ⟨by rw [HE.out]; rfl, HX1.out.below.trans (hb9.mono HX1.out.below.size)⟩

set_option maxRecDepth 100000 in
set_option maxHeartbeats 4000000 in
theorem write_11 (m : Nat) (hmm : m ≤ 1048576) (ih : WrC m) (n : Int) (s : ByteArray) (x y : E) (A : Option Addr) (c : Nat) (q : Int) (w : World) (hx : E.count x ≤ m) (hy : E.count y ≤ m) (fx : E.form x = true) (fy : E.form y = true) (hc : 2 ≤ c) (hk : KidsIn w.heap.size w A [x, y]) :
    Calls Tryd.prog 22 #[.agg (cE 11 n s A 2 c), .int .i64 q] w fun e w' => e = .returned (.string (ktB (.mk 11 n s [x, y]) (q + 1))) ∧ Below w.heap.size w w' := by
  have HX := Lib.hid (Duo.new w tE 9 (cE 11 n s A 2 c) strs6)
  obtain ⟨W0, hW0⟩ : ∃ W0, W0 = ((w.alloc (.cells (cE 11 n s A 2 c) tE)).alloc (.cells strs6 9)) := ⟨_, rfl⟩
  rw [← hW0] at HX
  have HLV := Lib.hid (level_any 11 n s A 2 c W0)
  rw [show bindI 11 - 1 = 0 from rfl] at HLV
  go_enter Tryd.func22, Tryd.ntmps22
  go_wp2_with fail
  have hW0' : ((w.alloc (.cells #[.int .i64 11, .int .i64 n, .string s, .slice A 2 c] tE)).alloc (.cells #[.string ⟨#[43]⟩, .string ⟨#[45]⟩, .string ⟨#[42]⟩, .string ⟨#[60]⟩, .string ⟨#[61, 61]⟩, .string ⟨#[38, 38]⟩] 9)) = W0 := hW0.symm
  rw [hW0']
  clear hW0 hW0'
  refine HLV.out.mono ?_
  rintro e w1 ⟨rfl, hb1⟩
  have HX1 := Lib.hid (HX.out.step hb1)
  clear HLV HX
  obtain ⟨z0, z1, z2, z3⟩ := row4 HX1.out.b0
  obtain ⟨b, o, k0, n0, s0, q0, A0, c0, hA, hbB, he0, x0, x1, x2, x3, hv0⟩ := (hk.below HX1.out.below).at_ (i := 0) (by simp)
  obtain ⟨b', o', k1, n1, s1, q1, A1, c1, hA', hbB', he1, y0, y1, y2, y3, hv1⟩ := (hk.below HX1.out.below).at_ (i := 1) (by simp)
  rw [hA] at hA'
  cases hA'
  simp only [List.getElem_cons_zero, List.getElem_cons_succ] at he0 he1
  subst hA he0 he1
  simp only [Nat.zero_mul, Nat.one_mul, Nat.add_zero] at x0 x1 x2 x3 y0 y1 y2 y3
  have p0 : w1.cell? ⟨w.heap.size + 1, 5, none⟩ = some (.string ⟨#[38, 38]⟩) := cell_of_row _ _ 5 _ _ (0, 0) HX1.out.b1
  obtain ⟨X, hX⟩ : ∃ X, X = ktB (.mk k0 n0 s0 q0) (0 + 1) := ⟨_, rfl⟩
  obtain ⟨Y, hY⟩ : ∃ Y, Y = ktB (.mk k1 n1 s1 q1) (1 + 1) := ⟨_, rfl⟩
  have HXS : Hid (X.size ≤ 50331648) := Lib.hid (by have := ktB_size (.mk k0 n0 s0 q0) (0 + 1) fx; rw [hX]; omega)
  have HYS : Hid (Y.size ≤ 50331648) := Lib.hid (by have := ktB_size (.mk k1 n1 s1 q1) (1 + 1) fy; rw [hY]; omega)
  have HT : Hid (txB (.mk 11 n s [.mk k0 n0 s0 q0, .mk k1 n1 s1 q1]) = X ++ ⟨#[32]⟩ ++ ⟨#[38, 38]⟩ ++ ⟨#[32]⟩ ++ Y) := Lib.hid (by rw [txB_sign _ _ _ _ _ rfl, hX, hY]; rfl)
  have HCX : Hid (∀ p : InC (Below w1.heap.size w1), Calls Tryd.prog 22 #[.agg #[.int .i64 k0, .int .i64 n0, .string s0, .slice A0 q0.length c0], .int .i64 0] p.w fun e w' => e = .returned (.string X) ∧ Below p.w.heap.size p.w w') := Lib.hid (fun p => by
    rw [hX]; exact ih _ _ 0 p.w hx fx (((hv0.more HX1.out.below.size).below p.ok).more p.ok.size))
  have HCY : Hid (∀ p : InC (Below w1.heap.size w1), Calls Tryd.prog 22 #[.agg #[.int .i64 k1, .int .i64 n1, .string s1, .slice A1 q1.length c1], .int .i64 1] p.w fun e w' => e = .returned (.string Y) ∧ Below p.w.heap.size p.w w') := Lib.hid (fun p => by
    rw [hY]; exact ih _ _ 1 p.w hy fy (((hv1.more HX1.out.below.size).below p.ok).more p.ok.size))
  have g0 := fun p : InC (Below w1.heap.size w1) => cls_cell z0 p
  have g3 := fun p : InC (Below w1.heap.size w1) => cls_cell z3 p
  have gp := fun p : InC (Below w1.heap.size w1) => cls_cell p0 p
  have gx0 := fun p : InC (Below w1.heap.size w1) => cls_cell x0 p
  have gx1 := fun p : InC (Below w1.heap.size w1) => cls_cell x1 p
  have gx2 := fun p : InC (Below w1.heap.size w1) => cls_cell x2 p
  have gx3 := fun p : InC (Below w1.heap.size w1) => cls_cell x3 p
  have gy0 := fun p : InC (Below w1.heap.size w1) => cls_cell y0 p
  have gy1 := fun p : InC (Below w1.heap.size w1) => cls_cell y1 p
  have gy2 := fun p : InC (Below w1.heap.size w1) => cls_cell y2 p
  have gy3 := fun p : InC (Below w1.heap.size w1) => cls_cell y3 p
  have t1 : ¬ 9223372036854775807 < X.size + (ByteArray.mk #[32]).size := by show ¬ 9223372036854775807 < X.size + 1; have := HXS.out; omega
  have t2 : ¬ 9223372036854775807 < (X ++ ByteArray.mk #[32]).size + (ByteArray.mk #[38, 38]).size := by rw [ByteArray.size_append]; show ¬ 9223372036854775807 < X.size + 1 + 2; have := HXS.out; omega
  have t3 : ¬ 9223372036854775807 < (X ++ ByteArray.mk #[32] ++ ByteArray.mk #[38, 38]).size + (ByteArray.mk #[32]).size := by rw [ByteArray.size_append, ByteArray.size_append]; show ¬ 9223372036854775807 < X.size + 1 + 2 + 1; have := HXS.out; omega
  have t4 : ¬ 9223372036854775807 < (X ++ ByteArray.mk #[32] ++ ByteArray.mk #[38, 38] ++ ByteArray.mk #[32]).size + Y.size := by rw [ByteArray.size_append, ByteArray.size_append, ByteArray.size_append]; show ¬ 9223372036854775807 < X.size + 1 + 2 + 1 + Y.size; have := HXS.out; have := HYS.out; omega
  obtain ⟨T, hT⟩ : ∃ T, T = X ++ ⟨#[32]⟩ ++ ⟨#[38, 38]⟩ ++ ⟨#[32]⟩ ++ Y := ⟨_, rfl⟩
  have HTS : Hid (T.size ≤ 100663400) := Lib.hid (by
    rw [hT, ByteArray.size_append, ByteArray.size_append, ByteArray.size_append, ByteArray.size_append]
    have := HXS.out; have := HYS.out
    show X.size + 1 + 2 + 1 + Y.size ≤ 100663400; omega)
  have HTT := Lib.hid hT
  rw [← hT] at HT
  clear hT hk hbB hbB' hv0 hv1 hX hY
  go_wp2_with fail
  clear z0 z1 z2 z3 x0 x1 x2 x3 y0 y1 y2 y3 p0
  refine region_class (Cl := Below w1.heap.size w1) (by kernel_rfl) (by kernel_rfl) (drew_below _) ?_
  repeat (go_big_quiet_step ((go_at_call 22; first | with_reducible exact cls_below _ (HCX.out _) | with_reducible exact cls_below _ (HCY.out _))))
  refine wpQuiet_nil ?_
  intro wq hw'
  obtain ⟨nq, hw''⟩ := hw'
  have hb9 : Below w1.heap.size w1 wq := by rw [hw'']; exact nq.ok
  have r0 : wq.cell? ⟨w.heap.size, 0, none⟩ = some (.int .i64 11) := by rw [hw'']; exact g0 nq
  clear hw'' nq
  clear g0 g3 gp gx0 gx1 gx2 gx3 gy0 gy1 gy2 gy3
  rw [← HTT.out]
  by_cases hq : (0 : Int) < q
  · have HE : Hid (ktB (.mk 11 n s [.mk k0 n0 s0 q0, .mk k1 n1 s1 q1]) (q + 1) = ⟨#[40]⟩ ++ txB (.mk 11 n s [.mk k0 n0 s0 q0, .mk k1 n1 s1 q1]) ++ ⟨#[41]⟩) := Lib.hid (ktB_yes (by show bindI 11 < q + 1; rw [show bindI 11 = 0 + 1 from rfl]; omega))
    rw [HT.out] at HE
    have s3 : ¬ 9223372036854775807 < (ByteArray.mk #[40]).size + T.size := by show ¬ 9223372036854775807 < 1 + T.size; have := HTS.out; omega
    have s4 : ¬ 9223372036854775807 < (ByteArray.mk #[40] ++ T).size + (ByteArray.mk #[41]).size := by rw [ByteArray.size_append]; show ¬ 9223372036854775807 < 1 + T.size + 1; have := HTS.out; omega
    go_wp2_with fail
    go_ret
    exact ⟨by rw [HE.out]; rfl, HX1.out.below.trans (hb9.mono HX1.out.below.size)⟩
  · have HE : Hid (ktB (.mk 11 n s [.mk k0 n0 s0 q0, .mk k1 n1 s1 q1]) (q + 1) = txB (.mk 11 n s [.mk k0 n0 s0 q0, .mk k1 n1 s1 q1])) := Lib.hid (ktB_no (by show ¬ bindI 11 < q + 1; rw [show bindI 11 = 0 + 1 from rfl]; omega))
    rw [HT.out] at HE
    have hq' : decide ((0 : Int) < q) = false := by simpa using hq
    go_wp2_with fail
    go_ret
    exact ⟨by rw [HE.out]; rfl, HX1.out.below.trans (hb9.mono HX1.out.below.size)⟩

end Go.Proofs.YtdehpgdffafebaaDoor
