/- The text of an expression, by the document's answer, sign by sign. Conditions: there are at most 1048576 expressions in it.
The text of an expression, by the document's answer. Conditions: there are at most 1048575 expressions in it. -/
import Derived.Test.YtdehpgdffafebaaDoorZag
import Derived.Test.YtdehpgdffafebaaDoorZai
import Derived.Test.YtdehpgdffafebaaDoorZaj
namespace Go.Proofs.YtdehpgdffafebaaDoor
open Go.RowKit
open Go.Lib (decDigits itoa)
set_option linter.unusedVariables false

set_option maxRecDepth 100000 in
set_option maxHeartbeats 4000000 in
theorem write_12 (m : Nat) (hmm : m ≤ 1048576) (ih : WrC m) (n : Int) (s : ByteArray) (x : E) (A : Option Addr) (c : Nat) (q : Int) (w : World) (hx : E.count x ≤ m) (fx : E.form x = true) (hc : 1 ≤ c) (hk : KidsIn w.heap.size w A [x]) :
    Calls Tryd.prog 22 #[.agg (cE 12 n s A 1 c), .int .i64 q] w fun e w' => e = .returned (.string (ktB (.mk 12 n s [x]) (q + 1))) ∧ Below w.heap.size w w' := by
  have HX := Lib.hid (Duo.new w tE 9 (cE 12 n s A 1 c) strs6)
  obtain ⟨W0, hW0⟩ : ∃ W0, W0 = ((w.alloc (.cells (cE 12 n s A 1 c) tE)).alloc (.cells strs6 9)) := ⟨_, rfl⟩
  rw [← hW0] at HX
  have HLV := Lib.hid (level_any 12 n s A 1 c W0)
  rw [show bindI 12 - 1 = 4 from rfl] at HLV
  go_enter Tryd.func22, Tryd.ntmps22
  go_wp2_with fail
  have hW0' : ((w.alloc (.cells #[.int .i64 12, .int .i64 n, .string s, .slice A 1 c] tE)).alloc (.cells #[.string ⟨#[43]⟩, .string ⟨#[45]⟩, .string ⟨#[42]⟩, .string ⟨#[60]⟩, .string ⟨#[61, 61]⟩, .string ⟨#[38, 38]⟩] 9)) = W0 := hW0.symm
  rw [hW0']
  clear hW0 hW0'
  refine HLV.out.mono ?_
  rintro e w1 ⟨rfl, hb1⟩
  have HX1 := Lib.hid (HX.out.step hb1)
  clear HLV HX
  obtain ⟨z0, z1, z2, z3⟩ := row4 HX1.out.b0
  obtain ⟨b, o, k0, n0, s0, q0, A0, c0, hA, hbB, he0, x0, x1, x2, x3, hv0⟩ := (hk.below HX1.out.below).at_ (i := 0) (by simp)
  simp only [List.getElem_cons_zero] at he0
  subst hA he0
  simp only [Nat.zero_mul, Nat.add_zero] at x0 x1 x2 x3
  obtain ⟨X, hX⟩ : ∃ X, X = ktB (.mk k0 n0 s0 q0) (4 + 1) := ⟨_, rfl⟩
  have HXS : Hid (X.size ≤ 50331648) := Lib.hid (by have := ktB_size (.mk k0 n0 s0 q0) (4 + 1) fx; rw [hX]; omega)
  have HCX : Hid (Calls Tryd.prog 22 #[.agg #[.int .i64 k0, .int .i64 n0, .string s0, .slice A0 q0.length c0], .int .i64 4] w1 fun e w' => e = .returned (.string X) ∧ Below w1.heap.size w1 w') := Lib.hid (by
    rw [hX]; exact ih _ _ 4 w1 hx fx (hv0.more HX1.out.below.size))
  have HT : Hid (txB (.mk 12 n s [.mk k0 n0 s0 q0]) = ⟨#[33]⟩ ++ X) := Lib.hid (by rw [txB_12, hX]; rfl)
  have t1 : ¬ 9223372036854775807 < (ByteArray.mk #[33]).size + X.size := by show ¬ 9223372036854775807 < 1 + X.size; have := HXS.out; omega
  obtain ⟨T, hT⟩ : ∃ T, T = ⟨#[33]⟩ ++ X := ⟨_, rfl⟩
  have HTS : Hid (T.size ≤ 100663400) := Lib.hid (by
    rw [hT, ByteArray.size_append]
    have := HXS.out
    show 1 + X.size ≤ 100663400; omega)
  have HTT := Lib.hid hT
  have HTB := HT
  rw [← hT] at HT
  clear hT hk hbB hv0 hX
  go_wp2_with fail
  clear x0 x1 x2 x3
  refine HCX.out.mono ?_
  rintro e w2 ⟨rfl, hb2⟩
  have HX2 := Lib.hid (HX1.out.step hb2)
  clear z0 z1 z2 z3
  obtain ⟨z0, z1, z2, z3⟩ := row4 HX2.out.b0
  
  by_cases hq : (4 : Int) < q
  · have HE : Hid (ktB (.mk 12 n s [.mk k0 n0 s0 q0]) (q + 1) = ⟨#[40]⟩ ++ txB (.mk 12 n s [.mk k0 n0 s0 q0]) ++ ⟨#[41]⟩) := Lib.hid (ktB_yes (by show bindI 12 < q + 1; rw [show bindI 12 = 4 + 1 from rfl]; omega))
    rw [HTB.out] at HE
    have s3 : ¬ 9223372036854775807 < (ByteArray.mk #[40]).size + (ByteArray.mk #[33] ++ X).size := by rw [show (ByteArray.mk #[33] ++ X) = T from HTT.out.symm]; show ¬ 9223372036854775807 < 1 + T.size; have := HTS.out; omega
    have s4 : ¬ 9223372036854775807 < (ByteArray.mk #[40] ++ (ByteArray.mk #[33] ++ X)).size + (ByteArray.mk #[41]).size := by rw [show (ByteArray.mk #[33] ++ X) = T from HTT.out.symm]; rw [ByteArray.size_append]; show ¬ 9223372036854775807 < 1 + T.size + 1; have := HTS.out; omega
    go_wp2_with fail
    go_ret
    exact ⟨by rw [HE.out]; rfl, HX2.out.below⟩
  · have HE : Hid (ktB (.mk 12 n s [.mk k0 n0 s0 q0]) (q + 1) = txB (.mk 12 n s [.mk k0 n0 s0 q0])) := Lib.hid (ktB_no (by show ¬ bindI 12 < q + 1; rw [show bindI 12 = 4 + 1 from rfl]; omega))
    rw [HTB.out] at HE
    have hq' : decide ((4 : Int) < q) = false := by simpa using hq
    go_wp2_with fail
    go_ret
    exact ⟨by rw [HE.out]; rfl, HX2.out.below⟩

set_option maxRecDepth 100000 in
set_option maxHeartbeats 4000000 in
theorem write_13 (m : Nat) (hmm : m ≤ 1048576) (ih : WrC m) (n : Int) (s : ByteArray) (x : E) (A : Option Addr) (c : Nat) (q : Int) (w : World) (hx : E.count x ≤ m) (fx : E.form x = true) (hc : 1 ≤ c) (hk : KidsIn w.heap.size w A [x]) :
    Calls Tryd.prog 22 #[.agg (cE 13 n s A 1 c), .int .i64 q] w fun e w' => e = .returned (.string (ktB (.mk 13 n s [x]) (q + 1))) ∧ Below w.heap.size w w' := by
  have HX := Lib.hid (Duo.new w tE 9 (cE 13 n s A 1 c) strs6)
  obtain ⟨W0, hW0⟩ : ∃ W0, W0 = ((w.alloc (.cells (cE 13 n s A 1 c) tE)).alloc (.cells strs6 9)) := ⟨_, rfl⟩
  rw [← hW0] at HX
  have HLV := Lib.hid (level_any 13 n s A 1 c W0)
  rw [show bindI 13 - 1 = 4 from rfl] at HLV
  go_enter Tryd.func22, Tryd.ntmps22
  go_wp2_with fail
  have hW0' : ((w.alloc (.cells #[.int .i64 13, .int .i64 n, .string s, .slice A 1 c] tE)).alloc (.cells #[.string ⟨#[43]⟩, .string ⟨#[45]⟩, .string ⟨#[42]⟩, .string ⟨#[60]⟩, .string ⟨#[61, 61]⟩, .string ⟨#[38, 38]⟩] 9)) = W0 := hW0.symm
  rw [hW0']
  clear hW0 hW0'
  refine HLV.out.mono ?_
  rintro e w1 ⟨rfl, hb1⟩
  have HX1 := Lib.hid (HX.out.step hb1)
  clear HLV HX
  obtain ⟨z0, z1, z2, z3⟩ := row4 HX1.out.b0
  obtain ⟨b, o, k0, n0, s0, q0, A0, c0, hA, hbB, he0, x0, x1, x2, x3, hv0⟩ := (hk.below HX1.out.below).at_ (i := 0) (by simp)
  simp only [List.getElem_cons_zero] at he0
  subst hA he0
  simp only [Nat.zero_mul, Nat.add_zero] at x0 x1 x2 x3
  obtain ⟨X, hX⟩ : ∃ X, X = ktB (.mk k0 n0 s0 q0) (4 + 1) := ⟨_, rfl⟩
  have HXS : Hid (X.size ≤ 50331648) := Lib.hid (by have := ktB_size (.mk k0 n0 s0 q0) (4 + 1) fx; rw [hX]; omega)
  have HCX : Hid (Calls Tryd.prog 22 #[.agg #[.int .i64 k0, .int .i64 n0, .string s0, .slice A0 q0.length c0], .int .i64 4] w1 fun e w' => e = .returned (.string X) ∧ Below w1.heap.size w1 w') := Lib.hid (by
    rw [hX]; exact ih _ _ 4 w1 hx fx (hv0.more HX1.out.below.size))
  have HT : Hid (txB (.mk 13 n s [.mk k0 n0 s0 q0]) = ⟨#[110, 105, 108, 40]⟩ ++ X ++ ⟨#[41]⟩) := Lib.hid (by rw [txB_13, hX]; rfl)
  have t1 : ¬ 9223372036854775807 < (ByteArray.mk #[110, 105, 108, 40]).size + X.size := by show ¬ 9223372036854775807 < 4 + X.size; have := HXS.out; omega
  have t2 : ¬ 9223372036854775807 < (ByteArray.mk #[110, 105, 108, 40] ++ X).size + (ByteArray.mk #[41]).size := by rw [ByteArray.size_append]; show ¬ 9223372036854775807 < 4 + X.size + 1; have := HXS.out; omega
  obtain ⟨T, hT⟩ : ∃ T, T = ⟨#[110, 105, 108, 40]⟩ ++ X ++ ⟨#[41]⟩ := ⟨_, rfl⟩
  have HTS : Hid (T.size ≤ 100663400) := Lib.hid (by
    rw [hT, ByteArray.size_append, ByteArray.size_append]
    have := HXS.out
    show 4 + X.size + 1 ≤ 100663400; omega)
  have HTT := Lib.hid hT
  have HTB := HT
  rw [← hT] at HT
  clear hT hk hbB hv0 hX
  go_wp2_with fail
  clear x0 x1 x2 x3
  refine HCX.out.mono ?_
  rintro e w2 ⟨rfl, hb2⟩
  have HX2 := Lib.hid (HX1.out.step hb2)
  clear z0 z1 z2 z3
  obtain ⟨z0, z1, z2, z3⟩ := row4 HX2.out.b0
  
  by_cases hq : (4 : Int) < q
  · have HE : Hid (ktB (.mk 13 n s [.mk k0 n0 s0 q0]) (q + 1) = ⟨#[40]⟩ ++ txB (.mk 13 n s [.mk k0 n0 s0 q0]) ++ ⟨#[41]⟩) := Lib.hid (ktB_yes (by show bindI 13 < q + 1; rw [show bindI 13 = 4 + 1 from rfl]; omega))
    rw [HTB.out] at HE
    have s3 : ¬ 9223372036854775807 < (ByteArray.mk #[40]).size + (ByteArray.mk #[110, 105, 108, 40] ++ X ++ ByteArray.mk #[41]).size := by rw [show (ByteArray.mk #[110, 105, 108, 40] ++ X ++ ByteArray.mk #[41]) = T from HTT.out.symm]; show ¬ 9223372036854775807 < 1 + T.size; have := HTS.out; omega
    have s4 : ¬ 9223372036854775807 < (ByteArray.mk #[40] ++ (ByteArray.mk #[110, 105, 108, 40] ++ X ++ ByteArray.mk #[41])).size + (ByteArray.mk #[41]).size := by rw [show (ByteArray.mk #[110, 105, 108, 40] ++ X ++ ByteArray.mk #[41]) = T from HTT.out.symm]; rw [ByteArray.size_append]; show ¬ 9223372036854775807 < 1 + T.size + 1; have := HTS.out; omega
    go_wp2_with fail
    go_ret
    exact ⟨by rw [HE.out]; rfl, HX2.out.below⟩
  · have HE : Hid (ktB (.mk 13 n s [.mk k0 n0 s0 q0]) (q + 1) = txB (.mk 13 n s [.mk k0 n0 s0 q0])) := Lib.hid (ktB_no (by show ¬ bindI 13 < q + 1; rw [show bindI 13 = 4 + 1 from rfl]; omega))
    rw [HTB.out] at HE
    have hq' : decide ((4 : Int) < q) = false := by simpa using hq
    go_wp2_with fail
    go_ret
    exact ⟨by rw [HE.out]; rfl, HX2.out.below⟩

set_option maxRecDepth 100000 in
set_option maxHeartbeats 4000000 in
theorem write_14 (m : Nat) (hmm : m ≤ 1048576) (ih : WrC m) (n : Int) (s : ByteArray) (x y : E) (A : Option Addr) (c : Nat) (q : Int) (w : World) (hx : E.count x ≤ m) (hy : E.count y ≤ m) (fx : E.form x = true) (fy : E.form y = true) (hc : 2 ≤ c) (hk : KidsIn w.heap.size w A [x, y]) :
    Calls Tryd.prog 22 #[.agg (cE 14 n s A 2 c), .int .i64 q] w fun e w' => e = .returned (.string (ktB (.mk 14 n s [x, y]) (q + 1))) ∧ Below w.heap.size w w' := by
  have HX := Lib.hid (Duo.new w tE 9 (cE 14 n s A 2 c) strs6)
  obtain ⟨W0, hW0⟩ : ∃ W0, W0 = ((w.alloc (.cells (cE 14 n s A 2 c) tE)).alloc (.cells strs6 9)) := ⟨_, rfl⟩
  rw [← hW0] at HX
  have HLV := Lib.hid (level_any 14 n s A 2 c W0)
  rw [show bindI 14 - 1 = 4 from rfl] at HLV
  go_enter Tryd.func22, Tryd.ntmps22
  go_wp2_with fail
  have hW0' : ((w.alloc (.cells #[.int .i64 14, .int .i64 n, .string s, .slice A 2 c] tE)).alloc (.cells #[.string ⟨#[43]⟩, .string ⟨#[45]⟩, .string ⟨#[42]⟩, .string ⟨#[60]⟩, .string ⟨#[61, 61]⟩, .string ⟨#[38, 38]⟩] 9)) = W0 := hW0.symm
  rw [hW0']
  clear hW0 hW0'
  refine HLV.out.mono ?_
  rintro e w1 ⟨rfl, hb1⟩
  have HX1 := Lib.hid (HX.out.step hb1)
  clear HLV HX
  obtain ⟨z0, z1, z2, z3⟩ := row4 HX1.out.b0
  obtain ⟨b, o, k0, n0, s0, q0, A0, c0, hA, hbB, he0, x0, x1, x2, x3, hv0⟩ := (hk.below HX1.out.below).at_ (i := 0) (by simp)
  obtain ⟨b', o', k1, n1, s1, q1, A1, c1, hA', hbB', he1, y0, y1, y2, y3, hv1⟩ := (hk.below HX1.out.below).at_ (i := 1) (by simp)
  rw [hA] at hA'
  cases hA'
  simp only [List.getElem_cons_zero, List.getElem_cons_succ] at he0 he1
  subst hA he0 he1
  simp only [Nat.zero_mul, Nat.one_mul, Nat.add_zero] at x0 x1 x2 x3 y0 y1 y2 y3
  obtain ⟨X, hX⟩ : ∃ X, X = ktB (.mk k0 n0 s0 q0) (4 + 1) := ⟨_, rfl⟩
  obtain ⟨Y, hY⟩ : ∃ Y, Y = ktB (.mk k1 n1 s1 q1) (4 + 1) := ⟨_, rfl⟩
  have HXS : Hid (X.size ≤ 50331648) := Lib.hid (by have := ktB_size (.mk k0 n0 s0 q0) (4 + 1) fx; rw [hX]; omega)
  have HYS : Hid (Y.size ≤ 50331648) := Lib.hid (by have := ktB_size (.mk k1 n1 s1 q1) (4 + 1) fy; rw [hY]; omega)
  have HT : Hid (txB (.mk 14 n s [.mk k0 n0 s0 q0, .mk k1 n1 s1 q1]) = ⟨#[115, 97, 109, 101, 40]⟩ ++ X ++ ⟨#[44, 32]⟩ ++ Y ++ ⟨#[41]⟩) := Lib.hid (by rw [txB_14, hX, hY]; rfl)
  have HCX : Hid (∀ p : InC (Below w1.heap.size w1), Calls Tryd.prog 22 #[.agg #[.int .i64 k0, .int .i64 n0, .string s0, .slice A0 q0.length c0], .int .i64 4] p.w fun e w' => e = .returned (.string X) ∧ Below p.w.heap.size p.w w') := Lib.hid (fun p => by
    rw [hX]; exact ih _ _ 4 p.w hx fx (((hv0.more HX1.out.below.size).below p.ok).more p.ok.size))
  have HCY : Hid (∀ p : InC (Below w1.heap.size w1), Calls Tryd.prog 22 #[.agg #[.int .i64 k1, .int .i64 n1, .string s1, .slice A1 q1.length c1], .int .i64 4] p.w fun e w' => e = .returned (.string Y) ∧ Below p.w.heap.size p.w w') := Lib.hid (fun p => by
    rw [hY]; exact ih _ _ 4 p.w hy fy (((hv1.more HX1.out.below.size).below p.ok).more p.ok.size))
  have g0 := fun p : InC (Below w1.heap.size w1) => cls_cell z0 p
  have g3 := fun p : InC (Below w1.heap.size w1) => cls_cell z3 p
  have gx0 := fun p : InC (Below w1.heap.size w1) => cls_cell x0 p
  have gx1 := fun p : InC (Below w1.heap.size w1) => cls_cell x1 p
  have gx2 := fun p : InC (Below w1.heap.size w1) => cls_cell x2 p
  have gx3 := fun p : InC (Below w1.heap.size w1) => cls_cell x3 p
  have gy0 := fun p : InC (Below w1.heap.size w1) => cls_cell y0 p
  have gy1 := fun p : InC (Below w1.heap.size w1) => cls_cell y1 p
  have gy2 := fun p : InC (Below w1.heap.size w1) => cls_cell y2 p
  have gy3 := fun p : InC (Below w1.heap.size w1) => cls_cell y3 p
  have t1 : ¬ 9223372036854775807 < (ByteArray.mk #[115, 97, 109, 101, 40]).size + X.size := by show ¬ 9223372036854775807 < 5 + X.size; have := HXS.out; omega
  have t2 : ¬ 9223372036854775807 < (ByteArray.mk #[115, 97, 109, 101, 40] ++ X).size + (ByteArray.mk #[44, 32]).size := by rw [ByteArray.size_append]; show ¬ 9223372036854775807 < 5 + X.size + 2; have := HXS.out; omega
  have t3 : ¬ 9223372036854775807 < (ByteArray.mk #[115, 97, 109, 101, 40] ++ X ++ ByteArray.mk #[44, 32]).size + Y.size := by rw [ByteArray.size_append, ByteArray.size_append]; show ¬ 9223372036854775807 < 5 + X.size + 2 + Y.size; have := HXS.out; have := HYS.out; omega
  have t4 : ¬ 9223372036854775807 < (ByteArray.mk #[115, 97, 109, 101, 40] ++ X ++ ByteArray.mk #[44, 32] ++ Y).size + (ByteArray.mk #[41]).size := by rw [ByteArray.size_append, ByteArray.size_append, ByteArray.size_append]; show ¬ 9223372036854775807 < 5 + X.size + 2 + Y.size + 1; have := HXS.out; have := HYS.out; omega
  obtain ⟨T, hT⟩ : ∃ T, T = ⟨#[115, 97, 109, 101, 40]⟩ ++ X ++ ⟨#[44, 32]⟩ ++ Y ++ ⟨#[41]⟩ := ⟨_, rfl⟩
  have HTS : Hid (T.size ≤ 100663400) := Lib.hid (by
    rw [hT, ByteArray.size_append, ByteArray.size_append, ByteArray.size_append, ByteArray.size_append]
    have := HXS.out; have := HYS.out
    show 5 + X.size + 2 + Y.size + 1 ≤ 100663400; omega)
  have HTT := Lib.hid hT
  rw [← hT] at HT
  clear hT hk hbB hbB' hv0 hv1 hX hY
  go_wp2_with fail
  clear z0 z1 z2 z3 x0 x1 x2 x3 y0 y1 y2 y3
  refine region_class (Cl := Below w1.heap.size w1) (by kernel_rfl) (by kernel_rfl) (drew_below _) ?_
  repeat (go_big_quiet_step ((go_at_call 22; first | with_reducible exact cls_below _ (HCX.out _) | with_reducible exact cls_below _ (HCY.out _))))
  refine wpQuiet_nil ?_
  intro wq hw'
  obtain ⟨nq, hw''⟩ := hw'
  have hb9 : Below w1.heap.size w1 wq := by rw [hw'']; exact nq.ok
  have r0 : wq.cell? ⟨w.heap.size, 0, none⟩ = some (.int .i64 14) := by rw [hw'']; exact g0 nq
  clear hw'' nq
  clear g0 g3 gx0 gx1 gx2 gx3 gy0 gy1 gy2 gy3
  rw [← HTT.out]
  by_cases hq : (4 : Int) < q
  · have HE : Hid (ktB (.mk 14 n s [.mk k0 n0 s0 q0, .mk k1 n1 s1 q1]) (q + 1) = ⟨#[40]⟩ ++ txB (.mk 14 n s [.mk k0 n0 s0 q0, .mk k1 n1 s1 q1]) ++ ⟨#[41]⟩) := Lib.hid (ktB_yes (by show bindI 14 < q + 1; rw [show bindI 14 = 4 + 1 from rfl]; omega))
    rw [HT.out] at HE
    have s3 : ¬ 9223372036854775807 < (ByteArray.mk #[40]).size + T.size := by show ¬ 9223372036854775807 < 1 + T.size; have := HTS.out; omega
    have s4 : ¬ 9223372036854775807 < (ByteArray.mk #[40] ++ T).size + (ByteArray.mk #[41]).size := by rw [ByteArray.size_append]; show ¬ 9223372036854775807 < 1 + T.size + 1; have := HTS.out; omega
    go_wp2_with fail
    go_ret
    exact ⟨by rw [HE.out]; rfl, HX1.out.below.trans (hb9.mono HX1.out.below.size)⟩
  · have HE : Hid (ktB (.mk 14 n s [.mk k0 n0 s0 q0, .mk k1 n1 s1 q1]) (q + 1) = txB (.mk 14 n s [.mk k0 n0 s0 q0, .mk k1 n1 s1 q1])) := Lib.hid (ktB_no (by show ¬ bindI 14 < q + 1; rw [show bindI 14 = 4 + 1 from rfl]; omega))
    rw [HT.out] at HE
    have hq' : decide ((4 : Int) < q) = false := by simpa using hq
    go_wp2_with fail
    go_ret
    exact ⟨by rw [HE.out]; rfl, HX1.out.below.trans (hb9.mono HX1.out.below.size)⟩

set_option maxRecDepth 100000 in
set_option maxHeartbeats 4000000 in
theorem write_1 (n : Int) (s : ByteArray) (A : Option Addr) (c : Nat) (q : Int) (w : World) (hn0 : 0 ≤ n) (hn1 : n ≤ 999999999) :
    Calls Tryd.prog 22 #[.agg (cE 1 n s A 0 c), .int .i64 q] w fun e w' => e = .returned (.string (ktB (.mk 1 n s []) (q + 1))) ∧ Below w.heap.size w w' := by
  have HX := Lib.hid (Duo.new w tE 9 (cE 1 n s A 0 c) strs6)
  obtain ⟨W0, hW0⟩ : ∃ W0, W0 = ((w.alloc (.cells (cE 1 n s A 0 c) tE)).alloc (.cells strs6 9)) := ⟨_, rfl⟩
  rw [← hW0] at HX
  have HLV := Lib.hid (level_any 1 n s A 0 c W0)
  rw [show bindI 1 - 1 = 4 from rfl] at HLV
  go_enter Tryd.func22, Tryd.ntmps22
  go_wp2_with fail
  have hW0' : ((w.alloc (.cells #[.int .i64 1, .int .i64 n, .string s, .slice A 0 c] tE)).alloc (.cells #[.string ⟨#[43]⟩, .string ⟨#[45]⟩, .string ⟨#[42]⟩, .string ⟨#[60]⟩, .string ⟨#[61, 61]⟩, .string ⟨#[38, 38]⟩] 9)) = W0 := hW0.symm
  rw [hW0']
  clear hW0 hW0'
  refine HLV.out.mono ?_
  rintro e w1 ⟨rfl, hb1⟩
  have HX1 := Lib.hid (HX.out.step hb1)
  clear HLV HX
  obtain ⟨z0, z1, z2, z3⟩ := row4 HX1.out.b0
  obtain ⟨T, hT⟩ : ∃ T : ByteArray, T = ⟨(itoa n).toArray⟩ := ⟨_, rfl⟩
  have HT : Hid (txB (.mk 1 n s []) = T) := Lib.hid (by rw [txB_1, hT])
  have HTS : Hid (T.size ≤ 100663400) := Lib.hid (by have h := itoa_len hn0 hn1; have h2 : T.size = (itoa n).length := (by rw [hT]; show (itoa n).toArray.size = _; simp); omega)
  have HTT := Lib.hid hT
  have hdg := refDigits_any n (by omega) (by omega) w1
  rw [← hT] at hdg
  have HDG := Lib.hid hdg
  clear hdg hT
  go_wp2_with fail
  refine HDG.out.mono ?_
  rintro e w2 ⟨rfl, hb2⟩
  have HX2 := Lib.hid (HX1.out.step hb2)
  clear z0 z1 z2 z3
  obtain ⟨z0, z1, z2, z3⟩ := row4 HX2.out.b0
  
  by_cases hq : (4 : Int) < q
  · have HE : Hid (ktB (.mk 1 n s []) (q + 1) = ⟨#[40]⟩ ++ txB (.mk 1 n s []) ++ ⟨#[41]⟩) := Lib.hid (ktB_yes (by show bindI 1 < q + 1; rw [show bindI 1 = 4 + 1 from rfl]; omega))
    rw [HT.out] at HE
    have s3 : ¬ 9223372036854775807 < (ByteArray.mk #[40]).size + T.size := by show ¬ 9223372036854775807 < 1 + T.size; have := HTS.out; omega
    have s4 : ¬ 9223372036854775807 < (ByteArray.mk #[40] ++ T).size + (ByteArray.mk #[41]).size := by rw [ByteArray.size_append]; show ¬ 9223372036854775807 < 1 + T.size + 1; have := HTS.out; omega
    go_wp2_with fail
    go_ret
    exact ⟨by rw [HE.out]; rfl, HX2.out.below⟩
  · have HE : Hid (ktB (.mk 1 n s []) (q + 1) = txB (.mk 1 n s [])) := Lib.hid (ktB_no (by show ¬ bindI 1 < q + 1; rw [show bindI 1 = 4 + 1 from rfl]; omega))
    rw [HT.out] at HE
    have hq' : decide ((4 : Int) < q) = false := by simpa using hq
    go_wp2_with fail
    go_ret
    exact ⟨by rw [HE.out]; rfl, HX2.out.below⟩

set_option maxRecDepth 100000 in
set_option maxHeartbeats 4000000 in
theorem write_2 (n : Int) (s : ByteArray) (A : Option Addr) (c : Nat) (q : Int) (w : World) (hs : s.size ≤ 20) :
    Calls Tryd.prog 22 #[.agg (cE 2 n s A 0 c), .int .i64 q] w fun e w' => e = .returned (.string (ktB (.mk 2 n s []) (q + 1))) ∧ Below w.heap.size w w' := by
  have HX := Lib.hid (Duo.new w tE 9 (cE 2 n s A 0 c) strs6)
  obtain ⟨W0, hW0⟩ : ∃ W0, W0 = ((w.alloc (.cells (cE 2 n s A 0 c) tE)).alloc (.cells strs6 9)) := ⟨_, rfl⟩
  rw [← hW0] at HX
  have HLV := Lib.hid (level_any 2 n s A 0 c W0)
  rw [show bindI 2 - 1 = 4 from rfl] at HLV
  go_enter Tryd.func22, Tryd.ntmps22
  go_wp2_with fail
  have hW0' : ((w.alloc (.cells #[.int .i64 2, .int .i64 n, .string s, .slice A 0 c] tE)).alloc (.cells #[.string ⟨#[43]⟩, .string ⟨#[45]⟩, .string ⟨#[42]⟩, .string ⟨#[60]⟩, .string ⟨#[61, 61]⟩, .string ⟨#[38, 38]⟩] 9)) = W0 := hW0.symm
  rw [hW0']
  clear hW0 hW0'
  refine HLV.out.mono ?_
  rintro e w1 ⟨rfl, hb1⟩
  have HX1 := Lib.hid (HX.out.step hb1)
  clear HLV HX
  obtain ⟨z0, z1, z2, z3⟩ := row4 HX1.out.b0
  obtain ⟨T, hT⟩ : ∃ T : ByteArray, T = s := ⟨_, rfl⟩
  have HT : Hid (txB (.mk 2 n s []) = T) := Lib.hid (by rw [txB_2, hT])
  have HTS : Hid (T.size ≤ 100663400) := Lib.hid (by rw [hT]; omega)
  have HTT := Lib.hid hT
  subst hT
  
  by_cases hq : (4 : Int) < q
  · have HE : Hid (ktB (.mk 2 n T []) (q + 1) = ⟨#[40]⟩ ++ txB (.mk 2 n T []) ++ ⟨#[41]⟩) := Lib.hid (ktB_yes (by show bindI 2 < q + 1; rw [show bindI 2 = 4 + 1 from rfl]; omega))
    rw [HT.out] at HE
    have s3 : ¬ 9223372036854775807 < (ByteArray.mk #[40]).size + T.size := by show ¬ 9223372036854775807 < 1 + T.size; have := HTS.out; omega
    have s4 : ¬ 9223372036854775807 < (ByteArray.mk #[40] ++ T).size + (ByteArray.mk #[41]).size := by rw [ByteArray.size_append]; show ¬ 9223372036854775807 < 1 + T.size + 1; have := HTS.out; omega
    go_wp2_with fail
    go_ret
    exact ⟨by rw [HE.out]; rfl, HX1.out.below⟩
  · have HE : Hid (ktB (.mk 2 n T []) (q + 1) = txB (.mk 2 n T [])) := Lib.hid (ktB_no (by show ¬ bindI 2 < q + 1; rw [show bindI 2 = 4 + 1 from rfl]; omega))
    rw [HT.out] at HE
    have hq' : decide ((4 : Int) < q) = false := by simpa using hq
    go_wp2_with fail
    go_ret
    exact ⟨by rw [HE.out]; rfl, HX1.out.below⟩

set_option maxRecDepth 100000 in
set_option maxHeartbeats 4000000 in
theorem write_3 (n : Int) (s : ByteArray) (A : Option Addr) (c : Nat) (q : Int) (w : World)  :
    Calls Tryd.prog 22 #[.agg (cE 3 n s A 0 c), .int .i64 q] w fun e w' => e = .returned (.string (ktB (.mk 3 n s []) (q + 1))) ∧ Below w.heap.size w w' := by
  have HX := Lib.hid (Duo.new w tE 9 (cE 3 n s A 0 c) strs6)
  obtain ⟨W0, hW0⟩ : ∃ W0, W0 = ((w.alloc (.cells (cE 3 n s A 0 c) tE)).alloc (.cells strs6 9)) := ⟨_, rfl⟩
  rw [← hW0] at HX
  have HLV := Lib.hid (level_any 3 n s A 0 c W0)
  rw [show bindI 3 - 1 = 4 from rfl] at HLV
  go_enter Tryd.func22, Tryd.ntmps22
  go_wp2_with fail
  have hW0' : ((w.alloc (.cells #[.int .i64 3, .int .i64 n, .string s, .slice A 0 c] tE)).alloc (.cells #[.string ⟨#[43]⟩, .string ⟨#[45]⟩, .string ⟨#[42]⟩, .string ⟨#[60]⟩, .string ⟨#[61, 61]⟩, .string ⟨#[38, 38]⟩] 9)) = W0 := hW0.symm
  rw [hW0']
  clear hW0 hW0'
  refine HLV.out.mono ?_
  rintro e w1 ⟨rfl, hb1⟩
  have HX1 := Lib.hid (HX.out.step hb1)
  clear HLV HX
  obtain ⟨z0, z1, z2, z3⟩ := row4 HX1.out.b0
  obtain ⟨T, hT⟩ : ∃ T : ByteArray, T = ⟨#[116, 104, 105, 115]⟩ := ⟨_, rfl⟩
  have HT : Hid (txB (.mk 3 n s []) = T) := Lib.hid (by rw [txB_3, hT])
  have HTS : Hid (T.size ≤ 100663400) := Lib.hid (by rw [hT]; decide)
  have HTT := Lib.hid hT
  subst hT
  clear HTT
  by_cases hq : (4 : Int) < q
  · have HE : Hid (ktB (.mk 3 n s []) (q + 1) = ⟨#[40]⟩ ++ txB (.mk 3 n s []) ++ ⟨#[41]⟩) := Lib.hid (ktB_yes (by show bindI 3 < q + 1; rw [show bindI 3 = 4 + 1 from rfl]; omega))
    rw [HT.out] at HE
    have s3 : ¬ 9223372036854775807 < (ByteArray.mk #[40]).size + (ByteArray.mk #[116, 104, 105, 115]).size := by show ¬ 9223372036854775807 < 1 + (ByteArray.mk #[116, 104, 105, 115]).size; have := HTS.out; omega
    have s4 : ¬ 9223372036854775807 < (ByteArray.mk #[40] ++ ByteArray.mk #[116, 104, 105, 115]).size + (ByteArray.mk #[41]).size := by rw [ByteArray.size_append]; show ¬ 9223372036854775807 < 1 + (ByteArray.mk #[116, 104, 105, 115]).size + 1; have := HTS.out; omega
    go_wp2_with fail
    go_ret
    exact ⟨by rw [HE.out]; rfl, HX1.out.below⟩
  · have HE : Hid (ktB (.mk 3 n s []) (q + 1) = txB (.mk 3 n s [])) := Lib.hid (ktB_no (by show ¬ bindI 3 < q + 1; rw [show bindI 3 = 4 + 1 from rfl]; omega))
    rw [HT.out] at HE
    have hq' : decide ((4 : Int) < q) = false := by simpa using hq
    go_wp2_with fail
    go_ret
    exact ⟨by rw [HE.out]; rfl, HX1.out.below⟩

set_option maxRecDepth 100000 in
set_option maxHeartbeats 4000000 in
theorem write_4 (n : Int) (s : ByteArray) (A : Option Addr) (c : Nat) (q : Int) (w : World)  :
    Calls Tryd.prog 22 #[.agg (cE 4 n s A 0 c), .int .i64 q] w fun e w' => e = .returned (.string (ktB (.mk 4 n s []) (q + 1))) ∧ Below w.heap.size w w' := by
  have HX := Lib.hid (Duo.new w tE 9 (cE 4 n s A 0 c) strs6)
  obtain ⟨W0, hW0⟩ : ∃ W0, W0 = ((w.alloc (.cells (cE 4 n s A 0 c) tE)).alloc (.cells strs6 9)) := ⟨_, rfl⟩
  rw [← hW0] at HX
  have HLV := Lib.hid (level_any 4 n s A 0 c W0)
  rw [show bindI 4 - 1 = 4 from rfl] at HLV
  go_enter Tryd.func22, Tryd.ntmps22
  go_wp2_with fail
  have hW0' : ((w.alloc (.cells #[.int .i64 4, .int .i64 n, .string s, .slice A 0 c] tE)).alloc (.cells #[.string ⟨#[43]⟩, .string ⟨#[45]⟩, .string ⟨#[42]⟩, .string ⟨#[60]⟩, .string ⟨#[61, 61]⟩, .string ⟨#[38, 38]⟩] 9)) = W0 := hW0.symm
  rw [hW0']
  clear hW0 hW0'
  refine HLV.out.mono ?_
  rintro e w1 ⟨rfl, hb1⟩
  have HX1 := Lib.hid (HX.out.step hb1)
  clear HLV HX
  obtain ⟨z0, z1, z2, z3⟩ := row4 HX1.out.b0
  obtain ⟨T, hT⟩ : ∃ T : ByteArray, T = ⟨#[110, 117, 108, 108]⟩ := ⟨_, rfl⟩
  have HT : Hid (txB (.mk 4 n s []) = T) := Lib.hid (by rw [txB_4, hT])
  have HTS : Hid (T.size ≤ 100663400) := Lib.hid (by rw [hT]; decide)
  have HTT := Lib.hid hT
  subst hT
  clear HTT
  by_cases hq : (4 : Int) < q
  · have HE : Hid (ktB (.mk 4 n s []) (q + 1) = ⟨#[40]⟩ ++ txB (.mk 4 n s []) ++ ⟨#[41]⟩) := Lib.hid (ktB_yes (by show bindI 4 < q + 1; rw [show bindI 4 = 4 + 1 from rfl]; omega))
    rw [HT.out] at HE
    have s3 : ¬ 9223372036854775807 < (ByteArray.mk #[40]).size + (ByteArray.mk #[110, 117, 108, 108]).size := by show ¬ 9223372036854775807 < 1 + (ByteArray.mk #[110, 117, 108, 108]).size; have := HTS.out; omega
    have s4 : ¬ 9223372036854775807 < (ByteArray.mk #[40] ++ ByteArray.mk #[110, 117, 108, 108]).size + (ByteArray.mk #[41]).size := by rw [ByteArray.size_append]; show ¬ 9223372036854775807 < 1 + (ByteArray.mk #[110, 117, 108, 108]).size + 1; have := HTS.out; omega
    go_wp2_with fail
    go_ret
    exact ⟨by rw [HE.out]; rfl, HX1.out.below⟩
  · have HE : Hid (ktB (.mk 4 n s []) (q + 1) = txB (.mk 4 n s [])) := Lib.hid (ktB_no (by show ¬ bindI 4 < q + 1; rw [show bindI 4 = 4 + 1 from rfl]; omega))
    rw [HT.out] at HE
    have hq' : decide ((4 : Int) < q) = false := by simpa using hq
    go_wp2_with fail
    go_ret
    exact ⟨by rw [HE.out]; rfl, HX1.out.below⟩

set_option maxRecDepth 100000 in
set_option maxHeartbeats 4000000 in
theorem write_5 (n : Int) (s : ByteArray) (A : Option Addr) (c : Nat) (q : Int) (w : World)  :
    Calls Tryd.prog 22 #[.agg (cE 5 n s A 0 c), .int .i64 q] w fun e w' => e = .returned (.string (ktB (.mk 5 n s []) (q + 1))) ∧ Below w.heap.size w w' := by
  have HX := Lib.hid (Duo.new w tE 9 (cE 5 n s A 0 c) strs6)
  obtain ⟨W0, hW0⟩ : ∃ W0, W0 = ((w.alloc (.cells (cE 5 n s A 0 c) tE)).alloc (.cells strs6 9)) := ⟨_, rfl⟩
  rw [← hW0] at HX
  have HLV := Lib.hid (level_any 5 n s A 0 c W0)
  rw [show bindI 5 - 1 = 4 from rfl] at HLV
  go_enter Tryd.func22, Tryd.ntmps22
  go_wp2_with fail
  have hW0' : ((w.alloc (.cells #[.int .i64 5, .int .i64 n, .string s, .slice A 0 c] tE)).alloc (.cells #[.string ⟨#[43]⟩, .string ⟨#[45]⟩, .string ⟨#[42]⟩, .string ⟨#[60]⟩, .string ⟨#[61, 61]⟩, .string ⟨#[38, 38]⟩] 9)) = W0 := hW0.symm
  rw [hW0']
  clear hW0 hW0'
  refine HLV.out.mono ?_
  rintro e w1 ⟨rfl, hb1⟩
  have HX1 := Lib.hid (HX.out.step hb1)
  clear HLV HX
  obtain ⟨z0, z1, z2, z3⟩ := row4 HX1.out.b0
  obtain ⟨T, hT⟩ : ∃ T : ByteArray, T = ⟨#[105, 110, 112, 117, 116]⟩ := ⟨_, rfl⟩
  have HT : Hid (txB (.mk 5 n s []) = T) := Lib.hid (by rw [txB_5, hT])
  have HTS : Hid (T.size ≤ 100663400) := Lib.hid (by rw [hT]; decide)
  have HTT := Lib.hid hT
  subst hT
  clear HTT
  by_cases hq : (4 : Int) < q
  · have HE : Hid (ktB (.mk 5 n s []) (q + 1) = ⟨#[40]⟩ ++ txB (.mk 5 n s []) ++ ⟨#[41]⟩) := Lib.hid (ktB_yes (by show bindI 5 < q + 1; rw [show bindI 5 = 4 + 1 from rfl]; omega))
    rw [HT.out] at HE
    have s3 : ¬ 9223372036854775807 < (ByteArray.mk #[40]).size + (ByteArray.mk #[105, 110, 112, 117, 116]).size := by show ¬ 9223372036854775807 < 1 + (ByteArray.mk #[105, 110, 112, 117, 116]).size; have := HTS.out; omega
    have s4 : ¬ 9223372036854775807 < (ByteArray.mk #[40] ++ ByteArray.mk #[105, 110, 112, 117, 116]).size + (ByteArray.mk #[41]).size := by rw [ByteArray.size_append]; show ¬ 9223372036854775807 < 1 + (ByteArray.mk #[105, 110, 112, 117, 116]).size + 1; have := HTS.out; omega
    go_wp2_with fail
    go_ret
    exact ⟨by rw [HE.out]; rfl, HX1.out.below⟩
  · have HE : Hid (ktB (.mk 5 n s []) (q + 1) = txB (.mk 5 n s [])) := Lib.hid (ktB_no (by show ¬ bindI 5 < q + 1; rw [show bindI 5 = 4 + 1 from rfl]; omega))
    rw [HT.out] at HE
    have hq' : decide ((4 : Int) < q) = false := by simpa using hq
    go_wp2_with fail
    go_ret
    exact ⟨by rw [HE.out]; rfl, HX1.out.below⟩

end Go.Proofs.YtdehpgdffafebaaDoor
namespace Go.Proofs.YtdehpgdffafebaaDoor
open Go.RowKit
open Go.Lib (decDigits itoa)
set_option linter.unusedVariables false

theorem forms_one {k : Int} {x : E} (h : E.forms k [x] = true) : E.form x = true := by
  rw [E.forms] at h
  simp only [Bool.and_eq_true] at h
  exact h.2.1
theorem forms_two {k : Int} {x y : E} (h : E.forms k [x, y] = true) : E.form x = true ∧ E.form y = true := by
  rw [E.forms] at h
  simp only [Bool.and_eq_true] at h
  exact ⟨h.2.1, forms_one h.2.2⟩
/-- The kinds, and the Kids of one that may be. -/
theorem form_ways {k n : Int} {s : ByteArray} {l : List E} (h : E.form (.mk k n s l) = true) :
    (k = 1 ∧ l = [] ∧ 0 ≤ n ∧ n ≤ 999999999 ∧ s = ⟨#[]⟩) ∨ (k = 2 ∧ l = [] ∧ n = 0 ∧ Wd.nameB s = true) ∨ ((k = 3 ∨ k = 4 ∨ k = 5) ∧ l = [] ∧ n = 0 ∧ s = ⟨#[]⟩) ∨
    (∃ x y, (k = 6 ∨ k = 7 ∨ k = 8 ∨ k = 9 ∨ k = 10 ∨ k = 11 ∨ k = 14) ∧ l = [x, y] ∧ E.form x = true ∧ E.form y = true ∧ E.kidOk k x.kind = true ∧ E.kidOk k y.kind = true ∧ n = 0 ∧ s = ⟨#[]⟩) ∨
    (∃ x, (k = 12 ∨ k = 13) ∧ l = [x] ∧ E.form x = true ∧ E.kidOk k x.kind = true ∧ n = 0 ∧ s = ⟨#[]⟩) := by
  rw [E.form] at h
  simp only [Bool.and_eq_true, decide_eq_true_eq] at h
  obtain ⟨hk, hl, hs, hf⟩ := h
  have hk' : 1 ≤ k ∧ k ≤ 14 := by simpa [E.isKind] using hk
  have hnil : E.kidsN k = 0 → l = [] := fun e => List.eq_nil_of_length_eq_zero (by omega)
  have hcase : k = 1 ∨ k = 2 ∨ (k = 3 ∨ k = 4 ∨ k = 5) ∨ (k = 6 ∨ k = 7 ∨ k = 8 ∨ k = 9 ∨ k = 10 ∨ k = 11 ∨ k = 14) ∨ (k = 12 ∨ k = 13) := by omega
  rcases hcase with rfl | rfl | h | h | h
  · refine .inl ⟨rfl, hnil rfl, ?_⟩
    simpa [E.selfR, and_assoc] using hs
  · refine .inr (.inl ⟨rfl, hnil rfl, ?_⟩)
    simpa [E.selfR] using hs
  · refine .inr (.inr (.inl ⟨h, hnil (by rcases h with rfl | rfl | rfl <;> rfl), ?_⟩))
    unfold E.selfR at hs
    rw [if_neg (by omega), if_neg (by omega)] at hs
    simpa using hs
  · have h2 : E.kidsN k = 2 := by rcases h with rfl | rfl | rfl | rfl | rfl | rfl | rfl <;> rfl
    have hl2 : l.length = 2 := by omega
    match l, hl2, hf with
    | [x, y], _, hf =>
      have hf' := hf
      rw [E.forms, E.forms] at hf
      simp only [Bool.and_eq_true] at hf
      refine .inr (.inr (.inr (.inl ⟨x, y, h, rfl, hf.2.1, hf.2.2.2.1, hf.1, hf.2.2.1, ?_⟩)))
      unfold E.selfR at hs
      rw [if_neg (by omega), if_neg (by omega)] at hs
      simpa using hs
  · have h2 : E.kidsN k = 1 := by rcases h with rfl | rfl <;> rfl
    have hl2 : l.length = 1 := by omega
    match l, hl2, hf with
    | [x], _, hf =>
      rw [E.forms] at hf
      simp only [Bool.and_eq_true] at hf
      refine .inr (.inr (.inr (.inr ⟨x, h, rfl, hf.2.1, hf.1, ?_⟩)))
      unfold E.selfR at hs
      rw [if_neg (by omega), if_neg (by omega)] at hs
      simpa using hs

theorem write_any : ∀ m : Nat, m ≤ 1048576 → WrC m := by
  intro m
  induction m with
  | zero => intro _ e v q w h; have := E.count_pos e; omega
  | succ m ih =>
    intro hm e v q w hc hf hv
    have ih := ih (by omega)
    obtain ⟨k, n, s, l, A, c, rfl, rfl, hn, hlc, hcm, hk⟩ := hv.open
    have hk : KidsIn w.heap.size w A l := hk
    rcases form_ways hf with ⟨rfl, rfl, h0, h1, rfl⟩ | ⟨rfl, rfl, rfl, h0⟩ | ⟨h, rfl, rfl, rfl⟩ | ⟨x, y, h, rfl, fx, fy, -, -, rfl, rfl⟩ | ⟨x, h, rfl, fx, -, rfl, rfl⟩
    · exact write_1 n _ A c q w h0 h1
    · exact write_2 0 s A c q w (name_size h0)
    · rcases h with rfl | rfl | rfl
      · exact write_3 0 _ A c q w
      · exact write_4 0 _ A c q w
      · exact write_5 0 _ A c q w
    · have hx : E.count x ≤ m := by rw [E.count, E.counts] at hc; omega
      have hy : E.count y ≤ m := by rw [E.count, E.counts, E.counts] at hc; omega
      rcases h with rfl | rfl | rfl | rfl | rfl | rfl | rfl
      · exact write_6 m (by omega) ih 0 _ x y A c q w hx hy fx fy hlc hk
      · exact write_7 m (by omega) ih 0 _ x y A c q w hx hy fx fy hlc hk
      · exact write_8 m (by omega) ih 0 _ x y A c q w hx hy fx fy hlc hk
      · exact write_9 m (by omega) ih 0 _ x y A c q w hx hy fx fy hlc hk
      · exact write_10 m (by omega) ih 0 _ x y A c q w hx hy fx fy hlc hk
      · exact write_11 m (by omega) ih 0 _ x y A c q w hx hy fx fy hlc hk
      · exact write_14 m (by omega) ih 0 _ x y A c q w hx hy fx fy hlc hk
    · have hx : E.count x ≤ m := by rw [E.count, E.counts] at hc; omega
      rcases h with rfl | rfl
      · exact write_12 m (by omega) ih 0 _ x A c q w hx fx hlc hk
      · exact write_13 m (by omega) ih 0 _ x A c q w hx fx hlc hk

/-- What is told of any expression: its text, nothing of one that may not be. -/
def textB (e : E) : ByteArray := if E.right e = true then txB e else ⟨#[]⟩
theorem bindI_pos (k : Int) : 1 ≤ bindI k := by unfold bindI; repeat' split
                                                all_goals omega

set_option maxRecDepth 100000 in
theorem refText_any (e : E) (v : Value) (w : World) (hc : E.count e ≤ 1048576) (hv : InV w.heap.size w e v) : Calls Tryd.prog 12 #[v] w fun x w' => x = .returned (.string (textB e)) ∧ Below w.heap.size w w' := by
  have HR : Hid (∀ W, Below w.heap.size w W → Calls Tryd.prog 10 #[v] W fun x w' => x = .returned (.bool (E.right e)) ∧ Below W.heap.size W w') := Lib.hid (fun W hb => refRight_any e v W (by omega) ((hv.below hb).more hb.size))
  have HW : Hid (E.right e = true → ∀ W, Below w.heap.size w W → Calls Tryd.prog 22 #[v, .int .i64 0] W fun x w' => x = .returned (.string (txB e)) ∧ Below W.heap.size W w') := Lib.hid (fun hr W hb => by
    have hf : E.form e = true := by
      unfold E.right at hr
      simp only [Bool.and_eq_true] at hr
      exact hr.1
    have := write_any 1048576 (Nat.le_refl _) e v 0 W hc hf ((hv.below hb).more hb.size)
    rwa [ktB_no (by have := bindI_pos e.kind; omega)] at this)
  obtain ⟨k, n, s, l, A, c, -, rfl, -, -, -, -⟩ := hv.open
  have hbx : Below w.heap.size w (w.alloc (.cells (cE k n s A l.length c) tE)) := (Below.refl _ _).alloc (Nat.le_refl _) _
  have hbox := heap_new w (.cells (cE k n s A l.length c) tE)
  obtain ⟨W0, hW0⟩ : ∃ W0, W0 = w.alloc (.cells (cE k n s A l.length c) tE) := ⟨_, rfl⟩
  rw [← hW0] at hbx hbox
  have HR0 := Lib.hid (HR.out _ hbx)
  obtain ⟨L, hL⟩ : ∃ L, L = l.length := ⟨_, rfl⟩
  rw [← hL] at HR0 HW hbox hW0 ⊢
  clear hL hv
  obtain ⟨z0, z1, z2, z3⟩ := row4 hbox
  have HB := Lib.hid hbx
  have HBX := Lib.hid hbox
  clear hbox hbx
  cases hr : E.right e with
  | false =>
    rw [hr] at HR0
    have HT : Hid (textB e = ⟨#[]⟩) := Lib.hid (by unfold textB; rw [hr]; rfl)
    clear hr
    go_enter Tryd.func12, Tryd.ntmps12
    go_wp2_with fail
    rw [← hW0]
    clear hW0
    go_wp2_with fail
    refine HR0.out.mono ?_
    rintro e w1 ⟨rfl, hb1⟩
    go_wp2_with fail
    go_ret
    exact ⟨by rw [HT.out]; rfl, HB.out.trans (hb1.mono HB.out.size)⟩
  | true =>
    rw [hr] at HR0
    have HT : Hid (textB e = txB e) := Lib.hid (by unfold textB; rw [if_pos hr])
    have HW' := Lib.hid (HW.out hr)
    clear hr HW
    go_enter Tryd.func12, Tryd.ntmps12
    go_wp2_with fail
    rw [← hW0]
    clear hW0
    go_wp2_with fail
    refine HR0.out.mono ?_
    rintro e w1 ⟨rfl, hb1⟩
    have HB1 := Lib.hid (HB.out.trans (hb1.mono HB.out.size))
    have HBX1 := Lib.hid ((hb1.block _ (heap_lt HBX.out)).trans HBX.out)
    clear z0 z1 z2 z3
    obtain ⟨z0, z1, z2, z3⟩ := row4 HBX1.out
    go_wp2_with fail
    refine (HW'.out _ HB1.out).mono ?_
    rintro e w2 ⟨rfl, hb2⟩
    go_wp2_with fail
    go_ret
    exact ⟨by rw [HT.out]; rfl, HB1.out.trans (hb2.mono HB1.out.size)⟩
end Go.Proofs.YtdehpgdffafebaaDoor
