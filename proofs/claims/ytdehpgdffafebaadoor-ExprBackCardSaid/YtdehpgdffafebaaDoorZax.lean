/- ExprTells holds of any two expressions. Conditions: there are at most 1048576 nodes in each; the tables lie in memory. -/
import Derived.Test.YtdehpgdffafebaaDoorZaw
import Derived.Test.YtdehpgdffafebaaDoorZal
import Derived.Test.YtdehpgdffafebaaDoorZah
namespace Go.Proofs.YtdehpgdffafebaaDoor
open Go.RowKit
set_option linter.unusedVariables false

theorem len_cons {α : Type} {l : List α} {n : Nat} (h : l.length = n + 1) : ∃ x r, l = x :: r ∧ r.length = n := by
  cases l with
  | nil => simp at h
  | cons x r => exact ⟨x, r, rfl, by simpa using h⟩
theorem lit70 (T : Array Value) (h : T.size = 70) : ∃ x0 x1 x2 x3 x4 x5 x6 x7 x8 x9 x10 x11 x12 x13 x14 x15 x16 x17 x18 x19 x20 x21 x22 x23 x24 x25 x26 x27 x28 x29 x30 x31 x32 x33 x34 x35 x36 x37 x38 x39 x40 x41 x42 x43 x44 x45 x46 x47 x48 x49 x50 x51 x52 x53 x54 x55 x56 x57 x58 x59 x60 x61 x62 x63 x64 x65 x66 x67 x68 x69 : Value, T = #[x0, x1, x2, x3, x4, x5, x6, x7, x8, x9, x10, x11, x12, x13, x14, x15, x16, x17, x18, x19, x20, x21, x22, x23, x24, x25, x26, x27, x28, x29, x30, x31, x32, x33, x34, x35, x36, x37, x38, x39, x40, x41, x42, x43, x44, x45, x46, x47, x48, x49, x50, x51, x52, x53, x54, x55, x56, x57, x58, x59, x60, x61, x62, x63, x64, x65, x66, x67, x68, x69] := by
  obtain ⟨l⟩ := T
  have h0 : l.length = 70 := h
  obtain ⟨x0, r0, e0, h1⟩ := len_cons h0
  obtain ⟨x1, r1, e1, h2⟩ := len_cons h1
  obtain ⟨x2, r2, e2, h3⟩ := len_cons h2
  obtain ⟨x3, r3, e3, h4⟩ := len_cons h3
  obtain ⟨x4, r4, e4, h5⟩ := len_cons h4
  obtain ⟨x5, r5, e5, h6⟩ := len_cons h5
  obtain ⟨x6, r6, e6, h7⟩ := len_cons h6
  obtain ⟨x7, r7, e7, h8⟩ := len_cons h7
  obtain ⟨x8, r8, e8, h9⟩ := len_cons h8
  obtain ⟨x9, r9, e9, h10⟩ := len_cons h9
  obtain ⟨x10, r10, e10, h11⟩ := len_cons h10
  obtain ⟨x11, r11, e11, h12⟩ := len_cons h11
  obtain ⟨x12, r12, e12, h13⟩ := len_cons h12
  obtain ⟨x13, r13, e13, h14⟩ := len_cons h13
  obtain ⟨x14, r14, e14, h15⟩ := len_cons h14
  obtain ⟨x15, r15, e15, h16⟩ := len_cons h15
  obtain ⟨x16, r16, e16, h17⟩ := len_cons h16
  obtain ⟨x17, r17, e17, h18⟩ := len_cons h17
  obtain ⟨x18, r18, e18, h19⟩ := len_cons h18
  obtain ⟨x19, r19, e19, h20⟩ := len_cons h19
  obtain ⟨x20, r20, e20, h21⟩ := len_cons h20
  obtain ⟨x21, r21, e21, h22⟩ := len_cons h21
  obtain ⟨x22, r22, e22, h23⟩ := len_cons h22
  obtain ⟨x23, r23, e23, h24⟩ := len_cons h23
  obtain ⟨x24, r24, e24, h25⟩ := len_cons h24
  obtain ⟨x25, r25, e25, h26⟩ := len_cons h25
  obtain ⟨x26, r26, e26, h27⟩ := len_cons h26
  obtain ⟨x27, r27, e27, h28⟩ := len_cons h27
  obtain ⟨x28, r28, e28, h29⟩ := len_cons h28
  obtain ⟨x29, r29, e29, h30⟩ := len_cons h29
  obtain ⟨x30, r30, e30, h31⟩ := len_cons h30
  obtain ⟨x31, r31, e31, h32⟩ := len_cons h31
  obtain ⟨x32, r32, e32, h33⟩ := len_cons h32
  obtain ⟨x33, r33, e33, h34⟩ := len_cons h33
  obtain ⟨x34, r34, e34, h35⟩ := len_cons h34
  obtain ⟨x35, r35, e35, h36⟩ := len_cons h35
  obtain ⟨x36, r36, e36, h37⟩ := len_cons h36
  obtain ⟨x37, r37, e37, h38⟩ := len_cons h37
  obtain ⟨x38, r38, e38, h39⟩ := len_cons h38
  obtain ⟨x39, r39, e39, h40⟩ := len_cons h39
  obtain ⟨x40, r40, e40, h41⟩ := len_cons h40
  obtain ⟨x41, r41, e41, h42⟩ := len_cons h41
  obtain ⟨x42, r42, e42, h43⟩ := len_cons h42
  obtain ⟨x43, r43, e43, h44⟩ := len_cons h43
  obtain ⟨x44, r44, e44, h45⟩ := len_cons h44
  obtain ⟨x45, r45, e45, h46⟩ := len_cons h45
  obtain ⟨x46, r46, e46, h47⟩ := len_cons h46
  obtain ⟨x47, r47, e47, h48⟩ := len_cons h47
  obtain ⟨x48, r48, e48, h49⟩ := len_cons h48
  obtain ⟨x49, r49, e49, h50⟩ := len_cons h49
  obtain ⟨x50, r50, e50, h51⟩ := len_cons h50
  obtain ⟨x51, r51, e51, h52⟩ := len_cons h51
  obtain ⟨x52, r52, e52, h53⟩ := len_cons h52
  obtain ⟨x53, r53, e53, h54⟩ := len_cons h53
  obtain ⟨x54, r54, e54, h55⟩ := len_cons h54
  obtain ⟨x55, r55, e55, h56⟩ := len_cons h55
  obtain ⟨x56, r56, e56, h57⟩ := len_cons h56
  obtain ⟨x57, r57, e57, h58⟩ := len_cons h57
  obtain ⟨x58, r58, e58, h59⟩ := len_cons h58
  obtain ⟨x59, r59, e59, h60⟩ := len_cons h59
  obtain ⟨x60, r60, e60, h61⟩ := len_cons h60
  obtain ⟨x61, r61, e61, h62⟩ := len_cons h61
  obtain ⟨x62, r62, e62, h63⟩ := len_cons h62
  obtain ⟨x63, r63, e63, h64⟩ := len_cons h63
  obtain ⟨x64, r64, e64, h65⟩ := len_cons h64
  obtain ⟨x65, r65, e65, h66⟩ := len_cons h65
  obtain ⟨x66, r66, e66, h67⟩ := len_cons h66
  obtain ⟨x67, r67, e67, h68⟩ := len_cons h67
  obtain ⟨x68, r68, e68, h69⟩ := len_cons h68
  obtain ⟨x69, r69, e69, h70⟩ := len_cons h69
  have e70 : r69 = [] := List.eq_nil_of_length_eq_zero h70
  subst e70 e69 e68 e67 e66 e65 e64 e63 e62 e61 e60 e59 e58 e57 e56 e55 e54 e53 e52 e51 e50 e49 e48 e47 e46 e45 e44 e43 e42 e41 e40 e39 e38 e37 e36 e35 e34 e33 e32 e31 e30 e29 e28 e27 e26 e25 e24 e23 e22 e21 e20 e19 e18 e17 e16 e15 e14 e13 e12 e11 e10 e9 e8 e7 e6 e5 e4 e3 e2 e1 e0
  exact ⟨x0, x1, x2, x3, x4, x5, x6, x7, x8, x9, x10, x11, x12, x13, x14, x15, x16, x17, x18, x19, x20, x21, x22, x23, x24, x25, x26, x27, x28, x29, x30, x31, x32, x33, x34, x35, x36, x37, x38, x39, x40, x41, x42, x43, x44, x45, x46, x47, x48, x49, x50, x51, x52, x53, x54, x55, x56, x57, x58, x59, x60, x61, x62, x63, x64, x65, x66, x67, x68, x69, rfl⟩

/-- The region that asks both for the names: what its slots hold once their operations are listed. -/
structure NI (base : Nat) (v : Value) (p2 p3 : Value) (L : List ByteArray) (W2 : World) (listed : Array Bool) (T : Array Value) (w : World) : Prop where
  sz : T.size = 70
  h2 : T[2]? = some p2
  h3 : T[3]? = some p3
  h4 : T[4]? = some (.bool false)
  k0 : listed.getD 0 false = true → T[17]? = some v
  k2 : listed.getD 2 false = true → T[19]? = some v
  k1 : listed.getD 1 false = true → ∃ u, T[18]? = some u ∧ OwnT w base u L
  k3 : listed.getD 3 false = true → ∃ u, T[20]? = some u ∧ OwnT w base u L
  k4 : listed.getD 4 false = true → ∃ u, T[5]? = some u ∧ OwnT w base u L
  k5 : listed.getD 5 false = true → ∃ u, T[6]? = some u ∧ OwnT w base u L
  bl : Below W2.heap.size W2 w
theorem ownT_below {w W : World} {base : Nat} {v : Value} {l : List ByteArray} (h : OwnT w base v l) (hb : Below w.heap.size w W) : OwnT W base v l := h.kept (gb_below hb none) (by
  cases hv : v.ownBlock with
  | none => exact .inl rfl
  | some q => exact .inr (by simp))
section
variable {base : Nat} {v p2 p3 : Value} {L : List ByteArray} {W2 : World} {listed : Array Bool} {T : Array Value} {w : World}
theorem NI.to (h : NI base v p2 p3 L W2 listed T w) {w' : World} (hb : Below w.heap.size w w') : NI base v p2 p3 L W2 listed T w' :=
  ⟨h.sz, h.h2, h.h3, h.h4, h.k0, h.k2, fun hl => (h.k1 hl).imp fun _ ⟨a, b⟩ => ⟨a, ownT_below b hb⟩, fun hl => (h.k3 hl).imp fun _ ⟨a, b⟩ => ⟨a, ownT_below b hb⟩, fun hl => (h.k4 hl).imp fun _ ⟨a, b⟩ => ⟨a, ownT_below b hb⟩, fun hl => (h.k5 hl).imp fun _ ⟨a, b⟩ => ⟨a, ownT_below b hb⟩, h.bl.trans (hb.mono h.bl.size)⟩
theorem NI.put0 (h : NI base v p2 p3 L W2 listed T w)  : NI base v p2 p3 L W2 (listed.setIfInBounds 0 true) (T.setIfInBounds 17 v) w := by
  have hne : ∀ j, j ≠ 17 → (T.setIfInBounds 17 v)[j]? = T[j]? := fun j hj => Array.getElem?_setIfInBounds_ne (by omega)
  have hsz := h.sz
  exact ⟨by simpa using h.sz, (hne 2 (by omega)).trans h.h2, (hne 3 (by omega)).trans h.h3, (hne 4 (by omega)).trans h.h4, fun _ => Array.getElem?_setIfInBounds_self_of_lt (by omega), fun hl => (hne 19 (by omega)).trans (h.k2 (by rw [getD_set (by omega)] at hl; exact hl)), fun hl => (h.k1 (by rw [getD_set (by omega)] at hl; exact hl)).imp fun _ ⟨a, b⟩ => ⟨(hne 18 (by omega)).trans a, b⟩, fun hl => (h.k3 (by rw [getD_set (by omega)] at hl; exact hl)).imp fun _ ⟨a, b⟩ => ⟨(hne 20 (by omega)).trans a, b⟩, fun hl => (h.k4 (by rw [getD_set (by omega)] at hl; exact hl)).imp fun _ ⟨a, b⟩ => ⟨(hne 5 (by omega)).trans a, b⟩, fun hl => (h.k5 (by rw [getD_set (by omega)] at hl; exact hl)).imp fun _ ⟨a, b⟩ => ⟨(hne 6 (by omega)).trans a, b⟩, h.bl⟩
theorem NI.put1 (h : NI base v p2 p3 L W2 listed T w) (u : Value) (hu : OwnT w base u L) : NI base v p2 p3 L W2 (listed.setIfInBounds 1 true) (T.setIfInBounds 18 u) w := by
  have hne : ∀ j, j ≠ 18 → (T.setIfInBounds 18 u)[j]? = T[j]? := fun j hj => Array.getElem?_setIfInBounds_ne (by omega)
  have hsz := h.sz
  exact ⟨by simpa using h.sz, (hne 2 (by omega)).trans h.h2, (hne 3 (by omega)).trans h.h3, (hne 4 (by omega)).trans h.h4, fun hl => (hne 17 (by omega)).trans (h.k0 (by rw [getD_set (by omega)] at hl; exact hl)), fun hl => (hne 19 (by omega)).trans (h.k2 (by rw [getD_set (by omega)] at hl; exact hl)), fun _ => ⟨u, Array.getElem?_setIfInBounds_self_of_lt (by omega), hu⟩, fun hl => (h.k3 (by rw [getD_set (by omega)] at hl; exact hl)).imp fun _ ⟨a, b⟩ => ⟨(hne 20 (by omega)).trans a, b⟩, fun hl => (h.k4 (by rw [getD_set (by omega)] at hl; exact hl)).imp fun _ ⟨a, b⟩ => ⟨(hne 5 (by omega)).trans a, b⟩, fun hl => (h.k5 (by rw [getD_set (by omega)] at hl; exact hl)).imp fun _ ⟨a, b⟩ => ⟨(hne 6 (by omega)).trans a, b⟩, h.bl⟩
theorem NI.put2 (h : NI base v p2 p3 L W2 listed T w)  : NI base v p2 p3 L W2 (listed.setIfInBounds 2 true) (T.setIfInBounds 19 v) w := by
  have hne : ∀ j, j ≠ 19 → (T.setIfInBounds 19 v)[j]? = T[j]? := fun j hj => Array.getElem?_setIfInBounds_ne (by omega)
  have hsz := h.sz
  exact ⟨by simpa using h.sz, (hne 2 (by omega)).trans h.h2, (hne 3 (by omega)).trans h.h3, (hne 4 (by omega)).trans h.h4, fun hl => (hne 17 (by omega)).trans (h.k0 (by rw [getD_set (by omega)] at hl; exact hl)), fun _ => Array.getElem?_setIfInBounds_self_of_lt (by omega), fun hl => (h.k1 (by rw [getD_set (by omega)] at hl; exact hl)).imp fun _ ⟨a, b⟩ => ⟨(hne 18 (by omega)).trans a, b⟩, fun hl => (h.k3 (by rw [getD_set (by omega)] at hl; exact hl)).imp fun _ ⟨a, b⟩ => ⟨(hne 20 (by omega)).trans a, b⟩, fun hl => (h.k4 (by rw [getD_set (by omega)] at hl; exact hl)).imp fun _ ⟨a, b⟩ => ⟨(hne 5 (by omega)).trans a, b⟩, fun hl => (h.k5 (by rw [getD_set (by omega)] at hl; exact hl)).imp fun _ ⟨a, b⟩ => ⟨(hne 6 (by omega)).trans a, b⟩, h.bl⟩
theorem NI.put3 (h : NI base v p2 p3 L W2 listed T w) (u : Value) (hu : OwnT w base u L) : NI base v p2 p3 L W2 (listed.setIfInBounds 3 true) (T.setIfInBounds 20 u) w := by
  have hne : ∀ j, j ≠ 20 → (T.setIfInBounds 20 u)[j]? = T[j]? := fun j hj => Array.getElem?_setIfInBounds_ne (by omega)
  have hsz := h.sz
  exact ⟨by simpa using h.sz, (hne 2 (by omega)).trans h.h2, (hne 3 (by omega)).trans h.h3, (hne 4 (by omega)).trans h.h4, fun hl => (hne 17 (by omega)).trans (h.k0 (by rw [getD_set (by omega)] at hl; exact hl)), fun hl => (hne 19 (by omega)).trans (h.k2 (by rw [getD_set (by omega)] at hl; exact hl)), fun hl => (h.k1 (by rw [getD_set (by omega)] at hl; exact hl)).imp fun _ ⟨a, b⟩ => ⟨(hne 18 (by omega)).trans a, b⟩, fun _ => ⟨u, Array.getElem?_setIfInBounds_self_of_lt (by omega), hu⟩, fun hl => (h.k4 (by rw [getD_set (by omega)] at hl; exact hl)).imp fun _ ⟨a, b⟩ => ⟨(hne 5 (by omega)).trans a, b⟩, fun hl => (h.k5 (by rw [getD_set (by omega)] at hl; exact hl)).imp fun _ ⟨a, b⟩ => ⟨(hne 6 (by omega)).trans a, b⟩, h.bl⟩
theorem NI.put4 (h : NI base v p2 p3 L W2 listed T w) (u : Value) (hu : OwnT w base u L) : NI base v p2 p3 L W2 (listed.setIfInBounds 4 true) (T.setIfInBounds 5 u) w := by
  have hne : ∀ j, j ≠ 5 → (T.setIfInBounds 5 u)[j]? = T[j]? := fun j hj => Array.getElem?_setIfInBounds_ne (by omega)
  have hsz := h.sz
  exact ⟨by simpa using h.sz, (hne 2 (by omega)).trans h.h2, (hne 3 (by omega)).trans h.h3, (hne 4 (by omega)).trans h.h4, fun hl => (hne 17 (by omega)).trans (h.k0 (by rw [getD_set (by omega)] at hl; exact hl)), fun hl => (hne 19 (by omega)).trans (h.k2 (by rw [getD_set (by omega)] at hl; exact hl)), fun hl => (h.k1 (by rw [getD_set (by omega)] at hl; exact hl)).imp fun _ ⟨a, b⟩ => ⟨(hne 18 (by omega)).trans a, b⟩, fun hl => (h.k3 (by rw [getD_set (by omega)] at hl; exact hl)).imp fun _ ⟨a, b⟩ => ⟨(hne 20 (by omega)).trans a, b⟩, fun _ => ⟨u, Array.getElem?_setIfInBounds_self_of_lt (by omega), hu⟩, fun hl => (h.k5 (by rw [getD_set (by omega)] at hl; exact hl)).imp fun _ ⟨a, b⟩ => ⟨(hne 6 (by omega)).trans a, b⟩, h.bl⟩
theorem NI.put5 (h : NI base v p2 p3 L W2 listed T w) (u : Value) (hu : OwnT w base u L) : NI base v p2 p3 L W2 (listed.setIfInBounds 5 true) (T.setIfInBounds 6 u) w := by
  have hne : ∀ j, j ≠ 6 → (T.setIfInBounds 6 u)[j]? = T[j]? := fun j hj => Array.getElem?_setIfInBounds_ne (by omega)
  have hsz := h.sz
  exact ⟨by simpa using h.sz, (hne 2 (by omega)).trans h.h2, (hne 3 (by omega)).trans h.h3, (hne 4 (by omega)).trans h.h4, fun hl => (hne 17 (by omega)).trans (h.k0 (by rw [getD_set (by omega)] at hl; exact hl)), fun hl => (hne 19 (by omega)).trans (h.k2 (by rw [getD_set (by omega)] at hl; exact hl)), fun hl => (h.k1 (by rw [getD_set (by omega)] at hl; exact hl)).imp fun _ ⟨a, b⟩ => ⟨(hne 18 (by omega)).trans a, b⟩, fun hl => (h.k3 (by rw [getD_set (by omega)] at hl; exact hl)).imp fun _ ⟨a, b⟩ => ⟨(hne 20 (by omega)).trans a, b⟩, fun hl => (h.k4 (by rw [getD_set (by omega)] at hl; exact hl)).imp fun _ ⟨a, b⟩ => ⟨(hne 5 (by omega)).trans a, b⟩, fun _ => ⟨u, Array.getElem?_setIfInBounds_self_of_lt (by omega), hu⟩, h.bl⟩
end
theorem wp_enterR {P : Program} {o : Oper} {a : Act} {w : World} {K : Act → World → Prop} {Q : Exit → Act → World → Prop} (p : Op) (f : FuncId) (args : Array Value) (R : Value → World → Prop) (ho : o.op = p) (h : ∀ o : Oper, o.op = p → (execOp a.eval o).run P w = .ok (.enter f args) w) (hc : Calls P f args w fun x w' => ∃ u, x = .returned u ∧ R u w') (hk : ∀ u w', R u w' → K (a.put o.dst u) w') : o.wp P a w K Q := by
  unfold Oper.wp
  rw [h o ho, Oper.upon_enter]
  refine hc.mono ?_
  rintro x w' ⟨u, rfl, hb⟩
  exact hk u w' hb
theorem ownT_read {w : World} {base : Nat} {v : Value} {l : List ByteArray} (h : OwnT w base v l) : ∃ A c, v = .slice A l.length c ∧ (l.length ≤ c ∧ l.length ≤ maxLen) ∧ ∀ (j : Nat) (nm : ByteArray), l[j]? = some nm → ∃ g, A = some ⟨g, 0, none⟩ ∧ w.cell? ⟨g, j, none⟩ = some (.string nm) := by
  have hm : l.length ≤ maxLen := by
    rcases h.2 with ⟨_, h0⟩ | ⟨g, cap, cur, _, _, _, hc, hm, _⟩
    · rw [h0]; exact Nat.zero_le _
    · omega
  rcases ownT_ways h with ⟨rfl, rfl⟩ | ⟨g, cap, rfl, hc, _, _, _, hcells⟩
  · exact ⟨none, 0, rfl, ⟨Nat.le_refl _, hm⟩, fun j nm hj => by simp at hj⟩
  · refine ⟨some ⟨g, 0, none⟩, cap, rfl, ⟨hc, hm⟩, fun j nm hj => ⟨g, rfl, ?_⟩⟩
    have := hcells j (.string nm) (by rw [List.getElem?_map, hj]; rfl)
    have ha : (⟨g, 0, none⟩ : Addr).add j = ⟨g, j, none⟩ := by unfold Addr.add; split <;> simp_all
    rwa [ha] at this

theorem quiet_load_mid {P : Program} {C : World → Prop} {a : Act} {o : Oper} {K : Act → Prop} (ty : TypeId) (x : Operand) (ho : o.op = .load ty x) (b off : Nat) (hx : a.eval x = .pointer (some ⟨b, off, none⟩)) (cs : List Value) (d : TypeDesc) (hc : ∀ w, C w → w.rangeAt b off cs)
    (hu : P.underlying ty = some d) (hd : d.isRow = true) (hi : (P.info? ty).map (·.size) = some cs.length) (hk : K (a.put o.dst (.agg cs.toArray))) : o.quiet P a C K :=
  ⟨_, fun w hw => by
    unfold Oper.quietAt execOp
    simp only [ho, hx, Instr.loadAt, Instr.sureAddr, Sem.run_bind, Sem.run_pure, Result.andThen_ok, run_loadVar_mid w b off ty cs d (hc w hw) hu hd hi]
    exact ⟨rfl, rfl⟩, hk⟩

set_option maxRecDepth 100000 in
set_option maxHeartbeats 8000000 in
theorem tells_law (e d : E) (v v' : Value) (w : World) (he : E.count e ≤ 1048576) (hd : E.count d ≤ 1048576) (hv : InV w.heap.size w e v) (hv' : InV w.heap.size w d v') (hL : Laid w) :
    Calls Tryd.prog 3 #[v, v'] w fun x w' => x = .returned (.bool true) ∧ Below w.heap.size w w' := by
  obtain ⟨W2, hW2⟩ : ∃ W2, W2 = w := ⟨_, rfl⟩
  have hvo := hv
  have hvo' := hv'
  obtain ⟨k, n, s, l, A, c, -, rfl, -, -, -, -⟩ := hvo.open
  obtain ⟨k', n', s', l', A', c', -, rfl, -, -, -, -⟩ := hvo'.open
  have h0 := heap_new w (.cells (cE k n s A l.length c) tE)
  have h1 := heap_new (w.alloc (.cells (cE k n s A l.length c) tE)) (.cells (cE k' n' s' A' l'.length c') tE)
  simp only [World.size_alloc] at h1
  have hb : Below w.heap.size w ((w.alloc (.cells (cE k n s A l.length c) tE)).alloc (.cells (cE k' n' s' A' l'.length c') tE)) := ((Below.refl _ w).alloc (Nat.le_refl _) _).alloc (by simp only [World.size_alloc]; omega) _
  have h0' := (Below.heap_alloc (w.alloc (.cells (cE k n s A l.length c) tE)) (.cells (cE k' n' s' A' l'.length c') tE) w.heap.size (by simp only [World.size_alloc]; omega)).trans h0
  obtain ⟨W0, hW0⟩ : ∃ W0, W0 = (w.alloc (.cells (cE k n s A l.length c) tE)).alloc (.cells (cE k' n' s' A' l'.length c') tE) := ⟨_, rfl⟩
  rw [← hW0] at h0' h1 hb
  obtain ⟨L, hLL⟩ : ∃ L, L = l.length := ⟨_, rfl⟩
  obtain ⟨L', hLL'⟩ : ∃ L', L' = l'.length := ⟨_, rfl⟩
  rw [← hLL] at h0' hv hW0 ⊢
  rw [← hLL'] at h1 hv' hW0 ⊢
  clear hLL hLL' hvo hvo' hW2
  have HV := Lib.hid hv
  have HV' := Lib.hid hv'
  have H0 := Lib.hid h0'
  have H1 := Lib.hid h1
  have HB := Lib.hid hb
  have HL := Lib.hid hL
  have HSE : Hid (∀ W, Below w.heap.size w W → Calls Tryd.prog 5 #[.agg #[.int .i64 k, .int .i64 n, .string s, .slice A L c]] W fun x w' => x = .returned (.int .i64 (sz e)) ∧ Below W.heap.size W w') := Lib.hid (fun W hb => size_any _ e _ W (Nat.le_refl _) ((hv.below hb).more hb.size))
  have HSD : Hid (∀ W, Below w.heap.size w W → Calls Tryd.prog 5 #[.agg #[.int .i64 k', .int .i64 n', .string s', .slice A' L' c']] W fun x w' => x = .returned (.int .i64 (sz d)) ∧ Below W.heap.size W w') := Lib.hid (fun W hb => size_any _ d _ W (Nat.le_refl _) ((hv'.below hb).more hb.size))
  have HAW : Hid (∀ W, Below w.heap.size w W → Calls Tryd.prog 6 #[] W fun x w' => x = .returned (.bool true) ∧ Below W.heap.size W w') := Lib.hid (fun W hb => awake_any W (hL.below hb))
  obtain ⟨ze, hze⟩ : ∃ z, z = sz e := ⟨_, rfl⟩
  obtain ⟨zd, hzd⟩ : ∃ z, z = sz d := ⟨_, rfl⟩
  rw [← hze] at HSE
  rw [← hzd] at HSD
  clear hv hv' h0' h1 hb hL hze hzd
  obtain ⟨z0, z1, z2, z3⟩ := row4 H0.out
  obtain ⟨u0, u1, u2, u3⟩ := row4 H1.out
  go_enter Tryd.func3, Tryd.ntmps3
  by_cases he2 : 200 < ze
  · have d1 : decide (200 < ze) = true := by simpa using he2
    go_upto_region 1 with fail
    rw [← hW0]
    clear hW0
    go_wp2_with fail
    refine (HSE.out W0 HB.out).mono ?_
    rintro x w1 ⟨rfl, hb1⟩
    have HB1 := Lib.hid (HB.out.trans (hb1.mono HB.out.size))
    clear z0 z1 z2 z3 u0 u1 u2 u3
    go_wp2_with fail
    refine (HAW.out w1 HB1.out).mono ?_
    rintro x w2 ⟨rfl, hb2⟩
    have HB2 := Lib.hid (HB1.out.trans (hb2.mono HB1.out.size))
    go_wp2_with fail
    go_ret
    exact ⟨rfl, HB2.out⟩
  · have d1 : decide (200 < ze) = false := by simpa using he2
    go_upto_region 1 with fail
    rw [← hW0]
    clear hW0
    go_wp2_with fail
    refine (HSE.out W0 HB.out).mono ?_
    rintro x w1 ⟨rfl, hb1⟩
    have HB1 := Lib.hid (HB.out.trans (hb1.mono HB.out.size))
    have h1r := (hb1.block _ (heap_lt H1.out)).trans H1.out
    have h0r := (hb1.block _ (heap_lt H0.out)).trans H0.out
    clear z0 z1 z2 z3 u0 u1 u2 u3
    obtain ⟨u0, u1, u2, u3⟩ := row4 h1r
    go_wp2_with fail
    refine (HSD.out w1 HB1.out).mono ?_
    rintro x w2 ⟨rfl, hb2⟩
    have HB2 := Lib.hid (HB1.out.trans (hb2.mono HB1.out.size))
    have H0' := Lib.hid ((hb2.block _ (heap_lt h0r)).trans h0r)
    have H1' := Lib.hid ((hb2.block _ (heap_lt h1r)).trans h1r)
    clear u0 u1 u2 u3 h0r h1r hb1 hb2
    by_cases hd2 : 200 < zd
    · have d2 : decide (200 < zd) = true := by simpa using hd2
      go_wp2_with fail
      refine (HAW.out w2 HB2.out).mono ?_
      rintro x w3 ⟨rfl, hb3⟩
      have HB3 := Lib.hid (HB2.out.trans (hb3.mono HB2.out.size))
      go_wp2_with fail
      go_ret
      exact ⟨rfl, HB3.out⟩
    · have d2 : decide (200 < zd) = false := by simpa using hd2
      go_upto_region 3 with fail
      have hIE : (Tryd.prog.info? tE).map (·.size) = some 4 := by kernel_rfl
      refine region_inv (by kernel_rfl) (fun dd x W => ∃ T, x = ⟨T, []⟩ ∧ NI w2.heap.size (.agg #[.int .i64 k, .int .i64 n, .string s, .slice A L c]) (.pointer (some ⟨w.heap.size, 0, none⟩)) (.pointer (some ⟨w.heap.size + 1, 0, none⟩)) (E.names e) w2 dd T W) (by kernel_rfl) ?step ?fin ?ini
      case ini =>
        refine ⟨_, rfl, rfl, rfl, rfl, rfl, fun h => ?_, fun h => ?_, fun h => ?_, fun h => ?_, fun h => ?_, fun h => ?_, (Below.refl _ _).drew⟩ <;> exact absurd h (by simp [Array.getD_eq_getD_getElem?])
      case step =>
        rintro dd x' W' j hD ⟨T, rfl, hI⟩ hj
        have hj8 : j < 6 := (ready_open hj).1
        have HI := Lib.hid hI
        have HJ := Lib.hid hj
        have hrow : W'.heap[w.heap.size]? = some (.cells (cE k n s A L c) tE (0, 0)) := (hI.bl.block _ (heap_lt H0'.out)).trans H0'.out
        have hbW : Below w.heap.size w W' := HB2.out.trans (hI.bl.mono HB2.out.size)
        have hvW : InV W'.heap.size W' e (.agg #[.int .i64 k, .int .i64 n, .string s, .slice A L c]) := (HV.out.below hbW).more hbW.size
        have hsT := hI.sz
        clear hD hj
        have hmid : ∀ (j : Nat) (v : Value), [Value.int .i64 k, .int .i64 n, .string s, .slice A L c][j]? = some v → W'.cell? ⟨w.heap.size, 0 + j, none⟩ = some v := fun j v hv => by
          rw [Nat.zero_add]
          exact cell_at (cs := [.int .i64 k, .int .i64 n, .string s, .slice A L c]) hrow j v hv
        rcases (by omega : j = 0 ∨ j = 1 ∨ j = 2 ∨ j = 3 ∨ j = 4 ∨ j = 5) with rfl | rfl | rfl | rfl | rfl | rfl
        · refine wpOp_step rfl rfl (fun K0 hK => ?_)
          exact wp_load_mid tE (.tmp 2) rfl w.heap.size 0 (tget hI.h2) [.int .i64 k, .int .i64 n, .string s, .slice A L c] _ hmid Tryd.underlying24 rfl hIE (hK _ _ ⟨_, rfl, HI.out.put0⟩)
        · have e17 : T[17]? = some _ := hI.k0 (ready_dep HJ.out rfl 0 (by kernel_rfl))
          refine wpOp_step rfl rfl (fun K0 hK => ?_)
          refine wp_enterR _ _ _ _ rfl ?_ (names_any e _ W' he hvW) (fun u w' hu => hK _ _ ⟨_, rfl, (HI.out.to hu.2).put1 u (ownT_mono hu.1 HI.out.bl.size)⟩)
          intro o ho
          unfold execOp
          rw [ho]
          clear hI hvW hrow hmid hbW
          go_simp
          exact (Array.getElem?_eq_some_iff.1 e17).2
        · refine wpOp_step rfl rfl (fun K0 hK => ?_)
          exact wp_load_mid tE (.tmp 2) rfl w.heap.size 0 (tget hI.h2) [.int .i64 k, .int .i64 n, .string s, .slice A L c] _ hmid Tryd.underlying24 rfl hIE (hK _ _ ⟨_, rfl, HI.out.put2⟩)
        · have e19 : T[19]? = some _ := hI.k2 (ready_dep HJ.out rfl 2 (by kernel_rfl))
          refine wpOp_step rfl rfl (fun K0 hK => ?_)
          refine wp_enterR _ _ _ _ rfl ?_ (refNames_any _ e _ W' (Nat.le_refl _) (by omega) hvW) (fun u w' hu => hK _ _ ⟨_, rfl, (HI.out.to hu.2).put3 u (ownT_mono hu.1 HI.out.bl.size)⟩)
          intro o ho
          unfold execOp
          rw [ho]
          clear hI hvW hrow hmid hbW
          go_simp
          exact (Array.getElem?_eq_some_iff.1 e19).2
        · obtain ⟨u, hu, ho⟩ := hI.k1 (ready_dep HJ.out rfl 1 (by kernel_rfl))
          refine wpOp_step rfl rfl (fun K0 hK => ?_)
          refine wp_as (.tmp 18) rfl (hK _ _ ⟨_, ?_, HI.out.put4 u ho⟩)
          rw [tget hu]; rfl
        · obtain ⟨u, hu, ho⟩ := hI.k3 (ready_dep HJ.out rfl 3 (by kernel_rfl))
          refine wpOp_step rfl rfl (fun K0 hK => ?_)
          refine wp_as (.tmp 20) rfl (hK _ _ ⟨_, ?_, HI.out.put5 u ho⟩)
          rw [tget hu]; rfl
      case fin =>
        rintro dd x' W' ⟨T, rfl, hI⟩ hall
        obtain ⟨U1, hu1, ho1⟩ := hI.k4 (hall 4 (by decide))
        obtain ⟨U2, hu2, ho2⟩ := hI.k5 (hall 5 (by decide))
        obtain ⟨A1, c1, rfl, hc1, hr1⟩ := ownT_read ho1
        obtain ⟨A2, c2, rfl, hc2, hr2⟩ := ownT_read ho2
        have hbl := hI.bl
        have h2 := hI.h2
        have h3 := hI.h3
        have h4 := hI.h4
        obtain ⟨x0, x1, x2, x3, x4, x5, x6, x7, x8, x9, x10, x11, x12, x13, x14, x15, x16, x17, x18, x19, x20, x21, x22, x23, x24, x25, x26, x27, x28, x29, x30, x31, x32, x33, x34, x35, x36, x37, x38, x39, x40, x41, x42, x43, x44, x45, x46, x47, x48, x49, x50, x51, x52, x53, x54, x55, x56, x57, x58, x59, x60, x61, x62, x63, x64, x65, x66, x67, x68, x69, rfl⟩ := lit70 T hI.sz
        have e2 := Option.some.inj (h2 : some x2 = _)
        have e3 := Option.some.inj (h3 : some x3 = _)
        have e4 := Option.some.inj (h4 : some x4 = _)
        have e5 := Option.some.inj (hu1 : some x5 = _)
        have e6 := Option.some.inj (hu2 : some x6 = _)
        subst e2 e3 e4 e5 e6
        clear hI hall h2 h3 h4 hu1 hu2 ho1 ho2
        obtain ⟨nl, hnl⟩ : ∃ nl, nl = E.names e := ⟨_, rfl⟩
        rw [← hnl] at hc1 hc2 hr1 hr2 ⊢
        have HR1 := Lib.hid hr1
        have HR2 := Lib.hid hr2
        have HB3 := Lib.hid (HB2.out.trans (hbl.mono HB2.out.size))
        have H03 := Lib.hid ((hbl.block _ (heap_lt H0'.out)).trans H0'.out)
        have H13 := Lib.hid ((hbl.block _ (heap_lt H1'.out)).trans H1'.out)
        obtain ⟨M, hM⟩ : ∃ M, M = nl.length := ⟨_, rfl⟩
        have HM := Lib.hid hM
        rw [← hM] at hc1 hc2 ⊢
        clear hr1 hr2 hbl hnl hM
        go_wp2_with fail
        go_loopw [7] (fun i wr => ∃ k' : Nat, k' ≤ M ∧ i = .int .i64 k' ∧ Hid (Below W'.heap.size W' wr)) (fun i _ => M - (intOf i).toNat)
        case atStart => exact ⟨0, by omega, rfl, Lib.hid (Below.refl _ _)⟩
        case round =>
          obtain ⟨i', hk', rfl, hbw⟩ := hrel
          by_cases hlt : i' < M
          · have hlt' : i' < nl.length := by rw [← HM.out]; exact hlt
            obtain ⟨g1, rfl, q1⟩ := HR1.out i' _ (List.getElem?_eq_getElem hlt')
            obtain ⟨g2, rfl, q2⟩ := HR2.out i' _ (List.getElem?_eq_getElem hlt')
            generalize nl[i'] = nm at q1 q2
            have q1 := (hbw.out.cell (p := ⟨g1, i', none⟩) (cell_lt q1)).trans q1
            have q2 := (hbw.out.cell (p := ⟨g2, i', none⟩) (cell_lt q2)).trans q2
            have hnn : (M : Int) ≤ 9223372036854775807 := by
              have := hc1.2
              unfold maxLen at this
              omega
            have hlt2 : decide ((i' : Int) < (M : Int)) = true := by simp; omega
            go_upto_region 9 with fail
            go_quiet (fail)
            go_wp2
            go_roundw
            case rel => exact ⟨i' + 1, by omega, by go_num, Lib.hid (below_drewN hbw.out nq)⟩
            case measure => simp [intOf]; omega
          · have hge : decide ((i' : Int) < (M : Int)) = false := by simp; omega
            go_upto_region 11 with fail
            have hbs := hbw.out.size
            have H04 := (hbw.out.block _ (heap_lt H03.out)).trans H03.out
            have H14 := (hbw.out.block _ (heap_lt H13.out)).trans H13.out
            have HB4 := Lib.hid (HB3.out.trans (hbw.out.mono HB3.out.size))
            have hRX : ∀ w', (∃ n : InC (Below wr.heap.size wr), w' = n.w) → w'.rangeAt w.heap.size 0 [.int .i64 k, .int .i64 n, .string s, .slice A L c] := fun w' ⟨p, hp⟩ => by
              subst hp
              exact range_row (cs := [.int .i64 k, .int .i64 n, .string s, .slice A L c]) ((p.ok.block _ (heap_lt H04)).trans H04)
            have hRY : ∀ w', (∃ n : InC (Below wr.heap.size wr), w' = n.w) → w'.rangeAt (w.heap.size + 1) 0 [.int .i64 k', .int .i64 n', .string s', .slice A' L' c'] := fun w' ⟨p, hp⟩ => by
              subst hp
              exact range_row (cs := [.int .i64 k', .int .i64 n', .string s', .slice A' L' c']) ((p.ok.block _ (heap_lt H14)).trans H14)
            have HP : Hid (∀ p : InC (Below wr.heap.size wr), Below w.heap.size w p.w) := Lib.hid (fun p => HB4.out.trans (p.ok.mono HB4.out.size))
            have HC1 : Hid (∀ p : InC (Below wr.heap.size wr), Calls Tryd.prog 9 #[.agg #[.int .i64 k, .int .i64 n, .string s, .slice A L c]] p.w fun x w' => x = .returned (.bool (E.right e)) ∧ Below p.w.heap.size p.w w') := Lib.hid (fun p => right_any e _ p.w (by omega) ((HV.out.below (HP.out p)).more (HP.out p).size) (HL.out.below (HP.out p)))
            have HC2 : Hid (∀ p : InC (Below wr.heap.size wr), Calls Tryd.prog 10 #[.agg #[.int .i64 k, .int .i64 n, .string s, .slice A L c]] p.w fun x w' => x = .returned (.bool (E.right e)) ∧ Below p.w.heap.size p.w w') := Lib.hid (fun p => refRight_any e _ p.w (by omega) ((HV.out.below (HP.out p)).more (HP.out p).size))
            have HC3 : Hid (∀ p : InC (Below wr.heap.size wr), Calls Tryd.prog 11 #[.agg #[.int .i64 k, .int .i64 n, .string s, .slice A L c]] p.w fun x w' => x = .returned (.string (textB e)) ∧ Below p.w.heap.size p.w w') := Lib.hid (fun p => textTells_any e _ p.w he ((HV.out.below (HP.out p)).more (HP.out p).size) (HL.out.below (HP.out p)))
            have HC4 : Hid (∀ p : InC (Below wr.heap.size wr), Calls Tryd.prog 12 #[.agg #[.int .i64 k, .int .i64 n, .string s, .slice A L c]] p.w fun x w' => x = .returned (.string (textB e)) ∧ Below p.w.heap.size p.w w') := Lib.hid (fun p => refText_any e _ p.w he ((HV.out.below (HP.out p)).more (HP.out p).size))
            have HC5 : Hid (∀ p : InC (Below wr.heap.size wr), Calls Tryd.prog 13 #[.agg #[.int .i64 k, .int .i64 n, .string s, .slice A L c], .agg #[.int .i64 k', .int .i64 n', .string s', .slice A' L' c']] p.w fun x w' => x = .returned (.bool (E.same e d)) ∧ Below p.w.heap.size p.w w') := Lib.hid (fun p => same_any _ e d _ _ p.w (Nat.le_refl _) ((HV.out.below (HP.out p)).more (HP.out p).size) ((HV'.out.below (HP.out p)).more (HP.out p).size))
            have HC6 : Hid (∀ p : InC (Below wr.heap.size wr), Calls Tryd.prog 14 #[.agg #[.int .i64 k, .int .i64 n, .string s, .slice A L c], .agg #[.int .i64 k', .int .i64 n', .string s', .slice A' L' c']] p.w fun x w' => x = .returned (.bool (E.same e d)) ∧ Below p.w.heap.size p.w w') := Lib.hid (fun p => refSame_any _ e d _ _ p.w (Nat.le_refl _) ((HV.out.below (HP.out p)).more (HP.out p).size) ((HV'.out.below (HP.out p)).more (HP.out p).size))
            have HC7 : Hid (∀ p : InC (Below wr.heap.size wr), Calls Tryd.prog 13 #[.agg #[.int .i64 k, .int .i64 n, .string s, .slice A L c], .agg #[.int .i64 k, .int .i64 n, .string s, .slice A L c]] p.w fun x w' => x = .returned (.bool true) ∧ Below p.w.heap.size p.w w') := Lib.hid (fun p => by
              have := same_any _ e e _ _ p.w (Nat.le_refl _) ((HV.out.below (HP.out p)).more (HP.out p).size) ((HV.out.below (HP.out p)).more (HP.out p).size)
              rwa [E.same_self] at this)
            have HC8 : Hid (∀ p : InC (Below wr.heap.size wr), Calls Tryd.prog 6 #[] p.w fun x w' => x = .returned (.bool true) ∧ Below p.w.heap.size p.w w') := Lib.hid (fun p => HAW.out p.w (HP.out p))
            generalize E.right e = rt at HC1 HC2
            generalize textB e = tb at HC3 HC4
            generalize E.same e d = sm at HC5 HC6
            refine region_class (Cl := Below wr.heap.size wr) (by kernel_rfl) (by kernel_rfl) (drew_below _) ?_
            go_big_quiet_want
            refine quiet_load_mid tE (.tmp 2) rfl w.heap.size 0 rfl [.int .i64 k, .int .i64 n, .string s, .slice A L c] _ hRX Tryd.underlying24 rfl hIE ?_
            go_big_quiet_on
            simp only [Act.put, List.setIfInBounds_toArray, List.set_cons_succ, List.set_cons_zero]
            go_big_quiet_step (first
              | (go_at_call 9; with_reducible exact cls_below _ (HC1.out _))
              | (go_at_call 10; with_reducible exact cls_below _ (HC2.out _))
              | (go_at_call 11; with_reducible exact cls_below _ (HC3.out _))
              | (go_at_call 12; with_reducible exact cls_below _ (HC4.out _))
              | (go_at_call 13; with_reducible exact cls_below _ (HC5.out _))
              | (go_at_call 14; with_reducible exact cls_below _ (HC6.out _))
              | (go_at_call 13; with_reducible exact cls_below _ (HC7.out _))
              | (go_at_call 6; with_reducible exact cls_below _ (HC8.out _)))
            go_big_quiet_want
            refine quiet_load_mid tE (.tmp 2) rfl w.heap.size 0 rfl [.int .i64 k, .int .i64 n, .string s, .slice A L c] _ hRX Tryd.underlying24 rfl hIE ?_
            go_big_quiet_on
            simp only [Act.put, List.setIfInBounds_toArray, List.set_cons_succ, List.set_cons_zero]
            go_big_quiet_step (first
              | (go_at_call 9; with_reducible exact cls_below _ (HC1.out _))
              | (go_at_call 10; with_reducible exact cls_below _ (HC2.out _))
              | (go_at_call 11; with_reducible exact cls_below _ (HC3.out _))
              | (go_at_call 12; with_reducible exact cls_below _ (HC4.out _))
              | (go_at_call 13; with_reducible exact cls_below _ (HC5.out _))
              | (go_at_call 14; with_reducible exact cls_below _ (HC6.out _))
              | (go_at_call 13; with_reducible exact cls_below _ (HC7.out _))
              | (go_at_call 6; with_reducible exact cls_below _ (HC8.out _)))
            go_big_quiet_step (first
              | (go_at_call 9; with_reducible exact cls_below _ (HC1.out _))
              | (go_at_call 10; with_reducible exact cls_below _ (HC2.out _))
              | (go_at_call 11; with_reducible exact cls_below _ (HC3.out _))
              | (go_at_call 12; with_reducible exact cls_below _ (HC4.out _))
              | (go_at_call 13; with_reducible exact cls_below _ (HC5.out _))
              | (go_at_call 14; with_reducible exact cls_below _ (HC6.out _))
              | (go_at_call 13; with_reducible exact cls_below _ (HC7.out _))
              | (go_at_call 6; with_reducible exact cls_below _ (HC8.out _)))
            go_big_quiet_step (first
              | (go_at_call 9; with_reducible exact cls_below _ (HC1.out _))
              | (go_at_call 10; with_reducible exact cls_below _ (HC2.out _))
              | (go_at_call 11; with_reducible exact cls_below _ (HC3.out _))
              | (go_at_call 12; with_reducible exact cls_below _ (HC4.out _))
              | (go_at_call 13; with_reducible exact cls_below _ (HC5.out _))
              | (go_at_call 14; with_reducible exact cls_below _ (HC6.out _))
              | (go_at_call 13; with_reducible exact cls_below _ (HC7.out _))
              | (go_at_call 6; with_reducible exact cls_below _ (HC8.out _)))
            go_big_quiet_want
            refine quiet_load_mid tE (.tmp 2) rfl w.heap.size 0 rfl [.int .i64 k, .int .i64 n, .string s, .slice A L c] _ hRX Tryd.underlying24 rfl hIE ?_
            go_big_quiet_on
            simp only [Act.put, List.setIfInBounds_toArray, List.set_cons_succ, List.set_cons_zero]
            go_big_quiet_step (first
              | (go_at_call 9; with_reducible exact cls_below _ (HC1.out _))
              | (go_at_call 10; with_reducible exact cls_below _ (HC2.out _))
              | (go_at_call 11; with_reducible exact cls_below _ (HC3.out _))
              | (go_at_call 12; with_reducible exact cls_below _ (HC4.out _))
              | (go_at_call 13; with_reducible exact cls_below _ (HC5.out _))
              | (go_at_call 14; with_reducible exact cls_below _ (HC6.out _))
              | (go_at_call 13; with_reducible exact cls_below _ (HC7.out _))
              | (go_at_call 6; with_reducible exact cls_below _ (HC8.out _)))
            go_big_quiet_want
            refine quiet_load_mid tE (.tmp 2) rfl w.heap.size 0 rfl [.int .i64 k, .int .i64 n, .string s, .slice A L c] _ hRX Tryd.underlying24 rfl hIE ?_
            go_big_quiet_on
            simp only [Act.put, List.setIfInBounds_toArray, List.set_cons_succ, List.set_cons_zero]
            go_big_quiet_step (first
              | (go_at_call 9; with_reducible exact cls_below _ (HC1.out _))
              | (go_at_call 10; with_reducible exact cls_below _ (HC2.out _))
              | (go_at_call 11; with_reducible exact cls_below _ (HC3.out _))
              | (go_at_call 12; with_reducible exact cls_below _ (HC4.out _))
              | (go_at_call 13; with_reducible exact cls_below _ (HC5.out _))
              | (go_at_call 14; with_reducible exact cls_below _ (HC6.out _))
              | (go_at_call 13; with_reducible exact cls_below _ (HC7.out _))
              | (go_at_call 6; with_reducible exact cls_below _ (HC8.out _)))
            go_big_quiet_step (first
              | (go_at_call 9; with_reducible exact cls_below _ (HC1.out _))
              | (go_at_call 10; with_reducible exact cls_below _ (HC2.out _))
              | (go_at_call 11; with_reducible exact cls_below _ (HC3.out _))
              | (go_at_call 12; with_reducible exact cls_below _ (HC4.out _))
              | (go_at_call 13; with_reducible exact cls_below _ (HC5.out _))
              | (go_at_call 14; with_reducible exact cls_below _ (HC6.out _))
              | (go_at_call 13; with_reducible exact cls_below _ (HC7.out _))
              | (go_at_call 6; with_reducible exact cls_below _ (HC8.out _)))
            go_big_quiet_step (first
              | (go_at_call 9; with_reducible exact cls_below _ (HC1.out _))
              | (go_at_call 10; with_reducible exact cls_below _ (HC2.out _))
              | (go_at_call 11; with_reducible exact cls_below _ (HC3.out _))
              | (go_at_call 12; with_reducible exact cls_below _ (HC4.out _))
              | (go_at_call 13; with_reducible exact cls_below _ (HC5.out _))
              | (go_at_call 14; with_reducible exact cls_below _ (HC6.out _))
              | (go_at_call 13; with_reducible exact cls_below _ (HC7.out _))
              | (go_at_call 6; with_reducible exact cls_below _ (HC8.out _)))
            go_big_quiet_step (first
              | (go_at_call 9; with_reducible exact cls_below _ (HC1.out _))
              | (go_at_call 10; with_reducible exact cls_below _ (HC2.out _))
              | (go_at_call 11; with_reducible exact cls_below _ (HC3.out _))
              | (go_at_call 12; with_reducible exact cls_below _ (HC4.out _))
              | (go_at_call 13; with_reducible exact cls_below _ (HC5.out _))
              | (go_at_call 14; with_reducible exact cls_below _ (HC6.out _))
              | (go_at_call 13; with_reducible exact cls_below _ (HC7.out _))
              | (go_at_call 6; with_reducible exact cls_below _ (HC8.out _)))
            go_big_quiet_want
            refine quiet_load_mid tE (.tmp 2) rfl w.heap.size 0 rfl [.int .i64 k, .int .i64 n, .string s, .slice A L c] _ hRX Tryd.underlying24 rfl hIE ?_
            go_big_quiet_on
            simp only [Act.put, List.setIfInBounds_toArray, List.set_cons_succ, List.set_cons_zero]
            go_big_quiet_want
            refine quiet_load_mid tE (.tmp 3) rfl (w.heap.size + 1) 0 rfl [.int .i64 k', .int .i64 n', .string s', .slice A' L' c'] _ hRY Tryd.underlying24 rfl hIE ?_
            go_big_quiet_on
            simp only [Act.put, List.setIfInBounds_toArray, List.set_cons_succ, List.set_cons_zero]
            go_big_quiet_step (first
              | (go_at_call 9; with_reducible exact cls_below _ (HC1.out _))
              | (go_at_call 10; with_reducible exact cls_below _ (HC2.out _))
              | (go_at_call 11; with_reducible exact cls_below _ (HC3.out _))
              | (go_at_call 12; with_reducible exact cls_below _ (HC4.out _))
              | (go_at_call 13; with_reducible exact cls_below _ (HC5.out _))
              | (go_at_call 14; with_reducible exact cls_below _ (HC6.out _))
              | (go_at_call 13; with_reducible exact cls_below _ (HC7.out _))
              | (go_at_call 6; with_reducible exact cls_below _ (HC8.out _)))
            go_big_quiet_want
            refine quiet_load_mid tE (.tmp 2) rfl w.heap.size 0 rfl [.int .i64 k, .int .i64 n, .string s, .slice A L c] _ hRX Tryd.underlying24 rfl hIE ?_
            go_big_quiet_on
            simp only [Act.put, List.setIfInBounds_toArray, List.set_cons_succ, List.set_cons_zero]
            go_big_quiet_want
            refine quiet_load_mid tE (.tmp 3) rfl (w.heap.size + 1) 0 rfl [.int .i64 k', .int .i64 n', .string s', .slice A' L' c'] _ hRY Tryd.underlying24 rfl hIE ?_
            go_big_quiet_on
            simp only [Act.put, List.setIfInBounds_toArray, List.set_cons_succ, List.set_cons_zero]
            go_big_quiet_step (first
              | (go_at_call 9; with_reducible exact cls_below _ (HC1.out _))
              | (go_at_call 10; with_reducible exact cls_below _ (HC2.out _))
              | (go_at_call 11; with_reducible exact cls_below _ (HC3.out _))
              | (go_at_call 12; with_reducible exact cls_below _ (HC4.out _))
              | (go_at_call 13; with_reducible exact cls_below _ (HC5.out _))
              | (go_at_call 14; with_reducible exact cls_below _ (HC6.out _))
              | (go_at_call 13; with_reducible exact cls_below _ (HC7.out _))
              | (go_at_call 6; with_reducible exact cls_below _ (HC8.out _)))
            go_big_quiet_step (first
              | (go_at_call 9; with_reducible exact cls_below _ (HC1.out _))
              | (go_at_call 10; with_reducible exact cls_below _ (HC2.out _))
              | (go_at_call 11; with_reducible exact cls_below _ (HC3.out _))
              | (go_at_call 12; with_reducible exact cls_below _ (HC4.out _))
              | (go_at_call 13; with_reducible exact cls_below _ (HC5.out _))
              | (go_at_call 14; with_reducible exact cls_below _ (HC6.out _))
              | (go_at_call 13; with_reducible exact cls_below _ (HC7.out _))
              | (go_at_call 6; with_reducible exact cls_below _ (HC8.out _)))
            go_big_quiet_step (first
              | (go_at_call 9; with_reducible exact cls_below _ (HC1.out _))
              | (go_at_call 10; with_reducible exact cls_below _ (HC2.out _))
              | (go_at_call 11; with_reducible exact cls_below _ (HC3.out _))
              | (go_at_call 12; with_reducible exact cls_below _ (HC4.out _))
              | (go_at_call 13; with_reducible exact cls_below _ (HC5.out _))
              | (go_at_call 14; with_reducible exact cls_below _ (HC6.out _))
              | (go_at_call 13; with_reducible exact cls_below _ (HC7.out _))
              | (go_at_call 6; with_reducible exact cls_below _ (HC8.out _)))
            go_big_quiet_step (first
              | (go_at_call 9; with_reducible exact cls_below _ (HC1.out _))
              | (go_at_call 10; with_reducible exact cls_below _ (HC2.out _))
              | (go_at_call 11; with_reducible exact cls_below _ (HC3.out _))
              | (go_at_call 12; with_reducible exact cls_below _ (HC4.out _))
              | (go_at_call 13; with_reducible exact cls_below _ (HC5.out _))
              | (go_at_call 14; with_reducible exact cls_below _ (HC6.out _))
              | (go_at_call 13; with_reducible exact cls_below _ (HC7.out _))
              | (go_at_call 6; with_reducible exact cls_below _ (HC8.out _)))
            go_big_quiet_want
            refine quiet_load_mid tE (.tmp 2) rfl w.heap.size 0 rfl [.int .i64 k, .int .i64 n, .string s, .slice A L c] _ hRX Tryd.underlying24 rfl hIE ?_
            go_big_quiet_on
            simp only [Act.put, List.setIfInBounds_toArray, List.set_cons_succ, List.set_cons_zero]
            go_big_quiet_want
            refine quiet_load_mid tE (.tmp 2) rfl w.heap.size 0 rfl [.int .i64 k, .int .i64 n, .string s, .slice A L c] _ hRX Tryd.underlying24 rfl hIE ?_
            go_big_quiet_on
            simp only [Act.put, List.setIfInBounds_toArray, List.set_cons_succ, List.set_cons_zero]
            go_big_quiet_step (first
              | (go_at_call 9; with_reducible exact cls_below _ (HC1.out _))
              | (go_at_call 10; with_reducible exact cls_below _ (HC2.out _))
              | (go_at_call 11; with_reducible exact cls_below _ (HC3.out _))
              | (go_at_call 12; with_reducible exact cls_below _ (HC4.out _))
              | (go_at_call 13; with_reducible exact cls_below _ (HC5.out _))
              | (go_at_call 14; with_reducible exact cls_below _ (HC6.out _))
              | (go_at_call 13; with_reducible exact cls_below _ (HC7.out _))
              | (go_at_call 6; with_reducible exact cls_below _ (HC8.out _)))
            go_big_quiet_step (first
              | (go_at_call 9; with_reducible exact cls_below _ (HC1.out _))
              | (go_at_call 10; with_reducible exact cls_below _ (HC2.out _))
              | (go_at_call 11; with_reducible exact cls_below _ (HC3.out _))
              | (go_at_call 12; with_reducible exact cls_below _ (HC4.out _))
              | (go_at_call 13; with_reducible exact cls_below _ (HC5.out _))
              | (go_at_call 14; with_reducible exact cls_below _ (HC6.out _))
              | (go_at_call 13; with_reducible exact cls_below _ (HC7.out _))
              | (go_at_call 6; with_reducible exact cls_below _ (HC8.out _)))
            go_big_quiet_step (first
              | (go_at_call 9; with_reducible exact cls_below _ (HC1.out _))
              | (go_at_call 10; with_reducible exact cls_below _ (HC2.out _))
              | (go_at_call 11; with_reducible exact cls_below _ (HC3.out _))
              | (go_at_call 12; with_reducible exact cls_below _ (HC4.out _))
              | (go_at_call 13; with_reducible exact cls_below _ (HC5.out _))
              | (go_at_call 14; with_reducible exact cls_below _ (HC6.out _))
              | (go_at_call 13; with_reducible exact cls_below _ (HC7.out _))
              | (go_at_call 6; with_reducible exact cls_below _ (HC8.out _)))
            go_big_quiet_step (first
              | (go_at_call 9; with_reducible exact cls_below _ (HC1.out _))
              | (go_at_call 10; with_reducible exact cls_below _ (HC2.out _))
              | (go_at_call 11; with_reducible exact cls_below _ (HC3.out _))
              | (go_at_call 12; with_reducible exact cls_below _ (HC4.out _))
              | (go_at_call 13; with_reducible exact cls_below _ (HC5.out _))
              | (go_at_call 14; with_reducible exact cls_below _ (HC6.out _))
              | (go_at_call 13; with_reducible exact cls_below _ (HC7.out _))
              | (go_at_call 6; with_reducible exact cls_below _ (HC8.out _)))
            go_big_quiet_step (first
              | (go_at_call 9; with_reducible exact cls_below _ (HC1.out _))
              | (go_at_call 10; with_reducible exact cls_below _ (HC2.out _))
              | (go_at_call 11; with_reducible exact cls_below _ (HC3.out _))
              | (go_at_call 12; with_reducible exact cls_below _ (HC4.out _))
              | (go_at_call 13; with_reducible exact cls_below _ (HC5.out _))
              | (go_at_call 14; with_reducible exact cls_below _ (HC6.out _))
              | (go_at_call 13; with_reducible exact cls_below _ (HC7.out _))
              | (go_at_call 6; with_reducible exact cls_below _ (HC8.out _)))
            go_big_quiet_step (first
              | (go_at_call 9; with_reducible exact cls_below _ (HC1.out _))
              | (go_at_call 10; with_reducible exact cls_below _ (HC2.out _))
              | (go_at_call 11; with_reducible exact cls_below _ (HC3.out _))
              | (go_at_call 12; with_reducible exact cls_below _ (HC4.out _))
              | (go_at_call 13; with_reducible exact cls_below _ (HC5.out _))
              | (go_at_call 14; with_reducible exact cls_below _ (HC6.out _))
              | (go_at_call 13; with_reducible exact cls_below _ (HC7.out _))
              | (go_at_call 6; with_reducible exact cls_below _ (HC8.out _)))
            refine wpQuiet_nil ?_
            intro _ hw'
            obtain ⟨⟨wq, hq⟩, hw''⟩ := hw'
            subst hw''
            go_wp2_with fail
            go_ret
            exact ⟨rfl, HB4.out.trans (hq.mono HB4.out.size)⟩
end Go.Proofs.YtdehpgdffafebaaDoor
