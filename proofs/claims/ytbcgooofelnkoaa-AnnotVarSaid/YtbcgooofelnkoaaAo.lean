/- Owners: whether one may be, its text, the number of a parameter's name, as the program and the document's answer tell it. Conditions: at most 1000 parameters. -/
import Derived.Test.YtbcgooofelnkoaaCw
import Derived.Test.YtbcgooofelnkoaaKd
import Derived.Deep.RegionHeld3
namespace Go.Proofs.Ytbcgooofelnkoaa
open Go.RowKit
set_option linter.unusedVariables false

theorem below1 (w : World) (A : Obj) : Below w.heap.size w (w.alloc A) := (Below.refl _ w).alloc (Nat.le_refl _) A
theorem ibeq_no {a b : Int} (h : ¬ a = b) : (a == b) = false := by simpa using h

set_option maxHeartbeats 1000000 in
theorem oright_any (o : Ow) (p : Int) (w : World) : Calls Try.prog 51 #[.agg #[.int .i64 o.kind, .int .i64 o.n], .int .i64 p] w fun e w' => e = .returned (.bool (o.right p)) ∧ Below w.heap.size w w' := by
  obtain ⟨k, n⟩ := o
  rcases (show k = 1 ∨ k = 2 ∨ k = 3 ∨ k = 4 ∨ k = 5 ∨ k = 6 ∨ k = 7 ∨ (¬ k = 1 ∧ ¬ k = 2 ∧ ¬ k = 3 ∧ ¬ k = 4 ∧ ¬ k = 5 ∧ ¬ k = 6 ∧ ¬ k = 7) by omega) with rfl | rfl | rfl | rfl | rfl | rfl | rfl | ⟨h1, h2, h3, h4, h5, h6, h7⟩
  case inr.inr.inr.inr.inr.inr.inr =>
    have HV : Hid (Ow.right ⟨k, n⟩ p = false) := Lib.hid (by unfold Ow.right; simp [h1, h2, h3, h4, h5, h6, h7])
    have e1 := ibeq_no h1
    have e2 := ibeq_no h2
    have e3 := ibeq_no h3
    have e4 := ibeq_no h4
    have e5 := ibeq_no h5
    have e6 := ibeq_no h6
    have e7 := ibeq_no h7
    go_enter Try.func51, Try.ntmps51
    go_wp2
    go_ret
    exact ⟨by rw [HV.out]; rfl, below1 w _⟩
  all_goals
    go_enter Try.func51, Try.ntmps51
    go_wp2
    all_goals
      go_ret
      exact ⟨ret_b (by simp [Ow.right] <;> omega), below1 w _⟩

theorem oright_kn (k n p : Int) (w : World) : Calls Try.prog 51 #[.agg #[.int .i64 k, .int .i64 n], .int .i64 p] w fun e w' => e = .returned (.bool (Ow.right ⟨k, n⟩ p)) ∧ Below w.heap.size w w' := oright_any ⟨k, n⟩ p w
/-- A slice that reads as a list of texts. -/
def RS (w : World) (B : Nat) (A : Option Addr) (l : List ByteArray) : Prop :=
  0 < l.length → ∃ b o, A = some ⟨b, o, none⟩ ∧ b < B ∧ ∀ i, (h : i < l.length) → w.cell? ⟨b, o + i, none⟩ = some (.string l[i])
theorem RS.below {w w' : World} {B : Nat} {A : Option Addr} {l : List ByteArray} (h : RS w B A l) (hb : Below B w w') : RS w' B A l := by
  intro hl
  obtain ⟨b, o, e, hB, hc⟩ := h hl
  exact ⟨b, o, e, hB, fun i hi => (hb.cell (p := ⟨b, _, none⟩) hB).trans (hc i hi)⟩
theorem RS.more {w : World} {B B' : Nat} {A : Option Addr} {l : List ByteArray} (h : RS w B A l) (hB : B ≤ B') : RS w B' A l := by
  intro hl
  obtain ⟨b, o, e, hb, hc⟩ := h hl
  exact ⟨b, o, e, by omega, hc⟩
theorem RS.at_ {w : World} {B : Nat} {A : Option Addr} {l : List ByteArray} (h : RS w B A l) {k : Nat} (hk : k < l.length) : ∃ b o, A = some ⟨b, o, none⟩ ∧ b < B ∧ w.cell? ⟨b, o + k, none⟩ = some (.string l[k]) := by
  obtain ⟨b, o, e, hB, hc⟩ := h (by omega)
  exact ⟨b, o, e, hB, hc k hk⟩

theorem ret_s7 {a b : ByteArray} (h : a = b) : Ending.returned (.string a) = .returned (.string b) := by rw [h]
theorem right_par {n p : Int} (h : Ow.right ⟨3, n⟩ p = true) : 1 ≤ n ∧ n ≤ p := by unfold Ow.right at h; simpa using h
theorem right_hole {n p : Int} (h : Ow.right ⟨7, n⟩ p = true) : 0 ≤ n := by unfold Ow.right at h; simpa using h
theorem right_kind {k n p : Int} (h : Ow.right ⟨k, n⟩ p = true) : 1 ≤ k ∧ k ≤ 7 := by
  unfold Ow.right at h
  simp only at h
  split at h
  · omega
  · split at h
    · omega
    · have := of_decide_eq_true h; omega

/-- The copy of an owner in a block of the call's own stays. -/
theorem box2 {w w1 : World} {a b : Value} {t : TypeId} (h : Below (w.alloc (.cells #[a, b] t)).heap.size (w.alloc (.cells #[a, b] t)) w1) :
    Below w.heap.size w w1 ∧ w1.cell? ⟨w.heap.size, 0, none⟩ = some a ∧ w1.cell? ⟨w.heap.size, 1, none⟩ = some b ∧ w.heap.size < w1.heap.size := by
  have hs : w.heap.size < (w.alloc (.cells #[a, b] t)).heap.size := by simp
  have hn := (h.block _ hs).trans (heap_new w (.cells #[a, b] t))
  exact ⟨(below1 w _).trans (h.mono (by omega)), cell_of_row w1 _ 0 _ t (0, 0) hn, cell_of_row w1 _ 1 _ t (0, 0) hn, by have := h.size; omega⟩

set_option maxHeartbeats 1000000 in
theorem otext_any (o : Ow) (A : Option Addr) (c : Nat) (ps : List ByteArray) (w : World) (hr : RS w w.heap.size A ps) (hl : ps.length ≤ 1000) (hc : ps.length ≤ c) :
    Calls Try.prog 46 #[.agg #[.int .i64 o.kind, .int .i64 o.n], .slice A ps.length c] w fun e w' => e = .returned (.string (o.text ps)) ∧ Below w.heap.size w w' := by
  have HR := Lib.hid hr
  clear hr
  obtain ⟨k, n⟩ := o
  by_cases hR : Ow.right ⟨k, n⟩ ps.length = true
  case neg =>
    have hF : Ow.right ⟨k, n⟩ ps.length = false := by simpa using hR
    have HF := Lib.hid hF
    have HV := Lib.hid (Ow.text_no hF)
    clear hR hF
    go_enter Try.func46, Try.ntmps46
    go_wp2_with fail
    refine (oright_kn _ _ _ _).mono ?_
    rintro e w1 ⟨rfl, hb1⟩
    rw [HF.out]
    obtain ⟨hB, z1, z2, z3⟩ := box2 hb1
    clear hb1
    go_wp2
    go_ret
    exact ⟨by rw [HV.out]; rfl, hB⟩
  case pos =>
    have HT := Lib.hid hR
    by_cases h3 : k = 3
    · subst h3
      have hn := right_par hR
      obtain ⟨j, rfl⟩ : ∃ j : Nat, n = (j : Int) + 1 := ⟨(n - 1).toNat, by omega⟩
      have hj : j < ps.length := by omega
      have HV := Lib.hid (Ow.text_par j hj rfl)
      obtain ⟨b, off, rfl, hB0, q0⟩ := HR.out.at_ hj
      have HQ := Lib.hid q0
      clear hR hn q0
      go_enter Try.func46, Try.ntmps46
      go_wp2_with fail
      refine (oright_kn _ _ _ _).mono ?_
      rintro e w1 ⟨rfl, hb1⟩
      rw [HT.out]
      obtain ⟨hB, z1, z2, z3⟩ := box2 hb1
      have q0 := (hB.cell (p := ⟨b, off + j, none⟩) hB0).trans HQ.out
      clear hb1
      go_wp2
      go_ret
      exact ⟨by rw [HV.out]; rfl, hB⟩
    · have HV := Lib.hid (Ow.text_word hR h3)
      have hk := right_kind hR
      rcases (show k = 1 ∨ k = 2 ∨ k = 4 ∨ k = 5 ∨ k = 6 ∨ k = 7 by omega) with rfl | rfl | rfl | rfl | rfl | rfl
      all_goals
        clear hR h3 hk
        go_enter Try.func46, Try.ntmps46
        go_wp2_with fail
        refine (oright_kn _ _ _ _).mono ?_
        rintro e w1 ⟨rfl, hb1⟩
        rw [HT.out]
        obtain ⟨hB, z1, z2, z3⟩ := box2 hb1
        clear hb1
        go_wp2
        go_ret
        exact ⟨by rw [HV.out]; rfl, hB⟩

/-- The number of the first parameter of a name, from 1 on; 0: there is none. -/
def findP (s : ByteArray) (ps : List ByteArray) : Nat := Wd.findFrom s 0 ps
theorem findP_le (s : ByteArray) (ps : List ByteArray) : findP s ps ≤ ps.length := by
  have := Wd.findFrom_bd s 0 ps
  unfold findP; omega
theorem findP_yes {s : ByteArray} {ps : List ByteArray} {k : Nat} (h : k < ps.length) (hr : Wd.findFrom s k (ps.drop k) = findP s ps) (e : ps[k] = s) : findP s ps = k + 1 := by
  rw [← hr, List.drop_eq_getElem_cons h, Wd.findFrom, if_pos e]
theorem findP_no {s : ByteArray} {ps : List ByteArray} {k : Nat} (h : k < ps.length) (hr : Wd.findFrom s k (ps.drop k) = findP s ps) (e : ¬ ps[k] = s) : Wd.findFrom s (k + 1) (ps.drop (k + 1)) = findP s ps := by
  rw [← hr, List.drop_eq_getElem_cons h, Wd.findFrom, if_neg e]
theorem findP_end {s : ByteArray} {ps : List ByteArray} {k : Nat} (h : ¬ k < ps.length) (hr : Wd.findFrom s k (ps.drop k) = findP s ps) : findP s ps = 0 := by
  rw [← hr, List.drop_eq_nil_of_le (by omega), Wd.findFrom]

theorem find_ps (s : ByteArray) (A : Option Addr) (c : Nat) (ps : List ByteArray) (w : World) (hr : RS w w.heap.size A ps) (hl : ps.length ≤ 1000) (hc : ps.length ≤ c) :
    Calls Try.prog 50 #[.string s, .slice A ps.length c] w fun e w' => e = .returned (.int .i64 (findP s ps : Nat)) ∧ w = w' := by
  have HR := Lib.hid hr
  clear hr
  go_enter Try.func50, Try.ntmps50
  go_wp2
  go_loop [9] (fun i => ∃ k : Nat, k ≤ ps.length ∧ i = .int .i64 k ∧ Hid (Wd.findFrom s k (ps.drop k) = findP s ps)) (fun i => ps.length - (intOf i).toNat)
  case atStart => exact ⟨0, by omega, rfl, Lib.hid rfl⟩
  case round =>
    obtain ⟨k, hk, rfl, hf⟩ := hrel
    by_cases hlt : k < ps.length
    · obtain ⟨b, o, rfl, hB, q0⟩ := HR.out.at_ hlt
      have HY := Lib.hid (@findP_yes s ps k hlt hf.out)
      have HN := Lib.hid (@findP_no s ps k hlt hf.out)
      obtain ⟨x, hx⟩ : ∃ x, x = ps[k] := ⟨_, rfl⟩
      rw [← hx] at q0 HY HN
      clear hx hf
      cases tt : (x.toList == s.toList) with
      | true =>
        have HV := Lib.hid (HY.out (str_yes tt))
        go_wp2
        go_ret
        exact ⟨by rw [HV.out]; simp, rfl⟩
      | false =>
        have HV := Lib.hid (HN.out (str_no tt))
        go_wp2
        go_round
        case rel => exact ⟨k + 1, by omega, by go_num, HV⟩
        case measure => simp [intOf]; omega
    · have HE := Lib.hid (findP_end hlt hf.out)
      clear hf
      go_wp2
      go_ret
      exact ⟨by rw [HE.out]; rfl, rfl⟩
theorem refFind_ps (s : ByteArray) (A : Option Addr) (c : Nat) (ps : List ByteArray) (w : World) (hr : RS w w.heap.size A ps) (hl : ps.length ≤ 1000) (hc : ps.length ≤ c) :
    Calls Try.prog 41 #[.string s, .slice A ps.length c] w fun e w' => e = .returned (.int .i64 (findP s ps : Nat)) ∧ w = w' := by
  have HR := Lib.hid hr
  clear hr
  go_enter Try.func41, Try.ntmps41
  go_wp2
  go_loop [5] (fun i => ∃ k : Nat, k ≤ ps.length ∧ i = .int .i64 k ∧ Hid (Wd.findFrom s k (ps.drop k) = findP s ps)) (fun i => ps.length - (intOf i).toNat)
  case atStart => exact ⟨0, by omega, rfl, Lib.hid rfl⟩
  case round =>
    obtain ⟨k, hk, rfl, hf⟩ := hrel
    by_cases hlt : k < ps.length
    · obtain ⟨b, o, rfl, hB, q0⟩ := HR.out.at_ hlt
      have HY := Lib.hid (@findP_yes s ps k hlt hf.out)
      have HN := Lib.hid (@findP_no s ps k hlt hf.out)
      obtain ⟨x, hx⟩ : ∃ x, x = ps[k] := ⟨_, rfl⟩
      rw [← hx] at q0 HY HN
      clear hx hf
      cases tt : (x.toList == s.toList) with
      | true =>
        have HV := Lib.hid (HY.out (str_yes tt))
        go_wp2
        go_ret
        exact ⟨by rw [HV.out]; simp, rfl⟩
      | false =>
        have HV := Lib.hid (HN.out (str_no tt))
        go_wp2
        go_round
        case rel => exact ⟨k + 1, by omega, by go_num, HV⟩
        case measure => simp [intOf]; omega
    · have HE := Lib.hid (findP_end hlt hf.out)
      clear hf
      go_wp2
      go_ret
      exact ⟨by rw [HE.out]; rfl, rfl⟩
end Go.Proofs.Ytbcgooofelnkoaa
