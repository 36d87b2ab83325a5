/- Whether a variable begins at a place, as the program and the document's answer tell it. Conditions: at most 1000000 tokens. -/
import Derived.Test.YtbcgooofelnkoaaPa
namespace Go.Proofs.Ytbcgooofelnkoaa
open Go.RowKit
set_option linter.unusedVariables false

/-- Whether a variable begins at a place. -/
def beginsP (l : List Gt) (a : Int) : Bool :=
  if (tokI l a).kind = 1 then decide ((tokI l (a + 1)).kind = 1) || (tokI l (a + 1)).is sLt else (wordK (tokI l a) != 0) || (tokI l a).is wUnique || (tokI l a).is wInt
theorem is_kind {t : Gt} {s : ByteArray} (h : t.is s = true) : ¬ t.kind = 1 := by
  intro h1
  unfold Gt.is at h
  rw [h1] at h
  simp at h
theorem is_no {t : Gt} {s : ByteArray} (h : t.kind = 1) : t.is s = false := by
  cases hb : t.is s with
  | false => rfl
  | true => exact absurd h (is_kind hb)
theorem wordK_no {t : Gt} (h : t.kind = 1) : wordK t = 0 := by
  unfold wordK
  rw [is_no h, is_no h, is_no h, is_no h]; rfl
theorem wOw_no {t : Gt} (h : t.kind = 1) : wOw t = 0 := by
  unfold wOw
  rw [wordK_no h, if_pos rfl, is_no h]; rfl

set_option maxRecDepth 100000 in
set_option maxHeartbeats 2000000 in
theorem begins_any (l : List Gt) (A : Option Addr) (c : Nat) (a : Int) (w : World) (hr : RT w w.heap.size A l) (hlc : l.length ≤ c) (hcm : c ≤ maxLen) (hlow : -9223372036854775808 ≤ a) (hhigh : a ≤ 9223372036854775807) (hbd : l.length ≤ 1000000) :
    Calls Try.prog 13 #[.slice A l.length c, .int .i64 a] w fun x w' => x = .returned (.bool (beginsP l a)) ∧ Below w.heap.size w w' := by
  have HNW := Lib.hid (new_any A l.length c a w)
  have HRT := Lib.hid hr
  have HTK : Hid (∀ R W, Cu R w.heap.size l A c #[] 60 a W → Calls Try.prog 30 #[pR R] W fun x w' => x = .returned (tokI l a).val ∧ Below W.heap.size W w') := Lib.hid (fun R W hW => token_any R _ l A c _ _ a W hW)
  have HBH : Hid ((tokI l a).kind = 1 → ∀ R W, Cu R w.heap.size l A c #[] 60 a W → Calls Try.prog 32 #[pR R, .int .i64 1] W fun x w' => x = .returned (tokI l (a + 1)).val ∧ Below W.heap.size W w') := Lib.hid (fun h1 R W hW => by
    have hin := tokI_in (l := l) (a := a) (by omega)
    exact behind_any R _ l A c _ _ a 1 W hW (by omega) (by omega))
  obtain ⟨t, ht⟩ : ∃ t, t = tokI l a := ⟨_, rfl⟩
  obtain ⟨t2, ht2⟩ : ∃ t, t = tokI l (a + 1) := ⟨_, rfl⟩
  have HB : Hid (beginsP l a = if t.kind = 1 then decide (t2.kind = 1) || t2.is sLt else (wordK t != 0) || t.is wUnique || t.is wInt) := Lib.hid (by rw [ht, ht2]; rfl)
  rw [← ht] at HTK HBH
  rw [← ht2] at HBH
  have HIU := Lib.hid (fun W => is_any t ⟨#[117, 110, 105, 113, 117, 101]⟩ W)
  have HII := Lib.hid (fun W => is_any t ⟨#[105, 110, 116]⟩ W)
  have HIL := Lib.hid (fun W => is_any t2 ⟨#[60]⟩ W)
  have HWO := Lib.hid (fun W => wordOwner_any t W)
  have HWN := Lib.hid (@wordK_no t)
  obtain ⟨g, hg⟩ : ∃ g, g = wordK t := ⟨_, rfl⟩
  obtain ⟨bu, hbu⟩ : ∃ b, b = t.is wUnique := ⟨_, rfl⟩
  obtain ⟨bi, hbi⟩ : ∃ b, b = t.is wInt := ⟨_, rfl⟩
  obtain ⟨bl, hbl⟩ : ∃ b, b = t2.is sLt := ⟨_, rfl⟩
  have HIU : Hid (∀ W, Calls Try.prog 33 #[t.val, .string ⟨#[117, 110, 105, 113, 117, 101]⟩] W fun e w' => e = .returned (.bool bu) ∧ Below W.heap.size W w') := Lib.hid (fun W => by rw [hbu]; exact HIU.out W)
  have HII : Hid (∀ W, Calls Try.prog 33 #[t.val, .string ⟨#[105, 110, 116]⟩] W fun e w' => e = .returned (.bool bi) ∧ Below W.heap.size W w') := Lib.hid (fun W => by rw [hbi]; exact HII.out W)
  have HIL : Hid (∀ W, Calls Try.prog 33 #[t2.val, .string ⟨#[60]⟩] W fun e w' => e = .returned (.bool bl) ∧ Below W.heap.size W w') := Lib.hid (fun W => by rw [hbl]; exact HIL.out W)
  rw [← hg] at HB HWO HWN
  rw [← hbu, ← hbi, ← hbl] at HB
  clear hr ht ht2 hg hbu hbi hbl
  obtain ⟨tk, tx, tp⟩ := t
  obtain ⟨uk, ux, up⟩ := t2
  rw [val_eq] at HWO HIU HII HIL
  dsimp only at HWO HIU HII HIL HB HWN HBH HTK
  have HTK : Hid (∀ R W, Cu R w.heap.size l A c #[] 60 a W → Calls Try.prog 30 #[pR R] W fun x w' => x = .returned (.agg #[.int .i64 tk, .string tx, .int .i64 tp]) ∧ Below W.heap.size W w') := HTK
  have HBH : Hid (tk = 1 → ∀ R W, Cu R w.heap.size l A c #[] 60 a W → Calls Try.prog 32 #[pR R, .int .i64 1] W fun x w' => x = .returned (.agg #[.int .i64 uk, .string ux, .int .i64 up]) ∧ Below W.heap.size W w') := HBH
  by_cases hk : tk = 1
  · subst hk
    have hg0 := HWN.out rfl
    subst hg0
    by_cases hu : uk = 1
    · subst hu
      have HV : Hid (beginsP l a = true) := Lib.hid (by rw [HB.out]; rfl)
      clear HB
      go_enter Try.func13, Try.ntmps13
      go_wp2_with fail
      refine HNW.out.mono ?_
      rintro x w1 ⟨rfl, hb1⟩
      have hb2 := boxed w1 (.cells #[.slice A l.length c, .int .i64 a] 60)
      have hc2 : Cu w1.heap.size w.heap.size l A c #[] 60 a (w1.alloc (.cells #[.slice A l.length c, .int .i64 a] 60)) := ⟨heap_new w1 _, HRT.out.below (hb1.trans (hb2.mono hb1.size)), hb1.size, hlc, hcm, hlow, hhigh⟩
      have HB2 := Lib.hid (hb1.trans (hb2.mono hb1.size))
      obtain ⟨W2, hW2⟩ : ∃ W2, W2 = w1.alloc (.cells #[.slice A l.length c, .int .i64 a] 60) := ⟨_, rfl⟩
      go_upto_region 2 with fail
      rw [← hW2] at hb2 hc2 HB2 ⊢
      clear hW2 hb1 hb2
      have HC2 := Lib.hid hc2
      clear hc2
      go_wp2_with fail
      refine (HTK.out _ _ HC2.out).mono ?_
      rintro x w3 ⟨rfl, hb3⟩
      have hb4 := boxed w3 (.cells #[.int .i64 1, .string tx, .int .i64 tp] 55)
      have ht4 := heap_new w3 (.cells #[.int .i64 1, .string tx, .int .i64 tp] 55)
      obtain ⟨W4, hW4⟩ : ∃ W4, W4 = w3.alloc (.cells #[.int .i64 1, .string tx, .int .i64 tp] 55) := ⟨_, rfl⟩
      go_upto_region 3 with fail
      rw [← hW4] at hb4 ht4 ⊢
      clear hW4
      have HC4 := Lib.hid ((HC2.out.below hb3).below hb4)
      have HB4 := Lib.hid ((HB2.out.trans (hb3.mono HB2.out.size)).trans (hb4.mono (by have := HB2.out.size; have := hb3.size; omega)))
      have HT4 := Lib.hid ht4
      obtain ⟨q0, q1, q2⟩ := row3 ht4
      clear hb3 hb4 ht4
      go_wp2_with fail
      refine (HWO.out _).mono ?_
      rintro x w5 ⟨rfl, hb5⟩
      have hb6 := boxed w5 (.cells #[.int .i64 0, .int .i64 0] 33)
      obtain ⟨W6, hW6⟩ : ∃ W6, W6 = w5.alloc (.cells #[.int .i64 0, .int .i64 0] 33) := ⟨_, rfl⟩
      go_upto_region 4 with fail
      rw [← hW6] at hb6 ⊢
      clear hW6
      have HC6 := Lib.hid ((HC4.out.below hb5).below hb6)
      have HB6 := Lib.hid ((HB4.out.trans (hb5.mono HB4.out.size)).trans (hb6.mono (by have := HB4.out.size; have := hb5.size; omega)))
      have ht6 := (hb6.block _ (by have := heap_lt HT4.out; have := hb5.size; omega)).trans ((hb5.block _ (heap_lt HT4.out)).trans HT4.out)
      have HT6 := Lib.hid ht6
      clear q0 q1 q2 hb5 hb6
      obtain ⟨q0, q1, q2⟩ := row3 ht6
      clear ht6
      go_wp2_with fail
      refine (HBH.out (by first | trivial | rfl) _ _ HC6.out).mono ?_
      rintro x w7 ⟨rfl, hb7⟩
      have hb8 := boxed w7 (.cells #[.int .i64 1, .string ux, .int .i64 up] 55)
      have ht8 := heap_new w7 (.cells #[.int .i64 1, .string ux, .int .i64 up] 55)
      obtain ⟨W8, hW8⟩ : ∃ W8, W8 = w7.alloc (.cells #[.int .i64 1, .string ux, .int .i64 up] 55) := ⟨_, rfl⟩
      go_upto_region 9 with fail
      rw [← hW8] at hb8 ht8 ⊢
      clear hW8 q0 q1 q2
      have HBF := Lib.hid ((HB6.out.trans (hb7.mono HB6.out.size)).trans (hb8.mono (by have := HB6.out.size; have := hb7.size; omega)))
      obtain ⟨q0, q1, q2⟩ := row3 ht8
      clear ht8 hb7 hb8
      go_wp2_with fail
      go_ret
      exact ⟨by rw [HV.out]; rfl, HBF.out⟩
    · have hu0 : (uk != 1) = true := by simpa using hu
      have hu1 : (uk == 1) = false := by simpa using hu
      have HV0 : Hid (beginsP l a = bl) := Lib.hid (by rw [HB.out, if_pos rfl, decide_eq_false hu]; simp)
      clear HB hu
      cases bl with
      | true =>
        have HV : Hid (beginsP l a = true) := HV0
        go_enter Try.func13, Try.ntmps13
        go_wp2_with fail
        refine HNW.out.mono ?_
        rintro x w1 ⟨rfl, hb1⟩
        have hb2 := boxed w1 (.cells #[.slice A l.length c, .int .i64 a] 60)
        have hc2 : Cu w1.heap.size w.heap.size l A c #[] 60 a (w1.alloc (.cells #[.slice A l.length c, .int .i64 a] 60)) := ⟨heap_new w1 _, HRT.out.below (hb1.trans (hb2.mono hb1.size)), hb1.size, hlc, hcm, hlow, hhigh⟩
        have HB2 := Lib.hid (hb1.trans (hb2.mono hb1.size))
        obtain ⟨W2, hW2⟩ : ∃ W2, W2 = w1.alloc (.cells #[.slice A l.length c, .int .i64 a] 60) := ⟨_, rfl⟩
        go_upto_region 2 with fail
        rw [← hW2] at hb2 hc2 HB2 ⊢
        clear hW2 hb1 hb2
        have HC2 := Lib.hid hc2
        clear hc2
        go_wp2_with fail
        refine (HTK.out _ _ HC2.out).mono ?_
        rintro x w3 ⟨rfl, hb3⟩
        have hb4 := boxed w3 (.cells #[.int .i64 1, .string tx, .int .i64 tp] 55)
        have ht4 := heap_new w3 (.cells #[.int .i64 1, .string tx, .int .i64 tp] 55)
        obtain ⟨W4, hW4⟩ : ∃ W4, W4 = w3.alloc (.cells #[.int .i64 1, .string tx, .int .i64 tp] 55) := ⟨_, rfl⟩
        go_upto_region 3 with fail
        rw [← hW4] at hb4 ht4 ⊢
        clear hW4
        have HC4 := Lib.hid ((HC2.out.below hb3).below hb4)
        have HB4 := Lib.hid ((HB2.out.trans (hb3.mono HB2.out.size)).trans (hb4.mono (by have := HB2.out.size; have := hb3.size; omega)))
        have HT4 := Lib.hid ht4
        obtain ⟨q0, q1, q2⟩ := row3 ht4
        clear hb3 hb4 ht4
        go_wp2_with fail
        refine (HWO.out _).mono ?_
        rintro x w5 ⟨rfl, hb5⟩
        have hb6 := boxed w5 (.cells #[.int .i64 0, .int .i64 0] 33)
        obtain ⟨W6, hW6⟩ : ∃ W6, W6 = w5.alloc (.cells #[.int .i64 0, .int .i64 0] 33) := ⟨_, rfl⟩
        go_upto_region 4 with fail
        rw [← hW6] at hb6 ⊢
        clear hW6
        have HC6 := Lib.hid ((HC4.out.below hb5).below hb6)
        have HB6 := Lib.hid ((HB4.out.trans (hb5.mono HB4.out.size)).trans (hb6.mono (by have := HB4.out.size; have := hb5.size; omega)))
        have ht6 := (hb6.block _ (by have := heap_lt HT4.out; have := hb5.size; omega)).trans ((hb5.block _ (heap_lt HT4.out)).trans HT4.out)
        have HT6 := Lib.hid ht6
        clear q0 q1 q2 hb5 hb6
        obtain ⟨q0, q1, q2⟩ := row3 ht6
        clear ht6
        go_wp2_with fail
        refine (HBH.out (by first | trivial | rfl) _ _ HC6.out).mono ?_
        rintro x w7 ⟨rfl, hb7⟩
        have hb8 := boxed w7 (.cells #[.int .i64 uk, .string ux, .int .i64 up] 55)
        have ht8 := heap_new w7 (.cells #[.int .i64 uk, .string ux, .int .i64 up] 55)
        obtain ⟨W8, hW8⟩ : ∃ W8, W8 = w7.alloc (.cells #[.int .i64 uk, .string ux, .int .i64 up] 55) := ⟨_, rfl⟩
        go_upto_region 9 with fail
        rw [← hW8] at hb8 ht8 ⊢
        clear hW8 q0 q1 q2
        have HBF := Lib.hid ((HB6.out.trans (hb7.mono HB6.out.size)).trans (hb8.mono (by have := HB6.out.size; have := hb7.size; omega)))
        obtain ⟨q0, q1, q2⟩ := row3 ht8
        clear ht8 hb7 hb8
        go_wp2_with fail
        refine (HIL.out _).mono ?_
        rintro x w9 ⟨rfl, hb9⟩
        have HBF := Lib.hid (HBF.out.trans (hb9.mono HBF.out.size))
        clear q0 q1 q2 hb9
        go_wp2_with fail
        go_ret
        exact ⟨by rw [HV.out]; rfl, HBF.out⟩
      | false =>
        have HV : Hid (beginsP l a = false) := HV0
        go_enter Try.func13, Try.ntmps13
        go_wp2_with fail
        refine HNW.out.mono ?_
        rintro x w1 ⟨rfl, hb1⟩
        have hb2 := boxed w1 (.cells #[.slice A l.length c, .int .i64 a] 60)
        have hc2 : Cu w1.heap.size w.heap.size l A c #[] 60 a (w1.alloc (.cells #[.slice A l.length c, .int .i64 a] 60)) := ⟨heap_new w1 _, HRT.out.below (hb1.trans (hb2.mono hb1.size)), hb1.size, hlc, hcm, hlow, hhigh⟩
        have HB2 := Lib.hid (hb1.trans (hb2.mono hb1.size))
        obtain ⟨W2, hW2⟩ : ∃ W2, W2 = w1.alloc (.cells #[.slice A l.length c, .int .i64 a] 60) := ⟨_, rfl⟩
        go_upto_region 2 with fail
        rw [← hW2] at hb2 hc2 HB2 ⊢
        clear hW2 hb1 hb2
        have HC2 := Lib.hid hc2
        clear hc2
        go_wp2_with fail
        refine (HTK.out _ _ HC2.out).mono ?_
        rintro x w3 ⟨rfl, hb3⟩
        have hb4 := boxed w3 (.cells #[.int .i64 1, .string tx, .int .i64 tp] 55)
        have ht4 := heap_new w3 (.cells #[.int .i64 1, .string tx, .int .i64 tp] 55)
        obtain ⟨W4, hW4⟩ : ∃ W4, W4 = w3.alloc (.cells #[.int .i64 1, .string tx, .int .i64 tp] 55) := ⟨_, rfl⟩
        go_upto_region 3 with fail
        rw [← hW4] at hb4 ht4 ⊢
        clear hW4
        have HC4 := Lib.hid ((HC2.out.below hb3).below hb4)
        have HB4 := Lib.hid ((HB2.out.trans (hb3.mono HB2.out.size)).trans (hb4.mono (by have := HB2.out.size; have := hb3.size; omega)))
        have HT4 := Lib.hid ht4
        obtain ⟨q0, q1, q2⟩ := row3 ht4
        clear hb3 hb4 ht4
        go_wp2_with fail
        refine (HWO.out _).mono ?_
        rintro x w5 ⟨rfl, hb5⟩
        have hb6 := boxed w5 (.cells #[.int .i64 0, .int .i64 0] 33)
        obtain ⟨W6, hW6⟩ : ∃ W6, W6 = w5.alloc (.cells #[.int .i64 0, .int .i64 0] 33) := ⟨_, rfl⟩
        go_upto_region 4 with fail
        rw [← hW6] at hb6 ⊢
        clear hW6
        have HC6 := Lib.hid ((HC4.out.below hb5).below hb6)
        have HB6 := Lib.hid ((HB4.out.trans (hb5.mono HB4.out.size)).trans (hb6.mono (by have := HB4.out.size; have := hb5.size; omega)))
        have ht6 := (hb6.block _ (by have := heap_lt HT4.out; have := hb5.size; omega)).trans ((hb5.block _ (heap_lt HT4.out)).trans HT4.out)
        have HT6 := Lib.hid ht6
        clear q0 q1 q2 hb5 hb6
        obtain ⟨q0, q1, q2⟩ := row3 ht6
        clear ht6
        go_wp2_with fail
        refine (HBH.out (by first | trivial | rfl) _ _ HC6.out).mono ?_
        rintro x w7 ⟨rfl, hb7⟩
        have hb8 := boxed w7 (.cells #[.int .i64 uk, .string ux, .int .i64 up] 55)
        have ht8 := heap_new w7 (.cells #[.int .i64 uk, .string ux, .int .i64 up] 55)
        obtain ⟨W8, hW8⟩ : ∃ W8, W8 = w7.alloc (.cells #[.int .i64 uk, .string ux, .int .i64 up] 55) := ⟨_, rfl⟩
        go_upto_region 9 with fail
        rw [← hW8] at hb8 ht8 ⊢
        clear hW8 q0 q1 q2
        have HBF := Lib.hid ((HB6.out.trans (hb7.mono HB6.out.size)).trans (hb8.mono (by have := HB6.out.size; have := hb7.size; omega)))
        obtain ⟨q0, q1, q2⟩ := row3 ht8
        clear ht8 hb7 hb8
        go_wp2_with fail
        refine (HIL.out _).mono ?_
        rintro x w9 ⟨rfl, hb9⟩
        have HBF := Lib.hid (HBF.out.trans (hb9.mono HBF.out.size))
        clear q0 q1 q2 hb9
        go_wp2_with fail
        go_ret
        exact ⟨by rw [HV.out]; rfl, HBF.out⟩
  · have hk0 : (tk == 1) = false := by simpa using hk
    have HV0 : Hid (beginsP l a = ((g != 0) || bu || bi)) := Lib.hid (by rw [HB.out, if_neg hk])
    clear HB hk HBH HIL HWN
    by_cases hg : g = 0
    · subst hg
      cases bu with
      | true =>
        have HV : Hid (beginsP l a = true) := Lib.hid (by rw [HV0.out]; rfl)
        have hgb : ((0 : Int) != 0) = false := rfl
        go_enter Try.func13, Try.ntmps13
        go_wp2_with fail
        refine HNW.out.mono ?_
        rintro x w1 ⟨rfl, hb1⟩
        have hb2 := boxed w1 (.cells #[.slice A l.length c, .int .i64 a] 60)
        have hc2 : Cu w1.heap.size w.heap.size l A c #[] 60 a (w1.alloc (.cells #[.slice A l.length c, .int .i64 a] 60)) := ⟨heap_new w1 _, HRT.out.below (hb1.trans (hb2.mono hb1.size)), hb1.size, hlc, hcm, hlow, hhigh⟩
        have HB2 := Lib.hid (hb1.trans (hb2.mono hb1.size))
        obtain ⟨W2, hW2⟩ : ∃ W2, W2 = w1.alloc (.cells #[.slice A l.length c, .int .i64 a] 60) := ⟨_, rfl⟩
        go_upto_region 2 with fail
        rw [← hW2] at hb2 hc2 HB2 ⊢
        clear hW2 hb1 hb2
        have HC2 := Lib.hid hc2
        clear hc2
        go_wp2_with fail
        refine (HTK.out _ _ HC2.out).mono ?_
        rintro x w3 ⟨rfl, hb3⟩
        have hb4 := boxed w3 (.cells #[.int .i64 tk, .string tx, .int .i64 tp] 55)
        have ht4 := heap_new w3 (.cells #[.int .i64 tk, .string tx, .int .i64 tp] 55)
        obtain ⟨W4, hW4⟩ : ∃ W4, W4 = w3.alloc (.cells #[.int .i64 tk, .string tx, .int .i64 tp] 55) := ⟨_, rfl⟩
        go_upto_region 3 with fail
        rw [← hW4] at hb4 ht4 ⊢
        clear hW4
        have HC4 := Lib.hid ((HC2.out.below hb3).below hb4)
        have HB4 := Lib.hid ((HB2.out.trans (hb3.mono HB2.out.size)).trans (hb4.mono (by have := HB2.out.size; have := hb3.size; omega)))
        have HT4 := Lib.hid ht4
        obtain ⟨q0, q1, q2⟩ := row3 ht4
        clear hb3 hb4 ht4
        go_wp2_with fail
        refine (HWO.out _).mono ?_
        rintro x w5 ⟨rfl, hb5⟩
        have hb6 := boxed w5 (.cells #[.int .i64 0, .int .i64 0] 33)
        obtain ⟨W6, hW6⟩ : ∃ W6, W6 = w5.alloc (.cells #[.int .i64 0, .int .i64 0] 33) := ⟨_, rfl⟩
        go_upto_region 4 with fail
        rw [← hW6] at hb6 ⊢
        clear hW6
        have HC6 := Lib.hid ((HC4.out.below hb5).below hb6)
        have HB6 := Lib.hid ((HB4.out.trans (hb5.mono HB4.out.size)).trans (hb6.mono (by have := HB4.out.size; have := hb5.size; omega)))
        have ht6 := (hb6.block _ (by have := heap_lt HT4.out; have := hb5.size; omega)).trans ((hb5.block _ (heap_lt HT4.out)).trans HT4.out)
        have HT6 := Lib.hid ht6
        clear q0 q1 q2 hb5 hb6
        obtain ⟨q0, q1, q2⟩ := row3 ht6
        clear ht6
        go_wp2_with fail
        refine (HIU.out _).mono ?_
        rintro x w7 ⟨rfl, hb7⟩
        have HB7 := Lib.hid (HB6.out.trans (hb7.mono HB6.out.size))
        have ht7 := (hb7.block _ (heap_lt HT6.out)).trans HT6.out
        clear q0 q1 q2 hb7
        obtain ⟨q0, q1, q2⟩ := row3 ht7
        clear ht7
        go_wp2_with fail
        have HBF := HB7
        go_ret
        exact ⟨by rw [HV.out]; rfl, HBF.out⟩
      | false =>
        have hgb : ((0 : Int) != 0) = false := rfl
        cases bi with
        | true =>
          have HV : Hid (beginsP l a = true) := Lib.hid (by rw [HV0.out]; rfl)
          go_enter Try.func13, Try.ntmps13
          go_wp2_with fail
          refine HNW.out.mono ?_
          rintro x w1 ⟨rfl, hb1⟩
          have hb2 := boxed w1 (.cells #[.slice A l.length c, .int .i64 a] 60)
          have hc2 : Cu w1.heap.size w.heap.size l A c #[] 60 a (w1.alloc (.cells #[.slice A l.length c, .int .i64 a] 60)) := ⟨heap_new w1 _, HRT.out.below (hb1.trans (hb2.mono hb1.size)), hb1.size, hlc, hcm, hlow, hhigh⟩
          have HB2 := Lib.hid (hb1.trans (hb2.mono hb1.size))
          obtain ⟨W2, hW2⟩ : ∃ W2, W2 = w1.alloc (.cells #[.slice A l.length c, .int .i64 a] 60) := ⟨_, rfl⟩
          go_upto_region 2 with fail
          rw [← hW2] at hb2 hc2 HB2 ⊢
          clear hW2 hb1 hb2
          have HC2 := Lib.hid hc2
          clear hc2
          go_wp2_with fail
          refine (HTK.out _ _ HC2.out).mono ?_
          rintro x w3 ⟨rfl, hb3⟩
          have hb4 := boxed w3 (.cells #[.int .i64 tk, .string tx, .int .i64 tp] 55)
          have ht4 := heap_new w3 (.cells #[.int .i64 tk, .string tx, .int .i64 tp] 55)
          obtain ⟨W4, hW4⟩ : ∃ W4, W4 = w3.alloc (.cells #[.int .i64 tk, .string tx, .int .i64 tp] 55) := ⟨_, rfl⟩
          go_upto_region 3 with fail
          rw [← hW4] at hb4 ht4 ⊢
          clear hW4
          have HC4 := Lib.hid ((HC2.out.below hb3).below hb4)
          have HB4 := Lib.hid ((HB2.out.trans (hb3.mono HB2.out.size)).trans (hb4.mono (by have := HB2.out.size; have := hb3.size; omega)))
          have HT4 := Lib.hid ht4
          obtain ⟨q0, q1, q2⟩ := row3 ht4
          clear hb3 hb4 ht4
          go_wp2_with fail
          refine (HWO.out _).mono ?_
          rintro x w5 ⟨rfl, hb5⟩
          have hb6 := boxed w5 (.cells #[.int .i64 0, .int .i64 0] 33)
          obtain ⟨W6, hW6⟩ : ∃ W6, W6 = w5.alloc (.cells #[.int .i64 0, .int .i64 0] 33) := ⟨_, rfl⟩
          go_upto_region 4 with fail
          rw [← hW6] at hb6 ⊢
          clear hW6
          have HC6 := Lib.hid ((HC4.out.below hb5).below hb6)
          have HB6 := Lib.hid ((HB4.out.trans (hb5.mono HB4.out.size)).trans (hb6.mono (by have := HB4.out.size; have := hb5.size; omega)))
          have ht6 := (hb6.block _ (by have := heap_lt HT4.out; have := hb5.size; omega)).trans ((hb5.block _ (heap_lt HT4.out)).trans HT4.out)
          have HT6 := Lib.hid ht6
          clear q0 q1 q2 hb5 hb6
          obtain ⟨q0, q1, q2⟩ := row3 ht6
          clear ht6
          go_wp2_with fail
          refine (HIU.out _).mono ?_
          rintro x w7 ⟨rfl, hb7⟩
          have HB7 := Lib.hid (HB6.out.trans (hb7.mono HB6.out.size))
          have ht7 := (hb7.block _ (heap_lt HT6.out)).trans HT6.out
          clear q0 q1 q2 hb7
          obtain ⟨q0, q1, q2⟩ := row3 ht7
          clear ht7
          go_wp2_with fail
          refine (HII.out _).mono ?_
          rintro x w8 ⟨rfl, hb8⟩
          have HBF := Lib.hid (HB7.out.trans (hb8.mono HB7.out.size))
          clear q0 q1 q2 hb8
          go_wp2_with fail
          go_ret
          exact ⟨by rw [HV.out]; rfl, HBF.out⟩
        | false =>
          have HV : Hid (beginsP l a = false) := Lib.hid (by rw [HV0.out]; rfl)
          go_enter Try.func13, Try.ntmps13
          go_wp2_with fail
          refine HNW.out.mono ?_
          rintro x w1 ⟨rfl, hb1⟩
          have hb2 := boxed w1 (.cells #[.slice A l.length c, .int .i64 a] 60)
          have hc2 : Cu w1.heap.size w.heap.size l A c #[] 60 a (w1.alloc (.cells #[.slice A l.length c, .int .i64 a] 60)) := ⟨heap_new w1 _, HRT.out.below (hb1.trans (hb2.mono hb1.size)), hb1.size, hlc, hcm, hlow, hhigh⟩
          have HB2 := Lib.hid (hb1.trans (hb2.mono hb1.size))
          obtain ⟨W2, hW2⟩ : ∃ W2, W2 = w1.alloc (.cells #[.slice A l.length c, .int .i64 a] 60) := ⟨_, rfl⟩
          go_upto_region 2 with fail
          rw [← hW2] at hb2 hc2 HB2 ⊢
          clear hW2 hb1 hb2
          have HC2 := Lib.hid hc2
          clear hc2
          go_wp2_with fail
          refine (HTK.out _ _ HC2.out).mono ?_
          rintro x w3 ⟨rfl, hb3⟩
          have hb4 := boxed w3 (.cells #[.int .i64 tk, .string tx, .int .i64 tp] 55)
          have ht4 := heap_new w3 (.cells #[.int .i64 tk, .string tx, .int .i64 tp] 55)
          obtain ⟨W4, hW4⟩ : ∃ W4, W4 = w3.alloc (.cells #[.int .i64 tk, .string tx, .int .i64 tp] 55) := ⟨_, rfl⟩
          go_upto_region 3 with fail
          rw [← hW4] at hb4 ht4 ⊢
          clear hW4
          have HC4 := Lib.hid ((HC2.out.below hb3).below hb4)
          have HB4 := Lib.hid ((HB2.out.trans (hb3.mono HB2.out.size)).trans (hb4.mono (by have := HB2.out.size; have := hb3.size; omega)))
          have HT4 := Lib.hid ht4
          obtain ⟨q0, q1, q2⟩ := row3 ht4
          clear hb3 hb4 ht4
          go_wp2_with fail
          refine (HWO.out _).mono ?_
          rintro x w5 ⟨rfl, hb5⟩
          have hb6 := boxed w5 (.cells #[.int .i64 0, .int .i64 0] 33)
          obtain ⟨W6, hW6⟩ : ∃ W6, W6 = w5.alloc (.cells #[.int .i64 0, .int .i64 0] 33) := ⟨_, rfl⟩
          go_upto_region 4 with fail
          rw [← hW6] at hb6 ⊢
          clear hW6
          have HC6 := Lib.hid ((HC4.out.below hb5).below hb6)
          have HB6 := Lib.hid ((HB4.out.trans (hb5.mono HB4.out.size)).trans (hb6.mono (by have := HB4.out.size; have := hb5.size; omega)))
          have ht6 := (hb6.block _ (by have := heap_lt HT4.out; have := hb5.size; omega)).trans ((hb5.block _ (heap_lt HT4.out)).trans HT4.out)
          have HT6 := Lib.hid ht6
          clear q0 q1 q2 hb5 hb6
          obtain ⟨q0, q1, q2⟩ := row3 ht6
          clear ht6
          go_wp2_with fail
          refine (HIU.out _).mono ?_
          rintro x w7 ⟨rfl, hb7⟩
          have HB7 := Lib.hid (HB6.out.trans (hb7.mono HB6.out.size))
          have ht7 := (hb7.block _ (heap_lt HT6.out)).trans HT6.out
          clear q0 q1 q2 hb7
          obtain ⟨q0, q1, q2⟩ := row3 ht7
          clear ht7
          go_wp2_with fail
          refine (HII.out _).mono ?_
          rintro x w8 ⟨rfl, hb8⟩
          have HBF := Lib.hid (HB7.out.trans (hb8.mono HB7.out.size))
          clear q0 q1 q2 hb8
          go_wp2_with fail
          go_ret
          exact ⟨by rw [HV.out]; rfl, HBF.out⟩
    · have hgb : (g != 0) = true := by simpa using hg
      have HV : Hid (beginsP l a = true) := Lib.hid (by rw [HV0.out, hgb]; rfl)
      clear hg
      go_enter Try.func13, Try.ntmps13
      go_wp2_with fail
      refine HNW.out.mono ?_
      rintro x w1 ⟨rfl, hb1⟩
      have hb2 := boxed w1 (.cells #[.slice A l.length c, .int .i64 a] 60)
      have hc2 : Cu w1.heap.size w.heap.size l A c #[] 60 a (w1.alloc (.cells #[.slice A l.length c, .int .i64 a] 60)) := ⟨heap_new w1 _, HRT.out.below (hb1.trans (hb2.mono hb1.size)), hb1.size, hlc, hcm, hlow, hhigh⟩
      have HB2 := Lib.hid (hb1.trans (hb2.mono hb1.size))
      obtain ⟨W2, hW2⟩ : ∃ W2, W2 = w1.alloc (.cells #[.slice A l.length c, .int .i64 a] 60) := ⟨_, rfl⟩
      go_upto_region 2 with fail
      rw [← hW2] at hb2 hc2 HB2 ⊢
      clear hW2 hb1 hb2
      have HC2 := Lib.hid hc2
      clear hc2
      go_wp2_with fail
      refine (HTK.out _ _ HC2.out).mono ?_
      rintro x w3 ⟨rfl, hb3⟩
      have hb4 := boxed w3 (.cells #[.int .i64 tk, .string tx, .int .i64 tp] 55)
      have ht4 := heap_new w3 (.cells #[.int .i64 tk, .string tx, .int .i64 tp] 55)
      obtain ⟨W4, hW4⟩ : ∃ W4, W4 = w3.alloc (.cells #[.int .i64 tk, .string tx, .int .i64 tp] 55) := ⟨_, rfl⟩
      go_upto_region 3 with fail
      rw [← hW4] at hb4 ht4 ⊢
      clear hW4
      have HC4 := Lib.hid ((HC2.out.below hb3).below hb4)
      have HB4 := Lib.hid ((HB2.out.trans (hb3.mono HB2.out.size)).trans (hb4.mono (by have := HB2.out.size; have := hb3.size; omega)))
      have HT4 := Lib.hid ht4
      obtain ⟨q0, q1, q2⟩ := row3 ht4
      clear hb3 hb4 ht4
      go_wp2_with fail
      refine (HWO.out _).mono ?_
      rintro x w5 ⟨rfl, hb5⟩
      have hb6 := boxed w5 (.cells #[.int .i64 g, .int .i64 0] 33)
      obtain ⟨W6, hW6⟩ : ∃ W6, W6 = w5.alloc (.cells #[.int .i64 g, .int .i64 0] 33) := ⟨_, rfl⟩
      go_upto_region 4 with fail
      rw [← hW6] at hb6 ⊢
      clear hW6
      have HC6 := Lib.hid ((HC4.out.below hb5).below hb6)
      have HB6 := Lib.hid ((HB4.out.trans (hb5.mono HB4.out.size)).trans (hb6.mono (by have := HB4.out.size; have := hb5.size; omega)))
      have ht6 := (hb6.block _ (by have := heap_lt HT4.out; have := hb5.size; omega)).trans ((hb5.block _ (heap_lt HT4.out)).trans HT4.out)
      have HT6 := Lib.hid ht6
      clear q0 q1 q2 hb5 hb6
      obtain ⟨q0, q1, q2⟩ := row3 ht6
      clear ht6
      go_wp2_with fail
      have HBF := HB6
      go_ret
      exact ⟨by rw [HV.out]; rfl, HBF.out⟩

theorem own_field0 (k n : Int) (W : World) : (Instr.field 33 (.agg #[.int .i64 k, .int .i64 n]) 0).run Try.prog W = .ok (.int .i64 k) W := by
  simp [Instr.field, run_underlying Try.underlying33, go_sem, asAgg]

set_option maxRecDepth 100000 in
set_option maxHeartbeats 2000000 in
theorem refBegins_any (l : List Gt) (A : Option Addr) (c : Nat) (a : Int) (w : World) (hr : RT w w.heap.size A l) (hlc : l.length ≤ c) (hcm : c ≤ maxLen) (hlow : -9223372036854775808 ≤ a) (hhigh : a ≤ 9223372036854775807) (hbd : l.length ≤ 1000000) :
    Calls Try.prog 14 #[.slice A l.length c, .int .i64 a] w fun x w' => x = .returned (.bool (beginsP l a)) ∧ Below w.heap.size w w' := by
  have HTK := Lib.hid (refTok_any l A c a w hr hlc hcm)
  have HTK2 := Lib.hid (fun W hW => refTok_any l A c (a + 1) W hW hlc hcm)
  have HRT := Lib.hid hr
  have HIN : Hid ((tokI l a).kind = 1 → a + 1 ≤ 9223372036854775807 ∧ -9223372036854775808 ≤ a + 1) := Lib.hid (fun h1 => by
    have hin := tokI_in (l := l) (a := a) (by omega)
    omega)
  obtain ⟨t, ht⟩ : ∃ t, t = tokI l a := ⟨_, rfl⟩
  obtain ⟨t2, ht2⟩ : ∃ t, t = tokI l (a + 1) := ⟨_, rfl⟩
  have HB : Hid (beginsP l a = if t.kind = 1 then decide (t2.kind = 1) || t2.is sLt else (wordK t != 0) || t.is wUnique || t.is wInt) := Lib.hid (by rw [ht, ht2]; rfl)
  rw [← ht] at HTK HIN
  rw [← ht2] at HTK2
  have HWN := Lib.hid (@wOw_no t)
  have HIN1 := Lib.hid (@is_no t wInt)
  have HBW : Hid (((wordK t != 0) || t.is wUnique || t.is wInt) = ((wOw t != 0) || t.is wInt)) := Lib.hid (by
    unfold wOw
    by_cases h0 : wordK t = 0
    · rw [if_pos h0, h0]
      cases t.is wUnique <;> rfl
    · rw [if_neg h0]
      have : (wordK t != 0) = true := by simpa using h0
      rw [this]; rfl)
  have HII := Lib.hid (fun W => refIs_any t ⟨#[105, 110, 116]⟩ W)
  have HIL := Lib.hid (fun W => refIs_any t2 ⟨#[60]⟩ W)
  have HWO := Lib.hid (fun W => refWord_any t W)
  obtain ⟨g, hg⟩ : ∃ g, g = wOw t := ⟨_, rfl⟩
  obtain ⟨bi, hbi⟩ : ∃ b, b = t.is wInt := ⟨_, rfl⟩
  obtain ⟨bl, hbl⟩ : ∃ b, b = t2.is sLt := ⟨_, rfl⟩
  have HII : Hid (∀ W, Calls Try.prog 22 #[t.val, .string ⟨#[105, 110, 116]⟩] W fun e w' => e = .returned (.bool bi) ∧ Below W.heap.size W w') := Lib.hid (fun W => by rw [hbi]; exact HII.out W)
  have HIL : Hid (∀ W, Calls Try.prog 22 #[t2.val, .string ⟨#[60]⟩] W fun e w' => e = .returned (.bool bl) ∧ Below W.heap.size W w') := Lib.hid (fun W => by rw [hbl]; exact HIL.out W)
  have HB2 : Hid (beginsP l a = if t.kind = 1 then decide (t2.kind = 1) || bl else (g != 0) || bi) := Lib.hid (by rw [HB.out, HBW.out, hg, hbi, hbl])
  rw [← hg] at HWO HWN
  rw [← hbi] at HIN1
  clear hr ht ht2 hg hbi hbl HB HBW
  obtain ⟨tk, tx, tp⟩ := t
  obtain ⟨uk, ux, up⟩ := t2
  rw [val_eq] at HTK HTK2 HWO HII HIL
  dsimp only at HTK HTK2 HWO HII HIL HB2 HWN HIN HIN1
  have hfd := own_field0 g 0
  by_cases hk : tk = 1
  · subst hk
    have hg0 := HWN.out rfl
    subst hg0
    have hi0 := HIN1.out rfl
    subst hi0
    obtain ⟨hn1, hn2⟩ := HIN.out rfl
    by_cases hu : uk = 1
    · subst hu
      have HV : Hid (beginsP l a = true) := Lib.hid (by rw [HB2.out]; rfl)
      clear HB2
      go_enter Try.func14, Try.ntmps14
      go_wp2_with fail
      refine HTK.out.mono ?_
      rintro x w1 ⟨rfl, hb1⟩
      have hb2 := boxed w1 (.cells #[.int .i64 1, .string tx, .int .i64 tp] 55)
      have ht2 := heap_new w1 (.cells #[.int .i64 1, .string tx, .int .i64 tp] 55)
      obtain ⟨W2, hW2⟩ : ∃ W2, W2 = w1.alloc (.cells #[.int .i64 1, .string tx, .int .i64 tp] 55) := ⟨_, rfl⟩
      go_upto_region 2 with fail
      rw [← hW2] at hb2 ht2 ⊢
      clear hW2
      have HB2' := Lib.hid (hb1.trans (hb2.mono hb1.size))
      have HT2 := Lib.hid ht2
      obtain ⟨q0, q1, q2⟩ := row3 ht2
      clear hb1 hb2 ht2
      go_wp2_with fail
      refine (HII.out _).mono ?_
      rintro x w3 ⟨rfl, hb3⟩
      have HB3 := Lib.hid (HB2'.out.trans (hb3.mono HB2'.out.size))
      have ht3 := (hb3.block _ (heap_lt HT2.out)).trans HT2.out
      have HT3 := Lib.hid ht3
      clear q0 q1 q2 hb3
      obtain ⟨q0, q1, q2⟩ := row3 ht3
      clear ht3
      go_wp2_with fail
      refine (HWO.out _).mono ?_
      rintro x w4 ⟨rfl, hb4⟩
      have HB4 := Lib.hid (HB3.out.trans (hb4.mono HB3.out.size))
      have ht4 := (hb4.block _ (heap_lt HT3.out)).trans HT3.out
      clear q0 q1 q2 hb4
      obtain ⟨q0, q1, q2⟩ := row3 ht4
      clear ht4
      go_wp2_with fail
      have HBF := HB4
      refine (HTK2.out _ ((HRT.out.below HB4.out).more HB4.out.size)).mono ?_
      rintro x w5 ⟨rfl, hb5⟩
      have hb6 := boxed w5 (.cells #[.int .i64 1, .string ux, .int .i64 up] 55)
      have ht6 := heap_new w5 (.cells #[.int .i64 1, .string ux, .int .i64 up] 55)
      obtain ⟨W6, hW6⟩ : ∃ W6, W6 = w5.alloc (.cells #[.int .i64 1, .string ux, .int .i64 up] 55) := ⟨_, rfl⟩
      go_upto_region 7 with fail
      rw [← hW6] at hb6 ht6 ⊢
      clear hW6 q0 q1 q2
      have HBF := Lib.hid ((HB4.out.trans (hb5.mono HB4.out.size)).trans (hb6.mono (by have := HB4.out.size; have := hb5.size; omega)))
      obtain ⟨q0, q1, q2⟩ := row3 ht6
      clear ht6 hb5 hb6
      go_wp2_with fail
      go_ret
      exact ⟨by rw [HV.out]; rfl, HBF.out⟩
    · have hu0 : (uk == 1) = false := by simpa using hu
      have HV0 : Hid (beginsP l a = bl) := Lib.hid (by rw [HB2.out, if_pos rfl, decide_eq_false hu]; simp)
      clear HB2 hu
      cases bl with
      | true =>
        have HV : Hid (beginsP l a = true) := HV0
        go_enter Try.func14, Try.ntmps14
        go_wp2_with fail
        refine HTK.out.mono ?_
        rintro x w1 ⟨rfl, hb1⟩
        have hb2 := boxed w1 (.cells #[.int .i64 1, .string tx, .int .i64 tp] 55)
        have ht2 := heap_new w1 (.cells #[.int .i64 1, .string tx, .int .i64 tp] 55)
        obtain ⟨W2, hW2⟩ : ∃ W2, W2 = w1.alloc (.cells #[.int .i64 1, .string tx, .int .i64 tp] 55) := ⟨_, rfl⟩
        go_upto_region 2 with fail
        rw [← hW2] at hb2 ht2 ⊢
        clear hW2
        have HB2' := Lib.hid (hb1.trans (hb2.mono hb1.size))
        have HT2 := Lib.hid ht2
        obtain ⟨q0, q1, q2⟩ := row3 ht2
        clear hb1 hb2 ht2
        go_wp2_with fail
        refine (HII.out _).mono ?_
        rintro x w3 ⟨rfl, hb3⟩
        have HB3 := Lib.hid (HB2'.out.trans (hb3.mono HB2'.out.size))
        have ht3 := (hb3.block _ (heap_lt HT2.out)).trans HT2.out
        have HT3 := Lib.hid ht3
        clear q0 q1 q2 hb3
        obtain ⟨q0, q1, q2⟩ := row3 ht3
        clear ht3
        go_wp2_with fail
        refine (HWO.out _).mono ?_
        rintro x w4 ⟨rfl, hb4⟩
        have HB4 := Lib.hid (HB3.out.trans (hb4.mono HB3.out.size))
        have ht4 := (hb4.block _ (heap_lt HT3.out)).trans HT3.out
        clear q0 q1 q2 hb4
        obtain ⟨q0, q1, q2⟩ := row3 ht4
        clear ht4
        go_wp2_with fail
        have HBF := HB4
        refine (HTK2.out _ ((HRT.out.below HB4.out).more HB4.out.size)).mono ?_
        rintro x w5 ⟨rfl, hb5⟩
        have hb6 := boxed w5 (.cells #[.int .i64 uk, .string ux, .int .i64 up] 55)
        have ht6 := heap_new w5 (.cells #[.int .i64 uk, .string ux, .int .i64 up] 55)
        obtain ⟨W6, hW6⟩ : ∃ W6, W6 = w5.alloc (.cells #[.int .i64 uk, .string ux, .int .i64 up] 55) := ⟨_, rfl⟩
        go_upto_region 7 with fail
        rw [← hW6] at hb6 ht6 ⊢
        clear hW6 q0 q1 q2
        have HBF := Lib.hid ((HB4.out.trans (hb5.mono HB4.out.size)).trans (hb6.mono (by have := HB4.out.size; have := hb5.size; omega)))
        obtain ⟨q0, q1, q2⟩ := row3 ht6
        clear ht6 hb5 hb6
        go_wp2_with fail
        refine (HIL.out _).mono ?_
        rintro x w9 ⟨rfl, hb9⟩
        have HBF := Lib.hid (HBF.out.trans (hb9.mono HBF.out.size))
        clear q0 q1 q2 hb9
        go_wp2_with fail
        go_ret
        exact ⟨by rw [HV.out]; rfl, HBF.out⟩
      | false =>
        have HV : Hid (beginsP l a = false) := HV0
        go_enter Try.func14, Try.ntmps14
        go_wp2_with fail
        refine HTK.out.mono ?_
        rintro x w1 ⟨rfl, hb1⟩
        have hb2 := boxed w1 (.cells #[.int .i64 1, .string tx, .int .i64 tp] 55)
        have ht2 := heap_new w1 (.cells #[.int .i64 1, .string tx, .int .i64 tp] 55)
        obtain ⟨W2, hW2⟩ : ∃ W2, W2 = w1.alloc (.cells #[.int .i64 1, .string tx, .int .i64 tp] 55) := ⟨_, rfl⟩
        go_upto_region 2 with fail
        rw [← hW2] at hb2 ht2 ⊢
        clear hW2
        have HB2' := Lib.hid (hb1.trans (hb2.mono hb1.size))
        have HT2 := Lib.hid ht2
        obtain ⟨q0, q1, q2⟩ := row3 ht2
        clear hb1 hb2 ht2
        go_wp2_with fail
        refine (HII.out _).mono ?_
        rintro x w3 ⟨rfl, hb3⟩
        have HB3 := Lib.hid (HB2'.out.trans (hb3.mono HB2'.out.size))
        have ht3 := (hb3.block _ (heap_lt HT2.out)).trans HT2.out
        have HT3 := Lib.hid ht3
        clear q0 q1 q2 hb3
        obtain ⟨q0, q1, q2⟩ := row3 ht3
        clear ht3
        go_wp2_with fail
        refine (HWO.out _).mono ?_
        rintro x w4 ⟨rfl, hb4⟩
        have HB4 := Lib.hid (HB3.out.trans (hb4.mono HB3.out.size))
        have ht4 := (hb4.block _ (heap_lt HT3.out)).trans HT3.out
        clear q0 q1 q2 hb4
        obtain ⟨q0, q1, q2⟩ := row3 ht4
        clear ht4
        go_wp2_with fail
        have HBF := HB4
        refine (HTK2.out _ ((HRT.out.below HB4.out).more HB4.out.size)).mono ?_
        rintro x w5 ⟨rfl, hb5⟩
        have hb6 := boxed w5 (.cells #[.int .i64 uk, .string ux, .int .i64 up] 55)
        have ht6 := heap_new w5 (.cells #[.int .i64 uk, .string ux, .int .i64 up] 55)
        obtain ⟨W6, hW6⟩ : ∃ W6, W6 = w5.alloc (.cells #[.int .i64 uk, .string ux, .int .i64 up] 55) := ⟨_, rfl⟩
        go_upto_region 7 with fail
        rw [← hW6] at hb6 ht6 ⊢
        clear hW6 q0 q1 q2
        have HBF := Lib.hid ((HB4.out.trans (hb5.mono HB4.out.size)).trans (hb6.mono (by have := HB4.out.size; have := hb5.size; omega)))
        obtain ⟨q0, q1, q2⟩ := row3 ht6
        clear ht6 hb5 hb6
        go_wp2_with fail
        refine (HIL.out _).mono ?_
        rintro x w9 ⟨rfl, hb9⟩
        have HBF := Lib.hid (HBF.out.trans (hb9.mono HBF.out.size))
        clear q0 q1 q2 hb9
        go_wp2_with fail
        go_ret
        exact ⟨by rw [HV.out]; rfl, HBF.out⟩
  · have hk0 : (tk != 1) = true := by simpa using hk
    have HV0 : Hid (beginsP l a = ((g != 0) || bi)) := Lib.hid (by rw [HB2.out, if_neg hk])
    clear HB2 hk HWN HIN HIN1
    cases bi with
    | true =>
      have HV : Hid (beginsP l a = true) := Lib.hid (by rw [HV0.out]; simp)
      go_enter Try.func14, Try.ntmps14
      go_wp2_with fail
      refine HTK.out.mono ?_
      rintro x w1 ⟨rfl, hb1⟩
      have hb2 := boxed w1 (.cells #[.int .i64 tk, .string tx, .int .i64 tp] 55)
      have ht2 := heap_new w1 (.cells #[.int .i64 tk, .string tx, .int .i64 tp] 55)
      obtain ⟨W2, hW2⟩ : ∃ W2, W2 = w1.alloc (.cells #[.int .i64 tk, .string tx, .int .i64 tp] 55) := ⟨_, rfl⟩
      go_upto_region 2 with fail
      rw [← hW2] at hb2 ht2 ⊢
      clear hW2
      have HB2' := Lib.hid (hb1.trans (hb2.mono hb1.size))
      have HT2 := Lib.hid ht2
      obtain ⟨q0, q1, q2⟩ := row3 ht2
      clear hb1 hb2 ht2
      go_wp2_with fail
      refine (HII.out _).mono ?_
      rintro x w3 ⟨rfl, hb3⟩
      have HB3 := Lib.hid (HB2'.out.trans (hb3.mono HB2'.out.size))
      have ht3 := (hb3.block _ (heap_lt HT2.out)).trans HT2.out
      have HT3 := Lib.hid ht3
      clear q0 q1 q2 hb3
      obtain ⟨q0, q1, q2⟩ := row3 ht3
      clear ht3
      go_wp2_with fail
      have HBF := HB3
      go_ret
      exact ⟨by rw [HV.out]; rfl, HBF.out⟩
    | false =>
      by_cases hg : g = 0
      · subst hg
        have HV : Hid (beginsP l a = false) := Lib.hid (by rw [HV0.out]; rfl)
        go_enter Try.func14, Try.ntmps14
        go_wp2_with fail
        refine HTK.out.mono ?_
        rintro x w1 ⟨rfl, hb1⟩
        have hb2 := boxed w1 (.cells #[.int .i64 tk, .string tx, .int .i64 tp] 55)
        have ht2 := heap_new w1 (.cells #[.int .i64 tk, .string tx, .int .i64 tp] 55)
        obtain ⟨W2, hW2⟩ : ∃ W2, W2 = w1.alloc (.cells #[.int .i64 tk, .string tx, .int .i64 tp] 55) := ⟨_, rfl⟩
        go_upto_region 2 with fail
        rw [← hW2] at hb2 ht2 ⊢
        clear hW2
        have HB2' := Lib.hid (hb1.trans (hb2.mono hb1.size))
        have HT2 := Lib.hid ht2
        obtain ⟨q0, q1, q2⟩ := row3 ht2
        clear hb1 hb2 ht2
        go_wp2_with fail
        refine (HII.out _).mono ?_
        rintro x w3 ⟨rfl, hb3⟩
        have HB3 := Lib.hid (HB2'.out.trans (hb3.mono HB2'.out.size))
        have ht3 := (hb3.block _ (heap_lt HT2.out)).trans HT2.out
        have HT3 := Lib.hid ht3
        clear q0 q1 q2 hb3
        obtain ⟨q0, q1, q2⟩ := row3 ht3
        clear ht3
        go_wp2_with fail
        refine (HWO.out _).mono ?_
        rintro x w4 ⟨rfl, hb4⟩
        have HB4 := Lib.hid (HB3.out.trans (hb4.mono HB3.out.size))
        have ht4 := (hb4.block _ (heap_lt HT3.out)).trans HT3.out
        clear q0 q1 q2 hb4
        obtain ⟨q0, q1, q2⟩ := row3 ht4
        clear ht4
        go_wp2_with fail
        have HBF := HB4
        go_ret
        exact ⟨by rw [HV.out]; rfl, HBF.out⟩
      · have hgb : (g != 0) = true := by simpa using hg
        have HV : Hid (beginsP l a = true) := Lib.hid (by rw [HV0.out, hgb]; rfl)
        clear hg
        go_enter Try.func14, Try.ntmps14
        go_wp2_with fail
        refine HTK.out.mono ?_
        rintro x w1 ⟨rfl, hb1⟩
        have hb2 := boxed w1 (.cells #[.int .i64 tk, .string tx, .int .i64 tp] 55)
        have ht2 := heap_new w1 (.cells #[.int .i64 tk, .string tx, .int .i64 tp] 55)
        obtain ⟨W2, hW2⟩ : ∃ W2, W2 = w1.alloc (.cells #[.int .i64 tk, .string tx, .int .i64 tp] 55) := ⟨_, rfl⟩
        go_upto_region 2 with fail
        rw [← hW2] at hb2 ht2 ⊢
        clear hW2
        have HB2' := Lib.hid (hb1.trans (hb2.mono hb1.size))
        have HT2 := Lib.hid ht2
        obtain ⟨q0, q1, q2⟩ := row3 ht2
        clear hb1 hb2 ht2
        go_wp2_with fail
        refine (HII.out _).mono ?_
        rintro x w3 ⟨rfl, hb3⟩
        have HB3 := Lib.hid (HB2'.out.trans (hb3.mono HB2'.out.size))
        have ht3 := (hb3.block _ (heap_lt HT2.out)).trans HT2.out
        have HT3 := Lib.hid ht3
        clear q0 q1 q2 hb3
        obtain ⟨q0, q1, q2⟩ := row3 ht3
        clear ht3
        go_wp2_with fail
        refine (HWO.out _).mono ?_
        rintro x w4 ⟨rfl, hb4⟩
        have HB4 := Lib.hid (HB3.out.trans (hb4.mono HB3.out.size))
        have ht4 := (hb4.block _ (heap_lt HT3.out)).trans HT3.out
        clear q0 q1 q2 hb4
        obtain ⟨q0, q1, q2⟩ := row3 ht4
        clear ht4
        go_wp2_with fail
        have HBF := HB4
        go_ret
        exact ⟨by rw [HV.out]; rfl, HBF.out⟩
end Go.Proofs.Ytbcgooofelnkoaa
