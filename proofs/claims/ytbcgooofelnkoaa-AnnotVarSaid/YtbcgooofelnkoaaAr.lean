/- The document's answer: the token at a place, a word or sign, an owner of a word or of a name. Conditions: none but the sizes of slices. -/
import Derived.Test.YtbcgooofelnkoaaAw
namespace Go.Proofs.Ytbcgooofelnkoaa
open Go.RowKit
set_option linter.unusedVariables false

set_option maxRecDepth 100000 in
set_option maxHeartbeats 4000000 in
theorem refTok_any (l : List Gt) (A : Option Addr) (c : Nat) (a : Int) (w : World) (hr : RT w w.heap.size A l) (hlc : l.length ≤ c) (hcm : c ≤ maxLen) :
    Calls Try.prog 21 #[.slice A l.length c, .int .i64 a] w fun x w' => x = .returned (tokI l a).val ∧ Below w.heap.size w w' := by
  have hl63 : l.length ≤ 9223372036854775807 := by unfold maxLen at hcm; omega
  have HF : Hid (∀ (W : World) (k p : Int) (s : ByteArray), W = w.alloc (.cells #[.int .i64 k, .string s, .int .i64 p] 55) → W.cell? ⟨w.heap.size, 0, none⟩ = some (.int .i64 k) ∧ W.cell? ⟨w.heap.size, 1, none⟩ = some (.string s) ∧ W.cell? ⟨w.heap.size, 2, none⟩ = some (.int .i64 p) ∧ Below w.heap.size w W) := Lib.hid (by
    rintro W k p s rfl
    obtain ⟨r0, r1, r2⟩ := row3 (heap_new w (.cells #[.int .i64 k, .string s, .int .i64 p] 55))
    exact ⟨r0, r1, r2, boxed w _⟩)
  by_cases hlt : 0 ≤ a ∧ a < l.length
  · obtain ⟨k, rfl⟩ : ∃ k : Nat, a = (k : Int) := ⟨a.toNat, by omega⟩
    have hkl : k < l.length := by omega
    have hT : tokI l (k : Int) = l[k] := by rw [tokI_nat]; unfold tokN; rw [List.getElem?_eq_getElem hkl]
    obtain ⟨b, o, rfl, hbB, q0, q1, q2⟩ := hr.at_ hkl
    obtain ⟨t, ht⟩ : ∃ t, t = l[k] := ⟨_, rfl⟩
    rw [← ht] at q0 q1 q2 hT
    obtain ⟨kk, kx, kp⟩ := t
    obtain ⟨L, hL⟩ : ∃ L, L = l.length := ⟨_, rfl⟩
    rw [← hL] at hlc hl63 hlt hkl ⊢
    have HT := Lib.hid hT
    have e1 : decide ((k : Int) < (L : Int)) = true := by simpa using hkl
    clear hL ht hT hr hlt
    go_enter Try.func21, Try.ntmps21
    go_wp2_with fail
    obtain ⟨WC, hWC⟩ : ∃ WC, WC = w.alloc (.cells #[.int .i64 kk, .string kx, .int .i64 kp] 55) := ⟨_, rfl⟩
    rw [← hWC]
    obtain ⟨r0, r1, r2, hb⟩ := HF.out _ _ _ _ hWC
    exact bodyPost_ret (v := .agg #[.int .i64 kk, .string kx, .int .i64 kp]) (by simp [results, Try.results21, go_sem, r0, r1, r2]) rfl ⟨by rw [HT.out]; rfl, hb⟩
  · have hout : a < 0 ∨ (l.length : Int) ≤ a := by omega
    have HT := Lib.hid (tokI_end hout)
    rcases Nat.eq_zero_or_pos l.length with h0 | h0
    · have HE : Hid (endT l = ⟨0, ⟨#[]⟩, 0⟩) := Lib.hid (by
        have := List.eq_nil_of_length_eq_zero h0
        subst this
        rfl)
      rw [h0] at hout ⊢
      rcases hout with hneg | hpos
      all_goals
        clear hlt hlc hl63 hr h0
        go_enter Try.func21, Try.ntmps21
        go_wp2_with fail
        obtain ⟨WC, hWC⟩ : ∃ WC, WC = w.alloc (.cells #[.int .i64 0, .string ⟨#[]⟩, .int .i64 0] 55) := ⟨_, rfl⟩
        rw [← hWC]
        obtain ⟨r0, r1, r2, hb⟩ := HF.out _ _ _ _ hWC
        exact bodyPost_ret (v := .agg #[.int .i64 0, .string ⟨#[]⟩, .int .i64 0]) (by simp [results, Try.results21, go_sem, r0, r1, r2]) rfl ⟨by rw [HT.out, HE.out]; rfl, hb⟩
    · obtain ⟨p, hp⟩ : ∃ p, l.length = p + 1 := ⟨l.length - 1, by omega⟩
      obtain ⟨b, o, rfl, hbB, q0, q1, q2⟩ := hr.at_ (k := p) (by omega)
      have HE : Hid (endT l = ⟨0, ⟨#[]⟩, (l[p]'(by omega)).pos⟩) := Lib.hid (by
        have : l.getLast? = some (l[p]'(by omega)) := by
          rw [List.getLast?_eq_getElem?, show l.length - 1 = p by omega]
          exact List.getElem?_eq_getElem (by omega)
        unfold endT
        rw [this])
      obtain ⟨t, ht⟩ : ∃ t, t = l[p]'(by omega) := ⟨_, rfl⟩
      rw [← ht] at q0 q1 q2 HE
      obtain ⟨kk, kx, kp⟩ := t
      have HE : Hid (endT l = ⟨0, ⟨#[]⟩, kp⟩) := HE
      rw [hp] at hlc hout ⊢
      have hp63 : p + 1 ≤ 9223372036854775807 := by omega
      rcases hout with hneg | hpos
      all_goals
        clear hlt hl63 hr h0 ht hp
        go_enter Try.func21, Try.ntmps21
        go_wp2_with fail
        obtain ⟨WC, hWC⟩ : ∃ WC, WC = w.alloc (.cells #[.int .i64 0, .string ⟨#[]⟩, .int .i64 kp] 55) := ⟨_, rfl⟩
        rw [← hWC]
        obtain ⟨r0, r1, r2, hb⟩ := HF.out _ _ _ _ hWC
        exact bodyPost_ret (v := .agg #[.int .i64 0, .string ⟨#[]⟩, .int .i64 kp]) (by simp [results, Try.results21, go_sem, r0, r1, r2]) rfl ⟨by rw [HT.out, HE.out]; rfl, hb⟩

theorem refIs_any (t : Gt) (s : ByteArray) (w : World) : Calls Try.prog 22 #[t.val, .string s] w fun e w' => e = .returned (.bool (t.is s)) ∧ Below w.heap.size w w' := by
  obtain ⟨k, x, p⟩ := t
  have hv : Gt.val ⟨k, x, p⟩ = .agg #[.int .i64 k, .string x, .int .i64 p] := rfl
  rw [hv]
  clear hv
  cases tt : (x.toList == s.toList) with
  | true =>
    by_cases h3 : k = 3
    · have HE : Hid (Gt.is ⟨k, x, p⟩ s = true) := Lib.hid (by rw [text_beq] at tt; unfold Gt.is; simp at tt; simp [h3, tt])
      subst h3
      go_enter Try.func22, Try.ntmps22
      go_wp2
      go_ret
      exact ⟨by rw [HE.out]; rfl, (Below.refl _ _).alloc (Nat.le_refl _) _⟩
    · by_cases h4 : k = 4
      · have HE : Hid (Gt.is ⟨k, x, p⟩ s = true) := Lib.hid (by rw [text_beq] at tt; unfold Gt.is; simp at tt; simp [h4, tt])
        subst h4
        clear h3
        go_enter Try.func22, Try.ntmps22
        go_wp2
        go_ret
        exact ⟨by rw [HE.out]; rfl, (Below.refl _ _).alloc (Nat.le_refl _) _⟩
      · have HE : Hid (Gt.is ⟨k, x, p⟩ s = false) := Lib.hid (by unfold Gt.is; simp [h3, h4])
        have e3 : (k == 3) = false := by simpa using h3
        have e4 : (k == 4) = false := by simpa using h4
        clear h3 h4
        go_enter Try.func22, Try.ntmps22
        go_wp2
        go_ret
        exact ⟨by rw [HE.out]; rfl, (Below.refl _ _).alloc (Nat.le_refl _) _⟩
  | false =>
    have HE : Hid (Gt.is ⟨k, x, p⟩ s = false) := Lib.hid (by rw [text_beq] at tt; unfold Gt.is; simp at tt; simp [tt])
    by_cases h3 : k = 3
    · subst h3
      go_enter Try.func22, Try.ntmps22
      go_wp2
      go_ret
      exact ⟨by rw [HE.out]; rfl, (Below.refl _ _).alloc (Nat.le_refl _) _⟩
    · by_cases h4 : k = 4
      · subst h4
        clear h3
        go_enter Try.func22, Try.ntmps22
        go_wp2
        go_ret
        exact ⟨by rw [HE.out]; rfl, (Below.refl _ _).alloc (Nat.le_refl _) _⟩
      · have e3 : (k == 3) = false := by simpa using h3
        have e4 : (k == 4) = false := by simpa using h4
        clear h3 h4
        go_enter Try.func22, Try.ntmps22
        go_wp2
        go_ret
        exact ⟨by rw [HE.out]; rfl, (Below.refl _ _).alloc (Nat.le_refl _) _⟩



/-- The owner of a parameter's name; its kind 0: there is none. -/
def namedO (s : ByteArray) (ps : List ByteArray) : Ow := if findP s ps = 0 then ⟨0, 0⟩ else ⟨3, (findP s ps : Nat)⟩
theorem refNamed_any (t : Gt) (A : Option Addr) (c : Nat) (ps : List ByteArray) (w : World) (hr : RS w w.heap.size A ps) (hl : ps.length ≤ 1000) (hc : ps.length ≤ c) :
    Calls Try.prog 25 #[t.val, .slice A ps.length c] w fun x w' => x = .returned (.agg #[.int .i64 (namedO t.text ps).kind, .int .i64 (namedO t.text ps).n]) ∧ Below w.heap.size w w' := by
  obtain ⟨tk, tx, tp⟩ := t
  have hv : Gt.val ⟨tk, tx, tp⟩ = .agg #[.int .i64 tk, .string tx, .int .i64 tp] := rfl
  rw [hv]
  show Calls _ _ _ _ fun x w' => x = .returned (.agg #[.int .i64 (namedO tx ps).kind, .int .i64 (namedO tx ps).n]) ∧ _
  have HR := Lib.hid hr
  obtain ⟨z0, z1, z2, z3⟩ := two2 (Below.refl ((w.alloc (.cells #[.int .i64 tk, .string tx, .int .i64 tp] 55)).alloc (.cells #[.int .i64 0, .int .i64 0] 33)).heap.size _)
  have HF := Lib.hid (fun W hW => refFind_ps tx A c ps W hW hl hc)
  obtain ⟨W2, hW2⟩ : ∃ W2, W2 = (w.alloc (.cells #[.int .i64 tk, .string tx, .int .i64 tp] 55)).alloc (.cells #[.int .i64 0, .int .i64 0] 33) := ⟨_, rfl⟩
  rw [← hW2] at z0 z1 z2 z3
  have HR2 := Lib.hid ((hr.below z2).more z2.size)
  have HB := Lib.hid z2
  have HZ1 := Lib.hid z1
  obtain ⟨x0, x1, x2⟩ := row3 z0
  obtain ⟨y0, y1⟩ := row2 z1
  have f0 := frozen_of z1 0
  have f1 := frozen_of z1 1
  clear hv hr z0 z1 z2
  obtain ⟨m, hm⟩ : ∃ m, m = findP tx ps := ⟨_, rfl⟩
  have HO : Hid (namedO tx ps = if m = 0 then ⟨0, 0⟩ else ⟨3, (m : Nat)⟩) := Lib.hid (by rw [hm]; rfl)
  rw [← hm] at HF
  clear hm
  rcases Nat.eq_zero_or_pos m with h0 | h0
  · subst h0
    rw [if_pos rfl] at HO
    go_enter Try.func25, Try.ntmps25
    go_upto_region 1 with fail
    rw [← hW2]
    clear hW2
    go_wp2_with fail
    refine (HF.out _ HR2.out).mono ?_
    rintro e w1 ⟨rfl, rfl⟩
    go_wp2_with fail
    have hs := set2 HZ1.out (.int .i64 0) (.int .i64 0)
    have hbf := below2 HB.out (Nat.le_succ w.heap.size) (.int .i64 0) (.int .i64 0)
    obtain ⟨Wf, hWf⟩ : ∃ Wf, Wf = (W2.setCell ⟨w.heap.size + 1, 0, none⟩ (.int .i64 0)).setCell ⟨w.heap.size + 1, 1, none⟩ (.int .i64 0) := ⟨_, rfl⟩
    rw [← hWf] at hs hbf ⊢
    obtain ⟨r0, r1⟩ := row2 hs
    exact bodyPost_ret (v := .agg #[.int .i64 0, .int .i64 0]) (by simp [results, Try.results25, go_sem, r0, r1]) rfl ⟨by rw [HO.out], hbf⟩
  · have hm0 : ((m : Int) == 0) = false := by simp; omega
    rw [if_neg (by omega)] at HO
    go_enter Try.func25, Try.ntmps25
    go_upto_region 1 with fail
    rw [← hW2]
    clear hW2
    go_wp2_with fail
    refine (HF.out _ HR2.out).mono ?_
    rintro e w1 ⟨rfl, rfl⟩
    go_wp2_with fail
    have hs := set2 HZ1.out (.int .i64 3) (.int .i64 m)
    have hbf := below2 HB.out (Nat.le_succ w.heap.size) (.int .i64 3) (.int .i64 m)
    obtain ⟨Wf, hWf⟩ : ∃ Wf, Wf = (W2.setCell ⟨w.heap.size + 1, 0, none⟩ (.int .i64 3)).setCell ⟨w.heap.size + 1, 1, none⟩ (.int .i64 m) := ⟨_, rfl⟩
    rw [← hWf] at hs hbf ⊢
    obtain ⟨r0, r1⟩ := row2 hs
    exact bodyPost_ret (v := .agg #[.int .i64 3, .int .i64 m]) (by simp [results, Try.results25, go_sem, r0, r1]) rfl ⟨by rw [HO.out], hbf⟩
end Go.Proofs.Ytbcgooofelnkoaa
