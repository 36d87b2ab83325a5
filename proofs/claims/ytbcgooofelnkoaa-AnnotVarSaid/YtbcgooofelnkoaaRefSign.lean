/- What the document's answer says of a text's first bytes: the sign, what is left out, the token. Conditions: the text has at most 16384 bytes. -/
import Derived.Test.YtbcgooofelnkoaaFirst
namespace Go.Proofs.Ytbcgooofelnkoaa
open Go.RowKit
set_option linter.unusedVariables false

theorem sign2 (s : ByteArray) (h : Tk.dbl s.data.toList = true) : Tk.signL s.data.toList = 2 := by unfold Tk.signL; rw [if_pos h]
theorem pre2 (s : ByteArray) (h0 : 1 < s.size) (a b : UInt8) : List.isPrefixOf [a, b] s.data.toList = ((s.extract 0 2).toList == [a, b]) := by
  have h1 := Wd.num_drop s 0 (by omega)
  have h2 := Wd.num_drop s 1 h0
  rw [List.drop_zero] at h1
  rw [ByteArray.toList_eq, tx_ext]
  show _ = ((s.data.toList.take 2).toArray.toList == _)
  rw [h1, h2]
  simp [List.isPrefixOf]
  rw [Bool.eq_iff_iff]
  simp
  constructor <;> (rintro ⟨e1, e2⟩; exact ⟨e1.symm, e2.symm⟩)
theorem dbl_eq (s : ByteArray) (h0 : 1 < s.size) : Tk.dbl s.data.toList = (((s.extract 0 2).toList == [61, 61]) || ((s.extract 0 2).toList == [38, 38])) := by
  unfold Tk.dbl
  rw [pre2 s h0, pre2 s h0]
theorem dbl_one (s : ByteArray) (h0 : s.size = 1) : Tk.dbl s.data.toList = false := by
  have hl := list_at s (by omega)
  have : s.data.toList.drop 1 = [] := List.drop_eq_nil_of_le (by show s.size ≤ 1; omega)
  rw [hl, this]
  simp [Tk.dbl, List.isPrefixOf]

theorem beq_yes {a b : UInt8} (h : ((a.toNat : Int) == (b.toNat : Int)) = true) : a = b := by
  apply UInt8.toNat_inj.1
  have : (a.toNat : Int) = (b.toNat : Int) := by simpa using h
  omega
theorem beq_no {a b : UInt8} (h : ((a.toNat : Int) == (b.toNat : Int)) = false) : ¬ a = b := by
  rintro rfl
  simp at h
theorem below_drewN {B : Nat} {a w : World} (h : Below B a w) (n : Nat) : Below B a (w.drewN n) := ⟨h.os, h.tape, h.output, h.size, h.block⟩
theorem ret_str {a b : ByteArray} (h : a = b) : Ending.returned (.string a) = .returned (.string b) := by rw [h]

def shB : ByteArray := ⟨#[123, 125, 40, 41, 60, 62, 44, 59, 46, 61, 43, 45, 42, 33]⟩
theorem sh_no (s : ByteArray) (h0 : 0 < s.size) (hd : Tk.dbl s.data.toList = false) (h : ∀ j, (hj : j < 14) → ¬ shB[j]'hj = s[0]) : Tk.signL s.data.toList = 0 := by
  have hc : Tk.shorts.contains s[0] = false := by
    simp only [Tk.shorts, List.contains_eq_mem, decide_eq_false_iff_not]
    intro hm
    obtain ⟨j, hj, e⟩ := List.mem_iff_getElem.1 hm
    exact h j hj e
  have hl := list_at s h0
  unfold Tk.signL
  rw [if_neg (by simp [hd])]
  rw [hl]
  show (if Tk.shorts.contains s[0] = true then 1 else 0) = 0
  rw [if_neg (by rw [hc]; simp)]
theorem sh_yes (s : ByteArray) (h0 : 0 < s.size) (hd : Tk.dbl s.data.toList = false) (j : Nat) (hj : j < 14) (h : shB[j]'hj = s[0]) : Tk.signL s.data.toList = 1 := by
  have hc : Tk.shorts.contains s[0] = true := by
    simp only [Tk.shorts, List.contains_eq_mem, decide_eq_true_eq]
    rw [← h]
    exact List.getElem_mem (l := shB.data.toList) (n := j) hj
  have hl := list_at s h0
  unfold Tk.signL
  rw [if_neg (by simp [hd])]
  rw [hl]
  show (if Tk.shorts.contains s[0] = true then 1 else 0) = 1
  rw [if_pos hc]

theorem refSign_any (s : ByteArray) (h0 : 0 < s.size) (w : World) : Calls Try.prog 38 #[.string s] w fun e w' => e = .returned (.string (Tk.tx s.data.toList (Tk.signL s.data.toList))) ∧ Below w.heap.size w w' := by
  cases hd : Tk.dbl s.data.toList with
  | true =>
    have HS := Lib.hid (sign2 s hd)
    have h1 : 1 < s.size := by
      rcases Nat.lt_or_ge 1 s.size with h | h
      · exact h
      · rw [dbl_one s (by omega)] at hd; cases hd
    rw [dbl_eq s h1] at hd
    cases e1 : ((s.extract 0 2).toList == [61, 61]) with
    | true =>
      clear hd
      go_enter Try.func38, Try.ntmps38
      go_wp2
      go_ret
      exact ⟨by rw [HS.out, ← tx_ext]; rfl, Below.refl _ _⟩
    | false =>
      have e2 : ((s.extract 0 2).toList == [38, 38]) = true := by rw [e1] at hd; simpa using hd
      clear hd
      go_enter Try.func38, Try.ntmps38
      go_wp2
      go_ret
      exact ⟨by rw [HS.out, ← tx_ext]; rfl, Below.refl _ _⟩
  | false =>
    have HN := Lib.hid (sh_no s h0 hd)
    have HY := Lib.hid (sh_yes s h0 hd)
    have hl := list_at s h0
    have hne : s.toList.isEmpty = false := by rw [ByteArray.toList_eq, hl]; rfl
    have hne2 : (!s.toList.isEmpty) = true := by rw [hne]; rfl
    have hsplit : (1 < s.size ∧ ((s.extract 0 2).toList == [61, 61]) = false ∧ ((s.extract 0 2).toList == [38, 38]) = false) ∨ s.size = 1 := by
      rcases Nat.lt_or_ge 1 s.size with h | h
      · left
        rw [dbl_eq s h] at hd
        exact ⟨h, by simpa using hd⟩
      · right; omega
    clear hd hl
    go_enter Try.func38, Try.ntmps38
    rcases hsplit with ⟨h1, e1, e2⟩ | h1
    all_goals
      go_wp2
      go_loopw [4] (fun i wr => ∃ k : Nat, k ≤ 14 ∧ i = .int .i64 k ∧ Hid (∀ j, (hj : j < 14) → j < k → ¬ shB[j]'hj = s[0]) ∧ Below w.heap.size w wr) (fun i _ => 14 - (intOf i).toNat)
      case atStart => exact ⟨0, by omega, rfl, Lib.hid (fun j hj h => absurd h (by omega)), Below.refl _ _⟩
      case round =>
        obtain ⟨k, hk, rfl, hr, hb⟩ := hrel
        by_cases hlt : k < 14
        · go_wp2
          go_quiet (fail)
          go_wp2
          · have h2 : ((shB[k]'hlt).toNat == (s[0].toNat : Int)) = true := by assumption
            have HS := Lib.hid (HY.out k hlt (beq_yes h2))
            go_ret
            exact ⟨ret_str (by rw [HS.out, ← tx_ext]), below_drewN hb nq⟩
          · have h2 : (((shB[k]'hlt).toNat : Int) == (s[0].toNat : Int)) = false := by assumption
            have H2 := Lib.hid (beq_no h2)
            go_roundw
            case rel =>
              refine ⟨k + 1, by omega, by go_num, Lib.hid (fun j hj hjk => ?_), below_drewN hb nq⟩
              by_cases e : j = k
              · subst e; exact H2.out
              · exact hr.out j hj (by omega)
            case measure => simp [intOf]; omega
        · have HS := Lib.hid (HN.out (fun j hj => hr.out j hj (by omega)))
          go_wp2
          go_ret
          exact ⟨ret_str (by rw [HS.out]; rfl), hb⟩
end Go.Proofs.Ytbcgooofelnkoaa
