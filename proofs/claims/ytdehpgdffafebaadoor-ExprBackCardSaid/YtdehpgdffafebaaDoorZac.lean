/- What the program and the document's answer say of the words: the number of a text. Conditions: the table of words lies in memory.
What the program and the document's answer say of numbers. Conditions: none.
Plain facts on a text's first bytes. Conditions: none.
What the document's answer says of a text's first bytes: the sign, what is left out, the token. Conditions: the text has at most 16384 bytes.
What the document's answer leaves out ahead of a text. Condition: the text has at most 16384 bytes.
What the document's answer says of the token that a text begins with. Condition: the text has at most 16384 bytes, and at least one. -/
import Derived.Test.YtdehpgdffafebaaDoorZab
import Derived.Lib.PathFns
import Derived.Lib.IndexBytes
import Derived.Lib.Bytealg
namespace Go.Proofs.YtdehpgdffafebaaDoor
open Go.RowKit

theorem index70 (k : Nat) (hk : k < 23) (W : World) : (Instr.index 112 (.agg wordVals) (.int .i64 (k : Int))).run Tryd.prog W = .ok (.string (Wd.at_ k)) W := by
  have h := wordVals_at k hk
  have c9 : Tryd.prog.cellsOf 9 = 1 := by kernel_rfl
  simp [Instr.index, run_underlying Tryd.underlying112, go_sem, h]
  omega

theorem finder1_any (s : ByteArray) (b : Nat) (w : World) (hW : WordsIn w) (hb : w.cell? ⟨b, 0, none⟩ = some (.string s)) :
    Calls Tryd.prog 85 #[.pointer (some ⟨b, 0, none⟩)] w fun e w' => e = .returned (.int .i64 (Wd.find s)) ∧ w = w' := by
  obtain ⟨tt, fr, hg1⟩ := hW
  go_enter Tryd.func85, Tryd.ntmps85
  go_wp2_with (refine wpList_load_row rfl 112 _ rfl 2 rfl tt _ fr _ hg1 Tryd.underlying112 rfl (by kernel_rfl) ?_)
  go_loop [5] (fun i => ∃ k : Nat, k ≤ 23 ∧ i = .int .i64 k ∧ Wd.findFrom s k (Wd.wordsL.drop k) = Wd.find s) (fun i => 23 - (intOf i).toNat)
  case atStart => exact ⟨0, by omega, rfl, rfl⟩
  case round =>
    obtain ⟨k, hk, rfl, hr⟩ := hrel
    by_cases hlt : k < 23
    · have hix := index70 k hlt
      have HY := Lib.hid (Wd.find_yes s k hlt hr)
      have HN := Lib.hid (Wd.find_no s k hlt hr)
      clear hr
      go_wp2
      · have h2 : ((Wd.at_ k).toList == s.toList) = true := by assumption
        have HS := Lib.hid (HY.out (str_yes h2))
        go_ret
        exact ⟨by rw [HS.out]; rfl, rfl⟩
      · have h2 : ((Wd.at_ k).toList == s.toList) = false := by assumption
        have HS := Lib.hid (HN.out (str_no h2))
        go_round
        case rel => exact ⟨k + 1, by omega, by go_num, HS.out⟩
        case measure => simp [intOf]; omega
    · have HE := Lib.hid (Wd.find_end s k hlt hr)
      clear hr
      go_wp2
      go_ret
      exact ⟨by rw [HE.out]; rfl, rfl⟩

theorem words_any (w : World) : Calls Tryd.prog 60 #[] w fun e w' => ∃ b, e = .returned (.slice (some ⟨b, 0, none⟩) 23 23) ∧ Below w.heap.size w w' ∧ ∀ k, k < 23 → w'.cell? ⟨b, k, none⟩ = some (.string (Wd.at_ k)) := by
  go_enter Tryd.func60, Tryd.ntmps60
  go_wp2
  go_ret
  refine ⟨w.heap.size, rfl, (Below.refl _ w).alloc (Nat.le_refl _) _, fun k hk => ?_⟩
  have h0 : (w.alloc (.cells wordVals 9)).heap[w.heap.size]? = some (.cells wordVals 9 (0, 0)) := heap_new w _
  have h1 := cell_of_row (w.alloc (.cells wordVals 9)) w.heap.size k wordVals 9 (0, 0) h0
  exact h1.trans (wordVals_at k hk)

theorem finder_any (s : ByteArray) (w : World) : Calls Tryd.prog 80 #[.string s] w fun e w' => ∃ b, e = .returned (.func (.func 85) #[] #[.pointer (some ⟨b, 0, none⟩)]) ∧ Below w.heap.size w w' ∧ w'.cell? ⟨b, 0, none⟩ = some (.string s) := by
  go_enter Tryd.func80, Tryd.ntmps80
  go_wp2
  go_ret
  refine ⟨w.heap.size, rfl, (Below.refl _ w).alloc (Nat.le_refl _) _, ?_⟩
  have h0 : (w.alloc (.cells #[Value.string s] 9)).heap[w.heap.size]? = some (.cells #[Value.string s] 9 (0, 0)) := heap_new w _
  exact cell_of_row (w.alloc (.cells #[Value.string s] 9)) w.heap.size 0 #[Value.string s] 9 (0, 0) h0

theorem find_any (s : ByteArray) (w : World) (hW : WordsIn w) : Calls Tryd.prog 71 #[.string s] w fun e w' => e = .returned (.int .i64 (Wd.find s)) ∧ Below w.heap.size w w' := by
  go_enter Tryd.func71, Tryd.ntmps71
  go_wp2_with fail
  refine (finder_any s _).mono ?_
  rintro e w1 ⟨b, rfl, hb1, hc⟩
  go_wp2_with fail
  refine (finder1_any s b _ (hW.below hb1) hc).mono ?_
  rintro e w2 ⟨rfl, rfl⟩
  go_wp2_with fail
  go_ret
  exact ⟨rfl, hb1⟩

theorem refFind_any (s : ByteArray) (w : World) : Calls Tryd.prog 47 #[.string s] w fun e w' => e = .returned (.int .i64 (Wd.find s)) ∧ Below w.heap.size w w' := by
  go_enter Tryd.func47, Tryd.ntmps47
  go_wp2_with fail
  refine (words_any _).mono ?_
  rintro e w1 ⟨b, rfl, hb1, hc⟩
  go_wp2_with fail
  go_loop [4] (fun i => ∃ k : Nat, k ≤ 23 ∧ i = .int .i64 k ∧ Wd.findFrom s k (Wd.wordsL.drop k) = Wd.find s) (fun i => 23 - (intOf i).toNat)
  case atStart => exact ⟨0, by omega, rfl, rfl⟩
  case round =>
    obtain ⟨k, hk, rfl, hr⟩ := hrel
    by_cases hlt : k < 23
    · have hix := hc k hlt
      have HY := Lib.hid (Wd.find_yes s k hlt hr)
      have HN := Lib.hid (Wd.find_no s k hlt hr)
      clear hr hc
      go_wp2
      · have h2 : ((Wd.at_ k).toList == s.toList) = true := by assumption
        have HS := Lib.hid (HY.out (str_yes h2))
        go_ret
        exact ⟨by rw [HS.out]; rfl, hb1⟩
      · have h2 : ((Wd.at_ k).toList == s.toList) = false := by assumption
        have HS := Lib.hid (HN.out (str_no h2))
        go_round
        case rel => exact ⟨k + 1, by omega, by go_num, HS.out⟩
        case measure => simp [intOf]; omega
    · have HE := Lib.hid (Wd.find_end s k hlt hr)
      clear hr hc
      go_wp2
      go_ret
      exact ⟨by rw [HE.out]; rfl, hb1⟩

end Go.Proofs.YtdehpgdffafebaaDoor
namespace Go.Proofs.YtdehpgdffafebaaDoor
open Go.RowKit

/-- What 'Number' answers. -/
def numV (s : ByteArray) : Value := .tuple #[.int .i64 ((Wd.number s).getD 0 : Nat), .bool (Wd.number s).isSome]

theorem ret_num {a c : Int} {b d : Bool} (h : a = c) (h' : b = d) : Ending.returned (.tuple #[.int .i64 a, .bool b]) = .returned (.tuple #[.int .i64 c, .bool d]) := by rw [h, h']

theorem byte48 {b : UInt8} (h : ((b.toNat : Int) == 48) = true) : b = 48 := by
  apply UInt8.toNat_inj.1
  have : (b.toNat : Int) = 48 := by simpa using h
  show b.toNat = 48
  omega
theorem byte48_no {b : UInt8} (h : ((b.toNat : Int) == 48) = false) : ¬ b = 48 := by
  rintro rfl
  simp at h

theorem acc_lt {acc k : Nat} (h : acc < 10 ^ k) (hk : k ≤ 8) : acc < 100000000 :=
  Nat.lt_of_lt_of_le h (Nat.pow_le_pow_right (by decide) hk : 10 ^ k ≤ 10 ^ 8)
theorem acc_step {acc k x : Nat} (h : acc < 10 ^ k) (hx : x ≤ 9) : acc * 10 + x < 10 ^ (k + 1) := by
  rw [Nat.pow_succ]; omega

theorem number_loop_end (s : ByteArray) (n : Nat) (h : Wd.number s = some n) : Ending.returned (.tuple #[.int .i64 (n : Int), .bool true]) = .returned (numV s) := by
  unfold numV; rw [h]; rfl
theorem number_loop_no (s : ByteArray) (h : Wd.number s = none) : Ending.returned (.tuple #[.int .i64 0, .bool false]) = .returned (numV s) := by
  unfold numV; rw [h]; rfl

set_option maxHeartbeats 400000 in
theorem number_any (s : ByteArray) (w : World) : Calls Tryd.prog 53 #[.string s] w fun e w' => e = .returned (numV s) ∧ w = w' := by
  by_cases hlen : s.size < 1 ∨ 9 < s.size
  · have HN := Lib.hid (number_loop_no s (Wd.num_len s hlen))
    rcases hlen with h | h
    · go_enter Tryd.func53, Tryd.ntmps53
      go_wp2
      go_ret2
      exact ⟨HN.out, rfl⟩
    · go_enter Tryd.func53, Tryd.ntmps53
      go_wp2
      go_ret2
      exact ⟨HN.out, rfl⟩
  · have h1 : 1 ≤ s.size := by omega
    have h2 : s.size ≤ 9 := by omega
    clear hlen
    by_cases h0 : s[0] = 48 ∧ 1 < s.size
    · have HN := Lib.hid (number_loop_no s (Wd.num_nought s h0.2 h0.1))
      have hs1 := h0.2
      have hb : ((s[0].toNat : Int) == 48) = true := by rw [h0.1]; rfl
      clear h0
      go_enter Tryd.func53, Tryd.ntmps53
      go_wp2
      go_ret2
      exact ⟨HN.out, rfl⟩
    · have HG := Lib.hid (Wd.num_go s h1 h2 h0)
      have hsplit : (((s[0].toNat : Int) == 48) = false) ∨ (((s[0].toNat : Int) == 48) = true ∧ s.size = 1) := by
        cases hb : ((s[0].toNat : Int) == 48) with
        | false => exact .inl rfl
        | true =>
          refine .inr ⟨rfl, ?_⟩
          rcases Nat.lt_or_ge 1 s.size with h | h
          · exact absurd ⟨byte48 hb, h⟩ h0
          · omega
      clear h0
      go_enter Tryd.func53, Tryd.ntmps53
      rcases hsplit with hb | ⟨hb, hs1⟩
      all_goals
        go_wp2
        go_loop [4, 5] (fun n i => ∃ k acc : Nat, k ≤ s.size ∧ i = .int .i64 k ∧ n = .int .i64 acc ∧ Hid (acc < 10 ^ k) ∧ Hid (Wd.numFrom acc (s.data.toList.drop k) = Wd.number s)) (fun _ i => s.size - (intOf i).toNat)
        case atStart => exact ⟨0, 0, by omega, rfl, rfl, Nat.lt_succ_self 0, HG.out.symm⟩
        case round =>
          obtain ⟨k, acc, hk, rfl, rfl, hacc, hr⟩ := hrel
          by_cases hlt : k < s.size
          · by_cases hd : Wd.isDigit (s[k].toNat : Int) = true
            · have HD := Lib.hid hd
              have hb48 := (Wd.isDigit_iff _).1 hd
              obtain ⟨hb1, hb2⟩ := hb48
              have ha8 := acc_lt hacc.out (by omega)
              have HR := Lib.hid (Wd.num_yes s acc k hlt hr.out hd)
              clear hd
              go_wp2_with fail
              refine (digit_any _ _).mono ?_
              rintro e w2 ⟨rfl, rfl⟩
              rw [HD.out]
              go_wp2
              go_round
              case rel =>
                refine ⟨k + 1, acc * 10 + (s[k].toNat - 48), by omega, by go_num, ?_, acc_step hacc.out (by omega), HR.out⟩
                congr 1; omega
              case measure => simp [intOf]; omega
            · have hd0 : Wd.isDigit (s[k].toNat : Int) = false := by simpa using hd
              have HD := Lib.hid hd0
              have HN := Lib.hid (number_loop_no s (Wd.num_no s acc k hlt hr.out hd0))
              clear hd hd0
              go_wp2_with fail
              refine (digit_any _ _).mono ?_
              rintro e w2 ⟨rfl, rfl⟩
              rw [HD.out]
              go_wp2
              go_ret2
              exact ⟨HN.out, rfl⟩
          · have HE := Lib.hid (number_loop_end s acc (Wd.num_end s acc k hlt hr.out))
            go_wp2
            go_ret2
            exact ⟨HE.out, rfl⟩

set_option maxHeartbeats 400000 in
theorem refNumber_any (s : ByteArray) (w : World) : Calls Tryd.prog 26 #[.string s] w fun e w' => e = .returned (numV s) ∧ w = w' := by
  by_cases hlen : s.size < 1 ∨ 9 < s.size
  · have HN := Lib.hid (number_loop_no s (Wd.num_len s hlen))
    rcases hlen with h | h
    · go_enter Tryd.func26, Tryd.ntmps26
      go_wp2
      go_ret2
      exact ⟨HN.out, rfl⟩
    · go_enter Tryd.func26, Tryd.ntmps26
      go_wp2
      go_ret2
      exact ⟨HN.out, rfl⟩
  · have h1 : 1 ≤ s.size := by omega
    have h2 : s.size ≤ 9 := by omega
    clear hlen
    by_cases h0 : s[0] = 48 ∧ 1 < s.size
    · have HN := Lib.hid (number_loop_no s (Wd.num_nought s h0.2 h0.1))
      have hs1 := h0.2
      have hb : ((s[0].toNat : Int) == 48) = true := by rw [h0.1]; rfl
      clear h0
      go_enter Tryd.func26, Tryd.ntmps26
      go_wp2
      go_ret2
      exact ⟨HN.out, rfl⟩
    · have HG := Lib.hid (Wd.num_go s h1 h2 h0)
      have hsplit : (((s[0].toNat : Int) == 48) = false) ∨ (((s[0].toNat : Int) == 48) = true ∧ s.size = 1) := by
        cases hb : ((s[0].toNat : Int) == 48) with
        | false => exact .inl rfl
        | true =>
          refine .inr ⟨rfl, ?_⟩
          rcases Nat.lt_or_ge 1 s.size with h | h
          · exact absurd ⟨byte48 hb, h⟩ h0
          · omega
      clear h0
      go_enter Tryd.func26, Tryd.ntmps26
      rcases hsplit with hb | ⟨hb, hs1⟩
      all_goals
        go_wp2
        go_loop [4, 5] (fun n i => ∃ k acc : Nat, k ≤ s.size ∧ i = .int .i64 k ∧ n = .int .i64 acc ∧ Hid (acc < 10 ^ k) ∧ Hid (Wd.numFrom acc (s.data.toList.drop k) = Wd.number s)) (fun _ i => s.size - (intOf i).toNat)
        case atStart => exact ⟨0, 0, by omega, rfl, rfl, Nat.lt_succ_self 0, HG.out.symm⟩
        case round =>
          obtain ⟨k, acc, hk, rfl, rfl, hacc, hr⟩ := hrel
          by_cases hlt : k < s.size
          · by_cases hd : Wd.isDigit (s[k].toNat : Int) = true
            · have HD := Lib.hid hd
              have hb48 := (Wd.isDigit_iff _).1 hd
              obtain ⟨hb1, hb2⟩ := hb48
              have ha8 := acc_lt hacc.out (by omega)
              have HR := Lib.hid (Wd.num_yes s acc k hlt hr.out hd)
              clear hd
              go_wp2_with fail
              refine (refDigit_any _ _).mono ?_
              rintro e w2 ⟨rfl, rfl⟩
              rw [HD.out]
              go_wp2
              go_round
              case rel =>
                refine ⟨k + 1, acc * 10 + (s[k].toNat - 48), by omega, by go_num, ?_, acc_step hacc.out (by omega), HR.out⟩
                congr 1; omega
              case measure => simp [intOf]; omega
            · have hd0 : Wd.isDigit (s[k].toNat : Int) = false := by simpa using hd
              have HD := Lib.hid hd0
              have HN := Lib.hid (number_loop_no s (Wd.num_no s acc k hlt hr.out hd0))
              clear hd hd0
              go_wp2_with fail
              refine (refDigit_any _ _).mono ?_
              rintro e w2 ⟨rfl, rfl⟩
              rw [HD.out]
              go_wp2
              go_ret2
              exact ⟨HN.out, rfl⟩
          · have HE := Lib.hid (number_loop_end s acc (Wd.num_end s acc k hlt hr.out))
            go_wp2
            go_ret2
            exact ⟨HE.out, rfl⟩

end Go.Proofs.YtdehpgdffafebaaDoor
namespace Go.Proofs.YtdehpgdffafebaaDoor
open Go.RowKit

theorem indexByte_yes (l : List UInt8) (c : UInt8) : (l.contains c = true ∧ ∃ x : Nat, x < l.length ∧ Lib.indexByte l c = (x : Int)) ∨ (l.contains c = false ∧ Lib.indexByte l c = -1) := by
  induction l with
  | nil => exact .inr ⟨rfl, rfl⟩
  | cons b t ih =>
    by_cases h : b = c
    · subst h
      exact .inl ⟨by simp, 0, by simp, by simp [Lib.indexByte]⟩
    · have hb : (b == c) = false := by simpa using h
      rcases ih with ⟨h1, x, h2, h3⟩ | ⟨h1, h2⟩
      · refine .inl ⟨by simp at h1 ⊢; exact .inr h1, x + 1, by simp; omega, ?_⟩
        rw [Lib.indexByte, hb, h3, if_neg (by simp), if_neg (by simp)]; rfl
      · refine .inr ⟨by simp at h1 ⊢; exact ⟨fun e => h e.symm, h1⟩, ?_⟩
        rw [Lib.indexByte, hb, h2]; rfl
theorem byte_back (b : UInt8) : (b.toNat : Int).toNat.toUInt8 = b := by simp
theorem idx_shorts (b : UInt8) : (Tk.shorts.contains b = true ∧ ∃ x : Nat, x < 14 ∧ Lib.indexByte Tk.shorts (b.toNat : Int).toNat.toUInt8 = (x : Int)) ∨ (Tk.shorts.contains b = false ∧ Lib.indexByte Tk.shorts (b.toNat : Int).toNat.toUInt8 = -1) := by
  rw [byte_back]
  exact indexByte_yes Tk.shorts b
theorem tx_ext (s : ByteArray) (n : Nat) : s.extract 0 n = Tk.tx s.data.toList n := Lib.Pa.extract_upto s n
theorem list_at (s : ByteArray) (h0 : 0 < s.size) : s.data.toList = s[0] :: s.data.toList.drop 1 := by
  have := Wd.num_drop s 0 h0
  simpa using this

end Go.Proofs.YtdehpgdffafebaaDoor
namespace Go.Proofs.YtdehpgdffafebaaDoor
open Go.RowKit
set_option linter.unusedVariables false

theorem sign2 (s : ByteArray) (h : Tk.dbl s.data.toList = true) : Tk.signL s.data.toList = 2 := by unfold Tk.signL; rw [if_pos h]
theorem pre2 (s : ByteArray) (h0 : 1 < s.size) (a b : UInt8) : List.isPrefixOf [a, b] s.data.toList = ((s.extract 0 2).toList == [a, b]) := by
  have h1 := Wd.num_drop s 0 (by omega)
  have h2 := Wd.num_drop s 1 h0
  rw [List.drop_zero] at h1
  rw [ByteArray.toList_eq, tx_ext]
  show _ = ((s.data.toList.take 2).toArray.toList == _)
  rw [h1, h2]
  simp [List.isPrefixOf]
  rw [Bool.eq_iff_iff]
  simp
  constructor <;> (rintro ⟨e1, e2⟩; exact ⟨e1.symm, e2.symm⟩)
theorem dbl_eq (s : ByteArray) (h0 : 1 < s.size) : Tk.dbl s.data.toList = (((s.extract 0 2).toList == [61, 61]) || ((s.extract 0 2).toList == [38, 38])) := by
  unfold Tk.dbl
  rw [pre2 s h0, pre2 s h0]
theorem dbl_one (s : ByteArray) (h0 : s.size = 1) : Tk.dbl s.data.toList = false := by
  have hl := list_at s (by omega)
  have : s.data.toList.drop 1 = [] := List.drop_eq_nil_of_le (by show s.size ≤ 1; omega)
  rw [hl, this]
  simp [Tk.dbl, List.isPrefixOf]

theorem beq_yes {a b : UInt8} (h : ((a.toNat : Int) == (b.toNat : Int)) = true) : a = b := by
  apply UInt8.toNat_inj.1
  have : (a.toNat : Int) = (b.toNat : Int) := by simpa using h
  omega
theorem beq_no {a b : UInt8} (h : ((a.toNat : Int) == (b.toNat : Int)) = false) : ¬ a = b := by
  rintro rfl
  simp at h
theorem below_drewN {B : Nat} {a w : World} (h : Below B a w) (n : Nat) : Below B a (w.drewN n) := ⟨h.os, h.tape, h.output, h.size, h.block⟩
theorem ret_str {a b : ByteArray} (h : a = b) : Ending.returned (.string a) = .returned (.string b) := by rw [h]

def shB : ByteArray := ⟨#[123, 125, 40, 41, 60, 62, 44, 59, 46, 61, 43, 45, 42, 33]⟩
theorem sh_no (s : ByteArray) (h0 : 0 < s.size) (hd : Tk.dbl s.data.toList = false) (h : ∀ j, (hj : j < 14) → ¬ shB[j]'hj = s[0]) : Tk.signL s.data.toList = 0 := by
  have hc : Tk.shorts.contains s[0] = false := by
    simp only [Tk.shorts, List.contains_eq_mem, decide_eq_false_iff_not]
    intro hm
    obtain ⟨j, hj, e⟩ := List.mem_iff_getElem.1 hm
    exact h j hj e
  have hl := list_at s h0
  unfold Tk.signL
  rw [if_neg (by simp [hd])]
  rw [hl]
  show (if Tk.shorts.contains s[0] = true then 1 else 0) = 0
  rw [if_neg (by rw [hc]; simp)]
theorem sh_yes (s : ByteArray) (h0 : 0 < s.size) (hd : Tk.dbl s.data.toList = false) (j : Nat) (hj : j < 14) (h : shB[j]'hj = s[0]) : Tk.signL s.data.toList = 1 := by
  have hc : Tk.shorts.contains s[0] = true := by
    simp only [Tk.shorts, List.contains_eq_mem, decide_eq_true_eq]
    rw [← h]
    exact List.getElem_mem (l := shB.data.toList) (n := j) hj
  have hl := list_at s h0
  unfold Tk.signL
  rw [if_neg (by simp [hd])]
  rw [hl]
  show (if Tk.shorts.contains s[0] = true then 1 else 0) = 1
  rw [if_pos hc]

theorem refSign_any (s : ByteArray) (h0 : 0 < s.size) (w : World) : Calls Tryd.prog 48 #[.string s] w fun e w' => e = .returned (.string (Tk.tx s.data.toList (Tk.signL s.data.toList))) ∧ Below w.heap.size w w' := by
  cases hd : Tk.dbl s.data.toList with
  | true =>
    have HS := Lib.hid (sign2 s hd)
    have h1 : 1 < s.size := by
      rcases Nat.lt_or_ge 1 s.size with h | h
      · exact h
      · rw [dbl_one s (by omega)] at hd; cases hd
    rw [dbl_eq s h1] at hd
    cases e1 : ((s.extract 0 2).toList == [61, 61]) with
    | true =>
      clear hd
      go_enter Tryd.func48, Tryd.ntmps48
      go_wp2
      go_ret
      exact ⟨by rw [HS.out, ← tx_ext]; rfl, Below.refl _ _⟩
    | false =>
      have e2 : ((s.extract 0 2).toList == [38, 38]) = true := by rw [e1] at hd; simpa using hd
      clear hd
      go_enter Tryd.func48, Tryd.ntmps48
      go_wp2
      go_ret
      exact ⟨by rw [HS.out, ← tx_ext]; rfl, Below.refl _ _⟩
  | false =>
    have HN := Lib.hid (sh_no s h0 hd)
    have HY := Lib.hid (sh_yes s h0 hd)
    have hl := list_at s h0
    have hne : s.toList.isEmpty = false := by rw [ByteArray.toList_eq, hl]; rfl
    have hne2 : (!s.toList.isEmpty) = true := by rw [hne]; rfl
    have hsplit : (1 < s.size ∧ ((s.extract 0 2).toList == [61, 61]) = false ∧ ((s.extract 0 2).toList == [38, 38]) = false) ∨ s.size = 1 := by
      rcases Nat.lt_or_ge 1 s.size with h | h
      · left
        rw [dbl_eq s h] at hd
        exact ⟨h, by simpa using hd⟩
      · right; omega
    clear hd hl
    go_enter Tryd.func48, Tryd.ntmps48
    rcases hsplit with ⟨h1, e1, e2⟩ | h1
    all_goals
      go_wp2
      go_loopw [4] (fun i wr => ∃ k : Nat, k ≤ 14 ∧ i = .int .i64 k ∧ Hid (∀ j, (hj : j < 14) → j < k → ¬ shB[j]'hj = s[0]) ∧ Below w.heap.size w wr) (fun i _ => 14 - (intOf i).toNat)
      case atStart => exact ⟨0, by omega, rfl, Lib.hid (fun j hj h => absurd h (by omega)), Below.refl _ _⟩
      case round =>
        obtain ⟨k, hk, rfl, hr, hb⟩ := hrel
        by_cases hlt : k < 14
        · go_wp2
          go_quiet (fail)
          go_wp2
          · have h2 : ((shB[k]'hlt).toNat == (s[0].toNat : Int)) = true := by assumption
            have HS := Lib.hid (HY.out k hlt (beq_yes h2))
            go_ret
            exact ⟨ret_str (by rw [HS.out, ← tx_ext]), below_drewN hb nq⟩
          · have h2 : (((shB[k]'hlt).toNat : Int) == (s[0].toNat : Int)) = false := by assumption
            have H2 := Lib.hid (beq_no h2)
            go_roundw
            case rel =>
              refine ⟨k + 1, by omega, by go_num, Lib.hid (fun j hj hjk => ?_), below_drewN hb nq⟩
              by_cases e : j = k
              · subst e; exact H2.out
              · exact hr.out j hj (by omega)
            case measure => simp [intOf]; omega
        · have HS := Lib.hid (HN.out (fun j hj => hr.out j hj (by omega)))
          go_wp2
          go_ret
          exact ⟨ret_str (by rw [HS.out]; rfl), hb⟩
end Go.Proofs.YtdehpgdffafebaaDoor
namespace Go.Proofs.YtdehpgdffafebaaDoor
open Go.RowKit
set_option linter.unusedVariables false

/-- Behind k bytes, in a note or not, what is left out ends where it does from the beginning on. -/
def SkAt (s : ByteArray) (m : Bool) (k : Nat) : Prop := k ≤ s.size ∧ Tk.sk false s.data.toList = k + Tk.sk m (s.data.toList.drop k)

theorem skAt_start (s : ByteArray) : SkAt s false 0 := ⟨Nat.zero_le _, by simp⟩
theorem skAt_blank {s : ByteArray} {k : Nat} (h : k < s.size) (hr : SkAt s false k) (hb : Wd.isBlank (s[k].toNat : Int) = true) : SkAt s false (k + 1) := by
  refine ⟨h, ?_⟩
  have := hr.2
  rw [Wd.num_drop s k h, Tk.sk_f, if_pos (show Tk.blankB s[k] = true from hb)] at this
  omega
theorem skAt_stop {s : ByteArray} {k : Nat} (h : k < s.size) (hr : SkAt s false k) (hb : Wd.isBlank (s[k].toNat : Int) = false) (hn : ¬ (s[k] = 47 ∧ ∃ h' : k + 1 < s.size, s[k + 1] = 47)) : Tk.sk false s.data.toList = k := by
  have := hr.2
  rw [Wd.num_drop s k h, Tk.sk_f, if_neg (by rw [show Tk.blankB s[k] = false from hb]; simp), if_neg] at this
  · exact this
  · rintro ⟨e1, e2⟩
    refine hn ⟨e1, ?_⟩
    rcases Nat.lt_or_ge (k + 1) s.size with h' | h'
    · rw [Wd.num_drop s (k + 1) h'] at e2
      exact ⟨h', by simpa using e2⟩
    · rw [List.drop_eq_nil_of_le (by show s.size ≤ k + 1; omega)] at e2
      cases e2
theorem skAt_note {s : ByteArray} {k : Nat} (h : k + 1 < s.size) (hr : SkAt s false k) (hb : Wd.isBlank (s[k].toNat : Int) = false) (e1 : s[k] = 47) (e2 : s[k + 1] = 47) : SkAt s true k := by
  refine ⟨hr.1, ?_⟩
  have := hr.2
  rw [Wd.num_drop s k (by omega), Tk.sk_f, if_neg (by rw [show Tk.blankB s[k] = false from hb]; simp), if_pos ⟨e1, by rw [Wd.num_drop s (k + 1) h, e2]; rfl⟩] at this
  rw [Wd.num_drop s k (by omega), Tk.sk_t, if_neg (by rw [e1]; decide)]
  exact this
theorem skAt_in {s : ByteArray} {k : Nat} (h : k < s.size) (hr : SkAt s true k) (hb : ¬ s[k] = 10) : SkAt s true (k + 1) := by
  refine ⟨h, ?_⟩
  have := hr.2
  rw [Wd.num_drop s k h, Tk.sk_t, if_neg hb] at this
  omega
theorem skAt_out {s : ByteArray} {k : Nat} (h : k < s.size) (hr : SkAt s true k) (hb : s[k] = 10) : SkAt s false k := by
  refine ⟨hr.1, ?_⟩
  have := hr.2
  rw [Wd.num_drop s k h, hb, Tk.sk_t, if_pos rfl] at this
  rw [Wd.num_drop s k h, hb, Tk.sk_f, if_pos (by decide)]
  exact this
theorem skAt_all {s : ByteArray} {k : Nat} {m : Bool} (h : ¬ k < s.size) (hr : SkAt s m k) : Tk.sk false s.data.toList = k := by
  have := hr.2
  rw [List.drop_eq_nil_of_le (by show s.size ≤ k; omega), Tk.sk_n] at this
  exact this
theorem skAt_full {s : ByteArray} {k : Nat} {m : Bool} (h : ¬ k < s.size) (hr : SkAt s m k) : SkAt s false k := by
  refine ⟨hr.1, ?_⟩
  have := hr.2
  rw [List.drop_eq_nil_of_le (by show s.size ≤ k; omega), Tk.sk_n] at this ⊢
  exact this

theorem neq_of {a b : Int} (h : (a == b) = false) : (a != b) = true := by unfold bne; rw [h]; rfl
theorem eq_of {a b : Int} (h : (a == b) = true) : (a != b) = false := by unfold bne; rw [h]; rfl
theorem b47 {b : UInt8} (h : ((b.toNat : Int) == 47) = true) : b = 47 := beq_yes (b := 47) h
theorem b47_no {b : UInt8} (h : ((b.toNat : Int) == 47) = false) : ¬ b = 47 := beq_no (b := 47) h
theorem b10 {b : UInt8} (h : ((b.toNat : Int) == 10) = true) : b = 10 := beq_yes (b := 10) h
theorem b10_no {b : UInt8} (h : ((b.toNat : Int) == 10) = false) : ¬ b = 10 := beq_no (b := 10) h

theorem skip_any (s : ByteArray) (hs : s.size ≤ 16384) (w : World) : Calls Tryd.prog 24 #[.string s] w fun e w' => e = .returned (.int .i64 (Tk.sk false s.data.toList : Nat)) ∧ w = w' := by
  go_enter Tryd.func24, Tryd.ntmps24
  go_wp2
  go_loop [3] (fun i => ∃ k : Nat, k ≤ s.size ∧ i = .int .i64 k ∧ Hid (SkAt s false k)) (fun i => s.size - (intOf i).toNat)
  case atStart => exact ⟨0, by omega, rfl, Lib.hid (skAt_start s)⟩
  case round =>
    obtain ⟨k, hk, rfl, hr⟩ := hrel
    by_cases hlt : k < s.size
    · cases hb : Wd.isBlank (s[k].toNat : Int) with
      | true =>
        have HB := Lib.hid hb
        have HR := Lib.hid (skAt_blank hlt hr.out hb)
        clear hb
        go_wp2_with fail
        refine (refBlank_any _ _).mono ?_
        rintro e w1 ⟨rfl, rfl⟩
        rw [HB.out]
        go_wp2
        go_round
        case rel => exact ⟨k + 1, by omega, by go_num, HR⟩
        case measure => simp [intOf]; omega
      | false =>
        have HB := Lib.hid hb
        clear hb
        by_cases hd : s[k] = 47 ∧ ∃ h' : k + 1 < s.size, s[k + 1] = 47
        · obtain ⟨e1, h', e2⟩ := hd
          have HR := Lib.hid (skAt_note h' hr.out HB.out e1 e2)
          have H1 := Lib.hid e1
          have t1 : ((s[k].toNat : Int) == 47) = true := by rw [e1]; rfl
          have t2 : ((s[k + 1].toNat : Int) == 47) = true := by rw [e2]; rfl
          have t1' : ((s[k].toNat : Int) != 47) = false := by rw [e1]; rfl
          have t2' : ((s[k + 1].toNat : Int) != 47) = false := by rw [e2]; rfl
          clear e1 e2
          go_wp2_with fail
          refine (refBlank_any _ _).mono ?_
          rintro e w1 ⟨rfl, rfl⟩
          rw [HB.out]
          go_wp2
          go_loop [3] (fun i => ∃ j : Nat, k ≤ j ∧ j ≤ s.size ∧ i = .int .i64 j ∧ Hid (SkAt s true j)) (fun i => s.size - (intOf i).toNat)
          case atStart => exact ⟨k, by omega, by omega, rfl, HR⟩
          case round =>
            obtain ⟨j, hkj, hj, rfl, hrj⟩ := hrel
            by_cases hjt : j < s.size
            · cases hten : ((s[j].toNat : Int) == 10) with
              | false =>
                have hten' := neq_of hten
                have HR2 := Lib.hid (skAt_in hjt hrj.out (b10_no hten))
                go_wp2
                go_round
                case rel => exact ⟨j + 1, by omega, by omega, by go_num, HR2⟩
                case measure => simp [intOf]; omega
              | true =>
                have hten' := eq_of hten
                have HR2 := Lib.hid (skAt_out hjt hrj.out (b10 hten))
                have hne : k < j := by
                  rcases Nat.lt_or_ge k j with h | h
                  · exact h
                  · exfalso
                    obtain rfl : j = k := by omega
                    have h3 := b10 hten
                    rw [H1.out] at h3
                    exact absurd h3 (by decide)
                go_wp2
                go_round
                case rel => exact ⟨j, by omega, rfl, HR2⟩
                case measure => simp [intOf]; omega
            · have HR2 := Lib.hid (skAt_full hjt hrj.out)
              go_wp2
              go_round
              case rel => exact ⟨j, by omega, rfl, HR2⟩
              case measure => simp [intOf]; omega
        · have HS := Lib.hid (skAt_stop hlt hr.out HB.out hd)
          have hways : s.size ≤ k + 1 ∨ (k + 1 < s.size ∧ ((s[k].toNat : Int) == 47) = false) ∨ ∃ h' : k + 1 < s.size, ((s[k].toNat : Int) == 47) = true ∧ ((s[k + 1].toNat : Int) == 47) = false := by
            rcases Nat.lt_or_ge (k + 1) s.size with h' | h'
            · right
              cases e1 : ((s[k].toNat : Int) == 47) with
              | false => exact .inl ⟨h', rfl⟩
              | true =>
                cases e2 : ((s[k + 1].toNat : Int) == 47) with
                | false => exact .inr ⟨h', rfl, e2⟩
                | true => exact absurd ⟨b47 e1, h', b47 e2⟩ hd
            · exact .inl h'
          clear hd
          go_wp2_with fail
          refine (refBlank_any _ _).mono ?_
          rintro e w1 ⟨rfl, rfl⟩
          rw [HB.out]
          rcases hways with h' | ⟨h', t1⟩ | ⟨h', t1, t2⟩
          · go_wp2
            go_ret
            exact ⟨ret_nat HS.out.symm, rfl⟩
          · have t1' := neq_of t1
            go_wp2
            go_ret
            exact ⟨ret_nat HS.out.symm, rfl⟩
          · have t1' := eq_of t1
            have t2' := neq_of t2
            go_wp2
            go_ret
            exact ⟨ret_nat HS.out.symm, rfl⟩
    · have HS := Lib.hid (skAt_all hlt hr.out)
      go_wp2
      go_ret
      exact ⟨ret_nat HS.out.symm, rfl⟩
end Go.Proofs.YtdehpgdffafebaaDoor
namespace Go.Proofs.YtdehpgdffafebaaDoor
open Go.RowKit
set_option linter.unusedVariables false

theorem bcell {W w1 : World} (hb : Below W.heap.size W w1) : (∀ b o, b < W.heap.size → w1.cell? ⟨b, o, none⟩ = W.cell? ⟨b, o, none⟩) ∧ (∀ b o, b < W.heap.size → w1.frozen? ⟨b, o, none⟩ = W.frozen? ⟨b, o, none⟩) :=
  ⟨fun b o h => hb.cell (p := ⟨b, o, none⟩) h, fun b o h => hb.frozen (p := ⟨b, o, none⟩) h⟩

/-- The three cells of the newest block stay, whatever is made behind it. -/
theorem three {w w1 : World} {a b c : Value} {t : TypeId} (hb : Below (w.alloc (.cells #[a, b, c] t)).heap.size (w.alloc (.cells #[a, b, c] t)) w1) :
    w1.cell? ⟨w.heap.size, 0, none⟩ = some a ∧ w1.cell? ⟨w.heap.size, 1, none⟩ = some b ∧ w1.cell? ⟨w.heap.size, 2, none⟩ = some c ∧ (∀ o, w1.frozen? ⟨w.heap.size, o, none⟩ = false) ∧ w.heap.size < w1.heap.size ∧ Below w.heap.size w w1 := by
  have hn : (w.alloc (.cells #[a, b, c] t)).heap[w.heap.size]? = some (.cells #[a, b, c] t (0, 0)) := heap_new w _
  have hs : (w.alloc (.cells #[a, b, c] t)).heap.size = w.heap.size + 1 := by simp
  have hh : w1.heap[w.heap.size]? = some (.cells #[a, b, c] t (0, 0)) := (hb.block w.heap.size (by omega)).trans hn
  refine ⟨cell_of_row w1 _ 0 _ t (0, 0) hh, cell_of_row w1 _ 1 _ t (0, 0) hh, cell_of_row w1 _ 2 _ t (0, 0) hh, fun o => by simp [World.frozen?, hh], by have := hb.size; omega, ?_⟩
  exact ((Below.refl _ w).alloc (Nat.le_refl _) _).trans (hb.mono (by omega))

/-- A token as a value. -/
def tokV (k : Nat) (t : ByteArray) (p : Nat) : Value := .agg #[.int .i64 (k : Int), .string t, .int .i64 (p : Int)]

theorem one_word {s : ByteArray} {k : Nat} (HO : Tk.oneL s.data.toList = (if Wd.find (Tk.tx s.data.toList (Tk.runL Wd.okB s.data.toList)) = 0 then 1 else 3, Tk.runL Wd.okB s.data.toList)) (hr : Tk.runL Wd.okB s.data.toList = k) (h : 0 < Wd.find (s.extract 0 k)) :
    Ending.returned (.agg #[.int .i64 3, .string (s.extract 0 k), .int .i64 0]) = .returned (tokV (Tk.oneL s.data.toList).1 (Tk.tx s.data.toList (Tk.oneL s.data.toList).2) 0) := by
  rw [tx_ext] at h ⊢
  rw [HO, hr, if_neg (by omega)]; rfl
theorem one_name {s : ByteArray} {k : Nat} (HO : Tk.oneL s.data.toList = (if Wd.find (Tk.tx s.data.toList (Tk.runL Wd.okB s.data.toList)) = 0 then 1 else 3, Tk.runL Wd.okB s.data.toList)) (hr : Tk.runL Wd.okB s.data.toList = k) (h : ¬ 0 < Wd.find (s.extract 0 k)) :
    Ending.returned (.agg #[.int .i64 1, .string (s.extract 0 k), .int .i64 0]) = .returned (tokV (Tk.oneL s.data.toList).1 (Tk.tx s.data.toList (Tk.oneL s.data.toList).2) 0) := by
  rw [tx_ext] at h ⊢
  rw [HO, hr, if_pos (by omega)]; rfl
theorem one_dig {s : ByteArray} {k : Nat} (HO : Tk.oneL s.data.toList = (2, Tk.runL Tk.digB s.data.toList)) (hr : Tk.runL Tk.digB s.data.toList = k) :
    Ending.returned (.agg #[.int .i64 2, .string (s.extract 0 k), .int .i64 0]) = .returned (tokV (Tk.oneL s.data.toList).1 (Tk.tx s.data.toList (Tk.oneL s.data.toList).2) 0) := by
  rw [tx_ext, HO, hr]; rfl

set_option maxHeartbeats 400000 in
theorem one_let (s : ByteArray) (h0 : 0 < s.size) (hs : s.size ≤ 16384) (w : World) (hb : Wd.isLetter (s[0].toNat : Int) = true) : Calls Tryd.prog 25 #[.string s] w fun e w' =>
    e = .returned (tokV (Tk.oneL s.data.toList).1 (Tk.tx s.data.toList (Tk.oneL s.data.toList).2) 0) ∧ Below w.heap.size w w' := by
  have hl := list_at s h0
  have HB := Lib.hid hb
  have HO : Hid (Tk.oneL s.data.toList = (if Wd.find (Tk.tx s.data.toList (Tk.runL Wd.okB s.data.toList)) = 0 then 1 else 3, Tk.runL Wd.okB s.data.toList)) := Lib.hid (by
    rw [hl]; exact Tk.oneL_l hb)
  clear hb hl
  go_enter Tryd.func25, Tryd.ntmps25
  go_wp2_with fail
  refine (refLetter_any _ _).mono ?_
  rintro e w1 ⟨rfl, rfl⟩
  rw [HB.out]
  go_wp2_with fail
  go_loop [3] (fun i => ∃ k : Nat, k ≤ s.size ∧ i = .int .i64 k ∧ Hid (Tk.runL Wd.okB s.data.toList = k + Tk.runL Wd.okB (s.data.toList.drop k))) (fun i => s.size - (intOf i).toNat)
  case atStart => exact ⟨0, by omega, rfl, Lib.hid (by simp)⟩
  case round =>
    obtain ⟨k, hk, rfl, hr⟩ := hrel
    by_cases hlt : k < s.size
    · cases h1 : Wd.isLetter (s[k].toNat : Int) with
      | true =>
        have H1 := Lib.hid h1
        have HR := Lib.hid (run_yes s k hlt hr.out (Tk.okB_let h1))
        clear h1
        go_wp2_with fail
        refine (refLetter_any _ _).mono ?_
        rintro e w1 ⟨rfl, rfl⟩
        rw [H1.out]
        go_wp2
        go_round
        case rel => exact ⟨k + 1, by omega, by go_num, HR⟩
        case measure => simp [intOf]; omega
      | false =>
        have H1 := Lib.hid h1
        cases h2 : Wd.isDigit (s[k].toNat : Int) with
        | true =>
          have H2 := Lib.hid h2
          have HR := Lib.hid (run_yes (p := Wd.okB) s k hlt hr.out (by unfold Wd.okB; rw [h2]; simp))
          clear h1 h2
          go_wp2_with fail
          refine (refLetter_any _ _).mono ?_
          rintro e w1 ⟨rfl, rfl⟩
          rw [H1.out]
          go_wp2_with fail
          refine (refDigit_any _ _).mono ?_
          rintro e w1 ⟨rfl, rfl⟩
          rw [H2.out]
          go_wp2
          go_round
          case rel => exact ⟨k + 1, by omega, by go_num, HR⟩
          case measure => simp [intOf]; omega
        | false =>
          have H2 := Lib.hid h2
          have HR := Lib.hid (run_no (p := Wd.okB) s k hlt hr.out (by unfold Wd.okB; rw [h1, h2]; rfl))
          clear h1 h2
          go_wp2_with fail
          refine (refLetter_any _ _).mono ?_
          rintro e w1 ⟨rfl, rfl⟩
          rw [H1.out]
          go_wp2_with fail
          refine (refDigit_any _ _).mono ?_
          rintro e w1 ⟨rfl, rfl⟩
          rw [H2.out]
          go_wp2_with fail
          refine (refFind_any _ _).mono ?_
          rintro e w2 ⟨rfl, hb2⟩
          obtain ⟨c0, c1, c2, hf, hz, hb⟩ := three hb2
          go_wp2
          · have hq : 0 < Wd.find (s.extract 0 k) := by assumption
            have HE := Lib.hid (one_word HO.out HR.out hq)
            clear hq
            exact bodyPost_ret (v := .agg #[.int .i64 3, .string (s.extract 0 k), .int .i64 0]) (by simp [results, Tryd.results25, go_sem, c0, c1, c2]) rfl ⟨HE.out, ((hb.setCell (Nat.le_refl _) _).setCell (Nat.le_refl _) _).setCell (Nat.le_refl _) _⟩
          · have hq : ¬ 0 < Wd.find (s.extract 0 k) := by assumption
            have HE := Lib.hid (one_name HO.out HR.out hq)
            clear hq
            exact bodyPost_ret (v := .agg #[.int .i64 1, .string (s.extract 0 k), .int .i64 0]) (by simp [results, Tryd.results25, go_sem, c0, c1, c2]) rfl ⟨HE.out, ((hb.setCell (Nat.le_refl _) _).setCell (Nat.le_refl _) _).setCell (Nat.le_refl _) _⟩
    · have HR := Lib.hid (run_end s k hlt hr.out)
      go_wp2_with fail
      refine (refFind_any _ _).mono ?_
      rintro e w2 ⟨rfl, hb2⟩
      obtain ⟨c0, c1, c2, hf, hz, hb⟩ := three hb2
      go_wp2
      · have hq : 0 < Wd.find (s.extract 0 k) := by assumption
        have HE := Lib.hid (one_word HO.out HR.out hq)
        clear hq
        exact bodyPost_ret (v := .agg #[.int .i64 3, .string (s.extract 0 k), .int .i64 0]) (by simp [results, Tryd.results25, go_sem, c0, c1, c2]) rfl ⟨HE.out, ((hb.setCell (Nat.le_refl _) _).setCell (Nat.le_refl _) _).setCell (Nat.le_refl _) _⟩
      · have hq : ¬ 0 < Wd.find (s.extract 0 k) := by assumption
        have HE := Lib.hid (one_name HO.out HR.out hq)
        clear hq
        exact bodyPost_ret (v := .agg #[.int .i64 1, .string (s.extract 0 k), .int .i64 0]) (by simp [results, Tryd.results25, go_sem, c0, c1, c2]) rfl ⟨HE.out, ((hb.setCell (Nat.le_refl _) _).setCell (Nat.le_refl _) _).setCell (Nat.le_refl _) _⟩

set_option maxHeartbeats 400000 in
theorem one_digit (s : ByteArray) (h0 : 0 < s.size) (hs : s.size ≤ 16384) (w : World) (hb : Wd.isLetter (s[0].toNat : Int) = false) (hd : Wd.isDigit (s[0].toNat : Int) = true) : Calls Tryd.prog 25 #[.string s] w fun e w' =>
    e = .returned (tokV (Tk.oneL s.data.toList).1 (Tk.tx s.data.toList (Tk.oneL s.data.toList).2) 0) ∧ Below w.heap.size w w' := by
  have hl := list_at s h0
  have HB := Lib.hid hb
  have HD := Lib.hid hd
  have HO : Hid (Tk.oneL s.data.toList = (2, Tk.runL Tk.digB s.data.toList)) := Lib.hid (by
    rw [hl]; exact Tk.oneL_d (by rw [show Tk.letB s[0] = false from hb]; simp) hd)
  clear hb hl hd
  go_enter Tryd.func25, Tryd.ntmps25
  go_wp2_with fail
  refine (refLetter_any _ _).mono ?_
  rintro e w1 ⟨rfl, rfl⟩
  rw [HB.out]
  go_wp2_with fail
  refine (refDigit_any _ _).mono ?_
  rintro e w1 ⟨rfl, rfl⟩
  rw [HD.out]
  go_wp2_with fail
  go_loop [3] (fun i => ∃ k : Nat, k ≤ s.size ∧ i = .int .i64 k ∧ Hid (Tk.runL Tk.digB s.data.toList = k + Tk.runL Tk.digB (s.data.toList.drop k))) (fun i => s.size - (intOf i).toNat)
  case atStart => exact ⟨0, by omega, rfl, Lib.hid (by simp)⟩
  case round =>
    obtain ⟨k, hk, rfl, hr⟩ := hrel
    by_cases hlt : k < s.size
    · cases h2 : Wd.isDigit (s[k].toNat : Int) with
      | true =>
        have H2 := Lib.hid h2
        have HR := Lib.hid (run_yes (p := Tk.digB) s k hlt hr.out h2)
        clear h2
        go_wp2_with fail
        refine (refDigit_any _ _).mono ?_
        rintro e w1 ⟨rfl, rfl⟩
        rw [H2.out]
        go_wp2
        go_round
        case rel => exact ⟨k + 1, by omega, by go_num, HR⟩
        case measure => simp [intOf]; omega
      | false =>
        have H2 := Lib.hid h2
        have HR := Lib.hid (run_no (p := Tk.digB) s k hlt hr.out h2)
        clear h2
        go_wp2_with fail
        refine (refDigit_any _ _).mono ?_
        rintro e w1 ⟨rfl, rfl⟩
        rw [H2.out]
        have HE := Lib.hid (one_dig HO.out HR.out)
        go_wp2
        exact bodyPost_ret (v := .agg #[.int .i64 2, .string (s.extract 0 k), .int .i64 0]) (by simp [results, Tryd.results25, go_sem]) rfl ⟨HE.out, (Below.refl _ w).alloc (Nat.le_refl _) _⟩
    · have HR := Lib.hid (run_end s k hlt hr.out)
      have HE := Lib.hid (one_dig HO.out HR.out)
      go_wp2
      exact bodyPost_ret (v := .agg #[.int .i64 2, .string (s.extract 0 k), .int .i64 0]) (by simp [results, Tryd.results25, go_sem]) rfl ⟨HE.out, (Below.refl _ w).alloc (Nat.le_refl _) _⟩

theorem one_sign (s : ByteArray) (h0 : 0 < s.size) (hs : s.size ≤ 16384) (w : World) (hb : Wd.isLetter (s[0].toNat : Int) = false) (hd : Wd.isDigit (s[0].toNat : Int) = false) : Calls Tryd.prog 25 #[.string s] w fun e w' =>
    e = .returned (tokV (Tk.oneL s.data.toList).1 (Tk.tx s.data.toList (Tk.oneL s.data.toList).2) 0) ∧ Below w.heap.size w w' := by
  have hl := list_at s h0
  have HB := Lib.hid hb
  have HD := Lib.hid hd
  by_cases hz : Tk.signL s.data.toList = 0
  · have HO : Hid (Tk.oneL s.data.toList = (0, 0)) := Lib.hid (by
      rw [hl] at hz ⊢; exact Tk.oneL_0 (by rw [show Tk.letB s[0] = false from hb]; simp) (by rw [show Tk.digB s[0] = false from hd]; simp) hz)
    have HZ : Hid (Tk.tx s.data.toList (Tk.signL s.data.toList) = ⟨#[]⟩) := Lib.hid (by rw [hz]; rfl)
    clear hb hl hd hz
    go_enter Tryd.func25, Tryd.ntmps25
    go_wp2_with fail
    refine (refLetter_any _ _).mono ?_
    rintro e w1 ⟨rfl, rfl⟩
    rw [HB.out]
    go_wp2_with fail
    refine (refDigit_any _ _).mono ?_
    rintro e w1 ⟨rfl, rfl⟩
    rw [HD.out]
    go_wp2_with fail
    refine (refSign_any s h0 _).mono ?_
    rintro e w2 ⟨rfl, hb2⟩
    rw [HZ.out]
    obtain ⟨c0, c1, c2, hf, hz, hb⟩ := three hb2
    go_wp2
    exact bodyPost_ret (v := .agg #[.int .i64 0, .string ⟨#[]⟩, .int .i64 0]) (by simp [results, Tryd.results25, go_sem, c0, c1, c2]) rfl ⟨by rw [HO.out]; rfl, ((hb.setCell (Nat.le_refl _) _).setCell (Nat.le_refl _) _).setCell (Nat.le_refl _) _⟩
  · have HO : Hid (Tk.oneL s.data.toList = (4, Tk.signL s.data.toList)) := Lib.hid (by
      have h1 := Tk.oneL_s (b := s[0]) (t := s.data.toList.drop 1) (by rw [show Tk.letB s[0] = false from hb]; simp) (by rw [show Tk.digB s[0] = false from hd]; simp) (by rw [← hl]; exact hz)
      rw [← hl] at h1; exact h1)
    obtain ⟨t, ht⟩ : ∃ t, t = Tk.tx s.data.toList (Tk.signL s.data.toList) := ⟨_, rfl⟩
    have HZ := Lib.hid ht
    have hsz : t.size = Tk.signL s.data.toList := by rw [ht]; exact Tk.tx_size _ _ (Tk.signL_le _)
    have hne : t.toList.isEmpty = false := by
      cases hq : t.toList with
      | nil =>
        exfalso
        rw [ByteArray.toList_eq] at hq
        have : t.size = 0 := by
          have h5 : t.data.toList.length = t.size := rfl
          rw [hq] at h5; exact h5.symm
        omega
      | cons a b => rfl
    have hne2 : (!t.toList.isEmpty) = true := by rw [hne]; rfl
    clear hb hl hd hz ht hsz
    go_enter Tryd.func25, Tryd.ntmps25
    go_wp2_with fail
    refine (refLetter_any _ _).mono ?_
    rintro e w1 ⟨rfl, rfl⟩
    rw [HB.out]
    go_wp2_with fail
    refine (refDigit_any _ _).mono ?_
    rintro e w1 ⟨rfl, rfl⟩
    rw [HD.out]
    go_wp2_with fail
    refine (refSign_any s h0 _).mono ?_
    rintro e w2 ⟨rfl, hb2⟩
    rw [← HZ.out]
    go_wp2_with fail
    refine (refSign_any s h0 _).mono ?_
    rintro e w3 ⟨rfl, hb3⟩
    rw [← HZ.out]
    obtain ⟨c0, c1, c2, hf, hz, hb⟩ := three (hb2.trans (hb3.mono hb2.size))
    go_wp2
    exact bodyPost_ret (v := .agg #[.int .i64 4, .string t, .int .i64 0]) (by simp [results, Tryd.results25, go_sem, c0, c1, c2]) rfl ⟨by rw [HO.out, HZ.out]; rfl, ((hb.setCell (Nat.le_refl _) _).setCell (Nat.le_refl _) _).setCell (Nat.le_refl _) _⟩

theorem one_any (s : ByteArray) (h0 : 0 < s.size) (hs : s.size ≤ 16384) (w : World) : Calls Tryd.prog 25 #[.string s] w fun e w' =>
    e = .returned (tokV (Tk.oneL s.data.toList).1 (Tk.tx s.data.toList (Tk.oneL s.data.toList).2) 0) ∧ Below w.heap.size w w' := by
  cases hb : Wd.isLetter (s[0].toNat : Int) with
  | true => exact one_let s h0 hs w hb
  | false =>
    cases hd : Wd.isDigit (s[0].toNat : Int) with
    | true => exact one_digit s h0 hs w hb hd
    | false => exact one_sign s h0 hs w hb hd
end Go.Proofs.YtdehpgdffafebaaDoor
