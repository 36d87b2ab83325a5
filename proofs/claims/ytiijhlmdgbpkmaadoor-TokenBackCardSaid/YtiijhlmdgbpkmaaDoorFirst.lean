/- What the program says of the token that a text begins with. Conditions: the text has at most 16384 bytes, and the table of words lies in memory. -/
import Derived.Test.YtiijhlmdgbpkmaaDoorRun
import Derived.Test.YtiijhlmdgbpkmaaDoorFind
import Derived.Test.YtiijhlmdgbpkmaaDoorNum
import Derived.Lib.PathFns
namespace Go.Proofs.YtiijhlmdgbpkmaaDoor
open Go.RowKit
set_option linter.unusedVariables false

/-- Three numbers, as the program hands them back. -/
def triV (k n e : Nat) : Value := .tuple #[.int .i64 (k : Int), .int .i64 (n : Int), .int .i64 (e : Int)]
/-- What the program says of the token that a list begins with: kind, size, error. -/
def firstV (l : List UInt8) : Value :=
  if l = [] then triV 0 0 0 else if (Tk.oneL l).1 = 0 then triV 0 0 1 else if Tk.badB (Tk.oneL l).1 (Tk.oneL l).2 l = true then triV 0 0 2 else triV (Tk.oneL l).1 (Tk.oneL l).2 0

/-! ### Signs -/
theorem indexByte_yes (l : List UInt8) (c : UInt8) : (l.contains c = true ∧ ∃ x : Nat, x < l.length ∧ Lib.indexByte l c = (x : Int)) ∨ (l.contains c = false ∧ Lib.indexByte l c = -1) := by
  induction l with
  | nil => exact .inr ⟨rfl, rfl⟩
  | cons b t ih =>
    by_cases h : b = c
    · subst h
      exact .inl ⟨by simp, 0, by simp, by simp [Lib.indexByte]⟩
    · have hb : (b == c) = false := by simpa using h
      rcases ih with ⟨h1, x, h2, h3⟩ | ⟨h1, h2⟩
      · refine .inl ⟨by simp at h1 ⊢; exact .inr h1, x + 1, by simp; omega, ?_⟩
        rw [Lib.indexByte, hb, h3, if_neg (by simp), if_neg (by simp)]; rfl
      · refine .inr ⟨by simp at h1 ⊢; exact ⟨fun e => h e.symm, h1⟩, ?_⟩
        rw [Lib.indexByte, hb, h2]; rfl
theorem byte_back (b : UInt8) : (b.toNat : Int).toNat.toUInt8 = b := by simp
theorem idx_shorts (b : UInt8) : (Tk.shorts.contains b = true ∧ ∃ x : Nat, x < 14 ∧ Lib.indexByte Tk.shorts (b.toNat : Int).toNat.toUInt8 = (x : Int)) ∨ (Tk.shorts.contains b = false ∧ Lib.indexByte Tk.shorts (b.toNat : Int).toNat.toUInt8 = -1) := by
  rw [byte_back]
  exact indexByte_yes Tk.shorts b
theorem sign_any (s : ByteArray) (h0 : 0 < s.size) (w : World) : Calls Tryd.prog 40 #[.string s] w fun e w' => e = .returned (.int .i64 (Tk.signL s.data.toList : Nat)) ∧ w = w' := by
  cases h1 : Lib.hasPrefix s.data.toList [61, 61] with
  | true =>
    have H1 := Lib.hid h1
    have HS : Hid (Tk.signL s.data.toList = 2) := Lib.hid (by
      unfold Tk.signL; rw [if_pos]
      unfold Tk.dbl
      rw [show List.isPrefixOf [61, 61] s.data.toList = true from h1]; rfl)
    clear h1
    go_enter Tryd.func40, Tryd.ntmps40
    go_wp2_with fail
    refine (Tryd.strings_HasPrefix _ _ _).mono ?_
    rintro e w1 ⟨rfl, rfl⟩
    rw [show Lib.hasPrefix s.data.toList (ByteArray.mk #[61, 61]).data.toList = true from H1.out]
    go_wp2
    go_ret
    exact ⟨by rw [HS.out]; rfl, rfl⟩
  | false =>
    cases h2 : Lib.hasPrefix s.data.toList [38, 38] with
    | true =>
      have H1 := Lib.hid h1
      have H2 := Lib.hid h2
      have HS : Hid (Tk.signL s.data.toList = 2) := Lib.hid (by
        unfold Tk.signL; rw [if_pos]
        unfold Tk.dbl
        rw [show List.isPrefixOf [38, 38] s.data.toList = true from h2]; simp)
      clear h1 h2
      go_enter Tryd.func40, Tryd.ntmps40
      go_wp2_with fail
      refine (Tryd.strings_HasPrefix _ _ _).mono ?_
      rintro e w1 ⟨rfl, rfl⟩
      rw [show Lib.hasPrefix s.data.toList (ByteArray.mk #[61, 61]).data.toList = false from H1.out]
      go_wp2_with fail
      refine (Tryd.strings_HasPrefix _ _ _).mono ?_
      rintro e w2 ⟨rfl, rfl⟩
      rw [show Lib.hasPrefix s.data.toList (ByteArray.mk #[38, 38]).data.toList = true from H2.out]
      go_wp2
      go_ret
      exact ⟨by rw [HS.out]; rfl, rfl⟩
    | false =>
      have H1 := Lib.hid h1
      have H2 := Lib.hid h2
      have HD : Tk.dbl s.data.toList = false := by
        unfold Tk.dbl
        rw [show List.isPrefixOf [61, 61] s.data.toList = false from h1, show List.isPrefixOf [38, 38] s.data.toList = false from h2]; rfl
      have hl : s.data.toList = s[0] :: s.data.toList.drop 1 := by
        have := Wd.num_drop s 0 h0
        simpa using this
      have HS : Tk.signL s.data.toList = if Tk.shorts.contains s[0] = true then 1 else 0 := by
        unfold Tk.signL
        rw [if_neg (by simp [HD])]
        rw [hl]
      have hix := idx_shorts s[0]
      clear h1 h2 HD hl
      rcases hix with ⟨hc, x, hx0, hx⟩ | ⟨hc, hx⟩
      · have HX := Lib.hid hx
        rw [if_pos hc] at HS
        have HS' := Lib.hid HS
        clear hx HS hc
        go_enter Tryd.func40, Tryd.ntmps40
        go_wp2_with fail
        refine (Tryd.strings_HasPrefix _ _ _).mono ?_
        rintro e w1 ⟨rfl, rfl⟩
        rw [show Lib.hasPrefix s.data.toList (ByteArray.mk #[61, 61]).data.toList = false from H1.out]
        go_wp2_with fail
        refine (Tryd.strings_HasPrefix _ _ _).mono ?_
        rintro e w2 ⟨rfl, rfl⟩
        rw [show Lib.hasPrefix s.data.toList (ByteArray.mk #[38, 38]).data.toList = false from H2.out]
        go_wp2_with fail
        refine (Tryd.strings_IndexByte _ _ _).mono ?_
        rintro e w3 ⟨rfl, rfl⟩
        rw [show Lib.indexByte (ByteArray.mk #[123, 125, 40, 41, 60, 62, 44, 59, 46, 61, 43, 45, 42, 33]).data.toList (s[0].toNat : Int).toNat.toUInt8 = _ from HX.out]
        go_wp2
        go_ret
        exact ⟨by rw [HS'.out]; rfl, rfl⟩
      · have HX := Lib.hid hx
        rw [if_neg (by rw [hc]; simp)] at HS
        have HS' := Lib.hid HS
        clear hx HS hc
        go_enter Tryd.func40, Tryd.ntmps40
        go_wp2_with fail
        refine (Tryd.strings_HasPrefix _ _ _).mono ?_
        rintro e w1 ⟨rfl, rfl⟩
        rw [show Lib.hasPrefix s.data.toList (ByteArray.mk #[61, 61]).data.toList = false from H1.out]
        go_wp2_with fail
        refine (Tryd.strings_HasPrefix _ _ _).mono ?_
        rintro e w2 ⟨rfl, rfl⟩
        rw [show Lib.hasPrefix s.data.toList (ByteArray.mk #[38, 38]).data.toList = false from H2.out]
        go_wp2_with fail
        refine (Tryd.strings_IndexByte _ _ _).mono ?_
        rintro e w3 ⟨rfl, rfl⟩
        rw [show Lib.indexByte (ByteArray.mk #[123, 125, 40, 41, 60, 62, 44, 59, 46, 61, 43, 45, 42, 33]).data.toList (s[0].toNat : Int).toNat.toUInt8 = _ from HX.out]
        go_wp2
        go_ret
        exact ⟨by rw [HS'.out]; rfl, rfl⟩

/-! ### Names and numbers -/
def namedV (s : ByteArray) : Value := if Wd.find s = 0 then (if 20 < s.size then triV 0 0 2 else triV 1 s.size 0) else triV 3 s.size 0
def numberV (s : ByteArray) : Value := if (Wd.number s).isNone = true then triV 0 0 2 else triV 2 s.size 0

theorem named_any (s : ByteArray) (hs : s.size ≤ 16384) (w : World) (hW : WordsIn w) : Calls Tryd.prog 36 #[.string s] w fun e w' => e = .returned (namedV s) ∧ Below w.heap.size w w' := by
  by_cases hf : Wd.find s = 0
  · by_cases hl : 20 < s.size
    · have HV : Hid (namedV s = triV 0 0 2) := Lib.hid (by unfold namedV; rw [if_pos hf, if_pos hl])
      have HF := Lib.hid hf
      clear hf
      go_enter Tryd.func36, Tryd.ntmps36
      go_wp2_with fail
      refine (find_any _ _ hW).mono ?_
      rintro e w1 ⟨rfl, hb⟩
      rw [HF.out]
      go_wp2
      go_ret3
      exact ⟨by rw [HV.out]; rfl, hb⟩
    · have HV : Hid (namedV s = triV 1 s.size 0) := Lib.hid (by unfold namedV; rw [if_pos hf, if_neg hl])
      have HF := Lib.hid hf
      clear hf
      go_enter Tryd.func36, Tryd.ntmps36
      go_wp2_with fail
      refine (find_any _ _ hW).mono ?_
      rintro e w1 ⟨rfl, hb⟩
      rw [HF.out]
      go_wp2
      go_ret3
      exact ⟨by rw [HV.out]; rfl, hb⟩
  · have HV : Hid (namedV s = triV 3 s.size 0) := Lib.hid (by unfold namedV; rw [if_neg hf])
    obtain ⟨x, hx⟩ : ∃ x : Nat, Wd.find s = x + 1 := ⟨Wd.find s - 1, by omega⟩
    have HF := Lib.hid hx
    have hn : ((((x : Int) + 1) == 0) = false) := by simp; omega
    have hn' : ((((x : Int) + 1) != 0) = true) := by simp; omega
    clear hx hf
    go_enter Tryd.func36, Tryd.ntmps36
    go_wp2_with fail
    refine (find_any _ _ hW).mono ?_
    rintro e w1 ⟨rfl, hb⟩
    rw [HF.out]
    go_wp2
    go_ret3
    exact ⟨by rw [HV.out]; rfl, hb⟩

theorem tnumber_any (s : ByteArray) (w : World) : Calls Tryd.prog 39 #[.string s] w fun e w' => e = .returned (numberV s) ∧ w = w' := by
  cases hn : Wd.number s with
  | none =>
    have HV : Hid (numberV s = triV 0 0 2) := Lib.hid (by unfold numberV; rw [hn]; rfl)
    have HN : Hid (numV s = .tuple #[.int .i64 0, .bool false]) := Lib.hid (by unfold numV; rw [hn]; rfl)
    clear hn
    go_enter Tryd.func39, Tryd.ntmps39
    go_wp2_with fail
    refine (number_any _ _).mono ?_
    rintro e w1 ⟨rfl, rfl⟩
    rw [HN.out]
    go_wp2
    go_ret3
    exact ⟨by rw [HV.out]; rfl, rfl⟩
  | some n =>
    have HV : Hid (numberV s = triV 2 s.size 0) := Lib.hid (by unfold numberV; rw [hn]; rfl)
    have HN : Hid (numV s = .tuple #[.int .i64 (n : Int), .bool true]) := Lib.hid (by unfold numV; rw [hn]; rfl)
    clear hn
    go_enter Tryd.func39, Tryd.ntmps39
    go_wp2_with fail
    refine (number_any _ _).mono ?_
    rintro e w1 ⟨rfl, rfl⟩
    rw [HN.out]
    go_wp2
    go_ret3
    exact ⟨by rw [HV.out]; rfl, rfl⟩

/-! ### The token that a text begins with -/
theorem tx_ext (s : ByteArray) (n : Nat) : s.extract 0 n = Tk.tx s.data.toList n := Lib.extract_upto s n
theorem list_at (s : ByteArray) (h0 : 0 < s.size) : s.data.toList = s[0] :: s.data.toList.drop 1 := by
  have := Wd.num_drop s 0 h0
  simpa using this

theorem firstV_nil : firstV [] = triV 0 0 0 := by unfold firstV; rw [if_pos rfl]
theorem firstV_let {l : List UInt8} {b : UInt8} {t : List UInt8} (e : l = b :: t) (hb : Tk.letB b = true) : firstV l = namedV (Tk.tx l (Tk.runL Wd.okB l)) := by
  subst e
  have h1 := Tk.oneL_l (t := t) hb
  have hsz := Tk.tx_size (b :: t) _ (Tk.runL_le Wd.okB (b :: t))
  unfold firstV namedV
  rw [if_neg (by simp), h1, hsz]
  by_cases hf : Wd.find (Tk.tx (b :: t) (Tk.runL Wd.okB (b :: t))) = 0
  · rw [if_pos hf, if_pos hf]
    by_cases hl : 20 < Tk.runL Wd.okB (b :: t)
    · rw [if_neg (by simp), if_pos (by unfold Tk.badB; simp [hl]), if_pos hl]
    · rw [if_neg (by simp), if_neg (by unfold Tk.badB; simp; omega), if_neg hl]
  · rw [if_neg hf, if_neg hf, if_neg (by simp), if_neg (by unfold Tk.badB; simp)]
theorem firstV_dig {l : List UInt8} {b : UInt8} {t : List UInt8} (e : l = b :: t) (hb : Tk.letB b = false) (hd : Tk.digB b = true) : firstV l = numberV (Tk.tx l (Tk.runL Tk.digB l)) := by
  subst e
  have h1 := Tk.oneL_d (t := t) (by simp [hb]) hd
  have hsz := Tk.tx_size (b :: t) _ (Tk.runL_le Tk.digB (b :: t))
  unfold firstV numberV
  rw [if_neg (by simp), h1, hsz, if_neg (by simp)]
  cases hn : Wd.number (Tk.tx (b :: t) (Tk.runL Tk.digB (b :: t))) with
  | none => rw [if_pos (by unfold Tk.badB; simp [hn])]; rfl
  | some n => rw [if_neg (by unfold Tk.badB; simp [hn])]; rfl
theorem firstV_sign {l : List UInt8} {b : UInt8} {t : List UInt8} (e : l = b :: t) (hb : Tk.letB b = false) (hd : Tk.digB b = false) (hs : Tk.signL l ≠ 0) : firstV l = triV 4 (Tk.signL l) 0 := by
  subst e
  have h1 := Tk.oneL_s (by simp [hb]) (by simp [hd]) hs
  unfold firstV
  rw [if_neg (by simp), h1, if_neg (by simp), if_neg (by unfold Tk.badB; simp)]
theorem firstV_byte {l : List UInt8} {b : UInt8} {t : List UInt8} (e : l = b :: t) (hb : Tk.letB b = false) (hd : Tk.digB b = false) (hs : Tk.signL l = 0) : firstV l = triV 0 0 1 := by
  subst e
  have h1 := Tk.oneL_0 (by simp [hb]) (by simp [hd]) hs
  unfold firstV
  rw [if_neg (by simp), h1, if_pos rfl]

theorem firstV_tri (l : List UInt8) : ∃ k n e : Nat, firstV l = .tuple #[.int .i64 (k : Int), .int .i64 (n : Int), .int .i64 (e : Int)] := by
  unfold firstV
  split
  · exact ⟨0, 0, 0, rfl⟩
  · split
    · exact ⟨0, 0, 1, rfl⟩
    · split
      · exact ⟨0, 0, 2, rfl⟩
      · exact ⟨_, _, 0, rfl⟩

theorem first_any (s : ByteArray) (hs : s.size ≤ 16384) (w : World) (hW : WordsIn w) : Calls Tryd.prog 22 #[.string s] w fun e w' => e = .returned (firstV s.data.toList) ∧ Below w.heap.size w w' := by
  rcases Nat.eq_zero_or_pos s.size with h0 | h0
  · obtain rfl : s = ⟨#[]⟩ := by
      cases s with | mk a =>
      have : a = #[] := Array.eq_empty_of_size_eq_zero h0
      rw [this]
    clear h0 hs
    go_enter Tryd.func22, Tryd.ntmps22
    go_wp2
    go_ret3
    exact ⟨by rw [firstV_nil]; rfl, Below.refl _ _⟩
  · have hl := list_at s h0
    have hne : s.data.toList.isEmpty = false := by rw [hl]; rfl
    have hne1 : s.toList.isEmpty = false := by rw [ByteArray.toList_eq]; exact hne
    have hne2 : (!s.toList.isEmpty) = true := by rw [hne1]; rfl
    cases hb : Wd.isLetter (s[0].toNat : Int) with
    | true =>
      have HV := Lib.hid (firstV_let hl hb)
      have hle := Tk.runL_le Wd.okB s.data.toList
      have HB := Lib.hid hb
      obtain ⟨n, hn⟩ : ∃ n, n = Tk.runL Wd.okB s.data.toList := ⟨_, rfl⟩
      rw [← hn] at hle
      have hle' : n ≤ s.size := hle
      have HN := Lib.hid hn
      have hex : (s.extract 0 n).size ≤ 16384 := by rw [tx_ext, Tk.tx_size _ _ hle]; omega
      have HEX := Lib.hid hex
      clear hb hl hn hle hne hex
      go_enter Tryd.func22, Tryd.ntmps22
      go_wp2_with fail
      refine (letter_any _ _).mono ?_
      rintro e w1 ⟨rfl, rfl⟩
      rw [HB.out]
      go_wp2_with fail
      refine (runName_any _ hs _).mono ?_
      rintro e w2 ⟨rfl, rfl⟩
      rw [← HN.out]
      go_wp2_with fail
      refine (named_any _ HEX.out _ hW).mono ?_
      rintro e w3 ⟨rfl, hb3⟩
      obtain ⟨k, m, e', hT⟩ := firstV_tri s.data.toList
      have HT := Lib.hid hT
      clear hT
      rw [show namedV (s.extract 0 n) = .tuple #[.int .i64 (k : Int), .int .i64 (m : Int), .int .i64 (e' : Int)] by rw [tx_ext, HN.out, ← HV.out, HT.out]]
      go_wp2
      go_ret3
      exact ⟨by rw [HT.out]; rfl, hb3⟩
    | false =>
      have HB := Lib.hid hb
      cases hd : Wd.isDigit (s[0].toNat : Int) with
      | true =>
        have HV := Lib.hid (firstV_dig hl hb hd)
        have hle := Tk.runL_le Tk.digB s.data.toList
        have HD := Lib.hid hd
        obtain ⟨n, hn⟩ : ∃ n, n = Tk.runL Tk.digB s.data.toList := ⟨_, rfl⟩
        rw [← hn] at hle
        have hle' : n ≤ s.size := hle
        have HN := Lib.hid hn
        clear hb hl hn hle hne hd
        go_enter Tryd.func22, Tryd.ntmps22
        go_wp2_with fail
        refine (letter_any _ _).mono ?_
        rintro e w1 ⟨rfl, rfl⟩
        rw [HB.out]
        go_wp2_with fail
        refine (digit_any _ _).mono ?_
        rintro e w1 ⟨rfl, rfl⟩
        rw [HD.out]
        go_wp2_with fail
        refine (runDigit_any _ hs _).mono ?_
        rintro e w2 ⟨rfl, rfl⟩
        rw [← HN.out]
        go_wp2_with fail
        refine (tnumber_any _ _).mono ?_
        rintro e w3 ⟨rfl, rfl⟩
        obtain ⟨k, m, e', hT⟩ := firstV_tri s.data.toList
        have HT := Lib.hid hT
        clear hT
        rw [show numberV (s.extract 0 n) = .tuple #[.int .i64 (k : Int), .int .i64 (m : Int), .int .i64 (e' : Int)] by rw [tx_ext, HN.out, ← HV.out, HT.out]]
        go_wp2
        go_ret3
        exact ⟨by rw [HT.out]; rfl, Below.refl _ _⟩
      | false =>
        have HD := Lib.hid hd
        have hsle := Tk.signL_le s.data.toList
        by_cases hz : Tk.signL s.data.toList = 0
        · have HV := Lib.hid (firstV_byte hl hb hd hz)
          have HZ := Lib.hid hz
          clear hb hl hne hd hz hsle
          go_enter Tryd.func22, Tryd.ntmps22
          go_wp2_with fail
          refine (letter_any _ _).mono ?_
          rintro e w1 ⟨rfl, rfl⟩
          rw [HB.out]
          go_wp2_with fail
          refine (digit_any _ _).mono ?_
          rintro e w1 ⟨rfl, rfl⟩
          rw [HD.out]
          go_wp2_with fail
          refine (sign_any _ h0 _).mono ?_
          rintro e w2 ⟨rfl, rfl⟩
          rw [HZ.out]
          go_wp2
          go_ret3
          exact ⟨by rw [HV.out]; rfl, Below.refl _ _⟩
        · have HV := Lib.hid (firstV_sign hl hb hd hz)
          obtain ⟨n, hn⟩ : ∃ n, n + 1 = Tk.signL s.data.toList := ⟨Tk.signL s.data.toList - 1, by omega⟩
          have HZ := Lib.hid hn
          clear hb hl hne hd hz hn hsle
          go_enter Tryd.func22, Tryd.ntmps22
          go_wp2_with fail
          refine (letter_any _ _).mono ?_
          rintro e w1 ⟨rfl, rfl⟩
          rw [HB.out]
          go_wp2_with fail
          refine (digit_any _ _).mono ?_
          rintro e w1 ⟨rfl, rfl⟩
          rw [HD.out]
          go_wp2_with fail
          refine (sign_any _ h0 _).mono ?_
          rintro e w2 ⟨rfl, rfl⟩
          rw [← HZ.out]
          have hpos : (0 : Int) < (n : Int) + 1 := by omega
          go_wp2
          go_ret3
          exact ⟨by rw [HV.out, ← HZ.out]; rfl, Below.refl _ _⟩

end Go.Proofs.YtiijhlmdgbpkmaaDoor
