/- Plain facts on a text's first bytes. Conditions: none. -/
import Derived.Test.YtbcgooofelnkoaaRun
import Derived.Test.YtbcgooofelnkoaaFind
import Derived.Test.YtbcgooofelnkoaaNum
import Derived.Lib.PathFns
import Derived.Lib.IndexBytes
import Derived.Lib.Bytealg
import Derived.Lib.PathFns
namespace Go.Proofs.Ytbcgooofelnkoaa
open Go.RowKit

theorem indexByte_yes (l : List UInt8) (c : UInt8) : (l.contains c = true ∧ ∃ x : Nat, x < l.length ∧ Lib.indexByte l c = (x : Int)) ∨ (l.contains c = false ∧ Lib.indexByte l c = -1) := by
  induction l with
  | nil => exact .inr ⟨rfl, rfl⟩
  | cons b t ih =>
    by_cases h : b = c
    · subst h
      exact .inl ⟨by simp, 0, by simp, by simp [Lib.indexByte]⟩
    · have hb : (b == c) = false := by simpa using h
      rcases ih with ⟨h1, x, h2, h3⟩ | ⟨h1, h2⟩
      · refine .inl ⟨by simp at h1 ⊢; exact .inr h1, x + 1, by simp; omega, ?_⟩
        rw [Lib.indexByte, hb, h3, if_neg (by simp), if_neg (by simp)]; rfl
      · refine .inr ⟨by simp at h1 ⊢; exact ⟨fun e => h e.symm, h1⟩, ?_⟩
        rw [Lib.indexByte, hb, h2]; rfl
theorem byte_back (b : UInt8) : (b.toNat : Int).toNat.toUInt8 = b := by simp
theorem idx_shorts (b : UInt8) : (Tk.shorts.contains b = true ∧ ∃ x : Nat, x < 14 ∧ Lib.indexByte Tk.shorts (b.toNat : Int).toNat.toUInt8 = (x : Int)) ∨ (Tk.shorts.contains b = false ∧ Lib.indexByte Tk.shorts (b.toNat : Int).toNat.toUInt8 = -1) := by
  rw [byte_back]
  exact indexByte_yes Tk.shorts b
theorem tx_ext (s : ByteArray) (n : Nat) : s.extract 0 n = Tk.tx s.data.toList n := Lib.Pa.extract_upto s n
theorem list_at (s : ByteArray) (h0 : 0 < s.size) : s.data.toList = s[0] :: s.data.toList.drop 1 := by
  have := Wd.num_drop s 0 h0
  simpa using this

end Go.Proofs.Ytbcgooofelnkoaa
