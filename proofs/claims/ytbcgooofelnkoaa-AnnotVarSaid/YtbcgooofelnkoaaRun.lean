/- Plain facts on how many bytes of a kind a text begins with. Conditions: none. -/
import Derived.Test.YtbcgooofelnkoaaTb
import Derived.Test.YtbcgooofelnkoaaBase
namespace Go.Proofs.Ytbcgooofelnkoaa
open Go.RowKit

theorem run_yes {p : UInt8 → Bool} (s : ByteArray) (k : Nat) (h : k < s.size) (hr : Tk.runL p s.data.toList = k + Tk.runL p (s.data.toList.drop k)) (e : p s[k] = true) :
    Tk.runL p s.data.toList = (k + 1) + Tk.runL p (s.data.toList.drop (k + 1)) := by
  rw [Wd.num_drop s k h, Tk.runL_yes e] at hr; omega
theorem run_no {p : UInt8 → Bool} (s : ByteArray) (k : Nat) (h : k < s.size) (hr : Tk.runL p s.data.toList = k + Tk.runL p (s.data.toList.drop k)) (e : p s[k] = false) :
    Tk.runL p s.data.toList = k := by
  rw [Wd.num_drop s k h, Tk.runL_no e] at hr; omega
theorem run_end {p : UInt8 → Bool} (s : ByteArray) (k : Nat) (h : ¬ k < s.size) (hr : Tk.runL p s.data.toList = k + Tk.runL p (s.data.toList.drop k)) :
    Tk.runL p s.data.toList = k := by
  rw [List.drop_eq_nil_of_le (by show s.size ≤ k; omega), Tk.runL_nil] at hr; omega

theorem ret_nat {k : IntKind} {a b : Nat} (h : a = b) : Ending.returned (.int k (a : Int)) = .returned (.int k (b : Int)) := by rw [h]

end Go.Proofs.Ytbcgooofelnkoaa
