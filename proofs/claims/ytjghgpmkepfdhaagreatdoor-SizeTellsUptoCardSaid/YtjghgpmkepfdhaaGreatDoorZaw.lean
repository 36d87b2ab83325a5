/- What the program and the document's answer say of the digits of a number. Conditions: for the program, the table of powers of ten lies in memory. -/
import Derived.Test.YtjghgpmkepfdhaaGreatDoorZav
import Derived.Laws.BytesArg
namespace Go.Proofs.YtjghgpmkepfdhaaGreatDoor
open Go.RowKit
open Go.Lib (decDigits itoa)

theorem digits_any (n : Int) (h0 : -9223372036854775808 ≤ n) (h1 : n ≤ 9223372036854775807) (w : World) (hp : PowIn w) :
    Calls Tryz.prog 196 #[.int .i64 n] w fun e w' => e = .returned (.string ⟨(Lib.itoa n).toArray⟩) ∧ Below w.heap.size w w' := by
  go_enter Tryz.func196, Tryz.ntmps196
  go_wp2_with fail
  refine (itoa_any n h0 h1 _ hp).mono ?_
  rintro e w1 ⟨rfl, hb1⟩
  go_wp2
  go_ret
  exact ⟨rfl, hb1⟩

end Go.Proofs.YtjghgpmkepfdhaaGreatDoor
