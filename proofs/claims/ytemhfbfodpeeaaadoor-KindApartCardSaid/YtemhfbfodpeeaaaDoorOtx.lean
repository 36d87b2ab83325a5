/- The text of an owner, as the document's answer tells it. Conditions: at most 1000 parameters. -/
import Derived.Test.YtemhfbfodpeeaaaDoorOri
namespace Go.Proofs.YtemhfbfodpeeaaaDoor
open Go.RowKit
set_option linter.unusedVariables false

set_option maxHeartbeats 1000000 in
theorem refOText_any (o : Ow) (A : Option Addr) (c : Nat) (ps : List ByteArray) (w : World) (hr : RS w w.heap.size A ps) (hl : ps.length ≤ 1000) (hc : ps.length ≤ c) :
    Calls Tryd.prog 25 #[.agg #[.int .i64 o.kind, .int .i64 o.n], .slice A ps.length c] w fun e w' => e = .returned (.string (o.text ps)) ∧ Below w.heap.size w w' := by
  have HR := Lib.hid hr
  clear hr
  obtain ⟨k, n⟩ := o
  by_cases hR : Ow.right ⟨k, n⟩ ps.length = true
  case neg =>
    have hF : Ow.right ⟨k, n⟩ ps.length = false := by simpa using hR
    have HF := Lib.hid hF
    have HV := Lib.hid (Ow.text_no hF)
    clear hR hF
    go_enter Tryd.func25, Tryd.ntmps25
    go_wp2_with fail
    refine (refORight_kn _ _ _ _).mono ?_
    rintro e w1 ⟨rfl, hb1⟩
    rw [HF.out]
    obtain ⟨hB, z1, z2, z3⟩ := box2 hb1
    clear hb1
    go_wp2
    go_ret
    exact ⟨by rw [HV.out]; rfl, hB⟩
  case pos =>
    have HT := Lib.hid hR
    by_cases h3 : k = 3
    · subst h3
      have hn := right_par hR
      obtain ⟨j, rfl⟩ : ∃ j : Nat, n = (j : Int) + 1 := ⟨(n - 1).toNat, by omega⟩
      have hj : j < ps.length := by omega
      have HV := Lib.hid (Ow.text_par j hj rfl)
      obtain ⟨b, off, rfl, hB0, q0⟩ := HR.out.at_ hj
      have HQ := Lib.hid q0
      clear hR hn q0
      go_enter Tryd.func25, Tryd.ntmps25
      go_wp2_with fail
      refine (refORight_kn _ _ _ _).mono ?_
      rintro e w1 ⟨rfl, hb1⟩
      rw [HT.out]
      obtain ⟨hB, z1, z2, z3⟩ := box2 hb1
      have q0 := (hB.cell (p := ⟨b, off + j, none⟩) hB0).trans HQ.out
      clear hb1
      go_wp2
      go_ret
      exact ⟨by rw [HV.out]; rfl, hB⟩
    · have HV := Lib.hid (Ow.text_word hR h3)
      have hk := right_kind hR
      rcases (show k = 1 ∨ k = 2 ∨ k = 4 ∨ k = 5 ∨ k = 6 ∨ k = 7 by omega) with rfl | rfl | rfl | rfl | rfl | rfl
      all_goals
        clear hR h3 hk
        go_enter Tryd.func25, Tryd.ntmps25
        go_wp2_with fail
        refine (refORight_kn _ _ _ _).mono ?_
        rintro e w1 ⟨rfl, hb1⟩
        rw [HT.out]
        obtain ⟨hB, z1, z2, z3⟩ := box2 hb1
        clear hb1
        go_wp2
        go_ret
        exact ⟨by rw [HV.out]; rfl, hB.alloc (by omega) _⟩
end Go.Proofs.YtemhfbfodpeeaaaDoor
