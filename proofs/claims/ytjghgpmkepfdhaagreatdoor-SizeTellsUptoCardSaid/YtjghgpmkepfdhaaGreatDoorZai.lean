/- The pure walk: the tables, as elder contracts ask for them. Conditions: none. -/
import Derived.Test.YtjghgpmkepfdhaaGreatDoorZae
namespace Go.Proofs.YtjghgpmkepfdhaaGreatDoor
open Go.RowKit
set_option linter.unusedVariables false
theorem Gw.words {w : World} (h : Gw w) : WordsIn w := (h _ (.inl rfl)).2.1 rfl
theorem Gw.pow {w : World} (h : Gw w) : PowIn w := by
  obtain ⟨t, fr, h1⟩ := (h _ (.inr rfl)).2.2 rfl
  unfold PowIn Lib.TabIs World.var?
  rw [show Tryz.prog.globalNamed "internal/strconv.uint64pow10" = some 1 by kernel_rfl]
  simp only [Option.bind_some]
  rw [h1]
  rfl
theorem Gw.of {w : World} (h1 : WordsIn w) (h2 : PowIn w) : Gw w := by
  intro b hb
  obtain ⟨t, fr, k1⟩ := h1
  unfold PowIn Lib.TabIs World.var? at h2
  rw [show Tryz.prog.globalNamed "internal/strconv.uint64pow10" = some 1 by kernel_rfl] at h2
  simp only [Option.bind_some] at h2
  have k2 : ∃ t fr, w.heap[1]? = some (.cells powVals t fr) := by
    cases hx : w.heap[1]? with
    | none => rw [hx] at h2; simp at h2
    | some o =>
      rw [hx] at h2
      cases o with
      | cells cs t fr =>
        simp at h2
        exact ⟨t, fr, by rw [h2]; rfl⟩
      | _ => simp at h2
  rcases hb with rfl | rfl
  · exact ⟨(Array.getElem?_eq_some_iff.1 k1).1, fun _ => ⟨t, fr, k1⟩, fun e => absurd e (by decide)⟩
  · obtain ⟨t2, fr2, k2⟩ := k2
    exact ⟨(Array.getElem?_eq_some_iff.1 k2).1, fun e => absurd e (by decide), fun _ => ⟨t2, fr2, k2⟩⟩
end Go.Proofs.YtjghgpmkepfdhaaGreatDoor
