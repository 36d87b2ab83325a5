/- The tokens as the laws meet them, and the chapter's example: it is as it says. Conditions: the table of words lies in memory. -/
import Derived.Test.YtiijhlmdgbpkmaaDoorOf
namespace Go.Proofs.YtiijhlmdgbpkmaaDoor
open Go.RowKit
set_option linter.unusedVariables false

theorem of_ok {l : List UInt8} {w w' : World} {e : Ending} {r : List Tk.Tok} (h : OfPost l w e w') (hr : Tk.ofL l = .ok r) : ∃ (g c : Nat), e = .returned (.tuple #[.slice (some ⟨g, 0, none⟩) r.length c, .agg #[.int .i64 0, .int .i64 0]]) ∧
    w.heap.size ≤ g ∧ g < w'.heap.size ∧ r.length ≤ c ∧ c ≤ maxLen ∧ (∀ (j : Nat) (u : Value), (tcells r)[j]? = some u → w'.cell? ⟨g, j, none⟩ = some u) ∧ Below w.heap.size w w' := by
  obtain ⟨hb, h⟩ := h
  rw [hr] at h
  obtain ⟨v, rfl, ho⟩ := h
  have hne : r ≠ [] := Tk.toks_ne (Tk.ofL_toks hr).2
  rcases ho.2 with ⟨_, h0⟩ | ⟨g, cap, cur, rfl, hg, hh, hc, hcm, _, _⟩
  · exact absurd (List.eq_nil_of_length_eq_zero h0) hne
  · refine ⟨g, cap, rfl, hg, heap_lt hh, hc, hcm, fun j u hu => ?_, hb⟩
    have := ho.cells (g := g) rfl j u hu
    have ha : (⟨g, 0, none⟩ : Addr).add j = ⟨g, j, none⟩ := by unfold Addr.add; split <;> simp_all
    rw [← ha]; exact this
theorem of_err {l : List UInt8} {w w' : World} {e : Ending} {x a : Nat} (h : OfPost l w e w') (hr : Tk.ofL l = .err x a) : e = .returned (.tuple #[.slice none 0 0, .agg #[.int .i64 (x : Int), .int .i64 (a : Int)]]) ∧ Below w.heap.size w w' := by
  obtain ⟨hb, h⟩ := h
  rw [hr] at h
  exact ⟨h, hb⟩

def exB : ByteArray := ⟨#[97, 61, 61, 98, 32, 47, 47, 32, 99]⟩
def exL : List Tk.Tok := [⟨1, ⟨#[97]⟩, 0⟩, ⟨4, ⟨#[61, 61]⟩, 1⟩, ⟨1, ⟨#[98]⟩, 3⟩, ⟨0, ⟨#[]⟩, 9⟩]
theorem ex_ok : Tk.ofL exB.data.toList = .ok exL := by kernel_rfl

theorem awake_any (w : World) (hW : WordsIn w) : Calls Tryd.prog 6 #[] w fun e w' => e = .returned (.bool true) ∧ Below w.heap.size w w' := by
  go_enter Tryd.func6, Tryd.ntmps6
  go_wp2_with fail
  refine (of_any exB (by decide) _ hW).mono ?_
  rintro e w1 hp
  obtain ⟨g, c, rfl, hg, hl, hc, hcm, hcell, hb⟩ := of_ok hp ex_ok
  have h4 : w1.cell? ⟨g, 4, none⟩ = some (.string ⟨#[61, 61]⟩) := hcell 4 _ rfl
  have h5 : w1.cell? ⟨g, 5, none⟩ = some (.int .i64 1) := hcell 5 _ rfl
  have h8 : w1.cell? ⟨g, 8, none⟩ = some (.int .i64 3) := hcell 8 _ rfl
  have h11 : w1.cell? ⟨g, 11, none⟩ = some (.int .i64 9) := hcell 11 _ rfl
  have hsz := hb.size
  clear hp hcell
  rw [show exL.length = 4 from rfl]
  go_wp2
  go_ret
  exact ⟨rfl, hb.alloc hsz _⟩
end Go.Proofs.YtiijhlmdgbpkmaaDoor
