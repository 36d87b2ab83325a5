/- Whether a type may be, as the program tells it. Conditions: the table of words lies in memory. -/
import Derived.Test.YtjghgpmkepfdhaaGreatDoorZaq
namespace Go.Proofs.YtjghgpmkepfdhaaGreatDoor
open Go.RowKit
set_option linter.unusedVariables false

theorem right_void {cls : ByteArray} {n : Int} {k : Int} {o0 o1 o2 o3 : Ow} {p : Int} {b : Bool} (hk : k = 0 ∨ k = 1) (hs : Ty.sameO ⟨k, cls, n, o0, o1, o2, o3⟩ ⟨0, ⟨#[]⟩, 0, ⟨0, 0⟩, ⟨0, 0⟩, ⟨0, 0⟩, ⟨0, 0⟩⟩ = b) :
    Ty.right ⟨k, cls, n, o0, o1, o2, o3⟩ p = (decide (cls = ⟨#[]⟩) && decide (n = 0) && b) := by
  rw [Ty.right_bare hk, bare_of, hs]

/-- The copy of a type in a block of the call's own, behind a call. -/
theorem TyIn.after {w w0 w1 : World} {t : Ty} {g : Nat} (h : TyIn w1 g t) (hb : Below w.heap.size w w0) (h1 : Below w0.heap.size w0 w1) :
    Below w.heap.size w w1 ∧ w1.cell? ⟨g, 0, none⟩ = some (.int .i64 t.kind) ∧ w1.cell? ⟨g, 1, none⟩ = some (.string t.cls) ∧ w1.cell? ⟨g, 2, none⟩ = some (.int .i64 t.n)
      ∧ w1.cell? ⟨g, 3, none⟩ = some (.int .i64 t.o0.kind) ∧ w1.cell? ⟨g, 4, none⟩ = some (.int .i64 t.o0.n) ∧ w1.cell? ⟨g, 5, none⟩ = some (.int .i64 t.o1.kind) ∧ w1.cell? ⟨g, 6, none⟩ = some (.int .i64 t.o1.n)
      ∧ w1.cell? ⟨g, 7, none⟩ = some (.int .i64 t.o2.kind) ∧ w1.cell? ⟨g, 8, none⟩ = some (.int .i64 t.o2.n) ∧ w1.cell? ⟨g, 9, none⟩ = some (.int .i64 t.o3.kind) ∧ w1.cell? ⟨g, 10, none⟩ = some (.int .i64 t.o3.n) ∧ g < w1.heap.size :=
  ⟨hb.trans (h1.mono hb.size), h.cell 0, h.cell 1, h.cell 2, h.cell 3, h.cell 4, h.cell 5, h.cell 6, h.cell 7, h.cell 8, h.cell 9, h.cell 10, h.lt⟩

set_option maxHeartbeats 2000000 in
theorem right_any (t : Ty) (p : Int) (w : World) (hW : WordsIn w) :
    Calls Tryz.prog 93 #[.agg t.cells, .int .i64 p] w fun e w' => e = .returned (.bool (t.right p)) ∧ Below w.heap.size w w' := by
  obtain ⟨kd, cls, n, o0, o1, o2, o3⟩ := t
  by_cases h01 : kd = 0 ∨ kd = 1
  · obtain ⟨b, hb⟩ : ∃ b, Ty.sameO ⟨kd, cls, n, o0, o1, o2, o3⟩ ⟨0, ⟨#[]⟩, 0, ⟨0, 0⟩, ⟨0, 0⟩, ⟨0, 0⟩, ⟨0, 0⟩⟩ = b := ⟨_, rfl⟩
    have HV := Lib.hid (right_void (p := p) h01 hb)
    have hE := eqZ _ hb
    simp only at hE
    unfold Ty.cells
    rcases h01 with rfl | rfl
    all_goals
      clear hb
      go_enter Tryz.func93, Tryz.ntmps93
      go_wp2
      all_goals
        go_ret
        refine ⟨ret_b ?_, below1 w _⟩
        rw [HV.out]
        first
          | (rename_i h1 h2 h3; have h1' := empty_of h1; simp [h1', h2, h3]; done)
          | (rename_i h1 h2; have h1' := empty_of h1; simp [h1', h2]; done)
          | (rename_i h1; have h1' := nonempty_of h1; simp [h1']; done)
  · have h0 : ¬ kd = 0 := fun e => h01 (.inl e)
    have h1 : ¬ kd = 1 := fun e => h01 (.inr e)
    clear h01
    by_cases h2 : kd = 2
    · subst h2
      clear h0 h1
      have HV : Hid (Ty.right ⟨2, cls, n, o0, o1, o2, o3⟩ p = (Wd.nameB cls && decide (0 ≤ n) && decide (n ≤ 3) && Ty.okOw ⟨2, cls, n, o0, o1, o2, o3⟩ p)) := Lib.hid (Ty.right_obj rfl)
      have HT : Hid (TyIn (w.alloc (.cells (Ty.cells ⟨2, cls, n, o0, o1, o2, o3⟩) 49)) w.heap.size ⟨2, cls, n, o0, o1, o2, o3⟩) := Lib.hid (TyIn.new w _)
      by_cases hn : Wd.nameB cls = true
      · have HN := Lib.hid hn
        clear hn
        unfold Ty.cells at HT ⊢
        go_enter Tryz.func93, Tryz.ntmps93
        go_wp2_with fail
        refine (name_any cls _ (hW.below (below1 w _))).mono ?_
        rintro e w1 ⟨rfl, hb1⟩
        rw [HN.out]
        obtain ⟨hB, c0, c1, c2, c3, c4, c5, c6, c7, c8, c9, c10, hg⟩ := (HT.out.below hb1).after (below1 w _) hb1
        have HB := Lib.hid hB
        clear hb1 hB
        by_cases h0 : 0 ≤ n
        · by_cases h3 : n ≤ 3
          · go_wp2_with fail
            refine (ownersRight_any ⟨2, cls, n, o0, o1, o2, o3⟩ p _ rfl h0 h3).mono ?_
            rintro e w2 ⟨rfl, hb2⟩
            have HB2 := Lib.hid (HB.out.trans (hb2.mono HB.out.size))
            clear hb2
            go_wp2
            all_goals
              go_ret
              exact ⟨ret_b (by rw [HV.out, HN.out]; simp [h0, h3]), HB2.out⟩
          · go_wp2
            go_ret
            exact ⟨ret_b (by rw [HV.out, HN.out, decide_eq_false (by omega : ¬ n ≤ 3)]; simp), HB.out⟩
        · go_wp2
          go_ret
          exact ⟨ret_b (by rw [HV.out, HN.out, decide_eq_false (by omega : ¬ 0 ≤ n)]; simp), HB.out⟩
      · have hn' : Wd.nameB cls = false := by simpa using hn
        have HN := Lib.hid hn'
        clear hn hn'
        unfold Ty.cells at HT ⊢
        go_enter Tryz.func93, Tryz.ntmps93
        go_wp2_with fail
        refine (name_any cls _ (hW.below (below1 w _))).mono ?_
        rintro e w1 ⟨rfl, hb1⟩
        rw [HN.out]
        have hB := (below1 w (.cells (Ty.cells ⟨2, cls, n, o0, o1, o2, o3⟩) 49)).trans (hb1.mono (by simp))
        have HB := Lib.hid hB
        clear hb1 hB
        go_wp2
        go_ret
        exact ⟨ret_b (by rw [HV.out, HN.out]; simp), HB.out⟩
    · have HV : Hid (Ty.right ⟨kd, cls, n, o0, o1, o2, o3⟩ p = false) := Lib.hid (Ty.right_other h0 h1 h2)
      have e0 := beq_no h0
      have e1 := beq_no h1
      have e2 := beq_no h2
      clear h0 h1 h2
      unfold Ty.cells
      go_enter Tryz.func93, Tryz.ntmps93
      go_wp2
      go_ret
      exact ⟨by rw [HV.out]; rfl, below1 w _⟩
end Go.Proofs.YtjghgpmkepfdhaaGreatDoor
