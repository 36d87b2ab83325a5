/- Whether a type may be, as the document's answer tells it. Conditions: none. -/
import Derived.Test.YtjghgpmkepfdhaaGreatDoorZar
import Derived.Test.YtjghgpmkepfdhaaGreatDoorZas
namespace Go.Proofs.YtjghgpmkepfdhaaGreatDoor
open Go.RowKit
set_option linter.unusedVariables false

theorem ok_all {t : Ty} {p : Int} {k : Nat} {W0 wr : World} (h : Seen t p k W0 wr) (hk : ¬ k < 4) : t.okOw p = true := Ty.okOw_yes (fun j hj => h.2 j (by omega))

set_option maxHeartbeats 2000000 in
theorem refRight_any (t : Ty) (p : Int) (w : World) :
    Calls Tryz.prog 128 #[.agg t.cells, .int .i64 p] w fun e w' => e = .returned (.bool (t.right p)) ∧ Below w.heap.size w w' := by
  obtain ⟨kd, cls, n, o0, o1, o2, o3⟩ := t
  by_cases h01 : kd = 0 ∨ kd = 1
  · obtain ⟨b, hb⟩ : ∃ b, Ty.sameO ⟨kd, cls, n, o0, o1, o2, o3⟩ ⟨0, ⟨#[]⟩, 0, ⟨0, 0⟩, ⟨0, 0⟩, ⟨0, 0⟩, ⟨0, 0⟩⟩ = b := ⟨_, rfl⟩
    have HV := Lib.hid (right_void (p := p) h01 hb)
    have hE := eqZ _ hb
    simp only at hE
    unfold Ty.cells
    rcases h01 with rfl | rfl
    all_goals
      clear hb
      go_enter Tryz.func128, Tryz.ntmps128
      go_wp2
      all_goals
        go_ret
        refine ⟨ret_b ?_, below1 w _⟩
        rw [HV.out]
        first
          | (rename_i h1 h2 h3; have h1' := empty_of h1; simp [h1', h2, h3]; done)
          | (rename_i h1 h2; have h1' := empty_of h1; simp [h1', h2]; done)
          | (rename_i h1; have h1' := nonempty_of h1; simp [h1']; done)
  · have h0 : ¬ kd = 0 := fun e => h01 (.inl e)
    have h1 : ¬ kd = 1 := fun e => h01 (.inr e)
    clear h01
    by_cases h2 : kd = 2
    · subst h2
      clear h0 h1
      have HV : Hid (Ty.right ⟨2, cls, n, o0, o1, o2, o3⟩ p = (Wd.nameB cls && decide (0 ≤ n) && decide (n ≤ 3) && Ty.okOw ⟨2, cls, n, o0, o1, o2, o3⟩ p)) := Lib.hid (Ty.right_obj rfl)
      have HT : Hid (TyIn (w.alloc (.cells (Ty.cells ⟨2, cls, n, o0, o1, o2, o3⟩) 49)) w.heap.size ⟨2, cls, n, o0, o1, o2, o3⟩) := Lib.hid (TyIn.new w _)
      by_cases hn : Wd.nameB cls = true
      · have HN := Lib.hid hn
        clear hn
        unfold Ty.cells at HT ⊢
        go_enter Tryz.func128, Tryz.ntmps128
        go_wp2_with fail
        refine (refName_any cls _).mono ?_
        rintro e w1 ⟨rfl, hb1⟩
        rw [HN.out]
        have HT1 := Lib.hid (HT.out.below hb1)
        obtain ⟨hB, c0, c1, c2, c3, c4, c5, c6, c7, c8, c9, c10, hg⟩ := HT1.out.after (below1 w _) hb1
        have HB := Lib.hid hB
        clear hb1 hB HT
        by_cases h0 : 0 ≤ n
        · by_cases h3 : n ≤ 3
          · obtain ⟨g, hgg⟩ : ∃ g, g = w.heap.size := ⟨_, rfl⟩
            rw [← hgg] at HT1 c0 c1 c2 c3 c4 c5 c6 c7 c8 c9 c10 hg ⊢
            clear hgg
            go_wp2
            go_loopw [5] (fun i wr => ∃ k : Nat, k ≤ 4 ∧ i = .int .i64 k ∧ Hid (Seen ⟨2, cls, n, o0, o1, o2, o3⟩ p k w1 wr)) (fun i _ => 4 - (intOf i).toNat)
            case atStart => exact ⟨0, by omega, rfl, Lib.hid ⟨Below.refl _ _, fun j hj => by omega⟩⟩
            case round =>
              obtain ⟨k, hk, rfl, hs⟩ := hrel
              clear c0 c1 c2 c3 c4 c5 c6 c7 c8 c9 c10
              have hsz := hs.out.1.size
              have HTr := Lib.hid (HT1.out.below hs.out.1)
              have hgr := HTr.out.lt
              have c2 : wr.cell? ⟨g, 2, none⟩ = some (.int .i64 n) := HTr.out.cell 2
              by_cases hlt : k < 4
              · obtain ⟨q0, q1⟩ := HTr.out.own hlt
                obtain ⟨x, hx⟩ : ∃ x, x = Ty.own ⟨2, cls, n, o0, o1, o2, o3⟩ k := ⟨_, rfl⟩
                rw [← hx] at q0 q1
                have HX := Lib.hid hx
                have HW := Lib.hid hlt
                clear hx
                have HBr := Lib.hid (HB.out.trans (hs.out.1.mono HB.out.size))
                by_cases hkn : (k : Int) ≤ n
                · have HK : Hid ((k : Int) ≤ Ty.n ⟨2, cls, n, o0, o1, o2, o3⟩) := Lib.hid hkn
                  have hkn' : ¬ n < (k : Int) := by omega
                  by_cases hr : x.right p = true
                  · have HR := Lib.hid hr
                    clear hr
                    go_wp2_with fail
                    refine (refORight_kn _ _ _ _).mono ?_
                    rintro e w2 ⟨rfl, hb2⟩
                    rw [HR.out]
                    obtain ⟨hB2, z1, z2, z3⟩ := box2 hb2
                    have HB2 := Lib.hid hB2
                    clear hb2 hB2
                    by_cases hu : 0 < k ∧ x.kind = 6
                    · have HU := Lib.hid (Ty.okOw_no (p := p) k HW.out (bad_uniq HK.out hu.1 (by rw [← HX.out]; exact hu.2)))
                      have hu6 := hu.2
                      have hu0 := hu.1
                      rw [hu6] at z1
                      clear hu hu6
                      go_wp2
                      go_ret
                      exact ⟨ret_b (by rw [HV.out, HU.out]; simp), HBr.out.trans (HB2.out.mono HBr.out.size)⟩
                    · have HU := Lib.hid (bad_not (p := p) HK.out (by rw [← HX.out]; exact HR.out) (by rw [← HX.out]; exact hu))
                      by_cases hk0 : 0 < k
                      · have e6 : (x.kind == 6) = false := beq_no (fun e => hu ⟨hk0, e⟩)
                        clear hu
                        go_wp2
                        go_roundw
                        case rel => exact ⟨k + 1, by omega, by go_num, Lib.hid (hs.out.next HU.out HB2.out)⟩
                        case measure => simp [intOf]; omega
                      · obtain rfl : k = 0 := by omega
                        clear hu
                        go_wp2
                        go_roundw
                        case rel => exact ⟨1, by omega, by go_num, Lib.hid (hs.out.next HU.out HB2.out)⟩
                        case measure => simp [intOf]
                  · have hrf : x.right p = false := by simpa using hr
                    have HR := Lib.hid hrf
                    have HU := Lib.hid (Ty.okOw_no (p := p) k HW.out (bad_right HK.out (by rw [← HX.out]; exact hrf)))
                    clear hr hrf
                    go_wp2_with fail
                    refine (refORight_kn _ _ _ _).mono ?_
                    rintro e w2 ⟨rfl, hb2⟩
                    rw [HR.out]
                    obtain ⟨hB2, z1, z2, z3⟩ := box2 hb2
                    have HB2 := Lib.hid hB2
                    clear hb2 hB2
                    go_wp2
                    go_ret
                    exact ⟨ret_b (by rw [HV.out, HU.out]; simp), HBr.out.trans (HB2.out.mono HBr.out.size)⟩
                · have HK : Hid (¬ (k : Int) ≤ Ty.n ⟨2, cls, n, o0, o1, o2, o3⟩) := Lib.hid hkn
                  have hkn' : n < (k : Int) := by omega
                  by_cases hz : x.kind = 0 ∧ x.n = 0
                  · have HU := Lib.hid (bad_gone (p := p) HK.out (by rw [← HX.out]; exact zero_yes hz.1 hz.2))
                    rw [hz.1] at q0
                    rw [hz.2] at q1
                    clear hz
                    go_wp2
                    go_roundw
                    case rel => exact ⟨k + 1, by omega, by go_num, Lib.hid (hs.out.next HU.out (below1 _ _))⟩
                    case measure => simp [intOf]; omega
                  · have HU := Lib.hid (Ty.okOw_no (p := p) k HW.out (bad_there HK.out (by rw [← HX.out]; exact zero_no hz)))
                    by_cases hz0 : x.kind = 0
                    · have hz1 : (x.n == 0) = false := beq_no (fun e => hz ⟨hz0, e⟩)
                      rw [hz0] at q0
                      clear hz hz0
                      go_wp2
                      go_ret
                      exact ⟨ret_b (by rw [HV.out, HU.out]; simp), HBr.out.alloc HBr.out.size _⟩
                    · have hz1 : (x.kind == 0) = false := beq_no hz0
                      clear hz hz0
                      go_wp2
                      go_ret
                      exact ⟨ret_b (by rw [HV.out, HU.out]; simp), HBr.out.alloc HBr.out.size _⟩
              · have HU := Lib.hid (ok_all hs.out hlt)
                obtain rfl : k = 4 := by omega
                go_wp2
                go_ret
                exact ⟨ret_b (by rw [HV.out, HU.out, HN.out]; simp [h0, h3]), HB.out.trans (hs.out.1.mono HB.out.size)⟩
          · go_wp2
            go_ret
            exact ⟨ret_b (by rw [HV.out, HN.out, decide_eq_false (by omega : ¬ n ≤ 3)]; simp), HB.out⟩
        · go_wp2
          go_ret
          exact ⟨ret_b (by rw [HV.out, HN.out, decide_eq_false (by omega : ¬ 0 ≤ n)]; simp), HB.out⟩
      · have hn' : Wd.nameB cls = false := by simpa using hn
        have HN := Lib.hid hn'
        clear hn hn'
        unfold Ty.cells at HT ⊢
        go_enter Tryz.func128, Tryz.ntmps128
        go_wp2_with fail
        refine (refName_any cls _).mono ?_
        rintro e w1 ⟨rfl, hb1⟩
        rw [HN.out]
        have hB := (below1 w (.cells (Ty.cells ⟨2, cls, n, o0, o1, o2, o3⟩) 49)).trans (hb1.mono (by simp))
        have HB := Lib.hid hB
        clear hb1 hB
        go_wp2
        go_ret
        exact ⟨ret_b (by rw [HV.out, HN.out]; simp), HB.out⟩
    · have HV : Hid (Ty.right ⟨kd, cls, n, o0, o1, o2, o3⟩ p = false) := Lib.hid (Ty.right_other h0 h1 h2)
      have e0 := beq_no h0
      have e1 := beq_no h1
      have e2 := beq_no h2
      have e2' : (kd != 2) = true := by simpa using h2
      clear h0 h1 h2
      unfold Ty.cells
      go_enter Tryz.func128, Tryz.ntmps128
      go_wp2
      go_ret
      exact ⟨by rw [HV.out]; rfl, below1 w _⟩
end Go.Proofs.YtjghgpmkepfdhaaGreatDoor
