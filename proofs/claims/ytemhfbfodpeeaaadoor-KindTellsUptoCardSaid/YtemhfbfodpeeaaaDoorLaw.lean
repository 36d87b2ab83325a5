/- The first law of layer 5 returns true. Conditions: the table of words lies in memory; no parameter takes more than 2000000 bytes. -/
import Derived.Test.YtemhfbfodpeeaaaDoorAwake
import Derived.Test.YtemhfbfodpeeaaaDoorRefTxt
namespace Go.Proofs.YtemhfbfodpeeaaaDoor
open Go.RowKit
set_option linter.unusedVariables false

set_option maxHeartbeats 4000000 in
theorem law_tells (t : Ty) (n : Int) (A : Option Addr) (c : Nat) (ps : List ByteArray) (w : World) (hW : WordsIn w) (hr : RS w w.heap.size A ps) (hc : ps.length ≤ c)
    (hps : ∀ i, (hi : i < ps.length) → ps[i].size ≤ 2000000) :
    Calls Tryd.prog 3 #[.agg t.cells, .int .i64 n, .slice A ps.length c] w fun e w' => e = .returned (.bool true) ∧ Below w.heap.size w w' := by
  obtain ⟨W0, hW0⟩ : ∃ W0, W0 = w.alloc (.cells t.cells 26) := ⟨_, rfl⟩
  have HB0 : Hid (Below w.heap.size w W0) := Lib.hid (by rw [hW0]; exact below1 w _)
  have HT0 : Hid (TyIn W0 w.heap.size t) := Lib.hid (by rw [hW0]; exact TyIn.new w t)
  have HW0 : Hid (WordsIn W0) := Lib.hid (hW.below HB0.out)
  have HR0 : Hid (RS W0 W0.heap.size A ps) := Lib.hid ((hr.below HB0.out).more HB0.out.size)
  have HP := Lib.hid hps
  obtain ⟨g, hg⟩ : ∃ g, g = w.heap.size := ⟨_, rfl⟩
  rw [← hg] at HT0
  clear hW hr hps
  unfold Ty.cells at hW0 ⊢
  by_cases hbig : 20 < ps.length ∨ 60 < t.cls.size
  · obtain ⟨L, hL⟩ : ∃ L, L = ps.length := ⟨_, rfl⟩
    rw [← hL] at hbig ⊢
    clear hL hc
    by_cases hb1 : 20 < L
    · clear hbig
      go_enter Tryd.func3, Tryd.ntmps3
      go_wp2_with fail
      rw [← hW0]
      refine (awake_any _ HW0.out).mono ?_
      rintro e w1 ⟨rfl, hb1⟩
      go_wp2
      go_ret
      exact ⟨rfl, HB0.out.trans (hb1.mono HB0.out.size)⟩
    · have hb2 : 60 < t.cls.size := by omega
      have hb3 : L ≤ 20 := by omega
      clear hbig hb1
      go_enter Tryd.func3, Tryd.ntmps3
      go_wp2_with fail
      rw [← hW0]
      refine (awake_any _ HW0.out).mono ?_
      rintro e w1 ⟨rfl, hb1⟩
      go_wp2
      go_ret
      exact ⟨rfl, HB0.out.trans (hb1.mono HB0.out.size)⟩
  · have hn1 : ps.length ≤ 20 := by omega
    have hn2 : t.cls.size ≤ 60 := by omega
    clear hbig
    obtain ⟨b, hb⟩ : ∃ b, b = t.right n := ⟨_, rfl⟩
    obtain ⟨s, hs⟩ : ∃ s : ByteArray, s = ⟨(t.txt ps).toArray⟩ := ⟨_, rfl⟩
    obtain ⟨HS, hHS⟩ : ∃ HS : World → Prop, HS = Below W0.heap.size W0 := ⟨_, rfl⟩
    have HX : Hid (∀ W, HS W → Below W0.heap.size W0 W) := Lib.hid (fun W h => by rw [hHS] at h; exact h)
    have HI : Hid (∀ W, Below W0.heap.size W0 W → HS W) := Lib.hid (fun W h => by rw [hHS]; exact h)
    have HO : Hid (∀ W, HS W → W.cell? ⟨g, 0, none⟩ = some (.int .i64 t.kind) ∧ W.cell? ⟨g, 1, none⟩ = some (.string t.cls) ∧ W.cell? ⟨g, 2, none⟩ = some (.int .i64 t.n) ∧ W.cell? ⟨g, 3, none⟩ = some (.int .i64 t.o0.kind) ∧ W.cell? ⟨g, 4, none⟩ = some (.int .i64 t.o0.n) ∧ W.cell? ⟨g, 5, none⟩ = some (.int .i64 t.o1.kind) ∧ W.cell? ⟨g, 6, none⟩ = some (.int .i64 t.o1.n) ∧ W.cell? ⟨g, 7, none⟩ = some (.int .i64 t.o2.kind) ∧ W.cell? ⟨g, 8, none⟩ = some (.int .i64 t.o2.n) ∧ W.cell? ⟨g, 9, none⟩ = some (.int .i64 t.o3.kind) ∧ W.cell? ⟨g, 10, none⟩ = some (.int .i64 t.o3.n)) := Lib.hid (fun W h => (HT0.out.below (HX.out _ h)).eleven)
    have HM : Hid (∀ W W', HS W → Below W.heap.size W W' → HS W') := Lib.hid (fun W W' h hb => HI.out _ ((HX.out _ h).trans (hb.mono (HX.out _ h).size)))
    have HRW : Hid (∀ W, HS W → RS W W.heap.size A ps) := Lib.hid (fun W h => (HR0.out.below (HX.out _ h)).more (HX.out _ h).size)
    have HWW : Hid (∀ W, HS W → WordsIn W) := Lib.hid (fun W h => HW0.out.below (HX.out _ h))
    have C7 : Hid (∀ W, HS W → Calls Tryd.prog 7 #[.agg #[.int .i64 t.kind, .string t.cls, .int .i64 t.n, .int .i64 t.o0.kind, .int .i64 t.o0.n, .int .i64 t.o1.kind, .int .i64 t.o1.n, .int .i64 t.o2.kind, .int .i64 t.o2.n, .int .i64 t.o3.kind, .int .i64 t.o3.n], .int .i64 n] W fun e w' => e = .returned (.bool b) ∧ HS w') := Lib.hid (fun W h => by
      rw [hb]; exact (right_any t n W (HWW.out _ h)).mono fun e w' ⟨he, hb'⟩ => ⟨he, HM.out _ _ h hb'⟩)
    have C8 : Hid (∀ W, HS W → Calls Tryd.prog 8 #[.agg #[.int .i64 t.kind, .string t.cls, .int .i64 t.n, .int .i64 t.o0.kind, .int .i64 t.o0.n, .int .i64 t.o1.kind, .int .i64 t.o1.n, .int .i64 t.o2.kind, .int .i64 t.o2.n, .int .i64 t.o3.kind, .int .i64 t.o3.n], .int .i64 n] W fun e w' => e = .returned (.bool b) ∧ HS w') := Lib.hid (fun W h => by
      rw [hb]; exact (refRight_any t n W).mono fun e w' ⟨he, hb'⟩ => ⟨he, HM.out _ _ h hb'⟩)
    have C9 : Hid (∀ W, HS W → Calls Tryd.prog 9 #[.agg #[.int .i64 t.kind, .string t.cls, .int .i64 t.n, .int .i64 t.o0.kind, .int .i64 t.o0.n, .int .i64 t.o1.kind, .int .i64 t.o1.n, .int .i64 t.o2.kind, .int .i64 t.o2.n, .int .i64 t.o3.kind, .int .i64 t.o3.n], .slice A ps.length c] W fun e w' => e = .returned (.string s) ∧ HS w') := Lib.hid (fun W h => by
      rw [hs]; exact (text_any t A c ps W (HWW.out _ h) (HRW.out _ h) (by omega) hc HP.out).mono fun e w' ⟨he, hb'⟩ => ⟨he, HM.out _ _ h hb'⟩)
    have C10 : Hid (∀ W, HS W → Calls Tryd.prog 10 #[.agg #[.int .i64 t.kind, .string t.cls, .int .i64 t.n, .int .i64 t.o0.kind, .int .i64 t.o0.n, .int .i64 t.o1.kind, .int .i64 t.o1.n, .int .i64 t.o2.kind, .int .i64 t.o2.n, .int .i64 t.o3.kind, .int .i64 t.o3.n], .slice A ps.length c] W fun e w' => e = .returned (.string s) ∧ HS w') := Lib.hid (fun W h => by
      rw [hs]; exact (refText_any t A c ps W (HRW.out _ h) (by omega) hc HP.out).mono fun e w' ⟨he, hb'⟩ => ⟨he, HM.out _ _ h hb'⟩)
    have C6 : Hid (∀ W, HS W → Calls Tryd.prog 6 #[] W fun e w' => e = .returned (.bool true) ∧ HS w') := Lib.hid (fun W h => (awake_any W (HWW.out _ h)).mono fun e w' ⟨he, hb'⟩ => ⟨he, HM.out _ _ h hb'⟩)
    have hS0 : HS W0 := HI.out _ (Below.refl _ _)
    clear hHS hb hs
    go_enter Tryd.func3, Tryd.ntmps3
    go_upto_region 3 with fail
    rw [← hW0, ← hg]
    clear hW0 hg
    go_region_held3 (fun w' => w'.cell? ⟨g, 0, none⟩ = some (.int .i64 t.kind) ∧ w'.cell? ⟨g, 1, none⟩ = some (.string t.cls) ∧ w'.cell? ⟨g, 2, none⟩ = some (.int .i64 t.n) ∧ w'.cell? ⟨g, 3, none⟩ = some (.int .i64 t.o0.kind) ∧ w'.cell? ⟨g, 4, none⟩ = some (.int .i64 t.o0.n) ∧ w'.cell? ⟨g, 5, none⟩ = some (.int .i64 t.o1.kind) ∧ w'.cell? ⟨g, 6, none⟩ = some (.int .i64 t.o1.n) ∧ w'.cell? ⟨g, 7, none⟩ = some (.int .i64 t.o2.kind) ∧ w'.cell? ⟨g, 8, none⟩ = some (.int .i64 t.o2.n) ∧ w'.cell? ⟨g, 9, none⟩ = some (.int .i64 t.o3.kind) ∧ w'.cell? ⟨g, 10, none⟩ = some (.int .i64 t.o3.n) ∧ HS w')
      (first | exact (show _ ∧ _ from ⟨(HO.out _ hS).1, (HO.out _ hS).2.1, (HO.out _ hS).2.2.1, (HO.out _ hS).2.2.2.1, (HO.out _ hS).2.2.2.2.1, (HO.out _ hS).2.2.2.2.2.1, (HO.out _ hS).2.2.2.2.2.2.1, (HO.out _ hS).2.2.2.2.2.2.2.1, (HO.out _ hS).2.2.2.2.2.2.2.2.1, (HO.out _ hS).2.2.2.2.2.2.2.2.2.1, (HO.out _ hS).2.2.2.2.2.2.2.2.2.2, hS⟩) | (have hS := HI.out _ ((Below.refl _ _).drew); exact ⟨(HO.out _ hS).1, (HO.out _ hS).2.1, (HO.out _ hS).2.2.1, (HO.out _ hS).2.2.2.1, (HO.out _ hS).2.2.2.2.1, (HO.out _ hS).2.2.2.2.2.1, (HO.out _ hS).2.2.2.2.2.2.1, (HO.out _ hS).2.2.2.2.2.2.2.1, (HO.out _ hS).2.2.2.2.2.2.2.2.1, (HO.out _ hS).2.2.2.2.2.2.2.2.2.1, (HO.out _ hS).2.2.2.2.2.2.2.2.2.2, hS⟩))
      (first
        | (go_at_call 7; (with_reducible refine (C7.out _ ?_).mono ?_); (go_split_ands; assumption); rintro e wa ⟨rfl, hS⟩)
        | (go_at_call 8; (with_reducible refine (C8.out _ ?_).mono ?_); (go_split_ands; assumption); rintro e wa ⟨rfl, hS⟩)
        | (go_at_call 9; (with_reducible refine (C9.out _ ?_).mono ?_); (go_split_ands; assumption); rintro e wa ⟨rfl, hS⟩)
        | (go_at_call 10; (with_reducible refine (C10.out _ ?_).mono ?_); (go_split_ands; assumption); rintro e wa ⟨rfl, hS⟩)
        | (go_at_call 6; (with_reducible refine (C6.out _ ?_).mono ?_); (go_split_ands; assumption); rintro e wa ⟨rfl, hS⟩))
    all_goals
      go_wp2
      go_ret
      refine ⟨rfl, HB0.out.trans ((HX.out _ ?_).mono HB0.out.size)⟩
      go_split_ands
      assumption
end Go.Proofs.YtemhfbfodpeeaaaDoor
