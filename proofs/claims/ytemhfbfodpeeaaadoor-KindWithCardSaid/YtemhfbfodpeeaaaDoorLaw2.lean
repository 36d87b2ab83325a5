/- The second law of layer 5 returns true for every input. Conditions: the table of words lies in memory. -/
import Derived.Test.YtemhfbfodpeeaaaDoorLaw
import Derived.Test.YtemhfbfodpeeaaaDoorRefWit
namespace Go.Proofs.YtemhfbfodpeeaaaDoor
open Go.RowKit
set_option linter.unusedVariables false

theorem sameO_self (t : Ty) : t.sameO t = true := by unfold Ty.sameO; simp
/-- Two slices read as one list of owners. -/
def Both (os : List Ow) (L g : Nat) (t : Ty) (W0 : World) (a b : Value) (wx : World) : Prop :=
  ∃ (A1 A2 : Option Addr) (c1 c2 : Nat), a = .slice A1 L c1 ∧ b = .slice A2 L c2 ∧ L ≤ c1 ∧ L ≤ c2 ∧ RO wx wx.heap.size A1 os ∧ RO wx wx.heap.size A2 os ∧ Below W0.heap.size W0 wx

set_option maxHeartbeats 4000000 in
theorem law_with (t : Ty) (A : Option Addr) (c : Nat) (l : List Ow) (w : World) (hW : WordsIn w) (hr : RO w w.heap.size A l) (hc : l.length ≤ c) :
    Calls Tryd.prog 4 #[.agg t.cells, .slice A l.length c] w fun e w' => e = .returned (.bool true) ∧ Below w.heap.size w w' := by
  obtain ⟨W0, hW0⟩ : ∃ W0, W0 = w.alloc (.cells t.cells 26) := ⟨_, rfl⟩
  have HB0 : Hid (Below w.heap.size w W0) := Lib.hid (by rw [hW0]; exact below1 w _)
  have HT0 : Hid (TyIn W0 w.heap.size t) := Lib.hid (by rw [hW0]; exact TyIn.new w t)
  have HW0 : Hid (WordsIn W0) := Lib.hid (hW.below HB0.out)
  have HR0 : Hid (RO W0 W0.heap.size A l) := Lib.hid ((hr.below HB0.out).more HB0.out.size)
  obtain ⟨g, hg⟩ : ∃ g, g = w.heap.size := ⟨_, rfl⟩
  rw [← hg] at HT0
  clear hW hr
  unfold Ty.cells at hW0 ⊢
  by_cases hbig : 20 < l.length
  · obtain ⟨L, hL⟩ : ∃ L, L = l.length := ⟨_, rfl⟩
    rw [← hL] at hbig ⊢
    clear hL hc
    go_enter Tryd.func4, Tryd.ntmps4
    go_wp2_with fail
    rw [← hW0]
    refine (awake_any _ HW0.out).mono ?_
    rintro e w1 ⟨rfl, hb1⟩
    go_wp2
    go_ret
    exact ⟨rfl, HB0.out.trans (hb1.mono HB0.out.size)⟩
  · have hn1 : l.length ≤ 20 := by omega
    clear hbig
    obtain ⟨os, hos⟩ : ∃ os, os = t.owners := ⟨_, rfl⟩
    obtain ⟨L, hL⟩ : ∃ L, L = os.length := ⟨_, rfl⟩
    have hL4 : L ≤ 4 := by rw [hL, hos]; unfold Ty.owners; split <;> simp; omega
    have HL := Lib.hid hL
    have C11 : Hid (∀ W, Calls Tryd.prog 11 #[.agg #[.int .i64 t.kind, .string t.cls, .int .i64 t.n, .int .i64 t.o0.kind, .int .i64 t.o0.n, .int .i64 t.o1.kind, .int .i64 t.o1.n, .int .i64 t.o2.kind, .int .i64 t.o2.n, .int .i64 t.o3.kind, .int .i64 t.o3.n]] W fun e w' => ∃ (A : Option Addr) (c : Nat), e = .returned (.slice A L c) ∧ L ≤ c ∧ Below W.heap.size W w' ∧ RO w' w'.heap.size A os) := Lib.hid (fun W => by
      rw [hL, hos]; exact (owners_any t W).mono fun e w' ⟨A, c, he, h1, h2, h3, _⟩ => ⟨A, c, he, h1, h2, h3⟩)
    have C12 : Hid (∀ W, Calls Tryd.prog 12 #[.agg #[.int .i64 t.kind, .string t.cls, .int .i64 t.n, .int .i64 t.o0.kind, .int .i64 t.o0.n, .int .i64 t.o1.kind, .int .i64 t.o1.n, .int .i64 t.o2.kind, .int .i64 t.o2.n, .int .i64 t.o3.kind, .int .i64 t.o3.n]] W fun e w' => ∃ (A : Option Addr) (c : Nat), e = .returned (.slice A L c) ∧ L ≤ c ∧ Below W.heap.size W w' ∧ RO w' w'.heap.size A os) := Lib.hid (fun W => by
      rw [hL, hos]; exact (refOwners_any t W).mono fun e w' ⟨A, c, he, h1, h2, h3, _⟩ => ⟨A, c, he, h1, h2, h3⟩)
    clear hos hL
    go_enter Tryd.func4, Tryd.ntmps4
    go_upto_region 3 with fail
    rw [← hW0, ← hg]
    clear hW0 hg
    go_cut [5, 6] (fun a b wx => Both os L g t W0 a b wx)
    case first =>
      have X : Below W0.heap.size W0 W0.drew := (Below.refl _ _).drew
      obtain ⟨f0, f1, f2, f3, f4, f5, f6, f7, f8, f9, f10⟩ := HT0.out.eleven
      have hgW := HT0.out.lt
      go_region_with (first
        | (go_at_call 11; (with_reducible refine (C11.out _).mono ?_); rintro e wa ⟨A1, c1, rfl, hc1, hba, hro1⟩; have X := X.trans (hba.mono X.size); have HRO1 := Lib.hid hro1; obtain ⟨f0, f1, f2, f3, f4, f5, f6, f7, f8, f9, f10⟩ := (HT0.out.below X).eleven; have hgW := (HT0.out.below X).lt; clear hba hro1)
        | (go_at_call 12; (with_reducible refine (C12.out _).mono ?_); rintro e wb ⟨A2, c2, rfl, hc2, hbb, hro2⟩; have X := X.trans (hbb.mono X.size); have HRO1 := Lib.hid ((HRO1.out.below hbb).more hbb.size); have HRO2 := Lib.hid hro2; obtain ⟨f0, f1, f2, f3, f4, f5, f6, f7, f8, f9, f10⟩ := (HT0.out.below X).eleven; have hgW := (HT0.out.below X).lt; clear hbb hro2))
      all_goals (go_wp2_with fail; go_meet; exact ⟨_, _, _, _, rfl, rfl, hc1, hc2, HRO1.out, HRO2.out, X⟩)
    case rest =>
      obtain ⟨A1, A2, c1, c2, rfl, rfl, hc1, hc2, hro1, hro2, hX⟩ := hcut
      obtain ⟨W1, hW1⟩ : ∃ W1, W1 = wc := ⟨_, rfl⟩
      subst hW1
      have HX1 := Lib.hid hX
      have HRO1 := Lib.hid hro1
      have HRO2 := Lib.hid hro2
      have HT1 := Lib.hid (HT0.out.below hX)
      have HW1 := Lib.hid (HW0.out.below hX)
      have HR1 : Hid (RO W1 W1.heap.size A l) := Lib.hid ((HR0.out.below hX).more hX.size)
      clear hX hro1 hro2
      go_wp2
      go_loopw [7] (fun i wr => ∃ k : Nat, k ≤ L ∧ i = .int .i64 k ∧ Hid (Below W1.heap.size W1 wr)) (fun i _ => L - (intOf i).toNat)
      case atStart => exact ⟨0, by omega, rfl, Lib.hid (Below.refl _ _)⟩
      case round =>
        obtain ⟨k, hk, rfl, hs⟩ := hrel
        by_cases hlt : k < L
        · have hlt' : k < os.length := by have := HL.out; omega
          obtain ⟨b1, o1, rfl, hB1, q0, q1⟩ := (HRO1.out.below hs.out).at_ hlt'
          obtain ⟨b2, o2, rfl, hB2, p0, p1⟩ := (HRO2.out.below hs.out).at_ hlt'
          obtain ⟨x, hx⟩ : ∃ x, x = os[k] := ⟨_, rfl⟩
          rw [← hx] at q0 q1 p0 p1
          have hsz := hs.out.size
          clear hx hlt'
          go_wp2
          go_quiet (fail)
          go_wp2
          go_roundw
          case rel => exact ⟨k + 1, by omega, by go_num, Lib.hid (below_drewN hs.out nq)⟩
          case measure => simp [intOf]; omega
        · obtain rfl : k = L := by omega
          obtain ⟨HS, hHS⟩ : ∃ HS : World → Prop, HS = Below W1.heap.size W1 := ⟨_, rfl⟩
          have HX : Hid (∀ W, HS W → Below W1.heap.size W1 W) := Lib.hid (fun W h => by rw [hHS] at h; exact h)
          have HI : Hid (∀ W, Below W1.heap.size W1 W → HS W) := Lib.hid (fun W h => by rw [hHS]; exact h)
          have HO : Hid (∀ W, HS W → W.cell? ⟨g, 0, none⟩ = some (.int .i64 t.kind) ∧ W.cell? ⟨g, 1, none⟩ = some (.string t.cls) ∧ W.cell? ⟨g, 2, none⟩ = some (.int .i64 t.n) ∧ W.cell? ⟨g, 3, none⟩ = some (.int .i64 t.o0.kind) ∧ W.cell? ⟨g, 4, none⟩ = some (.int .i64 t.o0.n) ∧ W.cell? ⟨g, 5, none⟩ = some (.int .i64 t.o1.kind) ∧ W.cell? ⟨g, 6, none⟩ = some (.int .i64 t.o1.n) ∧ W.cell? ⟨g, 7, none⟩ = some (.int .i64 t.o2.kind) ∧ W.cell? ⟨g, 8, none⟩ = some (.int .i64 t.o2.n) ∧ W.cell? ⟨g, 9, none⟩ = some (.int .i64 t.o3.kind) ∧ W.cell? ⟨g, 10, none⟩ = some (.int .i64 t.o3.n)) := Lib.hid (fun W h => (HT1.out.below (HX.out _ h)).eleven)
          have HM : Hid (∀ W W', HS W → Below W.heap.size W W' → HS W') := Lib.hid (fun W W' h hb => HI.out _ ((HX.out _ h).trans (hb.mono (HX.out _ h).size)))
          have HRW : Hid (∀ W, HS W → RO W W.heap.size A l) := Lib.hid (fun W h => (HR1.out.below (HX.out _ h)).more (HX.out _ h).size)
          have HWW : Hid (∀ W, HS W → WordsIn W) := Lib.hid (fun W h => HW1.out.below (HX.out _ h))
          obtain ⟨h, hh⟩ : ∃ h : Int, h = t.holes := ⟨_, rfl⟩
          obtain ⟨b, hb⟩ : ∃ b, b = t.uniq := ⟨_, rfl⟩
          obtain ⟨u, hu⟩ : ∃ u, u = t.with_ l := ⟨_, rfl⟩
          have hE := eqO u u (sameO_self u)
          have C13 : Hid (∀ W, HS W → Calls Tryd.prog 13 #[.agg #[.int .i64 t.kind, .string t.cls, .int .i64 t.n, .int .i64 t.o0.kind, .int .i64 t.o0.n, .int .i64 t.o1.kind, .int .i64 t.o1.n, .int .i64 t.o2.kind, .int .i64 t.o2.n, .int .i64 t.o3.kind, .int .i64 t.o3.n]] W fun e w' => e = .returned (.int .i64 h) ∧ HS w') := Lib.hid (fun W hS => by
            rw [hh]; exact (holes_any t W).mono fun e w' ⟨he, hb'⟩ => ⟨he, HM.out _ _ hS hb'⟩)
          have C14 : Hid (∀ W, HS W → Calls Tryd.prog 14 #[.agg #[.int .i64 t.kind, .string t.cls, .int .i64 t.n, .int .i64 t.o0.kind, .int .i64 t.o0.n, .int .i64 t.o1.kind, .int .i64 t.o1.n, .int .i64 t.o2.kind, .int .i64 t.o2.n, .int .i64 t.o3.kind, .int .i64 t.o3.n]] W fun e w' => e = .returned (.int .i64 h) ∧ HS w') := Lib.hid (fun W hS => by
            rw [hh]; exact (refHoles_any t W).mono fun e w' ⟨he, hb'⟩ => ⟨he, HM.out _ _ hS hb'⟩)
          have C15 : Hid (∀ W, HS W → Calls Tryd.prog 15 #[.agg #[.int .i64 t.kind, .string t.cls, .int .i64 t.n, .int .i64 t.o0.kind, .int .i64 t.o0.n, .int .i64 t.o1.kind, .int .i64 t.o1.n, .int .i64 t.o2.kind, .int .i64 t.o2.n, .int .i64 t.o3.kind, .int .i64 t.o3.n]] W fun e w' => e = .returned (.bool b) ∧ HS w') := Lib.hid (fun W hS => by
            rw [hb]; exact (unique_any t W).mono fun e w' ⟨he, hb'⟩ => ⟨he, HM.out _ _ hS hb'⟩)
          have C16 : Hid (∀ W, HS W → Calls Tryd.prog 16 #[.agg #[.int .i64 t.kind, .string t.cls, .int .i64 t.n, .int .i64 t.o0.kind, .int .i64 t.o0.n, .int .i64 t.o1.kind, .int .i64 t.o1.n, .int .i64 t.o2.kind, .int .i64 t.o2.n, .int .i64 t.o3.kind, .int .i64 t.o3.n]] W fun e w' => e = .returned (.bool b) ∧ HS w') := Lib.hid (fun W hS => by
            rw [hb]; exact (refUnique_any t W).mono fun e w' ⟨he, hb'⟩ => ⟨he, HM.out _ _ hS hb'⟩)
          have C17 : Hid (∀ W, HS W → Calls Tryd.prog 17 #[.agg #[.int .i64 t.kind, .string t.cls, .int .i64 t.n, .int .i64 t.o0.kind, .int .i64 t.o0.n, .int .i64 t.o1.kind, .int .i64 t.o1.n, .int .i64 t.o2.kind, .int .i64 t.o2.n, .int .i64 t.o3.kind, .int .i64 t.o3.n], .slice A l.length c] W fun e w' => e = .returned (.agg #[.int .i64 u.kind, .string u.cls, .int .i64 u.n, .int .i64 u.o0.kind, .int .i64 u.o0.n, .int .i64 u.o1.kind, .int .i64 u.o1.n, .int .i64 u.o2.kind, .int .i64 u.o2.n, .int .i64 u.o3.kind, .int .i64 u.o3.n]) ∧ HS w') := Lib.hid (fun W hS => by
            rw [hu]; exact (with_any t A c l W (HRW.out _ hS) (by omega) hc).mono fun e w' ⟨he, hb'⟩ => ⟨he, HM.out _ _ hS hb'⟩)
          have C18 : Hid (∀ W, HS W → Calls Tryd.prog 18 #[.agg #[.int .i64 t.kind, .string t.cls, .int .i64 t.n, .int .i64 t.o0.kind, .int .i64 t.o0.n, .int .i64 t.o1.kind, .int .i64 t.o1.n, .int .i64 t.o2.kind, .int .i64 t.o2.n, .int .i64 t.o3.kind, .int .i64 t.o3.n], .slice A l.length c] W fun e w' => e = .returned (.agg #[.int .i64 u.kind, .string u.cls, .int .i64 u.n, .int .i64 u.o0.kind, .int .i64 u.o0.n, .int .i64 u.o1.kind, .int .i64 u.o1.n, .int .i64 u.o2.kind, .int .i64 u.o2.n, .int .i64 u.o3.kind, .int .i64 u.o3.n]) ∧ HS w') := Lib.hid (fun W hS => by
            rw [hu]; exact (refWith_any t A c l W (HRW.out _ hS) (by omega) hc).mono fun e w' ⟨he, hb'⟩ => ⟨he, HM.out _ _ hS hb'⟩)
          have C6 : Hid (∀ W, HS W → Calls Tryd.prog 6 #[] W fun e w' => e = .returned (.bool true) ∧ HS w') := Lib.hid (fun W hS => (awake_any W (HWW.out _ hS)).mono fun e w' ⟨he, hb'⟩ => ⟨he, HM.out _ _ hS hb'⟩)
          have hS0 : HS wr := HI.out _ hs.out
          clear hHS hb hh hu
          go_upto_region 11 with fail
          go_region_held3 (fun w' => w'.cell? ⟨g, 0, none⟩ = some (.int .i64 t.kind) ∧ w'.cell? ⟨g, 1, none⟩ = some (.string t.cls) ∧ w'.cell? ⟨g, 2, none⟩ = some (.int .i64 t.n) ∧ w'.cell? ⟨g, 3, none⟩ = some (.int .i64 t.o0.kind) ∧ w'.cell? ⟨g, 4, none⟩ = some (.int .i64 t.o0.n) ∧ w'.cell? ⟨g, 5, none⟩ = some (.int .i64 t.o1.kind) ∧ w'.cell? ⟨g, 6, none⟩ = some (.int .i64 t.o1.n) ∧ w'.cell? ⟨g, 7, none⟩ = some (.int .i64 t.o2.kind) ∧ w'.cell? ⟨g, 8, none⟩ = some (.int .i64 t.o2.n) ∧ w'.cell? ⟨g, 9, none⟩ = some (.int .i64 t.o3.kind) ∧ w'.cell? ⟨g, 10, none⟩ = some (.int .i64 t.o3.n) ∧ HS w')
            (first | exact (show _ ∧ _ from ⟨(HO.out _ hS).1, (HO.out _ hS).2.1, (HO.out _ hS).2.2.1, (HO.out _ hS).2.2.2.1, (HO.out _ hS).2.2.2.2.1, (HO.out _ hS).2.2.2.2.2.1, (HO.out _ hS).2.2.2.2.2.2.1, (HO.out _ hS).2.2.2.2.2.2.2.1, (HO.out _ hS).2.2.2.2.2.2.2.2.1, (HO.out _ hS).2.2.2.2.2.2.2.2.2.1, (HO.out _ hS).2.2.2.2.2.2.2.2.2.2, hS⟩) | (have hS := HM.out _ _ hS0 ((Below.refl _ _).drew); exact ⟨(HO.out _ hS).1, (HO.out _ hS).2.1, (HO.out _ hS).2.2.1, (HO.out _ hS).2.2.2.1, (HO.out _ hS).2.2.2.2.1, (HO.out _ hS).2.2.2.2.2.1, (HO.out _ hS).2.2.2.2.2.2.1, (HO.out _ hS).2.2.2.2.2.2.2.1, (HO.out _ hS).2.2.2.2.2.2.2.2.1, (HO.out _ hS).2.2.2.2.2.2.2.2.2.1, (HO.out _ hS).2.2.2.2.2.2.2.2.2.2, hS⟩))
            (first
              | (go_at_call 13; (with_reducible refine (C13.out _ ?_).mono ?_); (go_split_ands; assumption); rintro e wa ⟨rfl, hS⟩)
              | (go_at_call 14; (with_reducible refine (C14.out _ ?_).mono ?_); (go_split_ands; assumption); rintro e wa ⟨rfl, hS⟩)
              | (go_at_call 15; (with_reducible refine (C15.out _ ?_).mono ?_); (go_split_ands; assumption); rintro e wa ⟨rfl, hS⟩)
              | (go_at_call 16; (with_reducible refine (C16.out _ ?_).mono ?_); (go_split_ands; assumption); rintro e wa ⟨rfl, hS⟩)
              | (go_at_call 17; (with_reducible refine (C17.out _ ?_).mono ?_); (go_split_ands; assumption); rintro e wa ⟨rfl, hS⟩)
              | (go_at_call 18; (with_reducible refine (C18.out _ ?_).mono ?_); (go_split_ands; assumption); rintro e wa ⟨rfl, hS⟩)
              | (go_at_call 6; (with_reducible refine (C6.out _ ?_).mono ?_); (go_split_ands; assumption); rintro e wa ⟨rfl, hS⟩))
          all_goals
            go_wp2
            go_ret
            refine ⟨rfl, HB0.out.trans (((HX1.out).trans ((HX.out _ ?_).mono HX1.out.size)).mono HB0.out.size)⟩
            go_split_ands
            assumption
end Go.Proofs.YtemhfbfodpeeaaaDoor
