/- Whether a type may be, as the program tells it. Conditions: the table of words lies in memory. -/
import Derived.Test.YtjghgpmkepfdhaaGreatDoorZam
import Derived.Test.YtjghgpmkepfdhaaGreatDoorZao
namespace Go.Proofs.YtjghgpmkepfdhaaGreatDoor
open Go.RowKit
set_option linter.unusedVariables false

/-- Each of a type's owners as it lies in its block. -/
theorem TyIn.own {w : World} {g : Nat} {t : Ty} (h : TyIn w g t) {i : Nat} (hi : i < 4) : w.cell? ⟨g, 3 + i * 2, none⟩ = some (.int .i64 (t.own i).kind) ∧ w.cell? ⟨g, 3 + i * 2 + 1, none⟩ = some (.int .i64 (t.own i).n) := by
  match i, hi with
  | 0, _ => exact ⟨h.cell 3, h.cell 4⟩
  | 1, _ => exact ⟨h.cell 5, h.cell 6⟩
  | 2, _ => exact ⟨h.cell 7, h.cell 8⟩
  | 3, _ => exact ⟨h.cell 9, h.cell 10⟩

theorem TyIn.own_at {w : World} {g : Nat} {t : Ty} (h : TyIn w g t) {i off : Nat} (hi : i < 4) (ho : off = 3 + i * 2) : w.cell? ⟨g, off, none⟩ = some (.int .i64 (t.own i).kind) ∧ w.cell? ⟨g, off + 1, none⟩ = some (.int .i64 (t.own i).n) := by
  subst ho; exact h.own hi

theorem bad_in {t : Ty} {p : Int} {i : Nat} (h : (i : Int) ≤ t.n) : t.bad p i = (!((t.own i).right p) || (decide (0 < i) && decide ((t.own i).kind = 6))) := by unfold Ty.bad; rw [if_pos h]
theorem bad_out {t : Ty} {p : Int} {i : Nat} (h : ¬ (i : Int) ≤ t.n) : t.bad p i = !(Ty.isZero (t.own i)) := by unfold Ty.bad; rw [if_neg h]

theorem bad_right {t : Ty} {p : Int} {i : Nat} (h : (i : Int) ≤ t.n) (hr : (t.own i).right p = false) : t.bad p i = true := by rw [bad_in h, hr]; rfl
theorem bad_uniq {t : Ty} {p : Int} {i : Nat} (h : (i : Int) ≤ t.n) (h0 : 0 < i) (hu : (t.own i).kind = 6) : t.bad p i = true := by rw [bad_in h, decide_eq_true h0, decide_eq_true hu]; simp
theorem bad_not {t : Ty} {p : Int} {i : Nat} (h : (i : Int) ≤ t.n) (hr : (t.own i).right p = true) (hu : ¬ (0 < i ∧ (t.own i).kind = 6)) : t.bad p i = false := by
  rw [bad_in h, hr]
  simp only [Bool.not_true, Bool.false_or]
  rw [← Bool.decide_and]
  exact decide_eq_false hu
theorem bad_gone {t : Ty} {p : Int} {i : Nat} (h : ¬ (i : Int) ≤ t.n) (hz : Ty.isZero (t.own i) = true) : t.bad p i = false := by rw [bad_out h, hz]; rfl
theorem bad_there {t : Ty} {p : Int} {i : Nat} (h : ¬ (i : Int) ≤ t.n) (hz : Ty.isZero (t.own i) = false) : t.bad p i = true := by rw [bad_out h, hz]; rfl
theorem zero_yes {o : Ow} (h0 : o.kind = 0) (h1 : o.n = 0) : Ty.isZero o = true := by unfold Ty.isZero; rw [decide_eq_true h0, decide_eq_true h1]; rfl
theorem zero_no {o : Ow} (h : ¬ (o.kind = 0 ∧ o.n = 0)) : Ty.isZero o = false := by unfold Ty.isZero; rw [← Bool.decide_and]; exact decide_eq_false h

/-- What the first loop has seen, and what the second one. -/
def Seen (t : Ty) (p : Int) (k : Nat) (W0 wr : World) : Prop := Below W0.heap.size W0 wr ∧ ∀ j, j < k → t.bad p j = false
theorem Seen.next {t : Ty} {p : Int} {k : Nat} {W0 wr w' : World} (h : Seen t p k W0 wr) (hb : t.bad p k = false) (hw : Below wr.heap.size wr w') : Seen t p (k + 1) W0 w' :=
  ⟨h.1.trans (hw.mono h.1.size), fun j hj => by
    by_cases e : j = k
    · subst e; exact hb
    · exact h.2 j (by omega)⟩

set_option maxHeartbeats 2000000 in
/-- The owners of an object's type. -/
theorem ownersRight_any (t : Ty) (p : Int) (w : World) (h2 : t.kind = 2) (h0 : 0 ≤ t.n) (h3 : t.n ≤ 3) :
    Calls Tryz.prog 121 #[.agg t.cells, .int .i64 p] w fun e w' => e = .returned (.bool (t.okOw p)) ∧ Below w.heap.size w w' := by
  have HT : Hid (TyIn (w.alloc (.cells t.cells 49)) w.heap.size t) := Lib.hid (TyIn.new w t)
  have hc := Ty.cnt_mid h0 h3
  have hc3 := t.cnt_le
  have HV := Lib.hid (cut_obj (g := w.heap.size) h2 t.cnt rfl)
  obtain ⟨m, hm⟩ : ∃ m, m = t.cnt := ⟨_, rfl⟩
  rw [← hm] at hc hc3 HV
  have HC := Lib.hid hc
  clear hm h2 h0 h3 hc
  unfold Ty.cells at HT ⊢
  go_enter Tryz.func121, Tryz.ntmps121
  go_wp2_with fail
  refine (cut_any _ t _ HT.out).mono ?_
  rintro e w1 ⟨rfl, rfl⟩
  rw [HV.out]
  obtain ⟨W0, hW0⟩ : ∃ W0, W0 = w.alloc (.cells t.cells 49) := ⟨_, rfl⟩
  have HT0 : Hid (TyIn W0 w.heap.size t) := Lib.hid (by rw [hW0]; exact TyIn.new w t)
  have HB0 : Hid (Below w.heap.size w W0) := Lib.hid (by rw [hW0]; exact below1 w _)
  unfold Ty.cells at hW0
  rw [← hW0]
  clear hW0 HT HV
  obtain ⟨g, hg⟩ : ∃ g, g = w.heap.size := ⟨_, rfl⟩
  rw [← hg] at HT0 ⊢
  have HG := Lib.hid hg
  clear hg
  go_wp2
  go_loopw [13] (fun i wr => ∃ k : Nat, k ≤ m + 1 ∧ i = .int .i64 k ∧ Hid (Seen t p k W0 wr)) (fun i _ => m + 1 - (intOf i).toNat)
  case atStart => exact ⟨0, by omega, rfl, Lib.hid ⟨Below.refl _ _, fun j hj => by omega⟩⟩
  case round =>
    obtain ⟨k, hk, rfl, hs⟩ := hrel
    have hsz := hs.out.1.size
    have HTr : Hid (TyIn wr g t) := Lib.hid (HT0.out.below hs.out.1)
    have hgr := HTr.out.lt
    by_cases hlt : k < m + 1
    · obtain ⟨q0, q1⟩ := HTr.out.own (i := k) (by omega)
      have HK : Hid ((k : Int) ≤ t.n) := Lib.hid (by have := HC.out; omega)
      have HW : Hid (k < 4) := Lib.hid (by omega)
      obtain ⟨x, hx⟩ : ∃ x, x = t.own k := ⟨_, rfl⟩
      rw [← hx] at q0 q1
      have HX := Lib.hid hx
      clear hx
      by_cases hr : x.right p = true
      · have HR := Lib.hid hr
        clear hr
        go_wp2_with fail
        refine (oright_kn _ _ _ _).mono ?_
        rintro e w1 ⟨rfl, hb1⟩
        rw [HR.out]
        obtain ⟨hB, z1, z2, z3⟩ := box2 hb1
        have HB := Lib.hid hB
        clear hb1 hB
        by_cases hu : 0 < k ∧ x.kind = 6
        · have HU := Lib.hid (Ty.okOw_no (p := p) k HW.out (bad_uniq HK.out hu.1 (by rw [← HX.out]; exact hu.2)))
          have hu6 := hu.2
          have hu0 := hu.1
          rw [hu6] at z1
          clear hu hu6
          go_wp2
          go_ret
          exact ⟨by rw [HU.out]; rfl, (HB0.out.trans (hs.out.1.mono HB0.out.size)).trans (HB.out.mono (by have := HB0.out.size; omega))⟩
        · have HU := Lib.hid (bad_not (t := t) (p := p) HK.out (by rw [← HX.out]; exact HR.out) (by rw [← HX.out]; exact hu))
          by_cases hk0 : 0 < k
          · have e6 : (x.kind == 6) = false := beq_no (fun e => hu ⟨hk0, e⟩)
            clear hu
            go_wp2
            go_roundw
            case rel => exact ⟨k + 1, by omega, by go_num, Lib.hid (hs.out.next HU.out HB.out)⟩
            case measure => simp [intOf]; omega
          · obtain rfl : k = 0 := by omega
            clear hu
            go_wp2
            go_roundw
            case rel => exact ⟨1, by omega, by go_num, Lib.hid (hs.out.next HU.out HB.out)⟩
            case measure => simp [intOf]
      · have hrf : x.right p = false := by simpa using hr
        have HR := Lib.hid hrf
        have HU := Lib.hid (Ty.okOw_no (p := p) k HW.out (bad_right HK.out (by rw [← HX.out]; exact hrf)))
        clear hr hrf
        go_wp2_with fail
        refine (oright_kn _ _ _ _).mono ?_
        rintro e w1 ⟨rfl, hb1⟩
        rw [HR.out]
        obtain ⟨hB, z1, z2, z3⟩ := box2 hb1
        have HB := Lib.hid hB
        clear hb1 hB
        go_wp2
        go_ret
        exact ⟨by rw [HU.out]; rfl, (HB0.out.trans (hs.out.1.mono HB0.out.size)).trans (HB.out.mono (by have := HB0.out.size; omega))⟩
    · have HS1 : Hid (∀ j, j < m + 1 → t.bad p j = false) := Lib.hid (fun j hj => hs.out.2 j (by omega))
      have HBr := Lib.hid hs.out.1
      obtain rfl : k = m + 1 := by omega
      clear hs hk hlt
      rcases (show m = 0 ∨ m = 1 ∨ m = 2 ∨ m = 3 by omega) with rfl | rfl | rfl | rfl
      · have HN : Hid (t.n = 0) := Lib.hid (by have := HC.out; omega)
        have HSm : Hid (Seen t p (1 + 0) W0 wr) := Lib.hid ⟨HBr.out, fun j hj => HS1.out j (by omega)⟩
        go_wp2
        go_loopw [37] (fun i wr2 => ∃ k : Nat, k ≤ 3 ∧ i = .int .i64 k ∧ Hid (Seen t p (1 + k) W0 wr2)) (fun i _ => 3 - (intOf i).toNat)
        case atStart => exact ⟨0, by omega, rfl, HSm⟩
        case round =>
          obtain ⟨k, hk, rfl, hs⟩ := hrel
          have hsz2 := hs.out.1.size
          by_cases hlt : k < 3
          · have HTr2 : Hid (TyIn wr g t) := Lib.hid (HT0.out.below hs.out.1)
            have hgr2 := HTr2.out.lt
            obtain ⟨q0, q1⟩ := HTr2.out.own_at (i := 1 + k) (off := 5 + k * 2) (by omega) (by omega)
            have HK : Hid (¬ ((1 + k : Nat) : Int) ≤ t.n) := Lib.hid (by have := HN.out; omega)
            have HW : Hid (1 + k < 4) := Lib.hid (by omega)
            obtain ⟨x, hx⟩ : ∃ x, x = t.own (1 + k) := ⟨_, rfl⟩
            rw [← hx] at q0 q1
            have HX := Lib.hid hx
            clear hx
            by_cases hz : x.kind = 0 ∧ x.n = 0
            · have HU := Lib.hid (bad_gone (p := p) HK.out (by rw [← HX.out]; exact zero_yes hz.1 hz.2))
              rw [hz.1] at q0
              rw [hz.2] at q1
              clear hz
              go_wp2
              go_roundw
              case rel => exact ⟨k + 1, by omega, by go_num, Lib.hid (hs.out.next HU.out (below1 _ _))⟩
              case measure => simp [intOf]; omega
            · have HU := Lib.hid (Ty.okOw_no (p := p) (1 + k) HW.out (bad_there HK.out (by rw [← HX.out]; exact zero_no hz)))
              by_cases hz0 : x.kind = 0
              · have hz1 : (x.n == 0) = false := beq_no (fun e => hz ⟨hz0, e⟩)
                rw [hz0] at q0
                clear hz hz0
                go_wp2
                go_ret
                exact ⟨by rw [HU.out]; rfl, (HB0.out.trans (hs.out.1.mono HB0.out.size)).alloc (by have := HB0.out.size; omega) _⟩
              · have hz1 : (x.kind == 0) = false := beq_no hz0
                clear hz hz0
                go_wp2
                go_ret
                exact ⟨by rw [HU.out]; rfl, (HB0.out.trans (hs.out.1.mono HB0.out.size)).alloc (by have := HB0.out.size; omega) _⟩
          · have HU := Lib.hid (Ty.okOw_yes (p := p) (fun j hj => hs.out.2 j (by omega)))
            obtain rfl : k = 3 := by omega
            go_wp2
            go_ret
            exact ⟨by rw [HU.out]; rfl, HB0.out.trans (hs.out.1.mono HB0.out.size)⟩
      · have HN : Hid (t.n = 1) := Lib.hid (by have := HC.out; omega)
        have HSm : Hid (Seen t p (2 + 0) W0 wr) := Lib.hid ⟨HBr.out, fun j hj => HS1.out j (by omega)⟩
        go_wp2
        go_loopw [37] (fun i wr2 => ∃ k : Nat, k ≤ 2 ∧ i = .int .i64 k ∧ Hid (Seen t p (2 + k) W0 wr2)) (fun i _ => 2 - (intOf i).toNat)
        case atStart => exact ⟨0, by omega, rfl, HSm⟩
        case round =>
          obtain ⟨k, hk, rfl, hs⟩ := hrel
          have hsz2 := hs.out.1.size
          by_cases hlt : k < 2
          · have HTr2 : Hid (TyIn wr g t) := Lib.hid (HT0.out.below hs.out.1)
            have hgr2 := HTr2.out.lt
            obtain ⟨q0, q1⟩ := HTr2.out.own_at (i := 2 + k) (off := 7 + k * 2) (by omega) (by omega)
            have HK : Hid (¬ ((2 + k : Nat) : Int) ≤ t.n) := Lib.hid (by have := HN.out; omega)
            have HW : Hid (2 + k < 4) := Lib.hid (by omega)
            obtain ⟨x, hx⟩ : ∃ x, x = t.own (2 + k) := ⟨_, rfl⟩
            rw [← hx] at q0 q1
            have HX := Lib.hid hx
            clear hx
            by_cases hz : x.kind = 0 ∧ x.n = 0
            · have HU := Lib.hid (bad_gone (p := p) HK.out (by rw [← HX.out]; exact zero_yes hz.1 hz.2))
              rw [hz.1] at q0
              rw [hz.2] at q1
              clear hz
              go_wp2
              go_roundw
              case rel => exact ⟨k + 1, by omega, by go_num, Lib.hid (hs.out.next HU.out (below1 _ _))⟩
              case measure => simp [intOf]; omega
            · have HU := Lib.hid (Ty.okOw_no (p := p) (2 + k) HW.out (bad_there HK.out (by rw [← HX.out]; exact zero_no hz)))
              by_cases hz0 : x.kind = 0
              · have hz1 : (x.n == 0) = false := beq_no (fun e => hz ⟨hz0, e⟩)
                rw [hz0] at q0
                clear hz hz0
                go_wp2
                go_ret
                exact ⟨by rw [HU.out]; rfl, (HB0.out.trans (hs.out.1.mono HB0.out.size)).alloc (by have := HB0.out.size; omega) _⟩
              · have hz1 : (x.kind == 0) = false := beq_no hz0
                clear hz hz0
                go_wp2
                go_ret
                exact ⟨by rw [HU.out]; rfl, (HB0.out.trans (hs.out.1.mono HB0.out.size)).alloc (by have := HB0.out.size; omega) _⟩
          · have HU := Lib.hid (Ty.okOw_yes (p := p) (fun j hj => hs.out.2 j (by omega)))
            obtain rfl : k = 2 := by omega
            go_wp2
            go_ret
            exact ⟨by rw [HU.out]; rfl, HB0.out.trans (hs.out.1.mono HB0.out.size)⟩
      · have HN : Hid (t.n = 2) := Lib.hid (by have := HC.out; omega)
        have HSm : Hid (Seen t p (3 + 0) W0 wr) := Lib.hid ⟨HBr.out, fun j hj => HS1.out j (by omega)⟩
        go_wp2
        go_loopw [37] (fun i wr2 => ∃ k : Nat, k ≤ 1 ∧ i = .int .i64 k ∧ Hid (Seen t p (3 + k) W0 wr2)) (fun i _ => 1 - (intOf i).toNat)
        case atStart => exact ⟨0, by omega, rfl, HSm⟩
        case round =>
          obtain ⟨k, hk, rfl, hs⟩ := hrel
          have hsz2 := hs.out.1.size
          by_cases hlt : k < 1
          · have HTr2 : Hid (TyIn wr g t) := Lib.hid (HT0.out.below hs.out.1)
            have hgr2 := HTr2.out.lt
            obtain ⟨q0, q1⟩ := HTr2.out.own_at (i := 3 + k) (off := 9 + k * 2) (by omega) (by omega)
            have HK : Hid (¬ ((3 + k : Nat) : Int) ≤ t.n) := Lib.hid (by have := HN.out; omega)
            have HW : Hid (3 + k < 4) := Lib.hid (by omega)
            obtain ⟨x, hx⟩ : ∃ x, x = t.own (3 + k) := ⟨_, rfl⟩
            rw [← hx] at q0 q1
            have HX := Lib.hid hx
            clear hx
            by_cases hz : x.kind = 0 ∧ x.n = 0
            · have HU := Lib.hid (bad_gone (p := p) HK.out (by rw [← HX.out]; exact zero_yes hz.1 hz.2))
              rw [hz.1] at q0
              rw [hz.2] at q1
              clear hz
              go_wp2
              go_roundw
              case rel => exact ⟨k + 1, by omega, by go_num, Lib.hid (hs.out.next HU.out (below1 _ _))⟩
              case measure => simp [intOf]; omega
            · have HU := Lib.hid (Ty.okOw_no (p := p) (3 + k) HW.out (bad_there HK.out (by rw [← HX.out]; exact zero_no hz)))
              by_cases hz0 : x.kind = 0
              · have hz1 : (x.n == 0) = false := beq_no (fun e => hz ⟨hz0, e⟩)
                rw [hz0] at q0
                clear hz hz0
                go_wp2
                go_ret
                exact ⟨by rw [HU.out]; rfl, (HB0.out.trans (hs.out.1.mono HB0.out.size)).alloc (by have := HB0.out.size; omega) _⟩
              · have hz1 : (x.kind == 0) = false := beq_no hz0
                clear hz hz0
                go_wp2
                go_ret
                exact ⟨by rw [HU.out]; rfl, (HB0.out.trans (hs.out.1.mono HB0.out.size)).alloc (by have := HB0.out.size; omega) _⟩
          · have HU := Lib.hid (Ty.okOw_yes (p := p) (fun j hj => hs.out.2 j (by omega)))
            obtain rfl : k = 1 := by omega
            go_wp2
            go_ret
            exact ⟨by rw [HU.out]; rfl, HB0.out.trans (hs.out.1.mono HB0.out.size)⟩
      · have HN : Hid (t.n = 3) := Lib.hid (by have := HC.out; omega)
        have HSm : Hid (Seen t p (4 + 0) W0 wr) := Lib.hid ⟨HBr.out, fun j hj => HS1.out j (by omega)⟩
        go_wp2
        go_loopw [37] (fun i wr2 => ∃ k : Nat, k ≤ 0 ∧ i = .int .i64 k ∧ Hid (Seen t p (4 + k) W0 wr2)) (fun i _ => 0 - (intOf i).toNat)
        case atStart => exact ⟨0, by omega, rfl, HSm⟩
        case round =>
          obtain ⟨k, hk, rfl, hs⟩ := hrel
          have hsz2 := hs.out.1.size
          have HU := Lib.hid (Ty.okOw_yes (p := p) (fun j hj => hs.out.2 j (by omega)))
          obtain rfl : k = 0 := by omega
          go_wp2
          go_ret
          exact ⟨by rw [HU.out]; rfl, HB0.out.trans (hs.out.1.mono HB0.out.size)⟩
end Go.Proofs.YtjghgpmkepfdhaaGreatDoor
