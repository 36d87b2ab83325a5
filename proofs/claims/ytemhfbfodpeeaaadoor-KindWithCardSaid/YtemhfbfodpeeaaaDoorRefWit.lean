/- What a type becomes, its owners put for a list, as the document's answer tells it. Conditions: a list has at most 1000 owners. -/
import Derived.Test.YtemhfbfodpeeaaaDoorWit
import Derived.Test.YtemhfbfodpeeaaaDoorRefPut
namespace Go.Proofs.YtemhfbfodpeeaaaDoor
open Go.RowKit
set_option linter.unusedVariables false

theorem RO.set {w : World} {B g i : Nat} {v : Value} {A : Option Addr} {l : List Ow} (h : RO w B A l) (hA : ∀ q, A = some q → q.block ≠ g) : RO (w.setCell ⟨g, i, none⟩ v) B A l := by
  intro hl
  obtain ⟨b, o, e, hB, hc⟩ := h hl
  have hne : b ≠ g := hA _ e
  have hk : ∀ j, (w.setCell ⟨g, i, none⟩ v).cell? ⟨b, j, none⟩ = w.cell? ⟨b, j, none⟩ := fun j => World.cell?_setCell_other (h := fun e => hne (congrArg Addr.block e).symm) ..
  exact ⟨b, o, e, hB, fun j hj => ⟨(hk _).trans (hc j hj).1, (hk _).trans (hc j hj).2⟩⟩
theorem WI.below {t : Ty} {l : List Ow} {k g r : Nat} {w wr w1 : World} (h : WI t l k g r w wr) (hb : Below wr.heap.size wr w1) : WI t l k g r w w1 :=
  ⟨h.1.trans (hb.mono h.1.size), h.2.1.below hb, h.2.2.below hb⟩

set_option maxHeartbeats 4000000 in
theorem refWith_any (t : Ty) (A : Option Addr) (c : Nat) (l : List Ow) (w : World) (hro : RO w w.heap.size A l) (hn : l.length ≤ 1000) (hc : l.length ≤ c) :
    Calls Tryd.prog 18 #[.agg t.cells, .slice A l.length c] w fun e w' => e = .returned (.agg (t.with_ l).cells) ∧ Below w.heap.size w w' := by
  have HR := Lib.hid hro
  clear hro
  obtain ⟨W0, hW0⟩ : ∃ W0, W0 = (w.alloc (.cells t.cells 26)).alloc (.cells zeroT.cells 26) := ⟨_, rfl⟩
  have hs1 : (w.alloc (.cells t.cells 26)).heap.size = w.heap.size + 1 := by simp
  have HI0 : Hid (WI t l 0 w.heap.size (w.heap.size + 1) w W0) := Lib.hid ⟨by rw [hW0]; exact below2 w _ _, by
    rw [hW0, Ty.putTo_zero]
    exact (TyIn.new w t).below (below1 _ _), by
    rw [hW0]
    have := TyIn.new (w.alloc (.cells t.cells 26)) zeroT
    rw [hs1] at this
    exact this⟩
  obtain ⟨g, hg⟩ : ∃ g, g = w.heap.size := ⟨_, rfl⟩
  obtain ⟨r, hr⟩ : ∃ r, r = w.heap.size + 1 := ⟨_, rfl⟩
  have HGR : Hid (w.heap.size ≤ g ∧ g ≠ r ∧ w.heap.size ≤ r) := Lib.hid (by omega)
  rw [← hr, ← hg] at HI0
  clear hs1
  unfold Ty.cells zeroT at hW0
  simp only at hW0
  unfold Ty.cells
  go_enter Tryd.func18, Tryd.ntmps18
  go_wp2_with fail
  rw [← hW0, ← hr, ← hg]
  clear hg hr hW0
  refine (refOwners_any t _).mono ?_
  rintro e w1 ⟨A', c', rfl, hc', hb1, hro1, hfr⟩
  have HI1 := Lib.hid (HI0.out.below hb1)
  have HF : Hid (∀ q, A' = some q → q.block ≠ g) := Lib.hid (fun q hq => by have := hfr q hq; have := HI0.out.2.1.lt; omega)
  have HO1 := Lib.hid hro1
  have HLL : Hid (t.owners.length ≤ 4) := Lib.hid (by unfold Ty.owners; split <;> simp; omega)
  have HE : Hid (t.with_ l = t.putTo l t.owners.length) := Lib.hid rfl
  have HOW : Hid (∀ i, (hi : i < t.owners.length) → t.owners[i] = t.own i) := Lib.hid (fun i hi => Ty.owners_at (by
    rcases (show t.kind = 2 ∨ ¬ t.kind = 2 by omega) with h | h
    · exact h
    · rw [Ty.owners_none h] at hi; simp at hi) i hi)
  obtain ⟨os, hos⟩ : ∃ os, os = t.owners := ⟨_, rfl⟩
  rw [← hos] at HO1 HLL HE HOW hc' ⊢
  have hlen := HLL.out
  clear hb1 hro1 hfr hos
  go_wp2
  go_loopw [6] (fun i wr => ∃ k : Nat, k ≤ os.length ∧ i = .int .i64 k ∧ Hid (WI t l k g r w wr ∧ RO wr wr.heap.size A' os)) (fun i _ => os.length - (intOf i).toNat)
  case atStart => exact ⟨0, by omega, rfl, Lib.hid ⟨HI1.out, HO1.out⟩⟩
  case round =>
    obtain ⟨k, hk, rfl, hs⟩ := hrel
    have hgr := hs.out.1.2.1.lt
    have hrr := hs.out.1.2.2.lt
    by_cases hlt : k < os.length
    · obtain ⟨b, o, rfl, hB, q0, q1⟩ := hs.out.2.at_ hlt
      obtain ⟨x, hx⟩ : ∃ x, x = os[k] := ⟨_, rfl⟩
      rw [← hx] at q0 q1
      have HX : Hid (x = t.own k) := Lib.hid (by rw [hx]; exact HOW.out k hlt)
      have HK4 : Hid (k < 4) := Lib.hid (by omega)
      clear hx
      have HRr : Hid (RO wr wr.heap.size A l) := Lib.hid ((HR.out.below hs.out.1.1).more hs.out.1.1.size)
      go_wp2_with fail
      refine (refPut_any x A c l _ HRr.out hn hc).mono ?_
      rintro e w2 ⟨rfl, hb2⟩
      obtain ⟨y, hy⟩ : ∃ y, y = x.put l := ⟨_, rfl⟩
      rw [← hy]
      have HN := Lib.hid (hs.out.1.next HK4.out HGR.out.1 HGR.out.2.1 hb2 (y := y) (by rw [hy, HX.out]))
      have HN2 : Hid (RO ((w2.setCell ⟨g, 3 + k * 2, none⟩ (.int .i64 y.kind)).setCell ⟨g, 3 + k * 2 + 1, none⟩ (.int .i64 y.n)) ((w2.setCell ⟨g, 3 + k * 2, none⟩ (.int .i64 y.kind)).setCell ⟨g, 3 + k * 2 + 1, none⟩ (.int .i64 y.n)).heap.size (some ⟨b, o, none⟩) os) :=
        Lib.hid ((((hs.out.2.below hb2).more (by simp; exact hb2.size)).set HF.out).set HF.out)
      have HT1 := Lib.hid (hs.out.1.2.1.below hb2)
      obtain ⟨s0, s1⟩ := HT1.out.own (i := k) HK4.out
      have s2 := frozen_of_row w2 g (3 + k * 2) _ 26 HT1.out
      have s3 := frozen_of_row w2 g (3 + k * 2 + 1) _ 26 HT1.out
      have hgr1 := HT1.out.lt
      have hk4 := HK4.out
      clear hb2 hy
      go_wp2
      go_roundw
      case rel => exact ⟨k + 1, by omega, by go_num, Lib.hid ⟨HN.out, HN2.out⟩⟩
      case measure => simp [intOf]; omega
    · obtain rfl : k = os.length := by omega
      have HB := Lib.hid hs.out.1.1
      have HTg := Lib.hid hs.out.1.2.1
      have HTr := Lib.hid hs.out.1.2.2
      obtain ⟨u, hu⟩ : ∃ u, u = t.putTo l os.length := ⟨_, rfl⟩
      rw [← hu] at HE HTg
      obtain ⟨f0, f1, f2, f3, f4, f5, f6, f7, f8, f9, f10⟩ := HTg.out.eleven
      obtain ⟨d0, d1, d2, d3, d4, d5, d6, d7, d8, d9, d10⟩ := HTr.out.eleven
      have s0 := fun j => frozen_of_row wr r j _ 26 HTr.out
      clear hu hlt hk
      go_wp2
      exact bodyPost_ret (v := .agg u.cells) (results_cell_row Tryd.results18 _ _ r 26 _ (0, 0) _ rfl (setT_in u HTr.out) Tryd.underlying26 rfl (by kernel_rfl)) rfl ⟨by rw [HE.out]; rfl, setT_below u HB.out HGR.out.2.2⟩
end Go.Proofs.YtemhfbfodpeeaaaDoor
