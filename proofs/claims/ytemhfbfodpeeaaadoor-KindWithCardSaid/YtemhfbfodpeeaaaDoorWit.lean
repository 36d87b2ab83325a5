/- What a type becomes, its owners put for a list, as the program tells it. Conditions: a list has at most 1000 owners. -/
import Derived.Test.YtemhfbfodpeeaaaDoorOwn
namespace Go.Proofs.YtemhfbfodpeeaaaDoor
open Go.RowKit
set_option linter.unusedVariables false

theorem putTo_own {t : Ty} {l : List Ow} {k : Nat} (hk : k < 4) : (t.putTo l k).own k = t.own k := by
  match k, hk with
  | 0, _ => rfl
  | 1, _ => rfl
  | 2, _ => rfl
  | 3, _ => rfl
theorem putTo_cells {t : Ty} {l : List Ow} {k : Nat} (hk : k < 4) {y : Ow} (hy : y = (t.own k).put l) :
    ((t.putTo l k).cells.setIfInBounds (3 + k * 2) (.int .i64 y.kind)).setIfInBounds (3 + k * 2 + 1) (.int .i64 y.n) = (t.putTo l (k + 1)).cells := by
  subst hy
  match k, hk with
  | 0, _ => rfl
  | 1, _ => rfl
  | 2, _ => rfl
  | 3, _ => rfl
theorem putTo_kind {t : Ty} {l : List Ow} {k : Nat} : (t.putTo l k).kind = t.kind := rfl

/-- The cells of the zero type. -/
def zeroT : Ty := ⟨0, ⟨#[]⟩, 0, ⟨0, 0⟩, ⟨0, 0⟩, ⟨0, 0⟩, ⟨0, 0⟩⟩
/-- What holds behind so many rounds. -/
def WI (t : Ty) (l : List Ow) (k g r : Nat) (w wr : World) : Prop := Below w.heap.size w wr ∧ TyIn wr g (t.putTo l k) ∧ TyIn wr r zeroT
theorem WI.next {t : Ty} {l : List Ow} {k g r : Nat} {w wr w1 : World} (h : WI t l k g r w wr) (hk : k < 4) (hg : w.heap.size ≤ g) (hgr : g ≠ r) (hb : Below wr.heap.size wr w1) {y : Ow} (hy : y = (t.own k).put l) :
    WI t l (k + 1) g r w ((w1.setCell ⟨g, 3 + k * 2, none⟩ (.int .i64 y.kind)).setCell ⟨g, 3 + k * 2 + 1, none⟩ (.int .i64 y.n)) := by
  obtain ⟨h1, h2, h3⟩ := h
  refine ⟨((h1.trans (hb.mono h1.size)).setCell hg _).setCell hg _, ?_, ?_⟩
  · have a1 := heap_setCell_same w1 g (3 + k * 2) _ 26 (.int .i64 y.kind) (h2.below hb)
    have a2 := heap_setCell_same _ g (3 + k * 2 + 1) _ 26 (.int .i64 y.n) a1
    rw [putTo_cells hk hy] at a2
    exact a2
  · unfold TyIn
    rw [heap_setCell_other _ _ _ _ (fun e => hgr e.symm), heap_setCell_other _ _ _ _ (fun e => hgr e.symm)]
    exact h3.below hb

/-- A type, stored cell by cell. -/
def setT (w : World) (r : Nat) (u : Ty) : World :=
  ((((((((((w.setCell ⟨r, 0, none⟩ (.int .i64 u.kind)).setCell ⟨r, 1, none⟩ (.string u.cls)).setCell ⟨r, 2, none⟩ (.int .i64 u.n)).setCell ⟨r, 3, none⟩ (.int .i64 u.o0.kind)).setCell ⟨r, 4, none⟩ (.int .i64 u.o0.n)).setCell ⟨r, 5, none⟩ (.int .i64 u.o1.kind)).setCell ⟨r, 6, none⟩ (.int .i64 u.o1.n)).setCell ⟨r, 7, none⟩ (.int .i64 u.o2.kind)).setCell ⟨r, 8, none⟩ (.int .i64 u.o2.n)).setCell ⟨r, 9, none⟩ (.int .i64 u.o3.kind)).setCell ⟨r, 10, none⟩ (.int .i64 u.o3.n)
theorem setT_in {w : World} {r : Nat} {z : Ty} (u : Ty) (h : TyIn w r z) : TyIn (setT w r u) r u := by
  have a0 : w.heap[r]? = some (.cells #[.int .i64 z.kind, .string z.cls, .int .i64 z.n, .int .i64 z.o0.kind, .int .i64 z.o0.n, .int .i64 z.o1.kind, .int .i64 z.o1.n, .int .i64 z.o2.kind, .int .i64 z.o2.n, .int .i64 z.o3.kind, .int .i64 z.o3.n] 26 (0, 0)) := h
  have a1 : (w.setCell ⟨r, 0, none⟩ (.int .i64 u.kind)).heap[r]? = some (.cells #[.int .i64 u.kind, .string z.cls, .int .i64 z.n, .int .i64 z.o0.kind, .int .i64 z.o0.n, .int .i64 z.o1.kind, .int .i64 z.o1.n, .int .i64 z.o2.kind, .int .i64 z.o2.n, .int .i64 z.o3.kind, .int .i64 z.o3.n] 26 (0, 0)) := heap_setCell_same _ r 0 _ 26 _ a0
  have a2 : ((w.setCell ⟨r, 0, none⟩ (.int .i64 u.kind)).setCell ⟨r, 1, none⟩ (.string u.cls)).heap[r]? = some (.cells #[.int .i64 u.kind, .string u.cls, .int .i64 z.n, .int .i64 z.o0.kind, .int .i64 z.o0.n, .int .i64 z.o1.kind, .int .i64 z.o1.n, .int .i64 z.o2.kind, .int .i64 z.o2.n, .int .i64 z.o3.kind, .int .i64 z.o3.n] 26 (0, 0)) := heap_setCell_same _ r 1 _ 26 _ a1
  have a3 : (((w.setCell ⟨r, 0, none⟩ (.int .i64 u.kind)).setCell ⟨r, 1, none⟩ (.string u.cls)).setCell ⟨r, 2, none⟩ (.int .i64 u.n)).heap[r]? = some (.cells #[.int .i64 u.kind, .string u.cls, .int .i64 u.n, .int .i64 z.o0.kind, .int .i64 z.o0.n, .int .i64 z.o1.kind, .int .i64 z.o1.n, .int .i64 z.o2.kind, .int .i64 z.o2.n, .int .i64 z.o3.kind, .int .i64 z.o3.n] 26 (0, 0)) := heap_setCell_same _ r 2 _ 26 _ a2
  have a4 : ((((w.setCell ⟨r, 0, none⟩ (.int .i64 u.kind)).setCell ⟨r, 1, none⟩ (.string u.cls)).setCell ⟨r, 2, none⟩ (.int .i64 u.n)).setCell ⟨r, 3, none⟩ (.int .i64 u.o0.kind)).heap[r]? = some (.cells #[.int .i64 u.kind, .string u.cls, .int .i64 u.n, .int .i64 u.o0.kind, .int .i64 z.o0.n, .int .i64 z.o1.kind, .int .i64 z.o1.n, .int .i64 z.o2.kind, .int .i64 z.o2.n, .int .i64 z.o3.kind, .int .i64 z.o3.n] 26 (0, 0)) := heap_setCell_same _ r 3 _ 26 _ a3
  have a5 : (((((w.setCell ⟨r, 0, none⟩ (.int .i64 u.kind)).setCell ⟨r, 1, none⟩ (.string u.cls)).setCell ⟨r, 2, none⟩ (.int .i64 u.n)).setCell ⟨r, 3, none⟩ (.int .i64 u.o0.kind)).setCell ⟨r, 4, none⟩ (.int .i64 u.o0.n)).heap[r]? = some (.cells #[.int .i64 u.kind, .string u.cls, .int .i64 u.n, .int .i64 u.o0.kind, .int .i64 u.o0.n, .int .i64 z.o1.kind, .int .i64 z.o1.n, .int .i64 z.o2.kind, .int .i64 z.o2.n, .int .i64 z.o3.kind, .int .i64 z.o3.n] 26 (0, 0)) := heap_setCell_same _ r 4 _ 26 _ a4
  have a6 : ((((((w.setCell ⟨r, 0, none⟩ (.int .i64 u.kind)).setCell ⟨r, 1, none⟩ (.string u.cls)).setCell ⟨r, 2, none⟩ (.int .i64 u.n)).setCell ⟨r, 3, none⟩ (.int .i64 u.o0.kind)).setCell ⟨r, 4, none⟩ (.int .i64 u.o0.n)).setCell ⟨r, 5, none⟩ (.int .i64 u.o1.kind)).heap[r]? = some (.cells #[.int .i64 u.kind, .string u.cls, .int .i64 u.n, .int .i64 u.o0.kind, .int .i64 u.o0.n, .int .i64 u.o1.kind, .int .i64 z.o1.n, .int .i64 z.o2.kind, .int .i64 z.o2.n, .int .i64 z.o3.kind, .int .i64 z.o3.n] 26 (0, 0)) := heap_setCell_same _ r 5 _ 26 _ a5
  have a7 : (((((((w.setCell ⟨r, 0, none⟩ (.int .i64 u.kind)).setCell ⟨r, 1, none⟩ (.string u.cls)).setCell ⟨r, 2, none⟩ (.int .i64 u.n)).setCell ⟨r, 3, none⟩ (.int .i64 u.o0.kind)).setCell ⟨r, 4, none⟩ (.int .i64 u.o0.n)).setCell ⟨r, 5, none⟩ (.int .i64 u.o1.kind)).setCell ⟨r, 6, none⟩ (.int .i64 u.o1.n)).heap[r]? = some (.cells #[.int .i64 u.kind, .string u.cls, .int .i64 u.n, .int .i64 u.o0.kind, .int .i64 u.o0.n, .int .i64 u.o1.kind, .int .i64 u.o1.n, .int .i64 z.o2.kind, .int .i64 z.o2.n, .int .i64 z.o3.kind, .int .i64 z.o3.n] 26 (0, 0)) := heap_setCell_same _ r 6 _ 26 _ a6
  have a8 : ((((((((w.setCell ⟨r, 0, none⟩ (.int .i64 u.kind)).setCell ⟨r, 1, none⟩ (.string u.cls)).setCell ⟨r, 2, none⟩ (.int .i64 u.n)).setCell ⟨r, 3, none⟩ (.int .i64 u.o0.kind)).setCell ⟨r, 4, none⟩ (.int .i64 u.o0.n)).setCell ⟨r, 5, none⟩ (.int .i64 u.o1.kind)).setCell ⟨r, 6, none⟩ (.int .i64 u.o1.n)).setCell ⟨r, 7, none⟩ (.int .i64 u.o2.kind)).heap[r]? = some (.cells #[.int .i64 u.kind, .string u.cls, .int .i64 u.n, .int .i64 u.o0.kind, .int .i64 u.o0.n, .int .i64 u.o1.kind, .int .i64 u.o1.n, .int .i64 u.o2.kind, .int .i64 z.o2.n, .int .i64 z.o3.kind, .int .i64 z.o3.n] 26 (0, 0)) := heap_setCell_same _ r 7 _ 26 _ a7
  have a9 : (((((((((w.setCell ⟨r, 0, none⟩ (.int .i64 u.kind)).setCell ⟨r, 1, none⟩ (.string u.cls)).setCell ⟨r, 2, none⟩ (.int .i64 u.n)).setCell ⟨r, 3, none⟩ (.int .i64 u.o0.kind)).setCell ⟨r, 4, none⟩ (.int .i64 u.o0.n)).setCell ⟨r, 5, none⟩ (.int .i64 u.o1.kind)).setCell ⟨r, 6, none⟩ (.int .i64 u.o1.n)).setCell ⟨r, 7, none⟩ (.int .i64 u.o2.kind)).setCell ⟨r, 8, none⟩ (.int .i64 u.o2.n)).heap[r]? = some (.cells #[.int .i64 u.kind, .string u.cls, .int .i64 u.n, .int .i64 u.o0.kind, .int .i64 u.o0.n, .int .i64 u.o1.kind, .int .i64 u.o1.n, .int .i64 u.o2.kind, .int .i64 u.o2.n, .int .i64 z.o3.kind, .int .i64 z.o3.n] 26 (0, 0)) := heap_setCell_same _ r 8 _ 26 _ a8
  have a10 : ((((((((((w.setCell ⟨r, 0, none⟩ (.int .i64 u.kind)).setCell ⟨r, 1, none⟩ (.string u.cls)).setCell ⟨r, 2, none⟩ (.int .i64 u.n)).setCell ⟨r, 3, none⟩ (.int .i64 u.o0.kind)).setCell ⟨r, 4, none⟩ (.int .i64 u.o0.n)).setCell ⟨r, 5, none⟩ (.int .i64 u.o1.kind)).setCell ⟨r, 6, none⟩ (.int .i64 u.o1.n)).setCell ⟨r, 7, none⟩ (.int .i64 u.o2.kind)).setCell ⟨r, 8, none⟩ (.int .i64 u.o2.n)).setCell ⟨r, 9, none⟩ (.int .i64 u.o3.kind)).heap[r]? = some (.cells #[.int .i64 u.kind, .string u.cls, .int .i64 u.n, .int .i64 u.o0.kind, .int .i64 u.o0.n, .int .i64 u.o1.kind, .int .i64 u.o1.n, .int .i64 u.o2.kind, .int .i64 u.o2.n, .int .i64 u.o3.kind, .int .i64 z.o3.n] 26 (0, 0)) := heap_setCell_same _ r 9 _ 26 _ a9
  have a11 : (((((((((((w.setCell ⟨r, 0, none⟩ (.int .i64 u.kind)).setCell ⟨r, 1, none⟩ (.string u.cls)).setCell ⟨r, 2, none⟩ (.int .i64 u.n)).setCell ⟨r, 3, none⟩ (.int .i64 u.o0.kind)).setCell ⟨r, 4, none⟩ (.int .i64 u.o0.n)).setCell ⟨r, 5, none⟩ (.int .i64 u.o1.kind)).setCell ⟨r, 6, none⟩ (.int .i64 u.o1.n)).setCell ⟨r, 7, none⟩ (.int .i64 u.o2.kind)).setCell ⟨r, 8, none⟩ (.int .i64 u.o2.n)).setCell ⟨r, 9, none⟩ (.int .i64 u.o3.kind)).setCell ⟨r, 10, none⟩ (.int .i64 u.o3.n)).heap[r]? = some (.cells #[.int .i64 u.kind, .string u.cls, .int .i64 u.n, .int .i64 u.o0.kind, .int .i64 u.o0.n, .int .i64 u.o1.kind, .int .i64 u.o1.n, .int .i64 u.o2.kind, .int .i64 u.o2.n, .int .i64 u.o3.kind, .int .i64 u.o3.n] 26 (0, 0)) := heap_setCell_same _ r 10 _ 26 _ a10
  exact a11
theorem setT_below {w W : World} {r : Nat} (u : Ty) (h : Below w.heap.size w W) (hr : w.heap.size ≤ r) : Below w.heap.size w (setT W r u) :=
  ((((((((((h.setCell hr _).setCell hr _).setCell hr _).setCell hr _).setCell hr _).setCell hr _).setCell hr _).setCell hr _).setCell hr _).setCell hr _).setCell hr _

set_option maxHeartbeats 4000000 in
theorem with_any (t : Ty) (A : Option Addr) (c : Nat) (l : List Ow) (w : World) (hro : RO w w.heap.size A l) (hn : l.length ≤ 1000) (hc : l.length ≤ c) :
    Calls Tryd.prog 17 #[.agg t.cells, .slice A l.length c] w fun e w' => e = .returned (.agg (t.with_ l).cells) ∧ Below w.heap.size w w' := by
  have HR := Lib.hid hro
  clear hro
  obtain ⟨W0, hW0⟩ : ∃ W0, W0 = (w.alloc (.cells t.cells 26)).alloc (.cells zeroT.cells 26) := ⟨_, rfl⟩
  have hs1 : (w.alloc (.cells t.cells 26)).heap.size = w.heap.size + 1 := by simp
  have HI0 : Hid (WI t l 0 w.heap.size (w.heap.size + 1) w W0) := Lib.hid ⟨by rw [hW0]; exact below2 w _ _, by
    rw [hW0, Ty.putTo_zero]
    exact (TyIn.new w t).below (below1 _ _), by
    rw [hW0]
    have := TyIn.new (w.alloc (.cells t.cells 26)) zeroT
    rw [hs1] at this
    exact this⟩
  obtain ⟨g, hg⟩ : ∃ g, g = w.heap.size := ⟨_, rfl⟩
  obtain ⟨r, hr⟩ : ∃ r, r = w.heap.size + 1 := ⟨_, rfl⟩
  have HGR : Hid (w.heap.size ≤ g ∧ g ≠ r ∧ w.heap.size ≤ r) := Lib.hid (by omega)
  rw [← hr, ← hg] at HI0
  have hc3 := t.cnt_le
  clear hs1
  unfold Ty.cells zeroT at hW0
  simp only at hW0
  by_cases h2 : t.kind = 2
  · have HV := Lib.hid (cut_obj (g := g) h2 t.cnt rfl)
    obtain ⟨m, hm⟩ : ∃ m, m = t.cnt := ⟨_, rfl⟩
    have HL : Hid (t.owners.length = m + 1) := Lib.hid (by rw [hm]; exact Ty.owners_len h2)
    rw [← hm] at hc3 HV
    clear hm h2
    unfold Ty.cells
    go_enter Tryd.func17, Tryd.ntmps17
    go_wp2_with fail
    rw [← hW0, ← hr, ← hg]
    clear hg hr hW0
    refine (cut_any g t _ HI0.out.2.1).mono ?_
    rintro e w1 ⟨rfl, rfl⟩
    rw [HV.out]
    go_wp2
    go_loopw [11] (fun i wr => ∃ k : Nat, k ≤ m + 1 ∧ i = .int .i64 k ∧ Hid (WI t l k g r w wr)) (fun i _ => m + 1 - (intOf i).toNat)
    case atStart => exact ⟨0, by omega, rfl, HI0⟩
    case round =>
      obtain ⟨k, hk, rfl, hs⟩ := hrel
      have hgr := hs.out.2.1.lt
      have hrr := hs.out.2.2.lt
      by_cases hlt : k < m + 1
      · obtain ⟨q0, q1⟩ := hs.out.2.1.own (i := k) (by omega)
        obtain ⟨x, hx⟩ : ∃ x, x = t.own k := ⟨_, rfl⟩
        rw [putTo_own (by omega), ← hx] at q0 q1
        have HX := Lib.hid hx
        have HK4 : Hid (k < 4) := Lib.hid (by omega)
        clear hx
        have HRr : Hid (RO (wr.alloc (.cells #[.int .i64 x.kind, .int .i64 x.n] 23)) (wr.alloc (.cells #[.int .i64 x.kind, .int .i64 x.n] 23)).heap.size A l) := Lib.hid ((HR.out.below (hs.out.1.alloc hs.out.1.size _)).more (by have := hs.out.1.size; simp; omega))
        go_wp2_with fail
        refine (put_any x A c l _ HRr.out hn hc).mono ?_
        rintro e w1 ⟨rfl, hb1⟩
        obtain ⟨y, hy⟩ : ∃ y, y = x.put l := ⟨_, rfl⟩
        rw [← hy]
        have hb2 : Below wr.heap.size wr w1 := (below1 wr _).trans (hb1.mono (by simp))
        have HN := Lib.hid (hs.out.next HK4.out HGR.out.1 HGR.out.2.1 hb2 (y := y) (by rw [hy, HX.out]))
        have HT1 := Lib.hid (hs.out.2.1.below hb2)
        obtain ⟨s0, s1⟩ := HT1.out.own (i := k) HK4.out
        have s2 := frozen_of_row w1 g (3 + k * 2) _ 26 HT1.out
        have s3 := frozen_of_row w1 g (3 + k * 2 + 1) _ 26 HT1.out
        have hgr1 := HT1.out.lt
        clear hb1 hb2 hy
        go_wp2
        go_roundw
        case rel => exact ⟨k + 1, by omega, by go_num, HN⟩
        case measure => simp [intOf]; omega
      · obtain rfl : k = m + 1 := by omega
        have HE : Hid (t.with_ l = t.putTo l (m + 1)) := Lib.hid (by unfold Ty.with_; rw [HL.out])
        have HB := Lib.hid hs.out.1
        have HTg := Lib.hid hs.out.2.1
        have HTr := Lib.hid hs.out.2.2
        obtain ⟨u, hu⟩ : ∃ u, u = t.putTo l (m + 1) := ⟨_, rfl⟩
        rw [← hu] at HE HTg
        obtain ⟨f0, f1, f2, f3, f4, f5, f6, f7, f8, f9, f10⟩ := HTg.out.eleven
        obtain ⟨d0, d1, d2, d3, d4, d5, d6, d7, d8, d9, d10⟩ := HTr.out.eleven
        have s0 := fun j => frozen_of_row wr r j _ 26 HTr.out
        clear hu hlt hk
        go_wp2
        exact bodyPost_ret (v := .agg u.cells) (results_cell_row Tryd.results17 _ _ r 26 _ (0, 0) _ rfl (setT_in u HTr.out) Tryd.underlying26 rfl (by kernel_rfl)) rfl ⟨by rw [HE.out]; rfl, setT_below u HB.out HGR.out.2.2⟩
  · have HV := Lib.hid (cut_none (g := g) h2)
    have HE : Hid (t.with_ l = t) := Lib.hid (by unfold Ty.with_; rw [Ty.owners_none h2]; rfl)
    clear h2
    unfold Ty.cells
    go_enter Tryd.func17, Tryd.ntmps17
    go_wp2_with fail
    rw [← hW0, ← hr, ← hg]
    clear hg hr hW0
    refine (cut_any g t _ HI0.out.2.1).mono ?_
    rintro e w1 ⟨rfl, rfl⟩
    rw [HV.out]
    go_wp2
    go_loopw [11] (fun i wr => i = .int .i64 0 ∧ wr = W0) (fun i _ => 0)
    case atStart => exact ⟨rfl, rfl⟩
    case round =>
      obtain ⟨rfl, rfl⟩ := hrel
      have HB := Lib.hid HI0.out.1
      have HTg := Lib.hid HI0.out.2.1
      have HTr := Lib.hid HI0.out.2.2
      rw [Ty.putTo_zero] at HTg
      obtain ⟨f0, f1, f2, f3, f4, f5, f6, f7, f8, f9, f10⟩ := HTg.out.eleven
      obtain ⟨d0, d1, d2, d3, d4, d5, d6, d7, d8, d9, d10⟩ := HTr.out.eleven
      have s0 := fun j => frozen_of_row wr r j _ 26 HTr.out
      have hgr := HTg.out.lt
      have hrr := HTr.out.lt
      go_wp2
      exact bodyPost_ret (v := .agg t.cells) (results_cell_row Tryd.results17 _ _ r 26 _ (0, 0) _ rfl (setT_in t HTr.out) Tryd.underlying26 rfl (by kernel_rfl)) rfl ⟨by rw [HE.out]; rfl, setT_below t HB.out HGR.out.2.2⟩
end Go.Proofs.YtemhfbfodpeeaaaDoor
