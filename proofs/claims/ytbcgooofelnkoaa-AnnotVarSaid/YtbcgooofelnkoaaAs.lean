/- Structs of many cells: stored, handed back; what the document's answer hands back of what was read; what is wrong. Conditions: none but the sizes of slices. -/
import Derived.Test.YtbcgooofelnkoaaAr
import Derived.Deep.MidRow
namespace Go.Proofs.Ytbcgooofelnkoaa
open Go.RowKit
set_option linter.unusedVariables false

theorem setCells_heap {t : TypeId} (g : Nat) : ∀ (vs : List Value) (i : Nat) (W : World) (pre old : List Value), W.heap[g]? = some (.cells (pre ++ old).toArray t (0, 0)) → pre.length = i → old.length = vs.length → (W.setCells g i vs).heap[g]? = some (.cells (pre ++ vs).toArray t (0, 0))
  | [], i, W, pre, old, h, hp, ho => by
    have : old = [] := List.eq_nil_of_length_eq_zero ho
    subst this
    exact h
  | v :: r, i, W, pre, old, h, hp, ho => by
    obtain ⟨x, q, rfl⟩ : ∃ x q, old = x :: q := by
      cases old with
      | nil => simp at ho
      | cons x q => exact ⟨x, q, rfl⟩
    have h1 := heap_setCell_same W g i _ t v h
    have h2 : (pre ++ x :: q).toArray.setIfInBounds i v = ((pre ++ [v]) ++ q).toArray := by
      rw [List.setIfInBounds_toArray, List.set_append_right _ _ (by omega), ← hp, Nat.sub_self]
      simp
    rw [h2] at h1
    have h3 := setCells_heap g r (i + 1) (W.setCell ⟨g, i, none⟩ v) (pre ++ [v]) q h1 (by simp; omega) (by simpa using ho)
    have h4 : (pre ++ [v]) ++ r = pre ++ v :: r := by simp
    rw [h4] at h3
    exact h3
/-- A block's cells, all of them stored anew. -/
theorem set_all {t : TypeId} {W : World} {g : Nat} {cs : List Value} (h : W.heap[g]? = some (.cells cs.toArray t (0, 0))) (vs : List Value) (hl : cs.length = vs.length) : (W.setCells g 0 vs).heap[g]? = some (.cells vs.toArray t (0, 0)) :=
  setCells_heap g vs 0 W [] cs h rfl hl
theorem setCells_below {B : Nat} {w : World} (g : Nat) (hg : B ≤ g) : ∀ (vs : List Value) (i : Nat) (W : World), Below B w W → Below B w (W.setCells g i vs)
  | [], i, W, h => h
  | v :: r, i, W, h => setCells_below g hg r (i + 1) _ (h.setCell (p := ⟨g, i, none⟩) hg v)
theorem setCells_other (g k : Nat) (hk : k ≠ g) : ∀ (vs : List Value) (i : Nat) (W : World), (W.setCells g i vs).heap[k]? = W.heap[k]?
  | [], i, W => rfl
  | v :: r, i, W => (setCells_other g k hk r (i + 1) _).trans (heap_setCell_other W ⟨g, i, none⟩ k v hk)
theorem gb_refl (W : World) (row : Option Nat) : W.grownBy W row := gb_below (Below.refl _ W) row
theorem setCells_gb (g : Nat) : ∀ (vs : List Value) (i : Nat) (W : World), W.grownBy (W.setCells g i vs) (some g)
  | [], i, W => gb_refl W _
  | v :: r, i, W => (gb_set W g i v).trans (setCells_gb g r (i + 1) _)
theorem cell_at {W : World} {g : Nat} {cs : List Value} {t : TypeId} (h : W.heap[g]? = some (.cells cs.toArray t (0, 0))) (k : Nat) (v : Value) (hk : cs[k]? = some v) : W.cell? ⟨g, k, none⟩ = some v := by
  rw [cell_of_row W g k cs.toArray t (0, 0) h]
  simpa using hk

theorem tok_field0 (k p : Int) (s : ByteArray) (W : World) : (Instr.field 55 (.agg #[.int .i64 k, .string s, .int .i64 p]) 0).run Try.prog W = .ok (.int .i64 k) W := by
  simp [Instr.field, run_underlying Try.underlying55, go_sem, asAgg]
theorem tok_field2 (k p : Int) (s : ByteArray) (W : World) : (Instr.field 55 (.agg #[.int .i64 k, .string s, .int .i64 p]) 2).run Try.prog W = .ok (.int .i64 p) W := by
  simp [Instr.field, run_underlying Try.underlying55, go_sem, asAgg]
theorem there_row {W : World} {g : Nat} {cs : List Value} {t : TypeId} (h : W.heap[g]? = some (.cells cs.toArray t (0, 0))) {n : Nat} (hn : n = cs.length) : W.there g 0 n := fun j hj => by
  subst hn
  rw [Nat.zero_add]
  exact ⟨by rw [cell_at h j _ (List.getElem?_eq_getElem hj)]; rfl, frozen_of h j⟩
theorem range_row {W : World} {g : Nat} {cs : List Value} {t : TypeId} (h : W.heap[g]? = some (.cells cs.toArray t (0, 0))) : W.rangeAt g 0 cs := fun j v hv => by
  rw [Nat.zero_add]
  exact cell_at h j v hv
/-- The cells of a type. -/
def Ty.cellL (t : Ty) : List Value := [.int .i64 t.kind, .string t.cls, .int .i64 t.n, .int .i64 t.o0.kind, .int .i64 t.o0.n, .int .i64 t.o1.kind, .int .i64 t.o1.n, .int .i64 t.o2.kind, .int .i64 t.o2.n, .int .i64 t.o3.kind, .int .i64 t.o3.n]
def ty0 : Ty := ⟨0, ⟨#[]⟩, 0, ⟨0, 0⟩, ⟨0, 0⟩, ⟨0, 0⟩, ⟨0, 0⟩⟩
/-- What the document's answer hands back. -/
def gotL (L : Value) (t : Ty) (nm : ByteArray) (u : Ty) (va nx e p : Int) : List Value := [L, .int .i64 t.kind, .string t.cls, .int .i64 t.n, .int .i64 t.o0.kind, .int .i64 t.o0.n, .int .i64 t.o1.kind, .int .i64 t.o1.n, .int .i64 t.o2.kind, .int .i64 t.o2.n, .int .i64 t.o3.kind, .int .i64 t.o3.n, .string nm, .int .i64 u.kind, .string u.cls, .int .i64 u.n, .int .i64 u.o0.kind, .int .i64 u.o0.n, .int .i64 u.o1.kind, .int .i64 u.o1.n, .int .i64 u.o2.kind, .int .i64 u.o2.n, .int .i64 u.o3.kind, .int .i64 u.o3.n, .int .i64 va, .int .i64 nx, .int .i64 e, .int .i64 p]
def gotV (L : Value) (t : Ty) (nm : ByteArray) (u : Ty) (va nx e p : Int) : Value := .agg (gotL L t nm u va nx e p).toArray
theorem got_ones (A : Option Addr) (n c : Nat) (t : Ty) (nm : ByteArray) (u : Ty) (va nx e p : Int) : (gotL (.slice A n c) t nm u va nx e p).toArray.all (·.oneCell') = true := by
  apply all_oneCell_toArray
  intro v hv
  unfold gotL at hv
  simp only [List.mem_cons, List.not_mem_nil, or_false] at hv
  rcases hv with rfl | rfl | rfl | rfl | rfl | rfl | rfl | rfl | rfl | rfl | rfl | rfl | rfl | rfl | rfl | rfl | rfl | rfl | rfl | rfl | rfl | rfl | rfl | rfl | rfl | rfl | rfl | rfl <;> rfl
/-- What is wrong. -/
def gotE (e p : Int) : Value := gotV (.slice none 0 0) ty0 ⟨#[]⟩ ty0 0 0 e p
abbrev got0 : Obj := .cells (gotL (.slice none 0 0) ty0 ⟨#[]⟩ ty0 0 0 0 0).toArray 43

set_option maxRecDepth 100000 in
set_option maxHeartbeats 4000000 in
theorem refWrong_any (e : Int) (l : List Gt) (A : Option Addr) (c : Nat) (a : Int) (w : World) (hr : RT w w.heap.size A l) (hlc : l.length ≤ c) (hcm : c ≤ maxLen) :
    Calls Try.prog 26 #[.int .i64 e, .slice A l.length c, .int .i64 a] w fun x w' => x = .returned (gotE e (tokI l a).pos) ∧ Below w.heap.size w w' := by
  have hbox := heap_new w got0
  have hb0 := boxed w got0
  have hTK := Lib.hid (refTok_any l A c a (w.alloc got0) ((hr.below hb0).more (by simp)) hlc hcm)
  obtain ⟨W0, hW0⟩ : ∃ W0, W0 = w.alloc got0 := ⟨_, rfl⟩
  rw [← hW0] at hbox hb0 hTK
  have HBX := Lib.hid hbox
  have HB0 := Lib.hid hb0
  obtain ⟨t, ht⟩ : ∃ t, t = tokI l a := ⟨_, rfl⟩
  rw [← ht] at hTK ⊢
  obtain ⟨tk, tx, tp⟩ := t
  have hv : Gt.val ⟨tk, tx, tp⟩ = .agg #[.int .i64 tk, .string tx, .int .i64 tp] := rfl
  rw [hv] at hTK
  show Calls _ _ _ _ fun x w' => x = .returned (gotE e tp) ∧ _
  clear ht hv hr hbox hb0
  go_enter Try.func26, Try.ntmps26
  go_upto_region 1 with fail
  change Code.wp _ _ _ _ (w.alloc got0)
  rw [← hW0]
  clear hW0
  go_wp2_with fail
  refine hTK.out.mono ?_
  rintro e1 w1 ⟨rfl, hb1⟩
  have hx1 := (hb1.block _ (heap_lt HBX.out)).trans HBX.out
  have HX1 := Lib.hid hx1
  have hth := there_row (n := 28) hx1 rfl
  clear hx1
  have hfd := tok_field2 tk tp tx
  have hone := got_ones none 0 0 ty0 ⟨#[]⟩ ty0 0 0 e tp
  go_wp2_with (refine wpList_store_mid rfl 43 _ _ rfl w.heap.size 0 (gotL (.slice none 0 0) ty0 ⟨#[]⟩ ty0 0 0 e tp).toArray rfl rfl hth (by kernel_rfl) hone ?_)
  have hs := set_all HX1.out (gotL (.slice none 0 0) ty0 ⟨#[]⟩ ty0 0 0 e tp) rfl
  exact bodyPost_ret (v := gotE e tp) (results_cell_row Try.results26 _ _ w.heap.size 43 _ (0, 0) _ rfl hs Try.underlying43 rfl (by kernel_rfl)) rfl ⟨rfl, setCells_below _ (Nat.le_refl _) _ _ _ (HB0.out.trans (hb1.mono HB0.out.size))⟩
end Go.Proofs.Ytbcgooofelnkoaa
