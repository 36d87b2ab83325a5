/- Each of a list of owners, put for another list, as the program and the document's answer tell it, and whether two lists of owners are the same. Conditions: a list has at most 1000 owners. -/
import Derived.Test.YtelnmbhnokadlaaRef
namespace Go.Proofs.Ytelnmbhnokadlaa
open Go.RowKit
set_option linter.unusedVariables false

/-- The cells of owners, one behind the other. -/
def ocells (l : List Ow) : List Value := l.flatMap fun o => [.int .i64 o.kind, .int .i64 o.n]
theorem ocells_len (l : List Ow) : (ocells l).length = l.length * 2 := by
  induction l with
  | nil => rfl
  | cons a r ih => unfold ocells at ih ⊢; rw [List.flatMap_cons, List.length_append, ih]; simp; omega
theorem ocells_snoc (l : List Ow) (o : Ow) : ocells (l ++ [o]) = ocells l ++ [.int .i64 o.kind, .int .i64 o.n] := by
  unfold ocells; rw [List.flatMap_append]; simp
theorem ocells_at {r : List Ow} {k : Nat} (h : k < r.length) : (ocells r)[k * 2]? = some (.int .i64 r[k].kind) ∧ (ocells r)[k * 2 + 1]? = some (.int .i64 r[k].n) := by
  have hs : r = r.take k ++ r[k] :: r.drop (k + 1) := by rw [← List.drop_eq_getElem_cons h, List.take_append_drop]
  have ht : ocells r = ocells (r.take k) ++ ([.int .i64 r[k].kind, .int .i64 r[k].n] ++ ocells (r.drop (k + 1))) := by
    conv => lhs; rw [hs]
    unfold ocells
    rw [List.flatMap_append, List.flatMap_cons]
  have hl : (ocells (r.take k)).length = k * 2 := by rw [ocells_len, List.length_take]; omega
  rw [ht]
  refine ⟨?_, ?_⟩
  · rw [List.getElem?_append_right (by omega), hl, Nat.sub_self]; rfl
  · rw [List.getElem?_append_right (by omega), hl, Nat.add_sub_cancel_left]; rfl
theorem own_info : (Try.prog.info? 23).map (fun i => (i.zero, i.size, i.bytes)) = some (some (.agg #[.int .i64 0, .int .i64 0]), 2, 16) := by kernel_rfl
theorem grown_of_below {w w' : World} (h : Below w.heap.size w w') (row : Option Nat) : w.grownBy w' row := ⟨h.os, h.tape, h.output, h.size, fun k hk _ => h.block k hk⟩
theorem own_below {base : Nat} {e : TypeId} {size n : Nat} {v : Value} {xs : List Value} {w w' : World} (h : w.ownsRow base e size v n xs) (hb : Below w.heap.size w w') : w'.ownsRow base e size v n xs :=
  h.kept (grown_of_below hb none) (by cases hv : v.ownBlock <;> simp)
theorem new2 (W : World) (x y : Value) (t : TypeId) (g : Nat) (hg : g = W.heap.size) : ∀ (j : Nat) (u : Value), [x, y][j]? = some u → (W.alloc (.cells #[x, y] t)).cell? ((⟨g, 0, none⟩ : Addr).add j) = some u := by
  intro j u h
  subst hg
  have hn : (W.alloc (.cells #[x, y] t)).heap[W.heap.size]? = some (.cells #[x, y] t (0, 0)) := heap_new W _
  have ha : (⟨W.heap.size, 0, none⟩ : Addr).add j = ⟨W.heap.size, j, none⟩ := by unfold Addr.add; split <;> simp_all
  rw [ha, cell_of_row _ _ j _ t (0, 0) hn]
  rw [← h]; simp
theorem ones2 (x y : Int) : ∀ u ∈ [Value.int .i64 x, Value.int .i64 y], u.oneCell' = true := by
  intro u hu
  simp at hu
  rcases hu with rfl | rfl <;> rfl

/-- What comes back: a list of owners in memory that is new, nothing that was there has changed. -/
def BackL (r : List Ow) (w : World) (e : Ending) (w' : World) : Prop := ∃ v, e = .returned v ∧ Below w.heap.size w w' ∧ w'.ownsRow w.heap.size 23 2 v r.length (ocells r)

/-- What a loop has collected. -/
def Coll (w : World) (l m : List Ow) (k : Nat) (v : Value) (wr : World) : Prop :=
  wr.ownsRow w.heap.size 23 2 v k (ocells ((l.take k).map fun o => o.put m)) ∧ Below w.heap.size w wr
theorem coll_yes {w wr w' : World} {l m : List Ow} {k : Nat} {v v' : Value} {w1 : World} {A B : Obj} {y : Ow} (hk : k < l.length) (h : Coll w l m k v wr) (hy : y = l[k].put m) (hb : Below wr.heap.size wr w1) (hg : (w1.alloc B).grownBy w' v.ownBlock)
    (ho : w'.ownsRow w.heap.size 23 2 v' (k + 1) (ocells ((l.take k).map fun o => o.put m) ++ [.int .i64 y.kind, .int .i64 y.n])) : Coll w l m (k + 1) v' w' := by
  unfold Coll
  have hs := h.2.size
  have hs1 := hb.size
  refine ⟨?_, ((h.2.trans (hb.mono hs)).alloc (by omega) _).grown hg (by simp; omega) (fun q hq => (h.1.lt q hq).1)⟩
  rw [List.take_succ_eq_append_getElem hk, List.map_append, List.map_cons, List.map_nil, ocells_snoc, ← hy]
  exact ho
theorem coll_end {w wr : World} {l m : List Ow} {k : Nat} {v : Value} (hlt : ¬ k < l.length) (hk : k ≤ l.length) (h : Coll w l m k v wr) : BackL (l.map fun o => o.put m) w (.returned v) wr := by
  obtain rfl : k = l.length := by omega
  refine ⟨v, rfl, h.2, ?_⟩
  have ho := h.1
  rw [List.take_length] at ho
  rw [List.length_map]
  exact ho

set_option maxHeartbeats 1000000 in
theorem refAll_any (A1 A2 : Option Addr) (c1 c2 : Nat) (l m : List Ow) (w : World) (hr1 : RO w w.heap.size A1 l) (hr2 : RO w w.heap.size A2 m) (hn1 : l.length ≤ 1000) (hn2 : m.length ≤ 1000) (hc1 : l.length ≤ c1) (hc2 : m.length ≤ c2) :
    Calls Try.prog 10 #[.slice A1 l.length c1, .slice A2 m.length c2] w (BackL (l.map fun o => o.put m) w) := by
  obtain ⟨i0, hi, hz0, hz1, hz2⟩ := info_parts own_info
  have HR1 := Lib.hid hr1
  have HR2 := Lib.hid hr2
  clear hr1 hr2
  go_enter Try.func10, Try.ntmps10
  go_wp2
  go_loopw [5, 6] (fun v i wr => ∃ k : Nat, k ≤ l.length ∧ i = .int .i64 k ∧ Hid (Coll w l m k v wr)) (fun _ i _ => l.length - (intOf i).toNat)
  case atStart => exact ⟨0, by omega, rfl, Lib.hid ⟨World.ownsRow_nil _ _ _ _, Below.refl _ _⟩⟩
  case round =>
    obtain ⟨k, hk, rfl, hcol⟩ := hrel
    have hbw := hcol.out.2
    have hsz := hbw.size
    by_cases hlt : k < l.length
    · obtain ⟨b, o, rfl, hB, q0, q1⟩ := (HR1.out.below hbw).at_ hlt
      obtain ⟨x, hx⟩ : ∃ x, x = l[k] := ⟨_, rfl⟩
      rw [← hx] at q0 q1
      have HX := Lib.hid hx
      clear hx
      have HR2' : Hid (RO wr wr.heap.size A2 m) := Lib.hid ((HR2.out.below hbw).more hsz)
      go_wp2_with fail
      refine (refPut_any x A2 c2 m _ HR2'.out hn2 hc2).mono ?_
      rintro e w1 ⟨rfl, hb1⟩
      obtain ⟨y, hy⟩ : ∃ y, y = x.put m := ⟨_, rfl⟩
      rw [← hy]
      have HY : Hid (y = l[k].put m) := Lib.hid (by rw [hy, HX.out])
      have hown := own_below hcol.out.1 hb1
      have hsz1 := hb1.size
      clear hy
      go_wp2_with (at_builtin; refine wpList_append_own _ rfl (.tmp 13) (.tmp 20) 24 rfl w.heap.size 23 i0 (.agg #[.int .i64 0, .int .i64 0]) 2 16 Try.underlying24 hi hz0 hz1 hz2 rfl (by decide) _ _ _ rfl (hown.alloc _) ⟨w1.heap.size, 0, none⟩ 1 1 [.int .i64 y.kind, .int .i64 y.n] rfl rfl (new2 _ _ _ _ _ rfl) (ones2 _ _) (by unfold maxLen; omega) (by omega) (by simp; omega) ?_; intro v' w' hown' hgrow' hiff; clear hiff; have HO' := Lib.hid hown'; have HG' := Lib.hid hgrow'; clear hown' hgrow')
      go_roundw
      case rel => exact ⟨k + 1, by omega, by go_num, Lib.hid (coll_yes (A := .cells #[] 0) hlt hcol.out HY.out hb1 HG'.out HO'.out)⟩
      case measure => simp [intOf]; omega
    · have HE := Lib.hid (coll_end hlt hk hcol.out)
      go_wp2
      go_ret
      exact HE.out

set_option maxHeartbeats 1000000 in
theorem all_any (A1 A2 : Option Addr) (c1 c2 : Nat) (l m : List Ow) (w : World) (hr1 : RO w w.heap.size A1 l) (hr2 : RO w w.heap.size A2 m) (hn1 : l.length ≤ 1000) (hn2 : m.length ≤ 1000) (hc1 : l.length ≤ c1) (hc2 : m.length ≤ c2) :
    Calls Try.prog 9 #[.slice A1 l.length c1, .slice A2 m.length c2] w (BackL (l.map fun o => o.put m) w) := by
  obtain ⟨i0, hi, hz0, hz1, hz2⟩ := info_parts own_info
  have HR1 := Lib.hid hr1
  have HR2 := Lib.hid hr2
  clear hr1 hr2
  go_enter Try.func9, Try.ntmps9
  go_wp2_with (at_make; refine wpList_make_own _ rfl _ _ 24 rfl w.heap.size 23 i0 (.agg #[.int .i64 0, .int .i64 0]) 2 Try.underlying24 hi hz0 hz1 .i64 .i64 (l.length : Int) l.length rfl rfl rfl (by rw [hz2]; omega) (by unfold maxLen; omega) (Nat.le_refl _) ?_; intro w0 hown0 hgrow0; have HC0 : Hid (Coll w l m 0 (.slice (some ⟨w.heap.size, 0, none⟩) 0 l.length) w0) := Lib.hid ⟨hown0, (Below.refl _ w).grown hgrow0 (Nat.le_refl _) (fun q hq => by cases hq)⟩; clear hown0 hgrow0)
  go_loopw [5, 13] (fun v i wr => ∃ k : Nat, k ≤ l.length ∧ i = .int .i64 k ∧ Hid (Coll w l m k v wr)) (fun _ i _ => l.length - (intOf i).toNat)
  case atStart => exact ⟨0, by omega, rfl, HC0⟩
  case round =>
    obtain ⟨k, hk, rfl, hcol⟩ := hrel
    have hbw := hcol.out.2
    have hsz := hbw.size
    by_cases hlt : k < l.length
    · obtain ⟨b, o, rfl, hB, q0, q1⟩ := (HR1.out.below hbw).at_ hlt
      obtain ⟨x, hx⟩ : ∃ x, x = l[k] := ⟨_, rfl⟩
      rw [← hx] at q0 q1
      have HX := Lib.hid hx
      clear hx
      have HR2' : Hid (RO (wr.alloc (.cells #[.int .i64 x.kind, .int .i64 x.n] 23)) (wr.alloc (.cells #[.int .i64 x.kind, .int .i64 x.n] 23)).heap.size A2 m) := Lib.hid (((HR2.out.below hbw).below ((Below.refl _ _).alloc hsz _)).more (by simp; omega))
      go_wp2_with fail
      refine (put_any x A2 c2 m _ HR2'.out hn2 hc2).mono ?_
      rintro e w1 ⟨rfl, hb1⟩
      obtain ⟨y, hy⟩ : ∃ y, y = x.put m := ⟨_, rfl⟩
      rw [← hy]
      have HY : Hid (y = l[k].put m) := Lib.hid (by rw [hy, HX.out])
      have hb2 : Below wr.heap.size wr w1 := ((Below.refl _ wr).alloc (Nat.le_refl _) _).trans (hb1.mono (by simp))
      have hown := own_below hcol.out.1 hb2
      have hsz1 := hb2.size
      have HB2 := Lib.hid hb2
      clear hy hb1 hb2
      go_wp2_with (at_builtin; refine wpList_append_own _ rfl (.tmp 17) (.tmp 21) 24 rfl w.heap.size 23 i0 (.agg #[.int .i64 0, .int .i64 0]) 2 16 Try.underlying24 hi hz0 hz1 hz2 rfl (by decide) _ _ _ rfl (hown.alloc _) ⟨w1.heap.size, 0, none⟩ 1 1 [.int .i64 y.kind, .int .i64 y.n] rfl rfl (new2 _ _ _ _ _ rfl) (ones2 _ _) (by unfold maxLen; omega) (by omega) (by simp; omega) ?_; intro v' w' hown' hgrow' hiff; clear hiff; have HO' := Lib.hid hown'; have HG' := Lib.hid hgrow'; clear hown' hgrow')
      go_roundw
      case rel => exact ⟨k + 1, by omega, by go_num, Lib.hid (coll_yes (A := .cells #[] 0) hlt hcol.out HY.out HB2.out HG'.out HO'.out)⟩
      case measure => simp [intOf]; omega
    · have HE := Lib.hid (coll_end hlt hk hcol.out)
      go_wp2
      go_ret
      exact HE.out

/-! ### Whether two lists are the same -/
def sameL : List Ow → List Ow → Bool
  | [], [] => true
  | a :: r, b :: q => decide (a.kind = b.kind) && decide (a.n = b.n) && sameL r q
  | _, _ => false
theorem sameL_self : ∀ l : List Ow, sameL l l = true
  | [] => rfl
  | a :: r => by rw [sameL, sameL_self r]; simp

set_option maxHeartbeats 1000000 in
/-- Two slices that read as one list are the same. -/
theorem same_any (A1 A2 : Option Addr) (c1 c2 : Nat) (l : List Ow) (w : World) (hr1 : RO w w.heap.size A1 l) (hr2 : RO w w.heap.size A2 l) (hn1 : l.length ≤ 1000) (hc1 : l.length ≤ c1) (hc2 : l.length ≤ c2) :
    Calls Try.prog 8 #[.slice A1 l.length c1, .slice A2 l.length c2] w fun e w' => e = .returned (.bool true) ∧ Below w.heap.size w w' := by
  have HR1 := Lib.hid hr1
  have HR2 := Lib.hid hr2
  clear hr1 hr2
  go_enter Try.func8, Try.ntmps8
  go_wp2
  go_loopw [5] (fun i wr => ∃ k : Nat, k ≤ l.length ∧ i = .int .i64 k ∧ Below w.heap.size w wr) (fun i _ => l.length - (intOf i).toNat)
  case atStart => exact ⟨0, by omega, rfl, Below.refl _ _⟩
  case round =>
    obtain ⟨k, hk, rfl, hbw⟩ := hrel
    have hsz := hbw.size
    by_cases hlt : k < l.length
    · obtain ⟨b1, o1, rfl, hB1, q0, q1⟩ := (HR1.out.below hbw).at_ hlt
      obtain ⟨b2, o2, rfl, hB2, p0, p1⟩ := (HR2.out.below hbw).at_ hlt
      obtain ⟨x, hx⟩ : ∃ x, x = l[k] := ⟨_, rfl⟩
      rw [← hx] at q0 q1 p0 p1
      clear hx
      go_wp2
      go_quiet (fail)
      go_wp2
      go_roundw
      case rel => exact ⟨k + 1, by omega, by go_num, below_drewN hbw nq⟩
      case measure => simp [intOf]; omega
    · go_wp2
      go_ret
      exact ⟨rfl, hbw⟩
end Go.Proofs.Ytelnmbhnokadlaa
