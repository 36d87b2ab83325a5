/- A type's owners, how many of them are left out, as the program and the document's answer tell it. Conditions: none. -/
import Derived.Test.YtemhfbfodpeeaaaDoorTxt
namespace Go.Proofs.YtemhfbfodpeeaaaDoor
open Go.RowKit
set_option linter.unusedVariables false

/-- The cells of owners, one behind the other. -/
def ocells (l : List Ow) : List Value := l.flatMap fun o => [.int .i64 o.kind, .int .i64 o.n]
theorem ocells_len (l : List Ow) : (ocells l).length = l.length * 2 := by
  induction l with
  | nil => rfl
  | cons a r ih => unfold ocells at ih ⊢; rw [List.flatMap_cons, List.length_append, ih]; simp; omega
theorem ocells_snoc (l : List Ow) (o : Ow) : ocells (l ++ [o]) = ocells l ++ [.int .i64 o.kind, .int .i64 o.n] := by
  unfold ocells; rw [List.flatMap_append]; simp
theorem ocells_at {r : List Ow} {k : Nat} (h : k < r.length) : (ocells r)[k * 2]? = some (.int .i64 r[k].kind) ∧ (ocells r)[k * 2 + 1]? = some (.int .i64 r[k].n) := by
  have hs : r = r.take k ++ r[k] :: r.drop (k + 1) := by rw [← List.drop_eq_getElem_cons h, List.take_append_drop]
  have ht : ocells r = ocells (r.take k) ++ ([.int .i64 r[k].kind, .int .i64 r[k].n] ++ ocells (r.drop (k + 1))) := by
    conv => lhs; rw [hs]
    unfold ocells
    rw [List.flatMap_append, List.flatMap_cons]
  have hl : (ocells (r.take k)).length = k * 2 := by rw [ocells_len, List.length_take]; omega
  rw [ht]
  refine ⟨?_, ?_⟩
  · rw [List.getElem?_append_right (by omega), hl, Nat.sub_self]; rfl
  · rw [List.getElem?_append_right (by omega), hl, Nat.add_sub_cancel_left]; rfl
theorem own_info : (Tryd.prog.info? 23).map (fun i => (i.zero, i.size, i.bytes)) = some (some (.agg #[.int .i64 0, .int .i64 0]), 2, 16) := by kernel_rfl
theorem new2 (W : World) (x y : Value) (t : TypeId) (g : Nat) (hg : g = W.heap.size) : ∀ (j : Nat) (u : Value), [x, y][j]? = some u → (W.alloc (.cells #[x, y] t)).cell? ((⟨g, 0, none⟩ : Addr).add j) = some u := by
  intro j u h
  subst hg
  have hn : (W.alloc (.cells #[x, y] t)).heap[W.heap.size]? = some (.cells #[x, y] t (0, 0)) := heap_new W _
  have ha : (⟨W.heap.size, 0, none⟩ : Addr).add j = ⟨W.heap.size, j, none⟩ := by unfold Addr.add; split <;> simp_all
  rw [ha, cell_of_row _ _ j _ t (0, 0) hn]
  rw [← h]; simp
theorem ones2 (x y : Int) : ∀ u ∈ [Value.int .i64 x, Value.int .i64 y], u.oneCell' = true := by
  intro u hu
  simp at hu
  rcases hu with rfl | rfl <;> rfl


/-- What comes back: a slice that reads as a list of owners, nothing that was there has changed. -/
def BackO (r : List Ow) (w : World) (e : Ending) (w' : World) : Prop := ∃ (A : Option Addr) (c : Nat), e = .returned (.slice A r.length c) ∧ r.length ≤ c ∧ Below w.heap.size w w' ∧ RO w' w'.heap.size A r ∧ ∀ q, A = some q → w.heap.size ≤ q.block
theorem backO_none {w w' : World} (hb : Below w.heap.size w w') : BackO [] w (.returned (.slice none 0 0)) w' := ⟨none, 0, rfl, by simp, hb, fun h => absurd h (by simp), fun q hq => by cases hq⟩
theorem backO_row {r : List Ow} {B : Nat} {w w' : World} {v : Value} (hb : Below w.heap.size w w') (hB : w.heap.size ≤ B) (ho : w'.ownsRow B 23 2 v r.length (ocells r)) : BackO r w (.returned v) w' := by
  rcases ho.2 with ⟨rfl, h0⟩ | ⟨g, cap, cur, rfl, hg, hh, hc, hcm, _, _⟩
  · exact ⟨none, 0, by rw [h0], by omega, hb, fun hp => by omega, fun q hq => by cases hq⟩
  · refine ⟨some ⟨g, 0, none⟩, cap, rfl, hc, hb, fun hp => ⟨g, 0, rfl, heap_lt hh, fun i hi => ?_⟩, fun q hq => by cases hq; exact Nat.le_trans hB hg⟩
    obtain ⟨q0, q1⟩ := ocells_at hi
    have ha : ∀ j, (⟨g, 0, none⟩ : Addr).add j = ⟨g, 0 + j, none⟩ := by intro j; unfold Addr.add; split <;> simp_all
    have c0 := ho.cells (g := g) rfl _ _ q0
    have c1 := ho.cells (g := g) rfl _ _ q1
    rw [ha] at c0 c1
    exact ⟨c0, c1⟩
theorem TyIn.ro {w : World} {g : Nat} {t : Ty} (h : TyIn w g t) (h2 : t.kind = 2) : RO w w.heap.size (some ⟨g, 3, none⟩) t.owners := fun _ => ⟨g, 3, rfl, h.lt, fun i hi => by
  rw [Ty.owners_at h2 i hi]
  exact h.own (by have := Ty.owners_len h2; have := t.cnt_le; omega)⟩
theorem backO_cut {w w' : World} {g : Nat} {t : Ty} (hb : Below w.heap.size w w') (hg : w.heap.size ≤ g) (h : TyIn w' g t) : BackO t.owners w (.returned (cutV g t)) w' := by
  by_cases h2 : t.kind = 2
  · refine ⟨some ⟨g, 3, none⟩, t.cnt + 1, ?_, by rw [Ty.owners_len h2]; exact Nat.le_refl _, hb, h.ro h2, fun q hq => by cases hq; exact hg⟩
    rw [cut_obj h2 t.cnt rfl, Ty.owners_len h2]
  · rw [cut_none h2, Ty.owners_none h2]
    exact backO_none hb

theorem owners_any (t : Ty) (w : World) : Calls Tryd.prog 11 #[.agg t.cells] w (BackO t.owners w) := by
  have HT : Hid (TyIn (w.alloc (.cells t.cells 26)) w.heap.size t) := Lib.hid (TyIn.new w t)
  have HV := Lib.hid (backO_cut (below1 w _) (Nat.le_refl _) HT.out)
  unfold Ty.cells at HT HV ⊢
  go_enter Tryd.func11, Tryd.ntmps11
  go_wp2_with fail
  refine (cut_any _ t _ HT.out).mono ?_
  rintro e w1 ⟨rfl, rfl⟩
  obtain ⟨v, hv⟩ : ∃ v, v = cutV w.heap.size t := ⟨_, rfl⟩
  rw [← hv] at HV ⊢
  clear hv
  go_wp2
  go_ret
  exact HV.out

/-- What the answer's loop has collected. -/
def CollO (W0 : World) (l : List Ow) (k : Nat) (v : Value) (wr : World) : Prop := wr.ownsRow W0.heap.size 23 2 v k (ocells (l.take k)) ∧ Below W0.heap.size W0 wr
theorem collO_next {W0 wr w1 w' : World} {l : List Ow} {k : Nat} {v v' : Value} {B : Obj} {y : Ow} (h : CollO W0 l k v wr) (hy : l[k]? = some y) (hb : Below wr.heap.size wr w1) (hg : (w1.alloc B).grownBy w' v.ownBlock)
    (ho : w'.ownsRow W0.heap.size 23 2 v' (k + 1) (ocells (l.take k) ++ [.int .i64 y.kind, .int .i64 y.n])) : CollO W0 l (k + 1) v' w' := by
  have hs := h.2.size
  have hs1 := hb.size
  refine ⟨?_, ((h.2.trans (hb.mono hs)).alloc (by omega) _).grown hg (by simp; omega) (fun q hq => (h.1.lt q hq).1)⟩
  rw [List.take_add_one, hy]
  show w'.ownsRow W0.heap.size 23 2 v' (k + 1) (ocells (l.take k ++ [y]))
  rw [ocells_snoc]
  exact ho
theorem collO_end {w W0 wr : World} {l : List Ow} {k : Nat} {v : Value} (hk : k = l.length) (h : CollO W0 l k v wr) (hb : Below w.heap.size w W0) : BackO l w (.returned v) wr := by
  subst hk
  have ho := h.1
  rw [List.take_length] at ho
  exact backO_row (hb.trans (h.2.mono hb.size)) hb.size ho

set_option maxHeartbeats 2000000 in
theorem refOwners_any (t : Ty) (w : World) : Calls Tryd.prog 12 #[.agg t.cells] w (BackO t.owners w) := by
  obtain ⟨i0, hi, hz0, hz1, hz2⟩ := info_parts own_info
  have HT : Hid (TyIn (w.alloc (.cells t.cells 26)) w.heap.size t) := Lib.hid (TyIn.new w t)
  obtain ⟨W0, hW0⟩ : ∃ W0, W0 = w.alloc (.cells t.cells 26) := ⟨_, rfl⟩
  have HB0 : Hid (Below w.heap.size w W0) := Lib.hid (by rw [hW0]; exact below1 w _)
  rw [← hW0] at HT
  obtain ⟨g, hg⟩ : ∃ g, g = w.heap.size := ⟨_, rfl⟩
  rw [← hg] at HT
  have hc3 := t.cnt_le
  obtain ⟨m, hm⟩ : ∃ m, m = t.cnt := ⟨_, rfl⟩
  have HM := Lib.hid hm
  rw [← hm] at hc3
  clear hm
  unfold Ty.cells at hW0
  by_cases h2 : t.kind = 2
  · have HK := Lib.hid h2
    have HL : Hid (t.owners.length = m + 1) := Lib.hid (by rw [HM.out]; exact Ty.owners_len h2)
    clear h2
    unfold Ty.cells
    go_enter Tryd.func12, Tryd.ntmps12
    go_wp2_with fail
    rw [← hW0, ← hg]
    clear hg hW0
    go_loopw [3, 4] (fun v i wr => ∃ k : Nat, k ≤ m + 1 ∧ i = .int .i64 k ∧ Hid (CollO W0 t.owners k v wr)) (fun _ i _ => m + 1 - (intOf i).toNat)
    case atStart => exact ⟨0, by omega, rfl, Lib.hid ⟨World.ownsRow_nil _ _ _ _, Below.refl _ _⟩⟩
    case round =>
      obtain ⟨k, hk, rfl, hs⟩ := hrel
      have HTr := Lib.hid (HT.out.below hs.out.2)
      obtain ⟨f0, f1, f2, f3, f4, f5, f6, f7, f8, f9, f10⟩ := HTr.out.eleven
      have hgr := HTr.out.lt
      go_wp2_with fail
      refine (count_any t _).mono ?_
      rintro e w1 ⟨rfl, hb1⟩
      rw [← HM.out]
      have HT1 := Lib.hid (HTr.out.below hb1)
      have HB1 := Lib.hid hb1
      have hsz1 := hb1.size
      clear hb1 f0 f1 f2 f3 f4 f5 f6 f7 f8 f9 f10
      have f0 : w1.cell? ⟨g, 0, none⟩ = some (.int .i64 t.kind) := HT1.out.cell 0
      rw [HK.out] at f0
      by_cases hlt : k < m + 1
      · have hle : (k : Int) ≤ (m : Int) := by omega
        obtain ⟨q0, q1⟩ := HT1.out.own (i := k) (by omega)
        have HY : Hid (t.owners[k]? = some (t.own k)) := Lib.hid (by
          rw [List.getElem?_eq_getElem (by rw [HL.out]; exact hlt), Ty.owners_at HK.out])
        obtain ⟨x, hx⟩ : ∃ x, x = t.own k := ⟨_, rfl⟩
        rw [← hx] at q0 q1 HY
        clear hx
        have hown := own_below hs.out.1 HB1.out
        have hgr1 := HT1.out.lt
        have hszs := hs.out.2.size
        go_wp2_with (at_builtin; refine wpList_append_own _ rfl (.tmp 16) (.tmp 21) 32 rfl W0.heap.size 23 i0 (.agg #[.int .i64 0, .int .i64 0]) 2 16 Tryd.underlying32 hi hz0 hz1 hz2 rfl (by decide) _ _ _ rfl (hown.alloc _) ⟨w1.heap.size, 0, none⟩ 1 1 [.int .i64 x.kind, .int .i64 x.n] rfl rfl (new2 _ _ _ _ _ rfl) (ones2 _ _) (by unfold maxLen; omega) (by omega) (by simp; omega) ?_; intro v' w' hown' hgrow' hiff; clear hiff; have HO' := Lib.hid hown'; have HG' := Lib.hid hgrow'; clear hown' hgrow')
        go_roundw
        case rel => exact ⟨k + 1, by omega, by go_num, Lib.hid (collO_next hs.out HY.out HB1.out HG'.out HO'.out)⟩
        case measure => simp [intOf]; omega
      · obtain rfl : k = m + 1 := by omega
        have HE : Hid (BackO t.owners w (.returned u3) w1) := Lib.hid (by
          have := collO_end HL.out.symm ⟨own_below hs.out.1 HB1.out, hs.out.2.trans (HB1.out.mono hs.out.2.size)⟩ HB0.out
          exact this)
        go_wp2
        go_ret
        exact HE.out
  · have HO : Hid (BackO t.owners w (.returned (.slice none 0 0)) W0) := Lib.hid (by rw [Ty.owners_none h2]; exact backO_none HB0.out)
    have e2 : (t.kind == 2) = false := beq_no h2
    have HB : Hid (∀ w1, Below W0.heap.size W0 w1 → BackO t.owners w (.returned (.slice none 0 0)) w1) := Lib.hid (fun w1 hb => by rw [Ty.owners_none h2]; exact backO_none (HB0.out.trans (hb.mono HB0.out.size)))
    clear h2
    unfold Ty.cells
    go_enter Tryd.func12, Tryd.ntmps12
    go_wp2_with fail
    rw [← hW0, ← hg]
    clear hg hW0
    go_loopw [3, 4] (fun v i wr => v = .slice none 0 0 ∧ i = .int .i64 0 ∧ wr = W0) (fun _ i _ => 0)
    case atStart => exact ⟨rfl, rfl, rfl⟩
    case round =>
      obtain ⟨rfl, rfl, rfl⟩ := hrel
      obtain ⟨f0, f1, f2, f3, f4, f5, f6, f7, f8, f9, f10⟩ := HT.out.eleven
      have hgr := HT.out.lt
      go_wp2_with fail
      refine (count_any t _).mono ?_
      rintro e w1 ⟨rfl, hb1⟩
      have HE := Lib.hid (HB.out _ hb1)
      have HT1 := Lib.hid (HT.out.below hb1)
      clear hb1 f0 f1 f2 f3 f4 f5 f6 f7 f8 f9 f10
      have f0 : w1.cell? ⟨g, 0, none⟩ = some (.int .i64 t.kind) := HT1.out.cell 0
      go_wp2
      all_goals
        go_ret
        exact HE.out

/-! ### Holes -/
def hk (l : List Ow) (k : Nat) : Nat := ((l.take k).filter fun o => decide (o.kind = 7)).length
theorem hk_le (l : List Ow) (k : Nat) : hk l k ≤ l.length := by
  unfold hk
  have h1 := List.length_filter_le (fun o : Ow => decide (o.kind = 7)) (l.take k)
  rw [List.length_take] at h1
  omega
theorem hk_yes {l : List Ow} {k : Nat} {x : Ow} (h : l[k]? = some x) (h7 : x.kind = 7) : hk l (k + 1) = hk l k + 1 := by
  unfold hk
  rw [List.take_add_one, h, List.filter_append]
  simp [h7]
theorem hk_no {l : List Ow} {k : Nat} {x : Ow} (h : l[k]? = some x) (h7 : ¬ x.kind = 7) : hk l (k + 1) = hk l k := by
  unfold hk
  rw [List.take_add_one, h, List.filter_append]
  simp [h7]
theorem hk_end (t : Ty) {k : Nat} (h : k = t.owners.length) : hk t.owners k = t.holes := by
  subst h; unfold hk Ty.holes; rw [List.take_length]
theorem holes_none {t : Ty} (h : ¬ t.kind = 2) : t.holes = 0 := by unfold Ty.holes; rw [Ty.owners_none h]; rfl

set_option maxHeartbeats 2000000 in
theorem holes_any (t : Ty) (w : World) : Calls Tryd.prog 13 #[.agg t.cells] w fun e w' => e = .returned (.int .i64 t.holes) ∧ Below w.heap.size w w' := by
  have HT : Hid (TyIn (w.alloc (.cells t.cells 26)) w.heap.size t) := Lib.hid (TyIn.new w t)
  obtain ⟨W0, hW0⟩ : ∃ W0, W0 = w.alloc (.cells t.cells 26) := ⟨_, rfl⟩
  have HB0 : Hid (Below w.heap.size w W0) := Lib.hid (by rw [hW0]; exact below1 w _)
  rw [← hW0] at HT
  obtain ⟨g, hg⟩ : ∃ g, g = w.heap.size := ⟨_, rfl⟩
  rw [← hg] at HT
  have hc3 := t.cnt_le
  unfold Ty.cells at hW0
  by_cases h2 : t.kind = 2
  · have HV := Lib.hid (cut_obj (g := g) h2 t.cnt rfl)
    obtain ⟨m, hm⟩ : ∃ m, m = t.cnt := ⟨_, rfl⟩
    have HL : Hid (t.owners.length = m + 1) := Lib.hid (by rw [hm]; exact Ty.owners_len h2)
    have HK := Lib.hid h2
    rw [← hm] at hc3 HV
    clear hm h2
    unfold Ty.cells
    go_enter Tryd.func13, Tryd.ntmps13
    go_wp2_with fail
    rw [← hW0, ← hg]
    clear hg hW0
    refine (cut_any g t _ HT.out).mono ?_
    rintro e w1 ⟨rfl, rfl⟩
    rw [HV.out]
    go_wp2
    go_loopw [3, 8] (fun n i wr => ∃ k : Nat, k ≤ m + 1 ∧ i = .int .i64 k ∧ n = .int .i64 (hk t.owners k) ∧ Hid (Below W0.heap.size W0 wr)) (fun _ i _ => m + 1 - (intOf i).toNat)
    case atStart => exact ⟨0, by omega, rfl, rfl, Lib.hid (Below.refl _ _)⟩
    case round =>
      obtain ⟨k, hk0, rfl, rfl, hs⟩ := hrel
      have HTr := Lib.hid (HT.out.below hs.out)
      have hgr := HTr.out.lt
      have hsz := hs.out.size
      obtain ⟨z, hz⟩ : ∃ z, z = hk t.owners k := ⟨_, rfl⟩
      have hzle : z ≤ 4 := by have := hk_le t.owners k; have := HL.out; omega
      have HZ := Lib.hid hz
      rw [← hz]
      clear hz
      by_cases hlt : k < m + 1
      · obtain ⟨q0, q1⟩ := HTr.out.own (i := k) (by omega)
        have HY : Hid (t.owners[k]? = some (t.own k)) := Lib.hid (by
          rw [List.getElem?_eq_getElem (by rw [HL.out]; exact hlt), Ty.owners_at HK.out])
        obtain ⟨x, hx⟩ : ∃ x, x = t.own k := ⟨_, rfl⟩
        rw [← hx] at q0 q1 HY
        clear hx
        by_cases h7 : x.kind = 7
        · have HN : Hid (hk t.owners (k + 1) = z + 1) := Lib.hid (by rw [hk_yes HY.out h7, HZ.out])
          rw [h7] at q0
          clear h7
          go_wp2
          go_roundw
          case rel => exact ⟨k + 1, by omega, by go_num, by rw [HN.out]; go_num, Lib.hid (hs.out.alloc hsz _)⟩
          case measure => simp [intOf]; omega
        · have HN : Hid (hk t.owners (k + 1) = z) := Lib.hid (by rw [hk_no HY.out h7, HZ.out])
          have e7 := beq_no h7
          clear h7
          go_wp2
          go_roundw
          case rel => exact ⟨k + 1, by omega, by go_num, by rw [HN.out], Lib.hid (hs.out.alloc hsz _)⟩
          case measure => simp [intOf]; omega
      · have HE := Lib.hid (hk_end t (k := k) (by have := HL.out; omega))
        go_wp2
        go_ret
        exact ⟨ret_i (by rw [HZ.out, HE.out]), HB0.out.trans (hs.out.mono HB0.out.size)⟩
  · have HV := Lib.hid (cut_none (g := g) h2)
    have HE := Lib.hid (holes_none h2)
    clear h2
    unfold Ty.cells
    go_enter Tryd.func13, Tryd.ntmps13
    go_wp2_with fail
    rw [← hW0, ← hg]
    clear hg hW0
    refine (cut_any g t _ HT.out).mono ?_
    rintro e w1 ⟨rfl, rfl⟩
    rw [HV.out]
    go_wp2
    go_loopw [3, 8] (fun n i wr => n = .int .i64 0 ∧ i = .int .i64 0 ∧ wr = W0) (fun _ i _ => 0)
    case atStart => exact ⟨rfl, rfl, rfl⟩
    case round =>
      obtain ⟨rfl, rfl, rfl⟩ := hrel
      go_wp2
      go_ret
      exact ⟨by rw [HE.out]; rfl, HB0.out⟩

set_option maxHeartbeats 2000000 in
theorem refHoles_any (t : Ty) (w : World) : Calls Tryd.prog 14 #[.agg t.cells] w fun e w' => e = .returned (.int .i64 t.holes) ∧ Below w.heap.size w w' := by
  have HB0 : Hid (Below w.heap.size w (w.alloc (.cells t.cells 26))) := Lib.hid (below1 w _)
  have HL : Hid (t.owners.length ≤ 4) := Lib.hid (by unfold Ty.owners; split <;> simp; omega)
  unfold Ty.cells at HB0 ⊢
  go_enter Tryd.func14, Tryd.ntmps14
  go_wp2_with fail
  refine (refOwners_any t _).mono ?_
  rintro e w1 ⟨A, c, rfl, hc, hb1, hro⟩
  have HRO := Lib.hid hro.1
  have HB1 := Lib.hid (HB0.out.trans (hb1.mono HB0.out.size))
  have hlen := HL.out
  obtain ⟨L, hL⟩ : ∃ L, L = t.owners.length := ⟨_, rfl⟩
  have HLE := Lib.hid hL
  rw [← hL] at hc hlen ⊢
  clear hro hb1 hL
  go_wp2
  go_loopw [3, 5] (fun n i wr => ∃ k : Nat, k ≤ L ∧ i = .int .i64 k ∧ n = .int .i64 (hk t.owners k) ∧ wr = w1) (fun _ i _ => L - (intOf i).toNat)
  case atStart => exact ⟨0, by omega, rfl, rfl, rfl⟩
  case round =>
    obtain ⟨k, hk0, rfl, rfl, rfl⟩ := hrel
    obtain ⟨z, hz⟩ : ∃ z, z = hk t.owners k := ⟨_, rfl⟩
    have hzle : z ≤ 4 := by have := hk_le t.owners k; have := HL.out; omega
    have HZ := Lib.hid hz
    rw [← hz]
    clear hz
    by_cases hlt : k < L
    · have hlt' : k < t.owners.length := by have := HLE.out; omega
      obtain ⟨b, o, rfl, hB, q0, q1⟩ := HRO.out.at_ hlt'
      have HY : Hid (t.owners[k]? = some t.owners[k]) := Lib.hid (List.getElem?_eq_getElem hlt')
      obtain ⟨x, hx⟩ : ∃ x, x = t.owners[k] := ⟨_, rfl⟩
      rw [← hx] at q0 q1 HY
      clear hx hlt'
      by_cases h7 : x.kind = 7
      · have HN : Hid (hk t.owners (k + 1) = z + 1) := Lib.hid (by rw [hk_yes HY.out h7, HZ.out])
        rw [h7] at q0
        clear h7
        go_wp2
        go_roundw
        case rel => exact ⟨k + 1, by omega, by go_num, by rw [HN.out]; go_num, trivial⟩
        case measure => simp [intOf]; omega
      · have HN : Hid (hk t.owners (k + 1) = z) := Lib.hid (by rw [hk_no HY.out h7, HZ.out])
        have e7 := beq_no h7
        clear h7
        go_wp2
        go_roundw
        case rel => exact ⟨k + 1, by omega, by go_num, by rw [HN.out], trivial⟩
        case measure => simp [intOf]; omega
    · have HE := Lib.hid (hk_end t (k := k) (by have := HLE.out; omega))
      go_wp2
      go_ret
      exact ⟨ret_i (by rw [HZ.out, HE.out]), HB1.out⟩
end Go.Proofs.YtemhfbfodpeeaaaDoor
