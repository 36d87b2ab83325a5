/- The document's answer: a type. Conditions: at most 1000 parameters, and at most 1000000 tokens. -/
import Derived.Test.YtbcgooofelnkoaaRo
namespace Go.Proofs.Ytbcgooofelnkoaa
open Go.RowKit
set_option linter.unusedVariables false

/-- What the document's answer hands back of a type. -/
def RtP (r : Rz Ty) (w : World) (x : Ending) (w' : World) : Prop :=
  Below w.heap.size w w' ∧ x = .returned (match r with
    | .ok t a => gotV (.slice none 0 0) t ⟨#[]⟩ ty0 0 a 0 0
    | .err e p => gotE e p)
/-- What is read behind the owner. -/
def objTail (l : List Gt) (ps : List ByteArray) (o : Ow) (a1 : Int) : Rz Ty :=
  if (tokI l a1).kind = 1 then (if (tokI l (a1 + 1)).is sLt = true then withOw (tokI l a1).text o (ownersP l ps (a1 + 1)) else .ok (tyOf (tokI l a1).text o []) (a1 + 1)) else .err 3 (tokI l a1).pos
/-- The type, so many of whose owners are laid. -/
def tyK (s : ByteArray) (o : Ow) (y : List Ow) (k : Nat) : Ty :=
  ⟨2, s, (y.length : Int), o, if 0 < k then y.getD 0 ⟨0, 0⟩ else ⟨0, 0⟩, if 1 < k then y.getD 1 ⟨0, 0⟩ else ⟨0, 0⟩, if 2 < k then y.getD 2 ⟨0, 0⟩ else ⟨0, 0⟩⟩
theorem tyK_end {s : ByteArray} {o : Ow} {y : List Ow} (h : 1 ≤ y.length ∧ y.length ≤ 3) : tyK s o y y.length = tyOf s o y := by
  rcases list3 h with ⟨p, rfl⟩ | ⟨p, q, rfl⟩ | ⟨p, q, r, rfl⟩ <;> rfl
/-- The type while it is made. -/
def tyH (s : ByteArray) (n : Int) (o : Ow) : Ty := ⟨2, s, n, o, ⟨0, 0⟩, ⟨0, 0⟩, ⟨0, 0⟩⟩
theorem tyH_own (s : ByteArray) (n k m : Int) (o : Ow) : (((tyH s n o).cellL.toArray.setIfInBounds 3 (.int .i64 k)).setIfInBounds 4 (.int .i64 m)) = (tyH s n ⟨k, m⟩).cellL.toArray := rfl
theorem tyH_cls (s s' : ByteArray) (n : Int) (o : Ow) : ((tyH s n o).cellL.toArray.setIfInBounds 1 (.string s')) = (tyH s' n o).cellL.toArray := rfl
theorem tyH_len (s : ByteArray) (o : Ow) (y : List Ow) : ((tyH s 0 o).cellL.toArray.setIfInBounds 2 (.int .i64 (y.length : Nat))) = (tyK s o y 0).cellL.toArray := rfl
theorem tyK_0 (s : ByteArray) (o : Ow) (y : List Ow) : (((tyK s o y 0).cellL.toArray.setIfInBounds 5 (.int .i64 (y.getD 0 ⟨0, 0⟩).kind)).setIfInBounds 6 (.int .i64 (y.getD 0 ⟨0, 0⟩).n)) = (tyK s o y 1).cellL.toArray := rfl
theorem tyK_1 (s : ByteArray) (o : Ow) (y : List Ow) : (((tyK s o y 1).cellL.toArray.setIfInBounds 7 (.int .i64 (y.getD 1 ⟨0, 0⟩).kind)).setIfInBounds 8 (.int .i64 (y.getD 1 ⟨0, 0⟩).n)) = (tyK s o y 2).cellL.toArray := rfl
theorem tyK_2 (s : ByteArray) (o : Ow) (y : List Ow) : (((tyK s o y 2).cellL.toArray.setIfInBounds 9 (.int .i64 (y.getD 2 ⟨0, 0⟩).kind)).setIfInBounds 10 (.int .i64 (y.getD 2 ⟨0, 0⟩).n)) = (tyK s o y 3).cellL.toArray := rfl
theorem ocells_at {r : List Ow} {k : Nat} (h : k < r.length) : (ocells r)[k * 2]? = some (.int .i64 (r.getD k ⟨0, 0⟩).kind) ∧ (ocells r)[k * 2 + 1]? = some (.int .i64 (r.getD k ⟨0, 0⟩).n) := by
  have hs : r = r.take k ++ r[k] :: r.drop (k + 1) := by rw [← List.drop_eq_getElem_cons h, List.take_append_drop]
  have ht : ocells r = ocells (r.take k) ++ ([.int .i64 r[k].kind, .int .i64 r[k].n] ++ ocells (r.drop (k + 1))) := by
    conv => lhs; rw [hs]
    unfold ocells
    rw [List.flatMap_append, List.flatMap_cons]
  have hl : (ocells (r.take k)).length = k * 2 := by rw [ocells_len, List.length_take]; omega
  rw [ht, List.getD_eq_getElem?_getD, List.getElem?_eq_getElem h]
  refine ⟨?_, ?_⟩
  · rw [List.getElem?_append_right (by omega), hl, Nat.sub_self]; rfl
  · rw [List.getElem?_append_right (by omega), hl, Nat.add_sub_cancel_left]; rfl
/-- The loop that lays the owners. -/
structure Py (w : World) (s : ByteArray) (o : Ow) (y : List Ow) (g10 g12 yg yc : Nat) (CG : List Value) (k : Nat) (wr : World) : Prop where
  og : Og w wr
  x : wr.heap[g10]? = some (.cells (tyK s o y k).cellL.toArray 36 (0, 0))
  g : wr.heap[g12]? = some (.cells CG.toArray 43 (0, 0))
  src : ∀ j, j < y.length → wr.cell? ⟨yg, j * 2, none⟩ = some (.int .i64 (y.getD j ⟨0, 0⟩).kind) ∧ wr.cell? ⟨yg, j * 2 + 1, none⟩ = some (.int .i64 (y.getD j ⟨0, 0⟩).n)

set_option maxRecDepth 100000 in
set_option maxHeartbeats 2500000 in
theorem refParse_word (l : List Gt) (A : Option Addr) (c : Nat) (PA : Option Addr) (ps : List ByteArray) (pc : Nat) (a : Int) (f : Bool) (w : World) (hr : RT w w.heap.size A l) (hp : RS w w.heap.size PA ps) (hlc : l.length ≤ c) (hcm : c ≤ maxLen) (hlp : ps.length ≤ 1000) (hpc : ps.length ≤ pc) (hbd : l.length ≤ 1000000) (hvi : (tokI l a).is wVoid = true ∨ (tokI l a).is wInt = true) :
    Calls Try.prog 8 #[.slice A l.length c, .int .i64 a, .slice PA ps.length pc, .bool f] w (RtP (kindP l ps a f) w) := by
  have hn0 := heap_new w got0
  have hb0 := boxed w got0
  have HRT : Hid (∀ W, Below w.heap.size w W → RT W W.heap.size A l) := Lib.hid (fun W hb => (hr.below hb).more hb.size)
  have HRS : Hid (∀ W, Below w.heap.size w W → RS W W.heap.size PA ps) := Lib.hid (fun W hb => (hp.below hb).more hb.size)
  obtain ⟨W0, hW0⟩ : ∃ W0, W0 = w.alloc got0 := ⟨_, rfl⟩
  rw [← hW0] at hn0 hb0
  have HOG : Hid (Og w W0) := Lib.hid ⟨hn0, hb0⟩
  have HTK : Hid (∀ a W, Below w.heap.size w W → Calls Try.prog 21 #[.slice A l.length c, .int .i64 a] W fun x w' => x = .returned (tokI l a).val ∧ Below W.heap.size W w') := Lib.hid (fun a W hW => refTok_any l A c a W (HRT.out W hW) hlc hcm)
  have HWR : Hid (∀ e a W, Below w.heap.size w W → Calls Try.prog 26 #[.int .i64 e, .slice A l.length c, .int .i64 a] W fun x w' => x = .returned (gotE e (tokI l a).pos) ∧ Below W.heap.size W w') := Lib.hid (fun e a W hW => refWrong_any e l A c a W (HRT.out W hW) hlc hcm)
  have HIS : Hid (∀ t s W, Calls Try.prog 22 #[Gt.val t, .string s] W fun e w' => e = .returned (.bool (Gt.is t s)) ∧ Below W.heap.size W w') := Lib.hid (fun t s W => refIs_any t s W)
  have HWO : Hid (∀ t W, Calls Try.prog 23 #[Gt.val t] W fun x w' => x = .returned (.agg #[.int .i64 (wOw t), .int .i64 0]) ∧ Below W.heap.size W w') := Lib.hid (fun t W => refWord_any t W)
  have HNM : Hid (∀ t W, Below w.heap.size w W → Calls Try.prog 25 #[Gt.val t, .slice PA ps.length pc] W fun x w' => x = .returned (.agg #[.int .i64 (namedO t.text ps).kind, .int .i64 (namedO t.text ps).n]) ∧ Below W.heap.size W w') := Lib.hid (fun t W hW => refNamed_any t PA pc ps W (HRS.out W hW) hlp hpc)
  have HAH : Hid (0 ≤ a → a < l.length → ∀ W, Below w.heap.size w W → Calls Try.prog 24 #[.slice A l.length c, .int .i64 a, .bool f] W fun x w' => x = .returned (.bool (aheadP l a f)) ∧ Below W.heap.size W w') := Lib.hid (fun h0 h9 W hW => refAhead_any l A c a f W (HRT.out W hW) hlc hcm hbd h0 h9)
  have HOS : Hid (∀ a W, Below w.heap.size w W → Calls Try.prog 10 #[.slice A l.length c, .int .i64 a, .slice PA ps.length pc] W (RwP (ownersP l ps a) W)) := Lib.hid (fun a W hW => refOwners_any l A c PA ps pc a W (HRT.out W hW) (HRS.out W hW) hlc hcm hlp hpc hbd)
  have htk := Lib.hid (HTK.out a W0 hb0)
  obtain ⟨res, hres⟩ : ∃ res, res = kindP l ps a f := ⟨_, rfl⟩
  have HRES := Lib.hid hres
  rw [← hres]
  have HINT : Hid ((tokI l a).kind ≠ 0 → (0 ≤ a ∧ a < l.length) ∧ a + 1 ≤ 9223372036854775807 ∧ -9223372036854775808 ≤ a + 1) := Lib.hid (fun h => by
    have := tokI_in h
    omega)
  obtain ⟨t, ht⟩ : ∃ t, t = tokI l a := ⟨_, rfl⟩
  have HT := Lib.hid ht
  rw [← ht] at htk HINT
  have HISV := Lib.hid (HIS.out t ⟨#[118, 111, 105, 100]⟩)
  have HISI := Lib.hid (HIS.out t ⟨#[105, 110, 116]⟩)
  obtain ⟨bv, hbv⟩ : ∃ b, b = t.is ⟨#[118, 111, 105, 100]⟩ := ⟨_, rfl⟩
  obtain ⟨bi, hbi⟩ : ∃ b, b = t.is ⟨#[105, 110, 116]⟩ := ⟨_, rfl⟩
  have HIV : Hid (bv = true → t.kind ≠ 0) := Lib.hid (fun h h0 => by
    rw [hbv] at h
    unfold Gt.is at h
    rw [h0] at h
    simp at h)
  have HII : Hid (bi = true → t.kind ≠ 0) := Lib.hid (fun h h0 => by
    rw [hbi] at h
    unfold Gt.is at h
    rw [h0] at h
    simp at h)
  have HK : Hid (res = if bv = true then .ok ty0 (a + 1) else if bi = true then .ok tyInt (a + 1) else objectP l ps a f) := Lib.hid (by rw [hres, hbv, hbi, ht]; rfl)
  rw [← hbv] at HISV
  rw [← hbi] at HISI
  have HVI : Hid (((tokI l a).is wVoid = true → bv = true) ∧ ((tokI l a).is wInt = true → bi = true)) := Lib.hid (by rw [hbv, hbi, ht]; exact ⟨id, id⟩)
  clear hbv hbi ht hres hr hp hn0 hb0
  obtain ⟨tk, tx, tp⟩ := t
  rw [val_eq] at htk HISV HISI
  dsimp only at htk HISV HISI HINT HIV HII
  cases bv with
  | true =>
    have HRE : Hid (res = .ok ty0 (a + 1)) := HK
    obtain ⟨_, hn1, hn2⟩ := HINT.out (HIV.out rfl)
    go_enter Try.func8, Try.ntmps8
    go_upto_region 1 with fail
    change Code.wp _ _ _ _ (w.alloc got0)
    rw [← hW0]
    clear hW0
    go_wp2_with fail
    refine htk.out.mono ?_
    rintro x w1 ⟨rfl, hb1⟩
    have hb2 := boxed w1 (.cells #[.int .i64 tk, .string tx, .int .i64 tp] 55)
    have ht2 := heap_new w1 (.cells #[.int .i64 tk, .string tx, .int .i64 tp] 55)
    obtain ⟨W2, hW2⟩ : ∃ W2, W2 = w1.alloc (.cells #[.int .i64 tk, .string tx, .int .i64 tp] 55) := ⟨_, rfl⟩
    go_upto_region 2 with fail
    rw [← hW2] at hb2 ht2 ⊢
    clear hW2
    have HO2 := Lib.hid ((HOG.out.step hb1).step hb2)
    have HT2 := Lib.hid ht2
    obtain ⟨q0, q1, q2⟩ := row3 ht2
    clear hb1 hb2 ht2
    go_wp2_with fail
    refine (HISV.out _).mono ?_
    rintro x w3 ⟨rfl, hb3⟩
    have HO3 := Lib.hid (HO2.out.step hb3)
    have HT3 := Lib.hid ((hb3.block _ (heap_lt HT2.out)).trans HT2.out)
    clear hb3 q0 q1 q2
    obtain ⟨CL, hCL⟩ : ∃ CL, CL = gotL (.slice none 0 0) (ty0) ⟨#[]⟩ ty0 0 (a + 1) 0 0 := ⟨_, rfl⟩
    have hcz : CL.toArray.size = 28 := by rw [hCL]; rfl
    have hinf2 : (Try.prog.info? 43).map (·.size) = some CL.toArray.size := by rw [hcz]; kernel_rfl
    have hone : CL.toArray.all (·.oneCell') = true := by rw [hCL]; exact got_ones _ _ _ _ _ _ _ _ _ _
    have hth0 : World.there _ w.heap.size 0 CL.toArray.size := there_row HO3.out.b0 hcz
    have hlt := heap_lt HO3.out.b0
    have HEV : Hid ((Value.agg #[.slice none 0 0, .int .i64 0, .string ⟨#[]⟩, .int .i64 0, .int .i64 0, .int .i64 0, .int .i64 0, .int .i64 0, .int .i64 0, .int .i64 0, .int .i64 0, .int .i64 0, .string ⟨#[]⟩, .int .i64 0, .string ⟨#[]⟩, .int .i64 0, .int .i64 0, .int .i64 0, .int .i64 0, .int .i64 0, .int .i64 0, .int .i64 0, .int .i64 0, .int .i64 0, .int .i64 0, .int .i64 (a + 1), .int .i64 0, .int .i64 0]) = .agg CL.toArray) := Lib.hid (by rw [hCL]; rfl)
    have HLL : Hid (28 = CL.length) := Lib.hid (by rw [hCL]; rfl)
    have HGV : Hid (gotV (.slice none 0 0) (ty0) ⟨#[]⟩ ty0 0 (a + 1) 0 0 = .agg CL.toArray) := Lib.hid (by rw [hCL]; rfl)
    clear hCL hcz
    go_wp2_with (refine wpList_store_mid rfl 43 (.tmp 8) (.tmp 21) rfl w.heap.size 0 CL.toArray rfl HEV.out hth0 hinf2 hone ?_)
    have hs := set_all HO3.out.b0 CL HLL.out
    exact bodyPost_ret (v := .agg CL.toArray) (results_cell_row Try.results8 _ _ w.heap.size 43 _ (0, 0) _ rfl hs Try.underlying43 rfl hinf2) rfl ⟨setCells_below _ (Nat.le_refl _) _ _ _ HO3.out.bel, by rw [HRE.out]; exact congrArg Ending.returned HGV.out.symm⟩
  | false =>
    have HK2 : Hid (res = if bi = true then .ok tyInt (a + 1) else objectP l ps a f) := HK
    cases bi with
    | false =>
      rcases hvi with h | h
      · exact absurd (HVI.out.1 h) (by simp)
      · exact absurd (HVI.out.2 h) (by simp)
    | true =>
      have HRE : Hid (res = .ok tyInt (a + 1)) := HK2
      obtain ⟨_, hn1, hn2⟩ := HINT.out (HII.out rfl)
      go_enter Try.func8, Try.ntmps8
      go_upto_region 1 with fail
      change Code.wp _ _ _ _ (w.alloc got0)
      rw [← hW0]
      clear hW0
      go_wp2_with fail
      refine htk.out.mono ?_
      rintro x w1 ⟨rfl, hb1⟩
      have hb2 := boxed w1 (.cells #[.int .i64 tk, .string tx, .int .i64 tp] 55)
      have ht2 := heap_new w1 (.cells #[.int .i64 tk, .string tx, .int .i64 tp] 55)
      obtain ⟨W2, hW2⟩ : ∃ W2, W2 = w1.alloc (.cells #[.int .i64 tk, .string tx, .int .i64 tp] 55) := ⟨_, rfl⟩
      go_upto_region 2 with fail
      rw [← hW2] at hb2 ht2 ⊢
      clear hW2
      have HO2 := Lib.hid ((HOG.out.step hb1).step hb2)
      have HT2 := Lib.hid ht2
      obtain ⟨q0, q1, q2⟩ := row3 ht2
      clear hb1 hb2 ht2
      go_wp2_with fail
      refine (HISV.out _).mono ?_
      rintro x w3 ⟨rfl, hb3⟩
      have HO3 := Lib.hid (HO2.out.step hb3)
      have HT3 := Lib.hid ((hb3.block _ (heap_lt HT2.out)).trans HT2.out)
      clear hb3 q0 q1 q2
      obtain ⟨q0, q1, q2⟩ := row3 HT3.out
      go_wp2_with fail
      refine (HISI.out _).mono ?_
      rintro x w4 ⟨rfl, hb4⟩
      have HO4 := Lib.hid (HO3.out.step hb4)
      have HT4 := Lib.hid ((hb4.block _ (heap_lt HT3.out)).trans HT3.out)
      clear hb4 q0 q1 q2
      obtain ⟨CL, hCL⟩ : ∃ CL, CL = gotL (.slice none 0 0) (tyInt) ⟨#[]⟩ ty0 0 (a + 1) 0 0 := ⟨_, rfl⟩
      have hcz : CL.toArray.size = 28 := by rw [hCL]; rfl
      have hinf2 : (Try.prog.info? 43).map (·.size) = some CL.toArray.size := by rw [hcz]; kernel_rfl
      have hone : CL.toArray.all (·.oneCell') = true := by rw [hCL]; exact got_ones _ _ _ _ _ _ _ _ _ _
      have hth0 : World.there _ w.heap.size 0 CL.toArray.size := there_row HO4.out.b0 hcz
      have hlt := heap_lt HO4.out.b0
      have HEV : Hid ((Value.agg #[.slice none 0 0, .int .i64 1, .string ⟨#[]⟩, .int .i64 0, .int .i64 0, .int .i64 0, .int .i64 0, .int .i64 0, .int .i64 0, .int .i64 0, .int .i64 0, .int .i64 0, .string ⟨#[]⟩, .int .i64 0, .string ⟨#[]⟩, .int .i64 0, .int .i64 0, .int .i64 0, .int .i64 0, .int .i64 0, .int .i64 0, .int .i64 0, .int .i64 0, .int .i64 0, .int .i64 0, .int .i64 (a + 1), .int .i64 0, .int .i64 0]) = .agg CL.toArray) := Lib.hid (by rw [hCL]; rfl)
      have HLL : Hid (28 = CL.length) := Lib.hid (by rw [hCL]; rfl)
      have HGV : Hid (gotV (.slice none 0 0) (tyInt) ⟨#[]⟩ ty0 0 (a + 1) 0 0 = .agg CL.toArray) := Lib.hid (by rw [hCL]; rfl)
      clear hCL hcz
      go_wp2_with (refine wpList_store_mid rfl 43 (.tmp 8) (.tmp 27) rfl w.heap.size 0 CL.toArray rfl HEV.out hth0 hinf2 hone ?_)
      have hs := set_all HO4.out.b0 CL HLL.out
      exact bodyPost_ret (v := .agg CL.toArray) (results_cell_row Try.results8 _ _ w.heap.size 43 _ (0, 0) _ rfl hs Try.underlying43 rfl hinf2) rfl ⟨setCells_below _ (Nat.le_refl _) _ _ _ HO4.out.bel, by rw [HRE.out]; exact congrArg Ending.returned HGV.out.symm⟩
theorem cell_other {W : World} {g o g' o' : Nat} (h : g' ≠ g) (v : Value) : (W.setCell ⟨g, o, none⟩ v).cell? ⟨g', o', none⟩ = W.cell? ⟨g', o', none⟩ := by
  unfold World.cell?
  rw [heap_setCell_other W ⟨g, o, none⟩ g' v h]
theorem ownP_err {l : List Gt} {ps : List ByteArray} {a e p : Int} (h : ownP l ps a = .err e p) : e ≠ 0 := by
  unfold ownP at h
  repeat' split at h
  all_goals (cases h; try decide)
theorem ownersGo_err {l : List Gt} {ps : List ByteArray} : ∀ (n : Nat) (a : Int) (acc : List Ow) (e p : Int), ownersGo l ps n a acc = .err e p → e ≠ 0
  | 0, a, acc, e, p, h => by
    unfold ownersGo at h
    split at h
    · rename_i h1
      cases h
      exact ownP_err h1
    · cases h
      decide
  | n + 1, a, acc, e, p, h => by
    unfold ownersGo at h
    split at h
    · rename_i h1
      cases h
      exact ownP_err h1
    · split at h
      · exact ownersGo_err n _ _ _ _ h
      · split at h
        · cases h
        · cases h
          decide
theorem ownersP_err {l : List Gt} {ps : List ByteArray} {a e p : Int} (h : ownersP l ps a = .err e p) : e ≠ 0 := by
  unfold ownersP at h
  split at h
  · exact ownersGo_err _ _ _ _ _ h
  · cases h
    decide
theorem objectP_tail {l : List Gt} {ps : List ByteArray} {a a1 : Int} {f : Bool} {o : Ow} (h : firstP l ps a f = .ok o a1) : objectP l ps a f = objTail l ps o a1 := by
  unfold objectP
  rw [h]
  rfl

theorem wordK_unique {t : Gt} (h : ¬ wordK t = 0) : t.is wUnique = false := by
  cases hb : t.is wUnique with
  | false => rfl
  | true =>
    exfalso
    apply h
    have key : ∀ s : ByteArray, ¬ s = wUnique → t.is s = false := fun s hs => by
      cases hc : t.is s with
      | false => rfl
      | true =>
        unfold Gt.is at hb hc
        simp only [Bool.and_eq_true, decide_eq_true_eq] at hb hc
        exact absurd (hc.2.symm.trans hb.2) hs
    unfold wordK
    rw [key wRep (by unfold wRep wUnique; decide), key wPeer (by unfold wPeer wUnique; decide), key wWorld (by unfold wWorld wUnique; decide), key wAny (by unfold wAny wUnique; decide)]
    rfl
set_option maxRecDepth 100000 in
set_option maxHeartbeats 2500000 in
theorem refParse_other (l : List Gt) (A : Option Addr) (c : Nat) (PA : Option Addr) (ps : List ByteArray) (pc : Nat) (a : Int) (f : Bool) (w : World) (hr : RT w w.heap.size A l) (hp : RS w w.heap.size PA ps) (hlc : l.length ≤ c) (hcm : c ≤ maxLen) (hlp : ps.length ≤ 1000) (hpc : ps.length ≤ pc) (hbd : l.length ≤ 1000000) (hnv : ¬ (tokI l a).is wVoid = true ∧ ¬ (tokI l a).is wInt = true) (hkn : ¬ (tokI l a).kind = 1) :
    Calls Try.prog 8 #[.slice A l.length c, .int .i64 a, .slice PA ps.length pc, .bool f] w (RtP (kindP l ps a f) w) := by
  have hn0 := heap_new w got0
  have hb0 := boxed w got0
  have HRT : Hid (∀ W, Below w.heap.size w W → RT W W.heap.size A l) := Lib.hid (fun W hb => (hr.below hb).more hb.size)
  have HRS : Hid (∀ W, Below w.heap.size w W → RS W W.heap.size PA ps) := Lib.hid (fun W hb => (hp.below hb).more hb.size)
  obtain ⟨W0, hW0⟩ : ∃ W0, W0 = w.alloc got0 := ⟨_, rfl⟩
  rw [← hW0] at hn0 hb0
  have HOG : Hid (Og w W0) := Lib.hid ⟨hn0, hb0⟩
  have HTK : Hid (∀ a W, Below w.heap.size w W → Calls Try.prog 21 #[.slice A l.length c, .int .i64 a] W fun x w' => x = .returned (tokI l a).val ∧ Below W.heap.size W w') := Lib.hid (fun a W hW => refTok_any l A c a W (HRT.out W hW) hlc hcm)
  have HWR : Hid (∀ e a W, Below w.heap.size w W → Calls Try.prog 26 #[.int .i64 e, .slice A l.length c, .int .i64 a] W fun x w' => x = .returned (gotE e (tokI l a).pos) ∧ Below W.heap.size W w') := Lib.hid (fun e a W hW => refWrong_any e l A c a W (HRT.out W hW) hlc hcm)
  have HIS : Hid (∀ t s W, Calls Try.prog 22 #[Gt.val t, .string s] W fun e w' => e = .returned (.bool (Gt.is t s)) ∧ Below W.heap.size W w') := Lib.hid (fun t s W => refIs_any t s W)
  have HWO : Hid (∀ t W, Calls Try.prog 23 #[Gt.val t] W fun x w' => x = .returned (.agg #[.int .i64 (wOw t), .int .i64 0]) ∧ Below W.heap.size W w') := Lib.hid (fun t W => refWord_any t W)
  have HNM : Hid (∀ t W, Below w.heap.size w W → Calls Try.prog 25 #[Gt.val t, .slice PA ps.length pc] W fun x w' => x = .returned (.agg #[.int .i64 (namedO t.text ps).kind, .int .i64 (namedO t.text ps).n]) ∧ Below W.heap.size W w') := Lib.hid (fun t W hW => refNamed_any t PA pc ps W (HRS.out W hW) hlp hpc)
  have HAH : Hid (0 ≤ a → a < l.length → ∀ W, Below w.heap.size w W → Calls Try.prog 24 #[.slice A l.length c, .int .i64 a, .bool f] W fun x w' => x = .returned (.bool (aheadP l a f)) ∧ Below W.heap.size W w') := Lib.hid (fun h0 h9 W hW => refAhead_any l A c a f W (HRT.out W hW) hlc hcm hbd h0 h9)
  have HOS : Hid (∀ a W, Below w.heap.size w W → Calls Try.prog 10 #[.slice A l.length c, .int .i64 a, .slice PA ps.length pc] W (RwP (ownersP l ps a) W)) := Lib.hid (fun a W hW => refOwners_any l A c PA ps pc a W (HRT.out W hW) (HRS.out W hW) hlc hcm hlp hpc hbd)
  have htk := Lib.hid (HTK.out a W0 hb0)
  obtain ⟨res, hres⟩ : ∃ res, res = kindP l ps a f := ⟨_, rfl⟩
  have HRES := Lib.hid hres
  rw [← hres]
  have HINT : Hid ((tokI l a).kind ≠ 0 → (0 ≤ a ∧ a < l.length) ∧ a + 1 ≤ 9223372036854775807 ∧ -9223372036854775808 ≤ a + 1) := Lib.hid (fun h => by
    have := tokI_in h
    omega)
  obtain ⟨t, ht⟩ : ∃ t, t = tokI l a := ⟨_, rfl⟩
  have HT := Lib.hid ht
  rw [← ht] at htk HINT
  have HISV := Lib.hid (HIS.out t ⟨#[118, 111, 105, 100]⟩)
  have HISI := Lib.hid (HIS.out t ⟨#[105, 110, 116]⟩)
  obtain ⟨bv, hbv⟩ : ∃ b, b = t.is ⟨#[118, 111, 105, 100]⟩ := ⟨_, rfl⟩
  obtain ⟨bi, hbi⟩ : ∃ b, b = t.is ⟨#[105, 110, 116]⟩ := ⟨_, rfl⟩
  have HIV : Hid (bv = true → t.kind ≠ 0) := Lib.hid (fun h h0 => by
    rw [hbv] at h
    unfold Gt.is at h
    rw [h0] at h
    simp at h)
  have HII : Hid (bi = true → t.kind ≠ 0) := Lib.hid (fun h h0 => by
    rw [hbi] at h
    unfold Gt.is at h
    rw [h0] at h
    simp at h)
  have HK : Hid (res = if bv = true then .ok ty0 (a + 1) else if bi = true then .ok tyInt (a + 1) else objectP l ps a f) := Lib.hid (by rw [hres, hbv, hbi, ht]; rfl)
  rw [← hbv] at HISV
  rw [← hbi] at HISI
  have HWO5 := Lib.hid (fun W => HWO.out t W)
  have HNM5 := Lib.hid (fun W hW => HNM.out t W hW)
  have HOB : Hid (res = objectP l ps a f) := Lib.hid (by
    rw [hres]; unfold kindP
    rw [if_neg hnv.1, if_neg hnv.2])
  have hbv0 : bv = false := by
    have := hnv.1
    rw [← ht] at this
    rw [hbv]
    show t.is wVoid = false
    simpa using this
  have hbi0 : bi = false := by
    have := hnv.2
    rw [← ht] at this
    rw [hbi]
    show t.is wInt = false
    simpa using this
  subst hbv0 hbi0
  have hkn' : ¬ t.kind = 1 := by rw [ht]; exact hkn
  have HWW : Hid (¬ wOw t = 0 → firstP l ps a f = .ok ⟨wOw t, 0⟩ (a + 1)) := Lib.hid (fun h => by
    unfold firstP
    rw [← ht, if_neg (fun h => hkn' h.1)]
    unfold wOw at h ⊢
    by_cases h0 : wordK t = 0
    · rw [if_pos h0] at h ⊢
      by_cases hq : t.is wUnique = true
      · rw [if_pos hq, if_pos hq]
      · rw [if_neg hq] at h; exact absurd rfl h
    · rw [if_neg h0]
      have hq : t.is wUnique = false := wordK_unique h0
      rw [if_neg (by simp [hq])]
      unfold ownP
      rw [← ht, if_neg hkn', if_neg h0])
  have HWE : Hid (wOw t = 0 → objectP l ps a f = .err 3 t.pos) := Lib.hid (fun h => by
    unfold wOw at h
    have h0 : wordK t = 0 := by
      by_cases h0 : wordK t = 0
      · exact h0
      · rw [if_neg h0] at h; exact h
    have hq : ¬ t.is wUnique = true := fun hq => by rw [if_pos h0, if_pos hq] at h; cases h
    unfold objectP firstP
    rw [← ht, if_neg (fun h => hkn' h.1), if_neg hq]
    unfold ownP
    rw [← ht, if_neg hkn', if_pos h0])
  have HWI : Hid (¬ wOw t = 0 → t.kind ≠ 0) := Lib.hid (fun h h0 => h (by
    unfold wOw wordK Gt.is
    simp [h0]))
  obtain ⟨wk, hwk⟩ : ∃ wk, wk = wOw t := ⟨_, rfl⟩
  rw [← hwk] at HWO5 HWW HWE HWI
  clear hbv hbi ht hres hr hp hn0 hb0 hwk hkn hnv
  obtain ⟨tk, tx, tp⟩ := t
  rw [val_eq] at htk HISV HISI HWO5 HNM5
  dsimp only at htk HISV HISI HINT HWO5 HNM5 HWE HWI hkn'
  have hk0 : (tk == 1) = false := by simpa using hkn'
  by_cases hw0 : wk = 0
  · subst hw0
    have HRE : Hid (res = .err 3 tp) := Lib.hid (by rw [HOB.out]; exact HWE.out rfl)
    go_enter Try.func8, Try.ntmps8
    go_upto_region 1 with fail
    change Code.wp _ _ _ _ (w.alloc got0)
    rw [← hW0]
    clear hW0
    go_wp2_with fail
    refine htk.out.mono ?_
    rintro x w1 ⟨rfl, hb1⟩
    have hb2 := boxed w1 (.cells #[.int .i64 tk, .string tx, .int .i64 tp] 55)
    have ht2 := heap_new w1 (.cells #[.int .i64 tk, .string tx, .int .i64 tp] 55)
    obtain ⟨W2, hW2⟩ : ∃ W2, W2 = w1.alloc (.cells #[.int .i64 tk, .string tx, .int .i64 tp] 55) := ⟨_, rfl⟩
    go_upto_region 2 with fail
    rw [← hW2] at hb2 ht2 ⊢
    clear hW2
    have HO2 := Lib.hid ((HOG.out.step hb1).step hb2)
    have HT2 := Lib.hid ht2
    obtain ⟨q0, q1, q2⟩ := row3 ht2
    clear hb1 hb2 ht2
    go_wp2_with fail
    refine (HISV.out _).mono ?_
    rintro x w3 ⟨rfl, hb3⟩
    have HO3 := Lib.hid (HO2.out.step hb3)
    have HT3 := Lib.hid ((hb3.block _ (heap_lt HT2.out)).trans HT2.out)
    clear hb3 q0 q1 q2
    obtain ⟨q0, q1, q2⟩ := row3 HT3.out
    go_wp2_with fail
    refine (HISI.out _).mono ?_
    rintro x w4 ⟨rfl, hb4⟩
    have HO4 := Lib.hid (HO3.out.step hb4)
    have HT4 := Lib.hid ((hb4.block _ (heap_lt HT3.out)).trans HT3.out)
    clear hb4 q0 q1 q2
    go_upto_region 6 with fail
    have hb5 := boxed w4 (.cells #[.int .i64 2, .string ⟨#[]⟩, .int .i64 0, .int .i64 0, .int .i64 0, .int .i64 0, .int .i64 0, .int .i64 0, .int .i64 0, .int .i64 0, .int .i64 0] 36)
    have hn5 := heap_new w4 (.cells #[.int .i64 2, .string ⟨#[]⟩, .int .i64 0, .int .i64 0, .int .i64 0, .int .i64 0, .int .i64 0, .int .i64 0, .int .i64 0, .int .i64 0, .int .i64 0] 36)
    obtain ⟨W5, hW5⟩ : ∃ W5, W5 = w4.alloc (.cells #[.int .i64 2, .string ⟨#[]⟩, .int .i64 0, .int .i64 0, .int .i64 0, .int .i64 0, .int .i64 0, .int .i64 0, .int .i64 0, .int .i64 0, .int .i64 0] 36) := ⟨_, rfl⟩
    go_upto_region 7 with fail
    rw [← hW5] at hb5 hn5 ⊢
    clear hW5
    have hl4 := heap_lt HT4.out
    have hl40 := heap_lt HO4.out.b0
    obtain ⟨g10, hg10⟩ : ∃ g, g = w4.heap.size := ⟨_, rfl⟩
    rw [← hg10] at hn5 ⊢
    have h10w : w.heap.size < g10 := by omega
    have h10t : w1.heap.size < g10 := by omega
    have HX5 : Hid (W5.heap[g10]? = some (.cells (tyH ⟨#[]⟩ 0 ⟨0, 0⟩).cellL.toArray 36 (0, 0))) := Lib.hid hn5
    have HO5 := Lib.hid (HO4.out.step hb5)
    have HT5 := Lib.hid ((hb5.block _ hl4).trans HT4.out)
    obtain ⟨x3, x4⟩ : W5.cell? ⟨g10, 3, none⟩ = some (.int .i64 0) ∧ W5.cell? ⟨g10, 4, none⟩ = some (.int .i64 0) := ⟨cell_at hn5 3 _ rfl, cell_at hn5 4 _ rfl⟩
    have f3 := frozen_of hn5 3
    have f4 := frozen_of hn5 4
    have hlx := heap_lt hn5
    clear hb5 hn5 hg10
    go_upto_region 8 with fail
    have hxn0 := heap_setCell_same W5 g10 3 _ 36 (.int .i64 (7)) HX5.out
    have hxn := heap_setCell_same _ g10 4 _ 36 (.int .i64 (0)) hxn0
    rw [tyH_own] at hxn
    have hon : Og w ((W5.setCell ⟨g10, 3, none⟩ (.int .i64 (7))).setCell ⟨g10, 4, none⟩ (.int .i64 (0))) := ⟨((heap_setCell_other _ ⟨g10, 4, none⟩ w.heap.size _ (by show w.heap.size ≠ g10; omega)).trans (heap_setCell_other _ ⟨g10, 3, none⟩ w.heap.size _ (by show w.heap.size ≠ g10; omega))).trans HO5.out.b0, (HO5.out.bel.setCell (p := ⟨g10, 3, none⟩) (Nat.le_of_lt h10w) _).setCell (p := ⟨g10, 4, none⟩) (Nat.le_of_lt h10w) _⟩
    have htn := ((heap_setCell_other (W5.setCell ⟨g10, 3, none⟩ (.int .i64 (7))) ⟨g10, 4, none⟩ w1.heap.size (.int .i64 (0)) (by show w1.heap.size ≠ g10; omega)).trans (heap_setCell_other W5 ⟨g10, 3, none⟩ w1.heap.size (.int .i64 (7)) (by show w1.heap.size ≠ g10; omega))).trans HT5.out
    obtain ⟨W6, hW6⟩ : ∃ W, W = (W5.setCell ⟨g10, 3, none⟩ (.int .i64 (7))).setCell ⟨g10, 4, none⟩ (.int .i64 (0)) := ⟨_, rfl⟩
    rw [← hW6] at hxn hon htn ⊢
    clear hW6 x3 x4 f3 f4 hlx hxn0
    have HX6 := Lib.hid hxn
    have HO6 := Lib.hid hon
    have HT6 := Lib.hid htn
    clear hxn hon htn
    obtain ⟨q0, q1, q2⟩ := row3 HT6.out
    go_wp2_with fail
    refine (HWO5.out _).mono ?_
    rintro x w7 ⟨rfl, hb7⟩
    have HO7 := Lib.hid (HO6.out.step hb7)
    have HT7 := Lib.hid ((hb7.block _ (heap_lt HT6.out)).trans HT6.out)
    have HX7 := Lib.hid ((hb7.block _ (heap_lt HX6.out)).trans HX6.out)
    have hfd := own_field0 0 0
    clear hb7 q0 q1 q2
    obtain ⟨q0, q1, q2⟩ := row3 HT7.out
    obtain ⟨x3, x4⟩ : w7.cell? ⟨g10, 3, none⟩ = some (.int .i64 7) ∧ w7.cell? ⟨g10, 4, none⟩ = some (.int .i64 0) := ⟨cell_at HX7.out 3 _ rfl, cell_at HX7.out 4 _ rfl⟩
    have f3 := frozen_of HX7.out 3
    have f4 := frozen_of HX7.out 4
    have hlx := heap_lt HX7.out
    go_wp2_with fail
    clear x3 x4 f3 f4 hlx q0 q1 q2
    have htk16 := Lib.hid (HTK.out a _ HO7.out.bel)
    rw [← HT.out, val_eq] at htk16
    dsimp only at htk16
    go_upto_region 16 with fail
    go_wp2_with fail
    refine htk16.out.mono ?_
    rintro x wa ⟨rfl, hba⟩
    have HOa := Lib.hid (HO7.out.step hba)
    clear hba
    have hub : (tk != 1) = true := by simpa using hkn'
    have hbb := boxed wa (.cells #[.int .i64 tk, .string tx, .int .i64 tp] 55)
    have htb := heap_new wa (.cells #[.int .i64 tk, .string tx, .int .i64 tp] 55)
    obtain ⟨Wb, hWb⟩ : ∃ W, W = wa.alloc (.cells #[.int .i64 tk, .string tx, .int .i64 tp] 55) := ⟨_, rfl⟩
    go_upto_region 17 with fail
    rw [← hWb] at hbb htb ⊢
    clear hWb
    have HOb := Lib.hid (HOa.out.step hbb)
    obtain ⟨q0, q1, q2⟩ := row3 htb
    clear hbb htb
    go_wp2_with fail
    refine (HWR.out 3 a _ HOb.out.bel).mono ?_
    rintro x wc0 ⟨rfl, hbc⟩
    have HOc := Lib.hid (HOb.out.step hbc)
    clear hbc q0 q1 q2
    rw [← HT.out]
    dsimp only
    obtain ⟨CL, hCL⟩ : ∃ CL, CL = gotL (.slice none 0 0) ty0 ⟨#[]⟩ ty0 0 0 (3) (tp) := ⟨_, rfl⟩
    have hcz : CL.toArray.size = 28 := by rw [hCL]; rfl
    have hinf2 : (Try.prog.info? 43).map (·.size) = some CL.toArray.size := by rw [hcz]; kernel_rfl
    have hone : CL.toArray.all (·.oneCell') = true := by rw [hCL]; exact got_ones _ _ _ _ _ _ _ _ _ _
    have hth0 : World.there _ w.heap.size 0 CL.toArray.size := there_row HOc.out.b0 hcz
    have hlt := heap_lt HOc.out.b0
    have HEV : Hid (gotE (3) (tp) = .agg CL.toArray) := Lib.hid (by rw [hCL]; rfl)
    have HLL : Hid (28 = CL.length) := Lib.hid (by rw [hCL]; rfl)
    clear hCL hcz
    go_wp2_with (refine wpList_store_mid rfl 43 (.tmp 8) (.tmp 74) rfl w.heap.size 0 CL.toArray rfl HEV.out hth0 hinf2 hone ?_)
    have hs := set_all HOc.out.b0 CL HLL.out
    exact bodyPost_ret (v := .agg CL.toArray) (results_cell_row Try.results8 _ _ w.heap.size 43 _ (0, 0) _ rfl hs Try.underlying43 rfl hinf2) rfl ⟨setCells_below _ (Nat.le_refl _) _ _ _ HOc.out.bel, by rw [HRE.out]; exact congrArg Ending.returned HEV.out.symm⟩
  · have hwb : (wk != 0) = true := by simpa using hw0
    obtain ⟨_, hn1, hn2⟩ := HINT.out (HWI.out hw0)
    have HRT2 : Hid (res = objTail l ps ⟨wk, 0⟩ (a + 1)) := Lib.hid (by rw [HOB.out]; exact objectP_tail (HWW.out hw0))
    clear hw0
    go_enter Try.func8, Try.ntmps8
    go_upto_region 1 with fail
    change Code.wp _ _ _ _ (w.alloc got0)
    rw [← hW0]
    clear hW0
    go_wp2_with fail
    refine htk.out.mono ?_
    rintro x w1 ⟨rfl, hb1⟩
    have hb2 := boxed w1 (.cells #[.int .i64 tk, .string tx, .int .i64 tp] 55)
    have ht2 := heap_new w1 (.cells #[.int .i64 tk, .string tx, .int .i64 tp] 55)
    obtain ⟨W2, hW2⟩ : ∃ W2, W2 = w1.alloc (.cells #[.int .i64 tk, .string tx, .int .i64 tp] 55) := ⟨_, rfl⟩
    go_upto_region 2 with fail
    rw [← hW2] at hb2 ht2 ⊢
    clear hW2
    have HO2 := Lib.hid ((HOG.out.step hb1).step hb2)
    have HT2 := Lib.hid ht2
    obtain ⟨q0, q1, q2⟩ := row3 ht2
    clear hb1 hb2 ht2
    go_wp2_with fail
    refine (HISV.out _).mono ?_
    rintro x w3 ⟨rfl, hb3⟩
    have HO3 := Lib.hid (HO2.out.step hb3)
    have HT3 := Lib.hid ((hb3.block _ (heap_lt HT2.out)).trans HT2.out)
    clear hb3 q0 q1 q2
    obtain ⟨q0, q1, q2⟩ := row3 HT3.out
    go_wp2_with fail
    refine (HISI.out _).mono ?_
    rintro x w4 ⟨rfl, hb4⟩
    have HO4 := Lib.hid (HO3.out.step hb4)
    have HT4 := Lib.hid ((hb4.block _ (heap_lt HT3.out)).trans HT3.out)
    clear hb4 q0 q1 q2
    go_upto_region 6 with fail
    have hb5 := boxed w4 (.cells #[.int .i64 2, .string ⟨#[]⟩, .int .i64 0, .int .i64 0, .int .i64 0, .int .i64 0, .int .i64 0, .int .i64 0, .int .i64 0, .int .i64 0, .int .i64 0] 36)
    have hn5 := heap_new w4 (.cells #[.int .i64 2, .string ⟨#[]⟩, .int .i64 0, .int .i64 0, .int .i64 0, .int .i64 0, .int .i64 0, .int .i64 0, .int .i64 0, .int .i64 0, .int .i64 0] 36)
    obtain ⟨W5, hW5⟩ : ∃ W5, W5 = w4.alloc (.cells #[.int .i64 2, .string ⟨#[]⟩, .int .i64 0, .int .i64 0, .int .i64 0, .int .i64 0, .int .i64 0, .int .i64 0, .int .i64 0, .int .i64 0, .int .i64 0] 36) := ⟨_, rfl⟩
    go_upto_region 7 with fail
    rw [← hW5] at hb5 hn5 ⊢
    clear hW5
    have hl4 := heap_lt HT4.out
    have hl40 := heap_lt HO4.out.b0
    obtain ⟨g10, hg10⟩ : ∃ g, g = w4.heap.size := ⟨_, rfl⟩
    rw [← hg10] at hn5 ⊢
    have h10w : w.heap.size < g10 := by omega
    have h10t : w1.heap.size < g10 := by omega
    have HX5 : Hid (W5.heap[g10]? = some (.cells (tyH ⟨#[]⟩ 0 ⟨0, 0⟩).cellL.toArray 36 (0, 0))) := Lib.hid hn5
    have HO5 := Lib.hid (HO4.out.step hb5)
    have HT5 := Lib.hid ((hb5.block _ hl4).trans HT4.out)
    obtain ⟨x3, x4⟩ : W5.cell? ⟨g10, 3, none⟩ = some (.int .i64 0) ∧ W5.cell? ⟨g10, 4, none⟩ = some (.int .i64 0) := ⟨cell_at hn5 3 _ rfl, cell_at hn5 4 _ rfl⟩
    have f3 := frozen_of hn5 3
    have f4 := frozen_of hn5 4
    have hlx := heap_lt hn5
    clear hb5 hn5 hg10
    go_upto_region 8 with fail
    have hxn0 := heap_setCell_same W5 g10 3 _ 36 (.int .i64 (7)) HX5.out
    have hxn := heap_setCell_same _ g10 4 _ 36 (.int .i64 (0)) hxn0
    rw [tyH_own] at hxn
    have hon : Og w ((W5.setCell ⟨g10, 3, none⟩ (.int .i64 (7))).setCell ⟨g10, 4, none⟩ (.int .i64 (0))) := ⟨((heap_setCell_other _ ⟨g10, 4, none⟩ w.heap.size _ (by show w.heap.size ≠ g10; omega)).trans (heap_setCell_other _ ⟨g10, 3, none⟩ w.heap.size _ (by show w.heap.size ≠ g10; omega))).trans HO5.out.b0, (HO5.out.bel.setCell (p := ⟨g10, 3, none⟩) (Nat.le_of_lt h10w) _).setCell (p := ⟨g10, 4, none⟩) (Nat.le_of_lt h10w) _⟩
    have htn := ((heap_setCell_other (W5.setCell ⟨g10, 3, none⟩ (.int .i64 (7))) ⟨g10, 4, none⟩ w1.heap.size (.int .i64 (0)) (by show w1.heap.size ≠ g10; omega)).trans (heap_setCell_other W5 ⟨g10, 3, none⟩ w1.heap.size (.int .i64 (7)) (by show w1.heap.size ≠ g10; omega))).trans HT5.out
    obtain ⟨W6, hW6⟩ : ∃ W, W = (W5.setCell ⟨g10, 3, none⟩ (.int .i64 (7))).setCell ⟨g10, 4, none⟩ (.int .i64 (0)) := ⟨_, rfl⟩
    rw [← hW6] at hxn hon htn ⊢
    clear hW6 x3 x4 f3 f4 hlx hxn0
    have HX6 := Lib.hid hxn
    have HO6 := Lib.hid hon
    have HT6 := Lib.hid htn
    clear hxn hon htn
    obtain ⟨q0, q1, q2⟩ := row3 HT6.out
    go_wp2_with fail
    refine (HWO5.out _).mono ?_
    rintro x w7 ⟨rfl, hb7⟩
    have HO7 := Lib.hid (HO6.out.step hb7)
    have HT7 := Lib.hid ((hb7.block _ (heap_lt HT6.out)).trans HT6.out)
    have HX7 := Lib.hid ((hb7.block _ (heap_lt HX6.out)).trans HX6.out)
    have hfd := own_field0 wk 0
    clear hb7 q0 q1 q2
    obtain ⟨q0, q1, q2⟩ := row3 HT7.out
    obtain ⟨x3, x4⟩ : w7.cell? ⟨g10, 3, none⟩ = some (.int .i64 7) ∧ w7.cell? ⟨g10, 4, none⟩ = some (.int .i64 0) := ⟨cell_at HX7.out 3 _ rfl, cell_at HX7.out 4 _ rfl⟩
    have f3 := frozen_of HX7.out 3
    have f4 := frozen_of HX7.out 4
    have hlx := heap_lt HX7.out
    go_wp2_with fail
    refine (HWO5.out _).mono ?_
    rintro x w8 ⟨rfl, hb8⟩
    have HO8 := Lib.hid (HO7.out.step hb8)
    have HT8 := Lib.hid ((hb8.block _ (heap_lt HT7.out)).trans HT7.out)
    have HX8 := Lib.hid ((hb8.block _ (heap_lt HX7.out)).trans HX7.out)
    clear hb8 q0 q1 q2 x3 x4 f3 f4 hlx
    obtain ⟨x3, x4⟩ : w8.cell? ⟨g10, 3, none⟩ = some (.int .i64 7) ∧ w8.cell? ⟨g10, 4, none⟩ = some (.int .i64 0) := ⟨cell_at HX8.out 3 _ rfl, cell_at HX8.out 4 _ rfl⟩
    have f3 := frozen_of HX8.out 3
    have f4 := frozen_of HX8.out 4
    have hlx := heap_lt HX8.out
    go_upto_region 10 with fail
    have hxn0 := heap_setCell_same w8 g10 3 _ 36 (.int .i64 (wk)) HX8.out
    have hxn := heap_setCell_same _ g10 4 _ 36 (.int .i64 (0)) hxn0
    rw [tyH_own] at hxn
    have hon : Og w ((w8.setCell ⟨g10, 3, none⟩ (.int .i64 (wk))).setCell ⟨g10, 4, none⟩ (.int .i64 (0))) := ⟨((heap_setCell_other _ ⟨g10, 4, none⟩ w.heap.size _ (by show w.heap.size ≠ g10; omega)).trans (heap_setCell_other _ ⟨g10, 3, none⟩ w.heap.size _ (by show w.heap.size ≠ g10; omega))).trans HO8.out.b0, (HO8.out.bel.setCell (p := ⟨g10, 3, none⟩) (Nat.le_of_lt h10w) _).setCell (p := ⟨g10, 4, none⟩) (Nat.le_of_lt h10w) _⟩
    have htn := ((heap_setCell_other (w8.setCell ⟨g10, 3, none⟩ (.int .i64 (wk))) ⟨g10, 4, none⟩ w1.heap.size (.int .i64 (0)) (by show w1.heap.size ≠ g10; omega)).trans (heap_setCell_other w8 ⟨g10, 3, none⟩ w1.heap.size (.int .i64 (wk)) (by show w1.heap.size ≠ g10; omega))).trans HT8.out
    obtain ⟨W9, hW9⟩ : ∃ W, W = (w8.setCell ⟨g10, 3, none⟩ (.int .i64 (wk))).setCell ⟨g10, 4, none⟩ (.int .i64 (0)) := ⟨_, rfl⟩
    rw [← hW9] at hxn hon htn ⊢
    clear hW9 x3 x4 f3 f4 hlx hxn0
    have HX9 := Lib.hid hxn
    have HO9 := Lib.hid hon
    have HT9 := Lib.hid htn
    clear hxn hon htn
    have htk16 := Lib.hid (HTK.out (a + 1) _ HO9.out.bel)
    obtain ⟨u, hu⟩ : ∃ u, u = tokI l (a + 1) := ⟨_, rfl⟩
    have HU := Lib.hid hu
    have HUI : Hid (u.kind = 1 → a + 1 + 1 ≤ 9223372036854775807 ∧ -9223372036854775808 ≤ a + 1 + 1) := Lib.hid (fun h1 => by
      have := tokI_in (l := l) (a := a + 1) (by rw [← hu]; omega)
      omega)
    rw [← hu] at htk16
    have HRU : Hid (res = if u.kind = 1 then (if (tokI l (a + 1 + 1)).is sLt = true then withOw u.text ⟨wk, 0⟩ (ownersP l ps (a + 1 + 1)) else .ok (tyOf u.text ⟨wk, 0⟩ []) (a + 1 + 1)) else .err 3 u.pos) := Lib.hid (by rw [HRT2.out, hu]; rfl)
    clear hu
    obtain ⟨uk, ux, up⟩ := u
    rw [val_eq] at htk16
    dsimp only at htk16 HRU HUI
    go_upto_region 16 with fail
    go_wp2_with fail
    refine htk16.out.mono ?_
    rintro x wa ⟨rfl, hba⟩
    have HOa := Lib.hid (HO9.out.step hba)
    have HXa := Lib.hid ((hba.block _ (heap_lt HX9.out)).trans HX9.out)
    clear hba
    by_cases hu1 : uk = 1
    case neg =>
      have HRE : Hid (res = .err 3 up) := Lib.hid (by rw [HRU.out, if_neg hu1])
      have hub : (uk != 1) = true := by simpa using hu1
      have hbb := boxed wa (.cells #[.int .i64 uk, .string ux, .int .i64 up] 55)
      have htb := heap_new wa (.cells #[.int .i64 uk, .string ux, .int .i64 up] 55)
      obtain ⟨Wb, hWb⟩ : ∃ W, W = wa.alloc (.cells #[.int .i64 uk, .string ux, .int .i64 up] 55) := ⟨_, rfl⟩
      go_upto_region 17 with fail
      rw [← hWb] at hbb htb ⊢
      clear hWb
      have HOb := Lib.hid (HOa.out.step hbb)
      obtain ⟨q0, q1, q2⟩ := row3 htb
      clear hbb htb
      go_wp2_with fail
      refine (HWR.out 3 (a + 1) _ HOb.out.bel).mono ?_
      rintro x wc0 ⟨rfl, hbc⟩
      have HOc := Lib.hid (HOb.out.step hbc)
      clear hbc q0 q1 q2
      rw [← HU.out]
      dsimp only
      obtain ⟨CL, hCL⟩ : ∃ CL, CL = gotL (.slice none 0 0) ty0 ⟨#[]⟩ ty0 0 0 (3) (up) := ⟨_, rfl⟩
      have hcz : CL.toArray.size = 28 := by rw [hCL]; rfl
      have hinf2 : (Try.prog.info? 43).map (·.size) = some CL.toArray.size := by rw [hcz]; kernel_rfl
      have hone : CL.toArray.all (·.oneCell') = true := by rw [hCL]; exact got_ones _ _ _ _ _ _ _ _ _ _
      have hth0 : World.there _ w.heap.size 0 CL.toArray.size := there_row HOc.out.b0 hcz
      have hlt := heap_lt HOc.out.b0
      have HEV : Hid (gotE (3) (up) = .agg CL.toArray) := Lib.hid (by rw [hCL]; rfl)
      have HLL : Hid (28 = CL.length) := Lib.hid (by rw [hCL]; rfl)
      clear hCL hcz
      go_wp2_with (refine wpList_store_mid rfl 43 (.tmp 8) (.tmp 74) rfl w.heap.size 0 CL.toArray rfl HEV.out hth0 hinf2 hone ?_)
      have hs := set_all HOc.out.b0 CL HLL.out
      exact bodyPost_ret (v := .agg CL.toArray) (results_cell_row Try.results8 _ _ w.heap.size 43 _ (0, 0) _ rfl hs Try.underlying43 rfl hinf2) rfl ⟨setCells_below _ (Nat.le_refl _) _ _ _ HOc.out.bel, by rw [HRE.out]; exact congrArg Ending.returned HEV.out.symm⟩
    case pos =>
      subst hu1
      obtain ⟨hn11, hn12⟩ := HUI.out rfl
      have HRU2 : Hid (res = if (tokI l (a + 1 + 1)).is sLt = true then withOw ux ⟨wk, 0⟩ (ownersP l ps (a + 1 + 1)) else .ok (tyOf ux ⟨wk, 0⟩ []) (a + 1 + 1)) := Lib.hid (by rw [HRU.out, if_pos rfl])
      have hbb := boxed wa (.cells #[.int .i64 1, .string ux, .int .i64 up] 55)
      have htb := heap_new wa (.cells #[.int .i64 1, .string ux, .int .i64 up] 55)
      have hla := heap_lt HXa.out
      obtain ⟨Wb, hWb⟩ : ∃ W, W = wa.alloc (.cells #[.int .i64 1, .string ux, .int .i64 up] 55) := ⟨_, rfl⟩
      go_upto_region 17 with fail
      rw [← hWb] at hbb htb ⊢
      clear hWb
      have HOb := Lib.hid (HOa.out.step hbb)
      have HXb := Lib.hid ((hbb.block _ hla).trans HXa.out)
      obtain ⟨q0, q1, q2⟩ := row3 htb
      have x1 := cell_at HXb.out 1 _ rfl
      have f1 := frozen_of HXb.out 1
      have hlx := heap_lt HXb.out
      clear hbb htb
      go_upto_region 20 with fail
      have hxn := heap_setCell_same Wb g10 1 _ 36 (.string ux) HXb.out
      rw [tyH_cls] at hxn
      have hon : Og w (Wb.setCell ⟨g10, 1, none⟩ (.string ux)) := ⟨(heap_setCell_other _ ⟨g10, 1, none⟩ w.heap.size _ (by show w.heap.size ≠ g10; omega)).trans HOb.out.b0, HOb.out.bel.setCell (p := ⟨g10, 1, none⟩) (Nat.le_of_lt h10w) _⟩
      obtain ⟨Wc, hWc⟩ : ∃ W, W = Wb.setCell ⟨g10, 1, none⟩ (.string ux) := ⟨_, rfl⟩
      rw [← hWc] at hxn hon ⊢
      clear hWc x1 f1 hlx q0 q1 q2
      have HOc := Lib.hid hon
      have HXc := Lib.hid hxn
      clear hon hxn
      have htkd := Lib.hid (HTK.out (a + 1 + 1) _ HOc.out.bel)
      obtain ⟨v, hv⟩ : ∃ v, v = tokI l (a + 1 + 1) := ⟨_, rfl⟩
      have HISL := Lib.hid (HIS.out v ⟨#[60]⟩)
      rw [← hv] at htkd
      obtain ⟨bl, hbl⟩ : ∃ b, b = v.is ⟨#[60]⟩ := ⟨_, rfl⟩
      have HRU3 : Hid (res = if bl = true then withOw ux ⟨wk, 0⟩ (ownersP l ps (a + 1 + 1)) else .ok (tyOf ux ⟨wk, 0⟩ []) (a + 1 + 1)) := Lib.hid (by rw [HRU2.out, hbl, hv]; rfl)
      rw [← hbl] at HISL
      clear hv hbl
      obtain ⟨vk, vx, vp⟩ := v
      rw [val_eq] at htkd HISL
      go_wp2_with fail
      refine htkd.out.mono ?_
      rintro x wd ⟨rfl, hbd0⟩
      have HOd := Lib.hid (HOc.out.step hbd0)
      have HXd := Lib.hid ((hbd0.block _ (heap_lt HXc.out)).trans HXc.out)
      clear hbd0
      go_wp2_with fail
      refine (HISL.out _).mono ?_
      rintro x we ⟨rfl, hbe⟩
      have HOe := Lib.hid (HOd.out.step hbe)
      have HXe := Lib.hid ((hbe.block _ (heap_lt HXd.out)).trans HXd.out)
      clear hbe
      cases bl with
      | false =>
        have HRE : Hid (res = .ok (tyOf ux ⟨wk, 0⟩ []) (a + 1 + 1)) := HRU3
        have x0 := cell_at HXe.out 0 _ rfl
        have x1 := cell_at HXe.out 1 _ rfl
        have x2 := cell_at HXe.out 2 _ rfl
        have x3 := cell_at HXe.out 3 _ rfl
        have x4 := cell_at HXe.out 4 _ rfl
        have x5 := cell_at HXe.out 5 _ rfl
        have x6 := cell_at HXe.out 6 _ rfl
        have x7 := cell_at HXe.out 7 _ rfl
        have x8 := cell_at HXe.out 8 _ rfl
        have x9 := cell_at HXe.out 9 _ rfl
        have x10 := cell_at HXe.out 10 _ rfl
        have hlx := heap_lt HXe.out
        obtain ⟨CL, hCL⟩ : ∃ CL, CL = gotL (.slice none 0 0) (tyOf ux ⟨wk, 0⟩ []) ⟨#[]⟩ ty0 0 (a + 1 + 1) 0 0 := ⟨_, rfl⟩
        have hcz : CL.toArray.size = 28 := by rw [hCL]; rfl
        have hinf2 : (Try.prog.info? 43).map (·.size) = some CL.toArray.size := by rw [hcz]; kernel_rfl
        have hone : CL.toArray.all (·.oneCell') = true := by rw [hCL]; exact got_ones _ _ _ _ _ _ _ _ _ _
        have hth0 : World.there _ w.heap.size 0 CL.toArray.size := there_row HOe.out.b0 hcz
        have hlt := heap_lt HOe.out.b0
        have HEV : Hid ((Value.agg #[.slice none 0 0, .int .i64 2, .string ux, .int .i64 0, .int .i64 (wk), .int .i64 (0), .int .i64 0, .int .i64 0, .int .i64 0, .int .i64 0, .int .i64 0, .int .i64 0, .string ⟨#[]⟩, .int .i64 0, .string ⟨#[]⟩, .int .i64 0, .int .i64 0, .int .i64 0, .int .i64 0, .int .i64 0, .int .i64 0, .int .i64 0, .int .i64 0, .int .i64 0, .int .i64 0, .int .i64 (a + 1 + 1), .int .i64 0, .int .i64 0]) = .agg CL.toArray) := Lib.hid (by rw [hCL]; rfl)
        have HLL : Hid (28 = CL.length) := Lib.hid (by rw [hCL]; rfl)
        have HGV : Hid (gotV (.slice none 0 0) (tyOf ux ⟨wk, 0⟩ []) ⟨#[]⟩ ty0 0 (a + 1 + 1) 0 0 = .agg CL.toArray) := Lib.hid (by rw [hCL]; rfl)
        clear hCL hcz
        go_wp2_with (refine wpList_store_mid rfl 43 (.tmp 8) (.tmp 87) rfl w.heap.size 0 CL.toArray rfl HEV.out hth0 hinf2 hone ?_)
        have hs := set_all HOe.out.b0 CL HLL.out
        exact bodyPost_ret (v := .agg CL.toArray) (results_cell_row Try.results8 _ _ w.heap.size 43 _ (0, 0) _ rfl hs Try.underlying43 rfl hinf2) rfl ⟨setCells_below _ (Nat.le_refl _) _ _ _ HOe.out.bel, by rw [HRE.out]; exact congrArg Ending.returned HGV.out.symm⟩
      | true =>
        have HRU4 : Hid (res = withOw ux ⟨wk, 0⟩ (ownersP l ps (a + 1 + 1))) := HRU3
        have hros := HOS.out (a + 1 + 1) we HOe.out.bel
        obtain ⟨rr, hrr⟩ : ∃ rr, rr = ownersP l ps (a + 1 + 1) := ⟨_, rfl⟩
        have HRR := Lib.hid hrr
        rw [← hrr] at hros
        have HROS := Lib.hid hros
        have HRU5 : Hid (res = withOw ux ⟨wk, 0⟩ rr) := Lib.hid (by rw [HRU4.out, hrr])
        clear hros hrr
        go_wp2_with fail
        refine HROS.out.mono ?_
        rintro x wf hpost
        cases rr with
        | err e p =>
          obtain ⟨hbf, hx⟩ := hpost
          subst hx
          have HRE : Hid (res = .err e p) := HRU5
          have hne0 : (e != 0) = true := by simpa using ownersP_err HRR.out.symm
          have HOf := Lib.hid (HOe.out.step hbf)
          obtain ⟨CG, hCG⟩ : ∃ CG, CG = gotL (.slice none 0 0) ty0 ⟨#[]⟩ ty0 0 0 e p := ⟨_, rfl⟩
          have hcgz : CG.toArray.size = 28 := by rw [hCG]; rfl
          have hgi2 : (Try.prog.info? 43).map (·.size) = some CG.toArray.size := by rw [hcgz]; kernel_rfl
          have hgone : CG.toArray.all (·.oneCell') = true := by rw [hCG]; exact got_ones _ _ _ _ _ _ _ _ _ _
          have HGL : Hid (28 = CG.length) := Lib.hid (by rw [hCG]; rfl)
          have HGV : Hid (gotE e p = .agg CG.toArray) := Lib.hid (by rw [hCG]; rfl)
          have hbn := boxed wf (.cells #[.slice none 0 0, .int .i64 0, .string ⟨#[]⟩, .int .i64 0, .int .i64 0, .int .i64 0, .int .i64 0, .int .i64 0, .int .i64 0, .int .i64 0, .int .i64 0, .int .i64 0, .string ⟨#[]⟩, .int .i64 0, .string ⟨#[]⟩, .int .i64 0, .int .i64 0, .int .i64 0, .int .i64 0, .int .i64 0, .int .i64 0, .int .i64 0, .int .i64 0, .int .i64 0, .int .i64 0, .int .i64 0, .int .i64 0, .int .i64 0] 43)
          have hnn := heap_new wf (.cells #[.slice none 0 0, .int .i64 0, .string ⟨#[]⟩, .int .i64 0, .int .i64 0, .int .i64 0, .int .i64 0, .int .i64 0, .int .i64 0, .int .i64 0, .int .i64 0, .int .i64 0, .string ⟨#[]⟩, .int .i64 0, .string ⟨#[]⟩, .int .i64 0, .int .i64 0, .int .i64 0, .int .i64 0, .int .i64 0, .int .i64 0, .int .i64 0, .int .i64 0, .int .i64 0, .int .i64 0, .int .i64 0, .int .i64 0, .int .i64 0] 43)
          have hthg : World.there (wf.alloc (.cells #[.slice none 0 0, .int .i64 0, .string ⟨#[]⟩, .int .i64 0, .int .i64 0, .int .i64 0, .int .i64 0, .int .i64 0, .int .i64 0, .int .i64 0, .int .i64 0, .int .i64 0, .string ⟨#[]⟩, .int .i64 0, .string ⟨#[]⟩, .int .i64 0, .int .i64 0, .int .i64 0, .int .i64 0, .int .i64 0, .int .i64 0, .int .i64 0, .int .i64 0, .int .i64 0, .int .i64 0, .int .i64 0, .int .i64 0, .int .i64 0] 43)) wf.heap.size 0 CG.toArray.size := there_row (cs := [.slice none 0 0, .int .i64 0, .string ⟨#[]⟩, .int .i64 0, .int .i64 0, .int .i64 0, .int .i64 0, .int .i64 0, .int .i64 0, .int .i64 0, .int .i64 0, .int .i64 0, .string ⟨#[]⟩, .int .i64 0, .string ⟨#[]⟩, .int .i64 0, .int .i64 0, .int .i64 0, .int .i64 0, .int .i64 0, .int .i64 0, .int .i64 0, .int .i64 0, .int .i64 0, .int .i64 0, .int .i64 0, .int .i64 0, .int .i64 0]) hnn (by rw [hcgz]; rfl)
          have hng := set_all (cs := [.slice none 0 0, .int .i64 0, .string ⟨#[]⟩, .int .i64 0, .int .i64 0, .int .i64 0, .int .i64 0, .int .i64 0, .int .i64 0, .int .i64 0, .int .i64 0, .int .i64 0, .string ⟨#[]⟩, .int .i64 0, .string ⟨#[]⟩, .int .i64 0, .int .i64 0, .int .i64 0, .int .i64 0, .int .i64 0, .int .i64 0, .int .i64 0, .int .i64 0, .int .i64 0, .int .i64 0, .int .i64 0, .int .i64 0, .int .i64 0]) hnn CG HGL.out
          have hbg := setCells_below wf.heap.size (Nat.le_refl _) CG 0 _ hbn
          obtain ⟨Wg, hWg⟩ : ∃ W, W = (wf.alloc (.cells #[.slice none 0 0, .int .i64 0, .string ⟨#[]⟩, .int .i64 0, .int .i64 0, .int .i64 0, .int .i64 0, .int .i64 0, .int .i64 0, .int .i64 0, .int .i64 0, .int .i64 0, .string ⟨#[]⟩, .int .i64 0, .string ⟨#[]⟩, .int .i64 0, .int .i64 0, .int .i64 0, .int .i64 0, .int .i64 0, .int .i64 0, .int .i64 0, .int .i64 0, .int .i64 0, .int .i64 0, .int .i64 0, .int .i64 0, .int .i64 0] 43)).setCells wf.heap.size 0 CG := ⟨_, rfl⟩
          go_upto_region 24 with (refine wpList_store_mid rfl 43 (.tmp 12) (.tmp 91) rfl wf.heap.size 0 CG.toArray rfl HGV.out hthg hgi2 hgone ?_)
          change Code.wp _ _ _ _ ((wf.alloc (.cells #[.slice none 0 0, .int .i64 0, .string ⟨#[]⟩, .int .i64 0, .int .i64 0, .int .i64 0, .int .i64 0, .int .i64 0, .int .i64 0, .int .i64 0, .int .i64 0, .int .i64 0, .string ⟨#[]⟩, .int .i64 0, .string ⟨#[]⟩, .int .i64 0, .int .i64 0, .int .i64 0, .int .i64 0, .int .i64 0, .int .i64 0, .int .i64 0, .int .i64 0, .int .i64 0, .int .i64 0, .int .i64 0, .int .i64 0, .int .i64 0] 43)).setCells wf.heap.size 0 CG)
          rw [← hWg] at hbg hng ⊢
          clear hWg hnn hbn hthg
          clear hbf
          have HOg := Lib.hid (HOf.out.step hbg)
          have v26 := cell_at hng 26 (.int .i64 e) (by rw [hCG]; rfl)
          have hlg := heap_lt hng
          have HNG := Lib.hid hng
          clear hng hbg
          go_upto_region 25 with fail
          have hrg : Wg.rangeAt wf.heap.size 0 CG := range_row HNG.out
          have hinf : (Try.prog.info? 43).map (·.size) = some CG.length := by rw [← HGL.out]; kernel_rfl
          have hth0 : World.there _ w.heap.size 0 CG.toArray.size := there_row HOg.out.b0 (by rw [hcgz]; rfl)
          have hlt := heap_lt HOg.out.b0
          clear hCG hcgz v26
          go_wp2_with (first | (refine wpList_load_mid rfl 43 (.tmp 12) rfl wf.heap.size 0 rfl CG _ hrg Try.underlying43 rfl hinf ?_) | (refine wpList_store_mid rfl 43 (.tmp 8) (.tmp 96) rfl w.heap.size 0 CG.toArray rfl rfl hth0 hgi2 hgone ?_))
          have hs := set_all HOg.out.b0 CG HGL.out
          have hinf2 := hgi2
          exact bodyPost_ret (v := .agg CG.toArray) (results_cell_row Try.results8 _ _ w.heap.size 43 _ (0, 0) _ rfl hs Try.underlying43 rfl hinf2) rfl ⟨setCells_below _ (Nat.le_refl _) _ _ _ HOg.out.bel, by rw [HRE.out]; exact congrArg Ending.returned HGV.out.symm⟩
        | ok y a2 =>
          obtain ⟨hbf, vv, hx, hof⟩ := hpost
          have HRE : Hid (res = .ok (tyOf ux ⟨wk, 0⟩ y) a2) := HRU5
          have hylen := ownersP_len HRR.out.symm
          rcases hof.2 with ⟨_, h0⟩ | ⟨yg, yc, ycur, rfl, hyb, _⟩
          · omega
          subst hx
          have HSRC : Hid (∀ j, j < y.length → wf.cell? ⟨yg, j * 2, none⟩ = some (.int .i64 (y.getD j ⟨0, 0⟩).kind) ∧ wf.cell? ⟨yg, j * 2 + 1, none⟩ = some (.int .i64 (y.getD j ⟨0, 0⟩).n)) := Lib.hid (fun j hj => by
            obtain ⟨h1, h2⟩ := ocells_at hj
            have k1 := hof.cells (g := yg) rfl _ _ h1
            have k2 := hof.cells (g := yg) rfl _ _ h2
            rw [Addr.add_mid, Nat.zero_add] at k1 k2
            exact ⟨k1, k2⟩)
          have HOf := Lib.hid (HOe.out.step hbf)
          have HXf := Lib.hid ((hbf.block _ (heap_lt HXe.out)).trans HXe.out)
          have hlf := heap_lt HXf.out
          have hyl : yg < wf.heap.size := (hof.lt yg rfl).2
          have hxe := heap_lt HXe.out
          obtain ⟨CG, hCG⟩ : ∃ CG, CG = gotL (.slice (some ⟨yg, 0, none⟩) y.length yc) ty0 ⟨#[]⟩ ty0 0 a2 0 0 := ⟨_, rfl⟩
          have hcgz : CG.toArray.size = 28 := by rw [hCG]; rfl
          have hgi2 : (Try.prog.info? 43).map (·.size) = some CG.toArray.size := by rw [hcgz]; kernel_rfl
          have hgone : CG.toArray.all (·.oneCell') = true := by rw [hCG]; exact got_ones _ _ _ _ _ _ _ _ _ _
          have HGL : Hid (28 = CG.length) := Lib.hid (by rw [hCG]; rfl)
          have HGV : Hid (gotV (.slice (some ⟨yg, 0, none⟩) y.length yc) ty0 ⟨#[]⟩ ty0 0 a2 0 0 = .agg CG.toArray) := Lib.hid (by rw [hCG]; rfl)
          have hbn := boxed wf (.cells #[.slice none 0 0, .int .i64 0, .string ⟨#[]⟩, .int .i64 0, .int .i64 0, .int .i64 0, .int .i64 0, .int .i64 0, .int .i64 0, .int .i64 0, .int .i64 0, .int .i64 0, .string ⟨#[]⟩, .int .i64 0, .string ⟨#[]⟩, .int .i64 0, .int .i64 0, .int .i64 0, .int .i64 0, .int .i64 0, .int .i64 0, .int .i64 0, .int .i64 0, .int .i64 0, .int .i64 0, .int .i64 0, .int .i64 0, .int .i64 0] 43)
          have hnn := heap_new wf (.cells #[.slice none 0 0, .int .i64 0, .string ⟨#[]⟩, .int .i64 0, .int .i64 0, .int .i64 0, .int .i64 0, .int .i64 0, .int .i64 0, .int .i64 0, .int .i64 0, .int .i64 0, .string ⟨#[]⟩, .int .i64 0, .string ⟨#[]⟩, .int .i64 0, .int .i64 0, .int .i64 0, .int .i64 0, .int .i64 0, .int .i64 0, .int .i64 0, .int .i64 0, .int .i64 0, .int .i64 0, .int .i64 0, .int .i64 0, .int .i64 0] 43)
          have hthg : World.there (wf.alloc (.cells #[.slice none 0 0, .int .i64 0, .string ⟨#[]⟩, .int .i64 0, .int .i64 0, .int .i64 0, .int .i64 0, .int .i64 0, .int .i64 0, .int .i64 0, .int .i64 0, .int .i64 0, .string ⟨#[]⟩, .int .i64 0, .string ⟨#[]⟩, .int .i64 0, .int .i64 0, .int .i64 0, .int .i64 0, .int .i64 0, .int .i64 0, .int .i64 0, .int .i64 0, .int .i64 0, .int .i64 0, .int .i64 0, .int .i64 0, .int .i64 0] 43)) wf.heap.size 0 CG.toArray.size := there_row (cs := [.slice none 0 0, .int .i64 0, .string ⟨#[]⟩, .int .i64 0, .int .i64 0, .int .i64 0, .int .i64 0, .int .i64 0, .int .i64 0, .int .i64 0, .int .i64 0, .int .i64 0, .string ⟨#[]⟩, .int .i64 0, .string ⟨#[]⟩, .int .i64 0, .int .i64 0, .int .i64 0, .int .i64 0, .int .i64 0, .int .i64 0, .int .i64 0, .int .i64 0, .int .i64 0, .int .i64 0, .int .i64 0, .int .i64 0, .int .i64 0]) hnn (by rw [hcgz]; rfl)
          have hng := set_all (cs := [.slice none 0 0, .int .i64 0, .string ⟨#[]⟩, .int .i64 0, .int .i64 0, .int .i64 0, .int .i64 0, .int .i64 0, .int .i64 0, .int .i64 0, .int .i64 0, .int .i64 0, .string ⟨#[]⟩, .int .i64 0, .string ⟨#[]⟩, .int .i64 0, .int .i64 0, .int .i64 0, .int .i64 0, .int .i64 0, .int .i64 0, .int .i64 0, .int .i64 0, .int .i64 0, .int .i64 0, .int .i64 0, .int .i64 0, .int .i64 0]) hnn CG HGL.out
          have hbg := setCells_below wf.heap.size (Nat.le_refl _) CG 0 _ hbn
          obtain ⟨Wg, hWg⟩ : ∃ W, W = (wf.alloc (.cells #[.slice none 0 0, .int .i64 0, .string ⟨#[]⟩, .int .i64 0, .int .i64 0, .int .i64 0, .int .i64 0, .int .i64 0, .int .i64 0, .int .i64 0, .int .i64 0, .int .i64 0, .string ⟨#[]⟩, .int .i64 0, .string ⟨#[]⟩, .int .i64 0, .int .i64 0, .int .i64 0, .int .i64 0, .int .i64 0, .int .i64 0, .int .i64 0, .int .i64 0, .int .i64 0, .int .i64 0, .int .i64 0, .int .i64 0, .int .i64 0] 43)).setCells wf.heap.size 0 CG := ⟨_, rfl⟩
          go_upto_region 24 with (refine wpList_store_mid rfl 43 (.tmp 12) (.tmp 91) rfl wf.heap.size 0 CG.toArray rfl HGV.out hthg hgi2 hgone ?_)
          change Code.wp _ _ _ _ ((wf.alloc (.cells #[.slice none 0 0, .int .i64 0, .string ⟨#[]⟩, .int .i64 0, .int .i64 0, .int .i64 0, .int .i64 0, .int .i64 0, .int .i64 0, .int .i64 0, .int .i64 0, .int .i64 0, .string ⟨#[]⟩, .int .i64 0, .string ⟨#[]⟩, .int .i64 0, .int .i64 0, .int .i64 0, .int .i64 0, .int .i64 0, .int .i64 0, .int .i64 0, .int .i64 0, .int .i64 0, .int .i64 0, .int .i64 0, .int .i64 0, .int .i64 0] 43)).setCells wf.heap.size 0 CG)
          rw [← hWg] at hbg hng ⊢
          clear hWg hnn hbn hthg
          clear hbf hof
          have HOg := Lib.hid (HOf.out.step hbg)
          have HXg := Lib.hid ((hbg.block _ hlf).trans HXf.out)
          have HNG : Hid (Wg.heap[wf.heap.size]? = some (.cells CG.toArray 43 (0, 0))) := Lib.hid hng
          have HSG : Hid (∀ j, j < y.length → Wg.cell? ⟨yg, j * 2, none⟩ = some (.int .i64 (y.getD j ⟨0, 0⟩).kind) ∧ Wg.cell? ⟨yg, j * 2 + 1, none⟩ = some (.int .i64 (y.getD j ⟨0, 0⟩).n)) := Lib.hid (fun j hj => ⟨(hbg.cell (p := ⟨yg, _, none⟩) hyl).trans (HSRC.out j hj).1, (hbg.cell (p := ⟨yg, _, none⟩) hyl).trans (HSRC.out j hj).2⟩)
          have HCG : Hid (CG[0]? = some (.slice (some ⟨yg, 0, none⟩) y.length yc) ∧ CG[25]? = some (.int .i64 a2) ∧ CG[26]? = some (.int .i64 0)) := Lib.hid (by rw [hCG]; exact ⟨rfl, rfl, rfl⟩)
          have v26 := cell_at HNG.out 26 _ HCG.out.2.2
          have v0 := cell_at HNG.out 0 _ HCG.out.1
          have hlg := heap_lt hng
          have x2 := cell_at HXg.out 2 _ rfl
          have f2 := frozen_of HXg.out 2
          have hlx := heap_lt HXg.out
          obtain ⟨g12, hg12⟩ : ∃ g, g = wf.heap.size := ⟨_, rfl⟩
          rw [← hg12] at HNG v26 v0 hlg hyl hlf ⊢
          obtain ⟨n, hn⟩ : ∃ n, n = y.length := ⟨_, rfl⟩
          have hn3 : n ≤ 3 := by omega
          have hnx : ((n : Nat) : Int) ≤ 3 := by omega
          rw [← hn] at v0
          have HNN := Lib.hid hn
          clear hng hbg hCG hcgz hg12 hn
          go_upto_region 27 with fail
          have hxn := heap_setCell_same Wg g10 2 _ 36 (.int .i64 (n : Nat)) HXg.out
          have hxn : (Wg.setCell ⟨g10, 2, none⟩ (.int .i64 (n : Nat))).heap[g10]? = some (.cells (tyK ux ⟨wk, 0⟩ y 0).cellL.toArray 36 (0, 0)) := by rw [HNN.out] at hxn ⊢; rw [tyH_len] at hxn; exact hxn
          have hgy : g10 ≠ yg := by omega
          have hg12' : g12 ≠ g10 := by omega
          have hpy : Py w ux ⟨wk, 0⟩ y g10 g12 yg yc CG 0 (Wg.setCell ⟨g10, 2, none⟩ (.int .i64 (n : Nat))) := ⟨⟨(heap_setCell_other _ ⟨g10, 2, none⟩ w.heap.size _ (by show w.heap.size ≠ g10; omega)).trans HOg.out.b0, HOg.out.bel.setCell (p := ⟨g10, 2, none⟩) (Nat.le_of_lt h10w) _⟩, hxn, (heap_setCell_other _ ⟨g10, 2, none⟩ g12 _ hg12').trans HNG.out, fun j hj => ⟨(cell_other (fun e => hgy e.symm) _).trans (HSG.out j hj).1, (cell_other (fun e => hgy e.symm) _).trans (HSG.out j hj).2⟩⟩
          obtain ⟨Wh, hWh⟩ : ∃ W, W = Wg.setCell ⟨g10, 2, none⟩ (.int .i64 (n : Nat)) := ⟨_, rfl⟩
          rw [← hWh] at hpy ⊢
          clear hWh hxn v26 v0 x2 f2 hlx hlg
          have HPY := Lib.hid hpy
          clear hpy
          go_wp2_with fail
          go_loopw [13] (fun i wr => ∃ kk : Nat, kk ≤ n ∧ i = .int .i64 kk ∧ Hid (Py w ux ⟨wk, 0⟩ y g10 g12 yg yc CG kk wr)) (fun i _ => n - (intOf i).toNat)
          case atStart => exact ⟨0, by omega, rfl, HPY⟩
          case round =>
            obtain ⟨kk, hkk, rfl, HPK⟩ := hrel
            have v0 := cell_at HPK.out.g 0 _ HCG.out.1
            have v25 := cell_at HPK.out.g 25 _ HCG.out.2.1
            rw [← HNN.out] at v0
            have hlg := heap_lt HPK.out.g
            have hlx := heap_lt HPK.out.x
            by_cases hlt : kk < n
            · obtain ⟨s0, s1⟩ := HPK.out.src kk (by rw [← HNN.out]; exact hlt)
              obtain ⟨yk, hyk⟩ : ∃ yk, yk = (y.getD kk ⟨0, 0⟩).kind := ⟨_, rfl⟩
              obtain ⟨yn, hyn⟩ : ∃ yn, yn = (y.getD kk ⟨0, 0⟩).n := ⟨_, rfl⟩
              rw [← hyk] at s0
              rw [← hyn] at s1
              have HYK := Lib.hid hyk
              have HYN := Lib.hid hyn
              clear hyk hyn HPY
              rcases (show kk = 0 ∨ kk = 1 ∨ kk = 2 by omega) with rfl | rfl | rfl
              · have p0 := cell_at HPK.out.x 5 _ rfl
                have p1 := cell_at HPK.out.x 6 _ rfl
                have g0 := frozen_of HPK.out.x 5
                have g1 := frozen_of HPK.out.x 6
                go_wp2_with fail
                go_roundw
                case rel =>
                  refine ⟨1, by omega, by go_num, Lib.hid ?_⟩
                  have hxn0 := heap_setCell_same wr g10 5 _ 36 (.int .i64 yk) HPK.out.x
                  have hxn := heap_setCell_same _ g10 6 _ 36 (.int .i64 yn) hxn0
                  rw [HYK.out, HYN.out] at hxn ⊢
                  rw [tyK_0] at hxn
                  exact ⟨⟨((heap_setCell_other _ ⟨g10, 6, none⟩ w.heap.size _ (by show w.heap.size ≠ g10; omega)).trans (heap_setCell_other _ ⟨g10, 5, none⟩ w.heap.size _ (by show w.heap.size ≠ g10; omega))).trans HPK.out.og.b0, (HPK.out.og.bel.setCell (p := ⟨g10, 5, none⟩) (Nat.le_of_lt h10w) _).setCell (p := ⟨g10, 6, none⟩) (Nat.le_of_lt h10w) _⟩, hxn, ((heap_setCell_other _ ⟨g10, 6, none⟩ g12 _ hg12').trans (heap_setCell_other _ ⟨g10, 5, none⟩ g12 _ hg12')).trans HPK.out.g, fun i hi => ⟨((cell_other (fun e => hgy e.symm) _).trans (cell_other (fun e => hgy e.symm) _)).trans (HPK.out.src i hi).1, ((cell_other (fun e => hgy e.symm) _).trans (cell_other (fun e => hgy e.symm) _)).trans (HPK.out.src i hi).2⟩⟩
                case measure => simp [intOf]; omega
              · have p0 := cell_at HPK.out.x 7 _ rfl
                have p1 := cell_at HPK.out.x 8 _ rfl
                have g0 := frozen_of HPK.out.x 7
                have g1 := frozen_of HPK.out.x 8
                go_wp2_with fail
                go_roundw
                case rel =>
                  refine ⟨2, by omega, by go_num, Lib.hid ?_⟩
                  have hxn0 := heap_setCell_same wr g10 7 _ 36 (.int .i64 yk) HPK.out.x
                  have hxn := heap_setCell_same _ g10 8 _ 36 (.int .i64 yn) hxn0
                  rw [HYK.out, HYN.out] at hxn ⊢
                  rw [tyK_1] at hxn
                  exact ⟨⟨((heap_setCell_other _ ⟨g10, 8, none⟩ w.heap.size _ (by show w.heap.size ≠ g10; omega)).trans (heap_setCell_other _ ⟨g10, 7, none⟩ w.heap.size _ (by show w.heap.size ≠ g10; omega))).trans HPK.out.og.b0, (HPK.out.og.bel.setCell (p := ⟨g10, 7, none⟩) (Nat.le_of_lt h10w) _).setCell (p := ⟨g10, 8, none⟩) (Nat.le_of_lt h10w) _⟩, hxn, ((heap_setCell_other _ ⟨g10, 8, none⟩ g12 _ hg12').trans (heap_setCell_other _ ⟨g10, 7, none⟩ g12 _ hg12')).trans HPK.out.g, fun i hi => ⟨((cell_other (fun e => hgy e.symm) _).trans (cell_other (fun e => hgy e.symm) _)).trans (HPK.out.src i hi).1, ((cell_other (fun e => hgy e.symm) _).trans (cell_other (fun e => hgy e.symm) _)).trans (HPK.out.src i hi).2⟩⟩
                case measure => simp [intOf]; omega
              · have p0 := cell_at HPK.out.x 9 _ rfl
                have p1 := cell_at HPK.out.x 10 _ rfl
                have g0 := frozen_of HPK.out.x 9
                have g1 := frozen_of HPK.out.x 10
                go_wp2_with fail
                go_roundw
                case rel =>
                  refine ⟨3, by omega, by go_num, Lib.hid ?_⟩
                  have hxn0 := heap_setCell_same wr g10 9 _ 36 (.int .i64 yk) HPK.out.x
                  have hxn := heap_setCell_same _ g10 10 _ 36 (.int .i64 yn) hxn0
                  rw [HYK.out, HYN.out] at hxn ⊢
                  rw [tyK_2] at hxn
                  exact ⟨⟨((heap_setCell_other _ ⟨g10, 10, none⟩ w.heap.size _ (by show w.heap.size ≠ g10; omega)).trans (heap_setCell_other _ ⟨g10, 9, none⟩ w.heap.size _ (by show w.heap.size ≠ g10; omega))).trans HPK.out.og.b0, (HPK.out.og.bel.setCell (p := ⟨g10, 9, none⟩) (Nat.le_of_lt h10w) _).setCell (p := ⟨g10, 10, none⟩) (Nat.le_of_lt h10w) _⟩, hxn, ((heap_setCell_other _ ⟨g10, 10, none⟩ g12 _ hg12').trans (heap_setCell_other _ ⟨g10, 9, none⟩ g12 _ hg12')).trans HPK.out.g, fun i hi => ⟨((cell_other (fun e => hgy e.symm) _).trans (cell_other (fun e => hgy e.symm) _)).trans (HPK.out.src i hi).1, ((cell_other (fun e => hgy e.symm) _).trans (cell_other (fun e => hgy e.symm) _)).trans (HPK.out.src i hi).2⟩⟩
                case measure => simp [intOf]; omega
            · obtain rfl : kk = n := by omega
              obtain ⟨TT, hTT⟩ : ∃ T, T = tyOf ux ⟨wk, 0⟩ y := ⟨_, rfl⟩
              have hx := HPK.out.x
              rw [HNN.out, tyK_end hylen, ← hTT] at hx
              have HTT := Lib.hid hTT
              have x0 := cell_at hx 0 _ rfl
              have x1 := cell_at hx 1 _ rfl
              have x2 := cell_at hx 2 _ rfl
              have x3 := cell_at hx 3 _ rfl
              have x4 := cell_at hx 4 _ rfl
              have x5 := cell_at hx 5 _ rfl
              have x6 := cell_at hx 6 _ rfl
              have x7 := cell_at hx 7 _ rfl
              have x8 := cell_at hx 8 _ rfl
              have x9 := cell_at hx 9 _ rfl
              have x10 := cell_at hx 10 _ rfl
              have HRE2 : Hid (res = .ok TT a2) := Lib.hid (by rw [HRE.out, HTT.out])
              clear hTT hx HPY
              have HOz := Lib.hid HPK.out.og
              obtain ⟨CL, hCL⟩ : ∃ CL, CL = gotL (.slice none 0 0) (TT) ⟨#[]⟩ ty0 0 (a2) 0 0 := ⟨_, rfl⟩
              have hcz : CL.toArray.size = 28 := by rw [hCL]; rfl
              have hinf2 : (Try.prog.info? 43).map (·.size) = some CL.toArray.size := by rw [hcz]; kernel_rfl
              have hone : CL.toArray.all (·.oneCell') = true := by rw [hCL]; exact got_ones _ _ _ _ _ _ _ _ _ _
              have hth0 : World.there _ w.heap.size 0 CL.toArray.size := there_row HOz.out.b0 hcz
              have hlt := heap_lt HOz.out.b0
              have HEV : Hid ((Value.agg #[.slice none 0 0, .int .i64 TT.kind, .string TT.cls, .int .i64 TT.n, .int .i64 TT.o0.kind, .int .i64 TT.o0.n, .int .i64 TT.o1.kind, .int .i64 TT.o1.n, .int .i64 TT.o2.kind, .int .i64 TT.o2.n, .int .i64 TT.o3.kind, .int .i64 TT.o3.n, .string ⟨#[]⟩, .int .i64 0, .string ⟨#[]⟩, .int .i64 0, .int .i64 0, .int .i64 0, .int .i64 0, .int .i64 0, .int .i64 0, .int .i64 0, .int .i64 0, .int .i64 0, .int .i64 0, .int .i64 (a2), .int .i64 0, .int .i64 0]) = .agg CL.toArray) := Lib.hid (by rw [hCL]; rfl)
              have HLL : Hid (28 = CL.length) := Lib.hid (by rw [hCL]; rfl)
              have HGV : Hid (gotV (.slice none 0 0) (TT) ⟨#[]⟩ ty0 0 (a2) 0 0 = .agg CL.toArray) := Lib.hid (by rw [hCL]; rfl)
              clear hCL hcz
              go_wp2_with (refine wpList_store_mid rfl 43 (.tmp 8) (.tmp 120) rfl w.heap.size 0 CL.toArray rfl HEV.out hth0 hinf2 hone ?_)
              have hs := set_all HOz.out.b0 CL HLL.out
              exact bodyPost_ret (v := .agg CL.toArray) (results_cell_row Try.results8 _ _ w.heap.size 43 _ (0, 0) _ rfl hs Try.underlying43 rfl hinf2) rfl ⟨setCells_below _ (Nat.le_refl _) _ _ _ HOz.out.bel, by rw [HRE2.out]; exact congrArg Ending.returned HGV.out.symm⟩
end Go.Proofs.Ytbcgooofelnkoaa
