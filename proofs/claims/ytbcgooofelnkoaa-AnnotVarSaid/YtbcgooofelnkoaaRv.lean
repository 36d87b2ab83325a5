/- The document's answer: a variable. Conditions: at most 1000 parameters, and at most 1000000 tokens. -/
import Derived.Test.YtbcgooofelnkoaaIv
namespace Go.Proofs.Ytbcgooofelnkoaa
open Go.RowKit
set_option linter.unusedVariables false

/-- What the document's answer hands back of a variable. -/
def RvP (r : Rz Vr) (w : World) (x : Ending) (w' : World) : Prop :=
  Below w.heap.size w w' ∧ x = .returned (match r with
    | .ok v a => gotV (.slice none 0 0) ty0 v.nm v.ty v.pos a 0 0
    | .err e p => gotE e p)
theorem firstP_err {l : List Gt} {ps : List ByteArray} {a e p : Int} {f : Bool} (h : firstP l ps a f = .err e p) : e ≠ 0 := by
  unfold firstP at h
  split at h
  · cases h
  · split at h
    · cases h
    · exact ownP_err h
theorem objectP_err {l : List Gt} {ps : List ByteArray} {a e p : Int} {f : Bool} (h : objectP l ps a f = .err e p) : e ≠ 0 := by
  unfold objectP at h
  split at h
  · rename_i h1
    cases h
    exact firstP_err h1
  · split at h
    · split at h
      · unfold withOw at h
        split at h
        · rename_i h1
          cases h
          exact ownersP_err h1
        · cases h
      · cases h
    · cases h
      decide
theorem kindP_err {l : List Gt} {ps : List ByteArray} {a e p : Int} {f : Bool} (h : kindP l ps a f = .err e p) : e ≠ 0 := by
  unfold kindP at h
  split at h
  · cases h
  · split at h
    · cases h
    · exact objectP_err h

/-- An operation that hands back a value. -/
theorem wp_val {P : Program} {o : Oper} {a : Act} {w : World} {K : Act → World → Prop} {Q : Exit → Act → World → Prop} (p : Op) (v : Value) (ho : o.op = p) (h : ∀ o : Oper, o.op = p → (execOp a.eval o).run P w = .ok (.value v) w) (hk : K (a.put o.dst v) w) : o.wp P a w K Q := by
  unfold Oper.wp
  rw [h o ho]
  exact hk
theorem wp_enter {P : Program} {o : Oper} {a : Act} {w : World} {K : Act → World → Prop} {Q : Exit → Act → World → Prop} (p : Op) (f : FuncId) (args : Array Value) (v : Value) (ho : o.op = p) (h : ∀ o : Oper, o.op = p → (execOp a.eval o).run P w = .ok (.enter f args) w) (hc : Calls P f args w fun x w' => x = .returned v ∧ Below w.heap.size w w') (hk : ∀ w', Below w.heap.size w w' → K (a.put o.dst v) w') : o.wp P a w K Q := by
  unfold Oper.wp
  rw [h o ho, Oper.upon_enter]
  refine hc.mono ?_
  rintro x w' ⟨rfl, hb⟩
  exact hk w' hb
theorem wp_mv {P : Program} {o : Oper} {a : Act} {w : World} {K : Act → World → Prop} {Q : Exit → Act → World → Prop} (x : Operand) (h : o.op = .move x) (hk : K (a.put o.dst (a.eval x)) w) : o.wp P a w K Q := by
  unfold Oper.wp execOp
  rw [h]
  exact hk
theorem wp_built {P : Program} {o : Oper} {a : Act} {w : World} {K : Act → World → Prop} {Q : Exit → Act → World → Prop} (t : TypeId) (parts : Array (Nat × Operand)) (vals : List (Nat × Value)) (cells : Array Value) (ho : o.op = .build t parts) (hm : (parts.map fun (i, x) => (i, a.eval x)) = vals.toArray) (hb : P.built t vals = some cells) (hk : K (a.put o.dst (.agg cells)) w) : o.wp P a w K Q := by
  unfold Oper.wp execOp
  simp only [ho, Sem.run_bind, hm, run_build w t vals.toArray cells hb, Result.andThen_ok]
  exact hk
theorem tget {T : Array Value} {i : Nat} {v : Value} (h : T[i]? = some v) : (⟨T, []⟩ : Act).eval (.tmp i) = v := by
  show T.getD i undef = v
  rw [Array.getD_eq_getD_getElem?, h]; rfl
theorem tgetD {T : Array Value} {i : Nat} {v : Value} (h : T[i]? = some v) : T.getD i undef = v := tget h

/-- The region that makes the variable: what its slots hold once their operations are listed, and how far the world is. -/
def VI (VL : List Value) (p0 p1 p6 p7 p8 : Value) (Wb : World) (g6 : Nat) (CL : List Value) (listed : Array Bool) (a : Act) (w : World) : Prop :=
  ∃ T : Array Value, a = ⟨T, []⟩ ∧ T.size = 49 ∧ T[0]? = some p0 ∧ T[1]? = some p1 ∧ T[6]? = some p6 ∧ T[7]? = some p7 ∧ T[8]? = some p8 ∧
    (∀ i, i < 13 → listed.getD i false = true → T[36 + i]? = VL[i]?) ∧ (listed.getD 13 false = false → Below Wb.heap.size Wb w) ∧ (listed.getD 13 false = true → ∃ w0, Below Wb.heap.size Wb w0 ∧ w = w0.setCells g6 0 CL)
theorem VI.put {VL : List Value} {p0 p1 p6 p7 p8 : Value} {Wb : World} {g6 : Nat} {CL : List Value} {listed : Array Bool} {T : Array Value} {w w' : World} (hT : T.size = 49) (h0 : T[0]? = some p0) (h1 : T[1]? = some p1) (h6 : T[6]? = some p6) (h7 : T[7]? = some p7) (h8 : T[8]? = some p8)
    (hv : ∀ i, i < 13 → listed.getD i false = true → T[36 + i]? = VL[i]?) (hn : listed.getD 13 false = false) (hb : Below Wb.heap.size Wb w) (i : Nat) (hi : i < 13) (v : Value) (hvi : VL[i]? = some v) (hb' : Below w.heap.size w w') :
    VI VL p0 p1 p6 p7 p8 Wb g6 CL (listed.setIfInBounds i true) ⟨T.setIfInBounds (36 + i) v, []⟩ w' := by
  have hne : ∀ j, j < 36 → (T.setIfInBounds (36 + i) v)[j]? = T[j]? := fun j hj => Array.getElem?_setIfInBounds_ne (by omega)
  refine ⟨_, rfl, by simpa using hT, (hne 0 (by omega)).trans h0, (hne 1 (by omega)).trans h1, (hne 6 (by omega)).trans h6, (hne 7 (by omega)).trans h7, (hne 8 (by omega)).trans h8, fun j hj hl => ?_, fun _ => hb.trans (hb'.mono hb.size), fun h => ?_⟩
  · by_cases hji : j = i
    · subst hji
      rw [Array.getElem?_setIfInBounds_self_of_lt (by omega), hvi]
    · rw [Array.getElem?_setIfInBounds_ne (by omega)]
      rw [getD_set hji] at hl
      exact hv j hj hl
  · rw [getD_set (by omega)] at h
    rw [hn] at h
    cases h

set_option maxRecDepth 100000 in
set_option maxHeartbeats 4000000 in
theorem refVar_any (l : List Gt) (A : Option Addr) (c : Nat) (PA : Option Addr) (ps : List ByteArray) (pc : Nat) (a : Int) (w : World) (hr : RT w w.heap.size A l) (hp : RS w w.heap.size PA ps) (hlc : l.length ≤ c) (hcm : c ≤ maxLen) (hlp : ps.length ≤ 1000) (hpc : ps.length ≤ pc) (hbd : l.length ≤ 1000000) :
    Calls Try.prog 12 #[.slice A l.length c, .int .i64 a, .slice PA ps.length pc] w (RvP (varP l ps a) w) := by
  have hn0 := heap_new w got0
  have hb0 := boxed w got0
  have HRT : Hid (∀ W, Below w.heap.size w W → RT W W.heap.size A l) := Lib.hid (fun W hb => (hr.below hb).more hb.size)
  have HRS : Hid (∀ W, Below w.heap.size w W → RS W W.heap.size PA ps) := Lib.hid (fun W hb => (hp.below hb).more hb.size)
  obtain ⟨W0, hW0⟩ : ∃ W0, W0 = w.alloc got0 := ⟨_, rfl⟩
  rw [← hW0] at hn0 hb0
  have HOG : Hid (Og w W0) := Lib.hid ⟨hn0, hb0⟩
  have HTK : Hid (∀ a W, Below w.heap.size w W → Calls Try.prog 21 #[.slice A l.length c, .int .i64 a] W fun x w' => x = .returned (tokI l a).val ∧ Below W.heap.size W w') := Lib.hid (fun a W hW => refTok_any l A c a W (HRT.out W hW) hlc hcm)
  have HWR : Hid (∀ e a W, Below w.heap.size w W → Calls Try.prog 26 #[.int .i64 e, .slice A l.length c, .int .i64 a] W fun x w' => x = .returned (gotE e (tokI l a).pos) ∧ Below W.heap.size W w') := Lib.hid (fun e a W hW => refWrong_any e l A c a W (HRT.out W hW) hlc hcm)
  have HPA := Lib.hid (refParse_any l A c PA ps pc a true W0 (HRT.out W0 hb0) (HRS.out W0 hb0) hlc hcm hlp hpc hbd)
  obtain ⟨res, hres⟩ : ∃ res, res = varP l ps a := ⟨_, rfl⟩
  have HRES := Lib.hid hres
  rw [← hres]
  obtain ⟨kr, hkr⟩ : ∃ kr, kr = kindP l ps a true := ⟨_, rfl⟩
  have HKR := Lib.hid hkr
  rw [← hkr] at HPA
  clear hres hkr hr hp hn0 hb0
  go_enter Try.func12, Try.ntmps12
  go_upto_region 1 with fail
  change Code.wp _ _ _ _ (w.alloc got0)
  rw [← hW0]
  clear hW0
  go_wp2_with fail
  refine HPA.out.mono ?_
  rintro x wf hpost
  obtain ⟨hbf, hx⟩ := hpost
  have HOf := Lib.hid (HOG.out.step hbf)
  cases kr with
  | err e p =>
    have hx : x = .returned (gotE e p) := hx
    subst hx
    have HRE : Hid (res = .err e p) := Lib.hid (by rw [HRES.out]; unfold varP; rw [← HKR.out])
    have hne0 : (e != 0) = true := by simpa using kindP_err HKR.out.symm
    obtain ⟨CG, hCG⟩ : ∃ CG, CG = gotL (.slice none 0 0) ty0 ⟨#[]⟩ ty0 0 0 e p := ⟨_, rfl⟩
    have hcgz : CG.toArray.size = 28 := by rw [hCG]; rfl
    have hgi2 : (Try.prog.info? 43).map (·.size) = some CG.toArray.size := by rw [hcgz]; kernel_rfl
    have hgone : CG.toArray.all (·.oneCell') = true := by rw [hCG]; exact got_ones _ _ _ _ _ _ _ _ _ _
    have HGL : Hid (28 = CG.length) := Lib.hid (by rw [hCG]; rfl)
    have HGV : Hid (gotE e p = .agg CG.toArray) := Lib.hid (by rw [hCG]; rfl)
    have hbn := boxed wf (.cells #[.slice none 0 0, .int .i64 0, .string ⟨#[]⟩, .int .i64 0, .int .i64 0, .int .i64 0, .int .i64 0, .int .i64 0, .int .i64 0, .int .i64 0, .int .i64 0, .int .i64 0, .string ⟨#[]⟩, .int .i64 0, .string ⟨#[]⟩, .int .i64 0, .int .i64 0, .int .i64 0, .int .i64 0, .int .i64 0, .int .i64 0, .int .i64 0, .int .i64 0, .int .i64 0, .int .i64 0, .int .i64 0, .int .i64 0, .int .i64 0] 43)
    have hnn := heap_new wf (.cells #[.slice none 0 0, .int .i64 0, .string ⟨#[]⟩, .int .i64 0, .int .i64 0, .int .i64 0, .int .i64 0, .int .i64 0, .int .i64 0, .int .i64 0, .int .i64 0, .int .i64 0, .string ⟨#[]⟩, .int .i64 0, .string ⟨#[]⟩, .int .i64 0, .int .i64 0, .int .i64 0, .int .i64 0, .int .i64 0, .int .i64 0, .int .i64 0, .int .i64 0, .int .i64 0, .int .i64 0, .int .i64 0, .int .i64 0, .int .i64 0] 43)
    have hthg : World.there (wf.alloc (.cells #[.slice none 0 0, .int .i64 0, .string ⟨#[]⟩, .int .i64 0, .int .i64 0, .int .i64 0, .int .i64 0, .int .i64 0, .int .i64 0, .int .i64 0, .int .i64 0, .int .i64 0, .string ⟨#[]⟩, .int .i64 0, .string ⟨#[]⟩, .int .i64 0, .int .i64 0, .int .i64 0, .int .i64 0, .int .i64 0, .int .i64 0, .int .i64 0, .int .i64 0, .int .i64 0, .int .i64 0, .int .i64 0, .int .i64 0, .int .i64 0] 43)) wf.heap.size 0 CG.toArray.size := there_row (cs := [.slice none 0 0, .int .i64 0, .string ⟨#[]⟩, .int .i64 0, .int .i64 0, .int .i64 0, .int .i64 0, .int .i64 0, .int .i64 0, .int .i64 0, .int .i64 0, .int .i64 0, .string ⟨#[]⟩, .int .i64 0, .string ⟨#[]⟩, .int .i64 0, .int .i64 0, .int .i64 0, .int .i64 0, .int .i64 0, .int .i64 0, .int .i64 0, .int .i64 0, .int .i64 0, .int .i64 0, .int .i64 0, .int .i64 0, .int .i64 0]) hnn (by rw [hcgz]; rfl)
    have hng := set_all (cs := [.slice none 0 0, .int .i64 0, .string ⟨#[]⟩, .int .i64 0, .int .i64 0, .int .i64 0, .int .i64 0, .int .i64 0, .int .i64 0, .int .i64 0, .int .i64 0, .int .i64 0, .string ⟨#[]⟩, .int .i64 0, .string ⟨#[]⟩, .int .i64 0, .int .i64 0, .int .i64 0, .int .i64 0, .int .i64 0, .int .i64 0, .int .i64 0, .int .i64 0, .int .i64 0, .int .i64 0, .int .i64 0, .int .i64 0, .int .i64 0]) hnn CG HGL.out
    have hbg := setCells_below wf.heap.size (Nat.le_refl _) CG 0 _ hbn
    obtain ⟨Wg, hWg⟩ : ∃ W, W = (wf.alloc (.cells #[.slice none 0 0, .int .i64 0, .string ⟨#[]⟩, .int .i64 0, .int .i64 0, .int .i64 0, .int .i64 0, .int .i64 0, .int .i64 0, .int .i64 0, .int .i64 0, .int .i64 0, .string ⟨#[]⟩, .int .i64 0, .string ⟨#[]⟩, .int .i64 0, .int .i64 0, .int .i64 0, .int .i64 0, .int .i64 0, .int .i64 0, .int .i64 0, .int .i64 0, .int .i64 0, .int .i64 0, .int .i64 0, .int .i64 0, .int .i64 0] 43)).setCells wf.heap.size 0 CG := ⟨_, rfl⟩
    go_upto_region 2 with (refine wpList_store_mid rfl 43 (.tmp 7) (.tmp 12) rfl wf.heap.size 0 CG.toArray rfl HGV.out hthg hgi2 hgone ?_)
    change Code.wp _ _ _ _ ((wf.alloc (.cells #[.slice none 0 0, .int .i64 0, .string ⟨#[]⟩, .int .i64 0, .int .i64 0, .int .i64 0, .int .i64 0, .int .i64 0, .int .i64 0, .int .i64 0, .int .i64 0, .int .i64 0, .string ⟨#[]⟩, .int .i64 0, .string ⟨#[]⟩, .int .i64 0, .int .i64 0, .int .i64 0, .int .i64 0, .int .i64 0, .int .i64 0, .int .i64 0, .int .i64 0, .int .i64 0, .int .i64 0, .int .i64 0, .int .i64 0, .int .i64 0] 43)).setCells wf.heap.size 0 CG)
    rw [← hWg] at hbg hng ⊢
    clear hWg hnn hbn hthg
    have HOg := Lib.hid (HOf.out.step hbg)
    have HNG := Lib.hid hng
    have hlg := heap_lt hng
    have v26 := cell_at hng 26 (.int .i64 e) (by rw [hCG]; rfl)
    clear hng hbg hbf
    go_upto_region 3 with fail
    have hrg : Wg.rangeAt wf.heap.size 0 CG := range_row HNG.out
    have hinf : (Try.prog.info? 43).map (·.size) = some CG.length := by rw [← HGL.out]; kernel_rfl
    have hth0 : World.there _ w.heap.size 0 CG.toArray.size := there_row HOg.out.b0 (by rw [hcgz]; rfl)
    have hlt := heap_lt HOg.out.b0
    clear hCG hcgz v26
    go_wp2_with (first | (refine wpList_load_mid rfl 43 (.tmp 7) rfl wf.heap.size 0 rfl CG _ hrg Try.underlying43 rfl hinf ?_) | (refine wpList_store_mid rfl 43 (.tmp 6) (.tmp 17) rfl w.heap.size 0 CG.toArray rfl rfl hth0 hgi2 hgone ?_))
    have hs := set_all HOg.out.b0 CG HGL.out
    have hinf2 := hgi2
    exact bodyPost_ret (v := .agg CG.toArray) (results_cell_row Try.results12 _ _ w.heap.size 43 _ (0, 0) _ rfl hs Try.underlying43 rfl hinf2) rfl ⟨setCells_below _ (Nat.le_refl _) _ _ _ HOg.out.bel, by rw [HRE.out]; exact congrArg Ending.returned HGV.out.symm⟩
  | ok t a1 =>
    have hx : x = .returned (gotV (.slice none 0 0) t ⟨#[]⟩ ty0 0 a1 0 0) := hx
    subst hx
    obtain ⟨CG, hCG⟩ : ∃ CG, CG = gotL (.slice none 0 0) t ⟨#[]⟩ ty0 0 a1 0 0 := ⟨_, rfl⟩
    have hcgz : CG.toArray.size = 28 := by rw [hCG]; rfl
    have hgi2 : (Try.prog.info? 43).map (·.size) = some CG.toArray.size := by rw [hcgz]; kernel_rfl
    have hgone : CG.toArray.all (·.oneCell') = true := by rw [hCG]; exact got_ones _ _ _ _ _ _ _ _ _ _
    have HGL : Hid (28 = CG.length) := Lib.hid (by rw [hCG]; rfl)
    have HGV : Hid (gotV (.slice none 0 0) t ⟨#[]⟩ ty0 0 a1 0 0 = .agg CG.toArray) := Lib.hid (by rw [hCG]; rfl)
    have HGR : Hid (∀ j v, ([.int .i64 t.kind, .string t.cls, .int .i64 t.n, .int .i64 t.o0.kind, .int .i64 t.o0.n, .int .i64 t.o1.kind, .int .i64 t.o1.n, .int .i64 t.o2.kind, .int .i64 t.o2.n, .int .i64 t.o3.kind, .int .i64 t.o3.n] : List Value)[j]? = some v → CG[1 + j]? = some v) := Lib.hid (by
      rw [hCG]; intro j v hv
      have hj : j < 11 := (List.getElem?_eq_some_iff.1 hv).1
      rcases (by omega : j = 0 ∨ j = 1 ∨ j = 2 ∨ j = 3 ∨ j = 4 ∨ j = 5 ∨ j = 6 ∨ j = 7 ∨ j = 8 ∨ j = 9 ∨ j = 10) with rfl | rfl | rfl | rfl | rfl | rfl | rfl | rfl | rfl | rfl | rfl <;> exact hv)
    have HGF : Hid (CG[1]? = some (.int .i64 t.kind) ∧ CG[2]? = some (.string t.cls) ∧ CG[3]? = some (.int .i64 t.n) ∧ CG[4]? = some (.int .i64 t.o0.kind) ∧ CG[5]? = some (.int .i64 t.o0.n) ∧ CG[6]? = some (.int .i64 t.o1.kind) ∧ CG[7]? = some (.int .i64 t.o1.n) ∧ CG[8]? = some (.int .i64 t.o2.kind) ∧ CG[9]? = some (.int .i64 t.o2.n) ∧ CG[10]? = some (.int .i64 t.o3.kind) ∧ CG[11]? = some (.int .i64 t.o3.n) ∧ CG[25]? = some (.int .i64 a1) ∧ CG[26]? = some (.int .i64 0)) := Lib.hid (by rw [hCG]; exact ⟨rfl, rfl, rfl, rfl, rfl, rfl, rfl, rfl, rfl, rfl, rfl, rfl, rfl⟩)
    have hbn := boxed wf (.cells #[.slice none 0 0, .int .i64 0, .string ⟨#[]⟩, .int .i64 0, .int .i64 0, .int .i64 0, .int .i64 0, .int .i64 0, .int .i64 0, .int .i64 0, .int .i64 0, .int .i64 0, .string ⟨#[]⟩, .int .i64 0, .string ⟨#[]⟩, .int .i64 0, .int .i64 0, .int .i64 0, .int .i64 0, .int .i64 0, .int .i64 0, .int .i64 0, .int .i64 0, .int .i64 0, .int .i64 0, .int .i64 0, .int .i64 0, .int .i64 0] 43)
    have hnn := heap_new wf (.cells #[.slice none 0 0, .int .i64 0, .string ⟨#[]⟩, .int .i64 0, .int .i64 0, .int .i64 0, .int .i64 0, .int .i64 0, .int .i64 0, .int .i64 0, .int .i64 0, .int .i64 0, .string ⟨#[]⟩, .int .i64 0, .string ⟨#[]⟩, .int .i64 0, .int .i64 0, .int .i64 0, .int .i64 0, .int .i64 0, .int .i64 0, .int .i64 0, .int .i64 0, .int .i64 0, .int .i64 0, .int .i64 0, .int .i64 0, .int .i64 0] 43)
    have hthg : World.there (wf.alloc (.cells #[.slice none 0 0, .int .i64 0, .string ⟨#[]⟩, .int .i64 0, .int .i64 0, .int .i64 0, .int .i64 0, .int .i64 0, .int .i64 0, .int .i64 0, .int .i64 0, .int .i64 0, .string ⟨#[]⟩, .int .i64 0, .string ⟨#[]⟩, .int .i64 0, .int .i64 0, .int .i64 0, .int .i64 0, .int .i64 0, .int .i64 0, .int .i64 0, .int .i64 0, .int .i64 0, .int .i64 0, .int .i64 0, .int .i64 0, .int .i64 0] 43)) wf.heap.size 0 CG.toArray.size := there_row (cs := [.slice none 0 0, .int .i64 0, .string ⟨#[]⟩, .int .i64 0, .int .i64 0, .int .i64 0, .int .i64 0, .int .i64 0, .int .i64 0, .int .i64 0, .int .i64 0, .int .i64 0, .string ⟨#[]⟩, .int .i64 0, .string ⟨#[]⟩, .int .i64 0, .int .i64 0, .int .i64 0, .int .i64 0, .int .i64 0, .int .i64 0, .int .i64 0, .int .i64 0, .int .i64 0, .int .i64 0, .int .i64 0, .int .i64 0, .int .i64 0]) hnn (by rw [hcgz]; rfl)
    have hng := set_all (cs := [.slice none 0 0, .int .i64 0, .string ⟨#[]⟩, .int .i64 0, .int .i64 0, .int .i64 0, .int .i64 0, .int .i64 0, .int .i64 0, .int .i64 0, .int .i64 0, .int .i64 0, .string ⟨#[]⟩, .int .i64 0, .string ⟨#[]⟩, .int .i64 0, .int .i64 0, .int .i64 0, .int .i64 0, .int .i64 0, .int .i64 0, .int .i64 0, .int .i64 0, .int .i64 0, .int .i64 0, .int .i64 0, .int .i64 0, .int .i64 0]) hnn CG HGL.out
    have hbg := setCells_below wf.heap.size (Nat.le_refl _) CG 0 _ hbn
    obtain ⟨Wg, hWg⟩ : ∃ W, W = (wf.alloc (.cells #[.slice none 0 0, .int .i64 0, .string ⟨#[]⟩, .int .i64 0, .int .i64 0, .int .i64 0, .int .i64 0, .int .i64 0, .int .i64 0, .int .i64 0, .int .i64 0, .int .i64 0, .string ⟨#[]⟩, .int .i64 0, .string ⟨#[]⟩, .int .i64 0, .int .i64 0, .int .i64 0, .int .i64 0, .int .i64 0, .int .i64 0, .int .i64 0, .int .i64 0, .int .i64 0, .int .i64 0, .int .i64 0, .int .i64 0, .int .i64 0] 43)).setCells wf.heap.size 0 CG := ⟨_, rfl⟩
    go_upto_region 2 with (refine wpList_store_mid rfl 43 (.tmp 7) (.tmp 12) rfl wf.heap.size 0 CG.toArray rfl HGV.out hthg hgi2 hgone ?_)
    change Code.wp _ _ _ _ ((wf.alloc (.cells #[.slice none 0 0, .int .i64 0, .string ⟨#[]⟩, .int .i64 0, .int .i64 0, .int .i64 0, .int .i64 0, .int .i64 0, .int .i64 0, .int .i64 0, .int .i64 0, .int .i64 0, .string ⟨#[]⟩, .int .i64 0, .string ⟨#[]⟩, .int .i64 0, .int .i64 0, .int .i64 0, .int .i64 0, .int .i64 0, .int .i64 0, .int .i64 0, .int .i64 0, .int .i64 0, .int .i64 0, .int .i64 0, .int .i64 0, .int .i64 0] 43)).setCells wf.heap.size 0 CG)
    rw [← hWg] at hbg hng ⊢
    clear hWg hnn hbn hthg
    have HOg := Lib.hid (HOf.out.step hbg)
    have HNG := Lib.hid hng
    have hlg := heap_lt hng
    obtain ⟨g7, hg7⟩ : ∃ g, g = wf.heap.size := ⟨_, rfl⟩
    rw [← hg7] at HNG hng hlg ⊢
    obtain ⟨_, _, _, _, _, _, _, _, _, _, _, c25, c26⟩ := HGF.out
    have v26 := cell_at hng 26 _ c26
    have v25 := cell_at hng 25 _ c25
    have v1 := cell_at hng 1 _ HGF.out.1
    have hwg : w.heap.size < g7 := by
      have := heap_lt HOf.out.b0
      omega
    clear hng hbg hbf hCG hcgz c25 c26 hgi2 hgone hg7
    by_cases hk0 : t.kind = 0
    case pos =>
      have hkb : (t.kind == 0) = true := by simpa using hk0
      have HRE : Hid (res = .err 3 (tokI l a).pos) := Lib.hid (by rw [HRES.out]; unfold varP; rw [← HKR.out]; dsimp only; rw [if_pos hk0])
      clear hk0
      obtain ⟨tp, htp⟩ : ∃ tp, tp = (tokI l a).pos := ⟨_, rfl⟩
      rw [← htp] at HRE
      go_wp2_with fail
      refine (HWR.out 3 a _ HOg.out.bel).mono ?_
      rintro x wh ⟨rfl, hbh⟩
      have HOh := Lib.hid (HOg.out.step hbh)
      clear hbh v26 v25 v1
      rw [← htp]
      clear htp
      obtain ⟨CL, hCL⟩ : ∃ CL, CL = gotL (.slice none 0 0) ty0 ⟨#[]⟩ ty0 0 0 (3) (tp) := ⟨_, rfl⟩
      have hcz : CL.toArray.size = 28 := by rw [hCL]; rfl
      have hinf2 : (Try.prog.info? 43).map (·.size) = some CL.toArray.size := by rw [hcz]; kernel_rfl
      have hone : CL.toArray.all (·.oneCell') = true := by rw [hCL]; exact got_ones _ _ _ _ _ _ _ _ _ _
      have hth0 : World.there _ w.heap.size 0 CL.toArray.size := there_row HOh.out.b0 hcz
      have hlt := heap_lt HOh.out.b0
      have HEV : Hid (gotE (3) (tp) = .agg CL.toArray) := Lib.hid (by rw [hCL]; rfl)
      have HLL : Hid (28 = CL.length) := Lib.hid (by rw [hCL]; rfl)
      clear hCL hcz
      go_wp2_with (refine wpList_store_mid rfl 43 (.tmp 6) (.tmp 24) rfl w.heap.size 0 CL.toArray rfl HEV.out hth0 hinf2 hone ?_)
      have hs := set_all HOh.out.b0 CL HLL.out
      exact bodyPost_ret (v := .agg CL.toArray) (results_cell_row Try.results12 _ _ w.heap.size 43 _ (0, 0) _ rfl hs Try.underlying43 rfl hinf2) rfl ⟨setCells_below _ (Nat.le_refl _) _ _ _ HOh.out.bel, by rw [HRE.out]; exact congrArg Ending.returned HEV.out.symm⟩
    case neg =>
      have hkb : (t.kind == 0) = false := by simpa using hk0
      have htk6 := Lib.hid (HTK.out a1 Wg HOg.out.bel)
      obtain ⟨u, hu⟩ : ∃ u, u = tokI l a1 := ⟨_, rfl⟩
      have HU := Lib.hid hu
      have HUI : Hid (u.kind = 1 → a1 + 1 ≤ 9223372036854775807 ∧ -9223372036854775808 ≤ a1 + 1) := Lib.hid (fun h1 => by
        have := tokI_in (l := l) (a := a1) (by rw [← hu]; omega)
        omega)
      have HRU : Hid (res = if u.kind = 1 then .ok ⟨u.text, t, (tokI l a).pos⟩ (a1 + 1) else .err 3 u.pos) := Lib.hid (by rw [HRES.out]; unfold varP; rw [← HKR.out]; dsimp only; rw [if_neg hk0, hu])
      rw [← hu] at htk6
      clear hu hk0
      obtain ⟨uk, ux, up⟩ := u
      rw [val_eq] at htk6
      dsimp only at htk6 HRU HUI
      go_wp2_with fail
      refine htk6.out.mono ?_
      rintro x wh ⟨rfl, hbh⟩
      have hng1 := (hbh.block _ hlg).trans HNG.out
      have HOh := Lib.hid (HOg.out.step hbh)
      have hlh := heap_lt hng1
      clear v26 v25 v1 hbh
      by_cases hu1 : uk = 1
      case neg =>
        have hub : (uk != 1) = true := by simpa using hu1
        have HRE : Hid (res = .err 3 up) := Lib.hid (by rw [HRU.out, if_neg hu1])
        have hbi := boxed wh (.cells #[.int .i64 uk, .string ux, .int .i64 up] 55)
        have hni := heap_new wh (.cells #[.int .i64 uk, .string ux, .int .i64 up] 55)
        obtain ⟨Wi, hWi⟩ : ∃ W, W = wh.alloc (.cells #[.int .i64 uk, .string ux, .int .i64 up] 55) := ⟨_, rfl⟩
        go_upto_region 7 with fail
        rw [← hWi] at hbi hni ⊢
        clear hWi
        have HOi := Lib.hid (HOh.out.step hbi)
        have v25 := cell_at ((hbi.block _ hlh).trans hng1) 25 _ HGF.out.2.2.2.2.2.2.2.2.2.2.2.1
        obtain ⟨q0, q1, q2⟩ := row3 hni
        clear hbi hni hng1
        go_wp2_with fail
        refine (HWR.out 3 a1 _ HOi.out.bel).mono ?_
        rintro x wj ⟨rfl, hbj⟩
        have HOj := Lib.hid (HOi.out.step hbj)
        clear hbj v25 q0 q1 q2
        rw [← HU.out]
        dsimp only
        obtain ⟨CL, hCL⟩ : ∃ CL, CL = gotL (.slice none 0 0) ty0 ⟨#[]⟩ ty0 0 0 (3) (up) := ⟨_, rfl⟩
        have hcz : CL.toArray.size = 28 := by rw [hCL]; rfl
        have hinf2 : (Try.prog.info? 43).map (·.size) = some CL.toArray.size := by rw [hcz]; kernel_rfl
        have hone : CL.toArray.all (·.oneCell') = true := by rw [hCL]; exact got_ones _ _ _ _ _ _ _ _ _ _
        have hth0 : World.there _ w.heap.size 0 CL.toArray.size := there_row HOj.out.b0 hcz
        have hlt := heap_lt HOj.out.b0
        have HEV : Hid (gotE (3) (up) = .agg CL.toArray) := Lib.hid (by rw [hCL]; rfl)
        have HLL : Hid (28 = CL.length) := Lib.hid (by rw [hCL]; rfl)
        clear hCL hcz
        go_wp2_with (refine wpList_store_mid rfl 43 (.tmp 6) (.tmp 35) rfl w.heap.size 0 CL.toArray rfl HEV.out hth0 hinf2 hone ?_)
        have hs := set_all HOj.out.b0 CL HLL.out
        exact bodyPost_ret (v := .agg CL.toArray) (results_cell_row Try.results12 _ _ w.heap.size 43 _ (0, 0) _ rfl hs Try.underlying43 rfl hinf2) rfl ⟨setCells_below _ (Nat.le_refl _) _ _ _ HOj.out.bel, by rw [HRE.out]; exact congrArg Ending.returned HEV.out.symm⟩
      case pos =>
        subst hu1
        obtain ⟨hn1, hn2⟩ := HUI.out rfl
        have hbi := boxed wh (.cells #[.int .i64 1, .string ux, .int .i64 up] 55)
        have hni := heap_new wh (.cells #[.int .i64 1, .string ux, .int .i64 up] 55)
        obtain ⟨Wi, hWi⟩ : ∃ W, W = wh.alloc (.cells #[.int .i64 1, .string ux, .int .i64 up] 55) := ⟨_, rfl⟩
        go_upto_region 7 with fail
        rw [← hWi] at hbi hni ⊢
        clear hWi
        have HOi := Lib.hid (HOh.out.step hbi)
        have HGi := Lib.hid ((hbi.block _ hlh).trans hng1)
        have HTi := Lib.hid hni
        obtain ⟨g8, hg8⟩ : ∃ g, g = wh.heap.size := ⟨_, rfl⟩
        rw [← hg8] at HTi hni ⊢
        obtain ⟨q0, q1, q2⟩ := row3 hni
        clear hbi hni hng1 hg8
        have HRE : Hid (res = .ok ⟨ux, t, (tokI l a).pos⟩ (a1 + 1)) := Lib.hid (by rw [HRU.out]; exact if_pos trivial)
        have HTA : Hid (∀ W, Below Wi.heap.size Wi W → Calls Try.prog 21 #[.slice A l.length c, .int .i64 a] W fun x w' => x = .returned (tokI l a).val ∧ Below W.heap.size W w') := Lib.hid (fun W hb => HTK.out a W (HOi.out.bel.trans (hb.mono HOi.out.bel.size)))
        obtain ⟨s, hs0⟩ : ∃ s, s = tokI l a := ⟨_, rfl⟩
        rw [← hs0] at HTA HRE
        clear hs0
        obtain ⟨sk, sx, tp⟩ := s
        rw [val_eq] at HTA
        dsimp only at HTA HRE
        go_upto_region 9 with fail
        clear q0 q1 q2
        obtain ⟨CL, hCL⟩ : ∃ CL, CL = gotL (.slice none 0 0) ty0 ux t tp (a1 + 1) 0 0 := ⟨_, rfl⟩
        have hcz : CL.toArray.size = 28 := by rw [hCL]; rfl
        have hinf2 : (Try.prog.info? 43).map (·.size) = some CL.toArray.size := by rw [hcz]; kernel_rfl
        have hone : CL.toArray.all (·.oneCell') = true := by rw [hCL]; exact got_ones _ _ _ _ _ _ _ _ _ _
        have HEV : Hid ((Value.agg #[.slice none 0 0, .int .i64 0, .string ⟨#[]⟩, .int .i64 0, .int .i64 0, .int .i64 0, .int .i64 0, .int .i64 0, .int .i64 0, .int .i64 0, .int .i64 0, .int .i64 0, .string ux, .int .i64 t.kind, .string t.cls, .int .i64 t.n, .int .i64 t.o0.kind, .int .i64 t.o0.n, .int .i64 t.o1.kind, .int .i64 t.o1.n, .int .i64 t.o2.kind, .int .i64 t.o2.n, .int .i64 t.o3.kind, .int .i64 t.o3.n, .int .i64 tp, .int .i64 (a1 + 1), .int .i64 0, .int .i64 0]) = .agg CL.toArray) := Lib.hid (by rw [hCL]; rfl)
        have HLL : Hid (28 = CL.length) := Lib.hid (by rw [hCL]; rfl)
        have HGV2 : Hid (gotV (.slice none 0 0) ty0 ux t tp (a1 + 1) 0 0 = .agg CL.toArray) := Lib.hid (by rw [hCL]; rfl)
        have HIN2 := Lib.hid hinf2
        have HON := Lib.hid hone
        have HCZ := Lib.hid hcz
        clear hCL hcz hinf2 hone
        refine region_inv (by kernel_rfl) (VI [.pointer (some ⟨g8, 1, none⟩), .string ux, .pointer (some ⟨g7, 1, none⟩), .agg #[.int .i64 t.kind, .string t.cls, .int .i64 t.n, .int .i64 t.o0.kind, .int .i64 t.o0.n, .int .i64 t.o1.kind, .int .i64 t.o1.n, .int .i64 t.o2.kind, .int .i64 t.o2.n, .int .i64 t.o3.kind, .int .i64 t.o3.n], .slice A l.length c, .int .i64 a, .agg #[.int .i64 sk, .string sx, .int .i64 tp], .int .i64 tp, .agg #[.string ux, .int .i64 t.kind, .string t.cls, .int .i64 t.n, .int .i64 t.o0.kind, .int .i64 t.o0.n, .int .i64 t.o1.kind, .int .i64 t.o1.n, .int .i64 t.o2.kind, .int .i64 t.o2.n, .int .i64 t.o3.kind, .int .i64 t.o3.n, .int .i64 tp], .pointer (some ⟨g7, 25, none⟩), .int .i64 a1, .int .i64 (a1 + 1), .agg CL.toArray] (.slice A l.length c) (.int .i64 a) (.pointer (some ⟨w.heap.size, 0, none⟩)) (.pointer (some ⟨g7, 0, none⟩)) (.pointer (some ⟨g8, 0, none⟩)) Wi w.heap.size CL) (by kernel_rfl) ?step ?fin ?ini
        case ini =>
          exact ⟨_, rfl, rfl, rfl, rfl, rfl, rfl, rfl, fun i hi h => absurd h (by simp [Array.getD_eq_getD_getElem?, Array.getElem?_replicate]; split <;> simp), fun _ => drew_below Wi, fun h => absurd h (by simp [Array.getD_eq_getD_getElem?])⟩
        case fin =>
          rintro d x' W' ⟨T, rfl, hT, h0, h1, h6, h7, h8, hv, _, hF⟩ hall
          obtain ⟨w0, hb0, rfl⟩ := hF (hall 13 (by decide))
          have hO0 := HOi.out.step hb0
          have hs := set_all hO0.b0 CL HLL.out
          have hinf2 := HIN2.out
          have hT6 : T.getD 6 undef = .pointer (some ⟨w.heap.size, 0, none⟩) := by rw [Array.getD_eq_getD_getElem?, h6]; rfl
          clear h0 h1 h7 h8 hv hF hall
          go_wp2_with fail
          exact bodyPost_ret (v := .agg CL.toArray) (results_cell_row Try.results12 _ _ w.heap.size 43 _ (0, 0) _ hT6 hs Try.underlying43 rfl hinf2) rfl ⟨setCells_below _ (Nat.le_refl _) _ _ _ hO0.bel, by rw [HRE.out]; exact congrArg Ending.returned HGV2.out.symm⟩
        case step =>
          rintro d x' W' j hD ⟨T, rfl, hT, h0, h1, h6, h7, h8, hv, hA, hF⟩ hj
          have hj14 : j < 14 := (ready_open hj).1
          have hno := open_not (ready_open hj).2
          rcases (show j = 13 ∨ j < 13 by omega) with rfl | hj13
          · -- the store
            refine wpOp_step rfl rfl (fun K hK => ?_)
            have hb := hA hno
            have h48 := hv 12 (by omega) (ready_dep hj rfl 12 (by kernel_rfl))
            have h48 : T[48]? = some (.agg CL.toArray) := h48
            have hO0 := HOi.out.step hb
            refine wp_store_mid 43 (.tmp 6) (.tmp 48) rfl w.heap.size 0 CL.toArray (by show T.getD 6 undef = _; rw [Array.getD_eq_getD_getElem?, h6]; rfl) (by show T.getD 48 undef = _; rw [Array.getD_eq_getD_getElem?, h48]; rfl) (there_row hO0.b0 HCZ.out) HIN2.out HON.out ?_
            refine hK _ _ ⟨T, rfl, hT, h0, h1, h6, h7, h8, fun i hi hl => hv i hi (by rw [getD_set (by omega)] at hl; exact hl), fun h => ?_, fun _ => ⟨W', hb, rfl⟩⟩
            exfalso
            have hds : 13 < d.size := by
              rcases Nat.lt_or_ge 13 d.size with h9 | h9
              · exact h9
              · have := (ready_open hj).2
                unfold Array.getD at this
                rw [dif_neg (by omega)] at this
                cases this
            rw [getD_self hds] at h
            cases h
          · have hn13 : d.getD 13 false = false := by
              cases h13 : d.getD 13 false with
              | false => rfl
              | true =>
                exfalso
                have hall : ∀ i, i < 13 → d.getD i false = true := fun i hi => by
                  rcases (by omega : i = 0 ∨ i = 1 ∨ i = 2 ∨ i = 3 ∨ i = 4 ∨ i = 5 ∨ i = 6 ∨ i = 7 ∨ i = 8 ∨ i = 9 ∨ i = 10 ∨ i = 11 ∨ i = 12) with rfl | rfl | rfl | rfl | rfl | rfl | rfl | rfl | rfl | rfl | rfl | rfl | rfl <;> exact hD 13 _ rfl h13 _ (by kernel_rfl)
                have := hall j hj13
                rw [hno] at this
                cases this
            have hb := hA hn13
            have dep := fun (k : Nat) => fun (hk : k < 13) => fun (h : d.getD k false = true) => hv k hk h
            have HP := Lib.hid (fun (v : Value) (hvj : ([.pointer (some ⟨g8, 1, none⟩), .string ux, .pointer (some ⟨g7, 1, none⟩), .agg #[.int .i64 t.kind, .string t.cls, .int .i64 t.n, .int .i64 t.o0.kind, .int .i64 t.o0.n, .int .i64 t.o1.kind, .int .i64 t.o1.n, .int .i64 t.o2.kind, .int .i64 t.o2.n, .int .i64 t.o3.kind, .int .i64 t.o3.n], .slice A l.length c, .int .i64 a, .agg #[.int .i64 sk, .string sx, .int .i64 tp], .int .i64 tp, .agg #[.string ux, .int .i64 t.kind, .string t.cls, .int .i64 t.n, .int .i64 t.o0.kind, .int .i64 t.o0.n, .int .i64 t.o1.kind, .int .i64 t.o1.n, .int .i64 t.o2.kind, .int .i64 t.o2.n, .int .i64 t.o3.kind, .int .i64 t.o3.n, .int .i64 tp], .pointer (some ⟨g7, 25, none⟩), .int .i64 a1, .int .i64 (a1 + 1), .agg CL.toArray] : List Value)[j]? = some v) (w' : World) (hb' : Below W'.heap.size W' w') => VI.put (p0 := .slice A l.length c) (p1 := .int .i64 a) (g6 := w.heap.size) (CL := CL) hT h0 h1 h6 h7 h8 hv hn13 hb j hj13 v hvj hb')
            have HDP := Lib.hid dep
            have HBB := Lib.hid hb
            have HJ := Lib.hid hj
            clear hv hA hF dep hno hD hj
            rcases (by omega : j = 0 ∨ j = 1 ∨ j = 2 ∨ j = 3 ∨ j = 4 ∨ j = 5 ∨ j = 6 ∨ j = 7 ∨ j = 8 ∨ j = 9 ∨ j = 10 ∨ j = 11 ∨ j = 12) with rfl | rfl | rfl | rfl | rfl | rfl | rfl | rfl | rfl | rfl | rfl | rfl | rfl
            · have h8' := tget h8
              refine wpOp_step rfl rfl (fun K hK => ?_)
              refine wp_val (Op.fieldAddr 55 (.tmp 8) 1) _ rfl ?_ (hK _ _ (HP.out _ rfl _ (Below.refl _ _)))
              intro o ho
              unfold execOp
              rw [ho]
              simp only [h8']
              go_simp
            · have d := tget (T := T) (HDP.out 0 (by omega) (ready_dep HJ.out rfl 0 (by kernel_rfl)))
              have hc := cell_at ((HBB.out.block _ (heap_lt HTi.out)).trans HTi.out) 1 _ rfl
              refine wpOp_step rfl rfl (fun K hK => ?_)
              refine wp_val (Op.load 9 (.tmp 36)) _ rfl ?_ (hK _ _ (HP.out _ rfl _ (Below.refl _ _)))
              intro o ho
              unfold execOp
              rw [ho]
              simp only [d]
              go_simp
            · have h7' := tget h7
              refine wpOp_step rfl rfl (fun K hK => ?_)
              refine wp_val (Op.fieldAddr 43 (.tmp 7) 1) _ rfl ?_ (hK _ _ (HP.out _ rfl _ (Below.refl _ _)))
              intro o ho
              unfold execOp
              rw [ho]
              simp only [h7']
              go_simp
            · have d := tget (T := T) (HDP.out 2 (by omega) (ready_dep HJ.out rfl 2 (by kernel_rfl)))
              have hb := (HBB.out.block _ (heap_lt HGi.out)).trans HGi.out
              refine wpOp_step rfl rfl (fun K hK => ?_)
              refine wp_load_mid 36 (.tmp 38) rfl g7 1 d [.int .i64 t.kind, .string t.cls, .int .i64 t.n, .int .i64 t.o0.kind, .int .i64 t.o0.n, .int .i64 t.o1.kind, .int .i64 t.o1.n, .int .i64 t.o2.kind, .int .i64 t.o2.n, .int .i64 t.o3.kind, .int .i64 t.o3.n] _ (fun j v hv => ?_) Try.underlying36 rfl (by kernel_rfl) (hK _ _ (HP.out _ rfl _ (Below.refl _ _)))
              exact cell_at hb _ _ (HGR.out j v hv)
            · refine wpOp_step rfl rfl (fun K hK => ?_)
              exact wp_mv (.tmp 0) rfl (hK _ _ (HP.out _ (by rw [tget h0]; rfl) _ (Below.refl _ _)))
            · refine wpOp_step rfl rfl (fun K hK => ?_)
              exact wp_mv (.tmp 1) rfl (hK _ _ (HP.out _ (by rw [tget h1]; rfl) _ (Below.refl _ _)))
            · have e40 : T[40]? = some (.slice A l.length c) := HDP.out 4 (by omega) (ready_dep HJ.out rfl 4 (by kernel_rfl))
              have e41 : T[41]? = some (.int .i64 a) := HDP.out 5 (by omega) (ready_dep HJ.out rfl 5 (by kernel_rfl))
              refine wpOp_step rfl rfl (fun K hK => ?_)
              refine wp_enter _ _ _ _ rfl ?_ (HTA.out _ HBB.out) (fun w' hb => hK _ _ (HP.out _ rfl _ hb))
              intro o ho
              unfold execOp
              rw [ho]
              go_simp
              exact ⟨(Array.getElem?_eq_some_iff.1 e40).2, (Array.getElem?_eq_some_iff.1 e41).2⟩
            · have d := tget (T := T) (HDP.out 6 (by omega) (ready_dep HJ.out rfl 6 (by kernel_rfl)))
              refine wpOp_step rfl rfl (fun K hK => ?_)
              refine wp_val (Op.field 55 (.tmp 42) 2) _ rfl ?_ (hK _ _ (HP.out _ rfl _ (Below.refl _ _)))
              intro o ho
              unfold execOp
              rw [ho]
              have hf := tok_field2 sk tp sx W'
              simp only [d]
              go_simp
            · have d := tget (T := T) (HDP.out 1 (by omega) (ready_dep HJ.out rfl 1 (by kernel_rfl)))
              have d' := tget (T := T) (HDP.out 3 (by omega) (ready_dep HJ.out rfl 3 (by kernel_rfl)))
              have d'' := tget (T := T) (HDP.out 7 (by omega) (ready_dep HJ.out rfl 7 (by kernel_rfl)))
              refine wpOp_step rfl rfl (fun K hK => ?_)
              have hbu : Try.prog.built 41 [(0, .string ux), (1, .agg #[.int .i64 t.kind, .string t.cls, .int .i64 t.n, .int .i64 t.o0.kind, .int .i64 t.o0.n, .int .i64 t.o1.kind, .int .i64 t.o1.n, .int .i64 t.o2.kind, .int .i64 t.o2.n, .int .i64 t.o3.kind, .int .i64 t.o3.n]), (2, .int .i64 tp)] = some #[.string ux, .int .i64 t.kind, .string t.cls, .int .i64 t.n, .int .i64 t.o0.kind, .int .i64 t.o0.n, .int .i64 t.o1.kind, .int .i64 t.o1.n, .int .i64 t.o2.kind, .int .i64 t.o2.n, .int .i64 t.o3.kind, .int .i64 t.o3.n, .int .i64 tp] := by kernel_rfl
              exact wp_built 41 #[(0, .tmp 37), (1, .tmp 39), (2, .tmp 43)] [(0, .string ux), (1, .agg #[.int .i64 t.kind, .string t.cls, .int .i64 t.n, .int .i64 t.o0.kind, .int .i64 t.o0.n, .int .i64 t.o1.kind, .int .i64 t.o1.n, .int .i64 t.o2.kind, .int .i64 t.o2.n, .int .i64 t.o3.kind, .int .i64 t.o3.n]), (2, .int .i64 tp)] _ rfl (by simp only [List.map_toArray, List.map_cons, List.map_nil]; rw [d, d', d'']) hbu (hK _ _ (HP.out _ rfl _ (Below.refl _ _)))
            · have h7' := tget h7
              refine wpOp_step rfl rfl (fun K hK => ?_)
              refine wp_val (Op.fieldAddr 43 (.tmp 7) 3) _ rfl ?_ (hK _ _ (HP.out _ rfl _ (Below.refl _ _)))
              intro o ho
              unfold execOp
              rw [ho]
              simp only [h7']
              go_simp
            · have d := tget (T := T) (HDP.out 9 (by omega) (ready_dep HJ.out rfl 9 (by kernel_rfl)))
              have hc := cell_at ((HBB.out.block _ (heap_lt HGi.out)).trans HGi.out) 25 _ HGF.out.2.2.2.2.2.2.2.2.2.2.2.1
              refine wpOp_step rfl rfl (fun K hK => ?_)
              refine wp_val (Op.load 3 (.tmp 45)) _ rfl ?_ (hK _ _ (HP.out _ rfl _ (Below.refl _ _)))
              intro o ho
              unfold execOp
              rw [ho]
              simp only [d]
              go_simp
            · have e : T[46]? = some (.int .i64 a1) := HDP.out 10 (by omega) (ready_dep HJ.out rfl 10 (by kernel_rfl))
              have e46 := (Array.getElem?_eq_some_iff.1 e).2
              refine wpOp_step rfl rfl (fun K hK => ?_)
              refine wp_val _ _ rfl ?_ (hK _ _ (HP.out _ rfl _ (Below.refl _ _)))
              intro o ho
              unfold execOp
              rw [ho]
              clear HP hK
              go_simp
              exact IntWalk.i64_in _ (by omega)
            · have d := tget (T := T) (HDP.out 8 (by omega) (ready_dep HJ.out rfl 8 (by kernel_rfl)))
              have d' := tget (T := T) (HDP.out 11 (by omega) (ready_dep HJ.out rfl 11 (by kernel_rfl)))
              refine wpOp_step rfl rfl (fun K hK => ?_)
              have hbu : Try.prog.built 43 [(2, .agg #[.string ux, .int .i64 t.kind, .string t.cls, .int .i64 t.n, .int .i64 t.o0.kind, .int .i64 t.o0.n, .int .i64 t.o1.kind, .int .i64 t.o1.n, .int .i64 t.o2.kind, .int .i64 t.o2.n, .int .i64 t.o3.kind, .int .i64 t.o3.n, .int .i64 tp]), (3, .int .i64 (a1 + 1))] = some #[.slice none 0 0, .int .i64 0, .string ⟨#[]⟩, .int .i64 0, .int .i64 0, .int .i64 0, .int .i64 0, .int .i64 0, .int .i64 0, .int .i64 0, .int .i64 0, .int .i64 0, .string ux, .int .i64 t.kind, .string t.cls, .int .i64 t.n, .int .i64 t.o0.kind, .int .i64 t.o0.n, .int .i64 t.o1.kind, .int .i64 t.o1.n, .int .i64 t.o2.kind, .int .i64 t.o2.n, .int .i64 t.o3.kind, .int .i64 t.o3.n, .int .i64 tp, .int .i64 (a1 + 1), .int .i64 0, .int .i64 0] := by kernel_rfl
              rw [show #[.slice none 0 0, .int .i64 0, .string ⟨#[]⟩, .int .i64 0, .int .i64 0, .int .i64 0, .int .i64 0, .int .i64 0, .int .i64 0, .int .i64 0, .int .i64 0, .int .i64 0, .string ux, .int .i64 t.kind, .string t.cls, .int .i64 t.n, .int .i64 t.o0.kind, .int .i64 t.o0.n, .int .i64 t.o1.kind, .int .i64 t.o1.n, .int .i64 t.o2.kind, .int .i64 t.o2.n, .int .i64 t.o3.kind, .int .i64 t.o3.n, .int .i64 tp, .int .i64 (a1 + 1), .int .i64 0, .int .i64 0] = CL.toArray from (by have := HEV.out; injection this)] at hbu
              exact wp_built 43 #[(2, .tmp 44), (3, .tmp 47)] [(2, .agg #[.string ux, .int .i64 t.kind, .string t.cls, .int .i64 t.n, .int .i64 t.o0.kind, .int .i64 t.o0.n, .int .i64 t.o1.kind, .int .i64 t.o1.n, .int .i64 t.o2.kind, .int .i64 t.o2.n, .int .i64 t.o3.kind, .int .i64 t.o3.n, .int .i64 tp]), (3, .int .i64 (a1 + 1))] _ rfl (by simp only [List.map_toArray, List.map_cons, List.map_nil]; rw [d, d']) hbu (hK _ _ (HP.out _ rfl _ (Below.refl _ _)))
end Go.Proofs.Ytbcgooofelnkoaa
