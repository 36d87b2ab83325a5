/- Which owner a word of the language is, as the program and the document's answer tell it. Conditions: none. -/
import Derived.Test.YtbcgooofelnkoaaCls
namespace Go.Proofs.Ytbcgooofelnkoaa
open Go.RowKit
set_option linter.unusedVariables false

def wRep : ByteArray := ⟨#[114, 101, 112]⟩
def wPeer : ByteArray := ⟨#[112, 101, 101, 114]⟩
def wWorld : ByteArray := ⟨#[119, 111, 114, 108, 100]⟩
def wAny : ByteArray := ⟨#[97, 110, 121]⟩
def wUnique : ByteArray := ⟨#[117, 110, 105, 113, 117, 101]⟩
/-- The kind of the owner that a word is, but for unique; 0: it is none. -/
def wordK (t : Gt) : Int := if t.is wRep = true then 1 else if t.is wPeer = true then 2 else if t.is wWorld = true then 4 else if t.is wAny = true then 5 else 0
/-- The kind of the owner that a word is; 0: it is none. -/
def wOw (t : Gt) : Int := if wordK t = 0 then (if t.is wUnique = true then 6 else 0) else wordK t

/-- What is still to be asked from the k-th word on. -/
def wkFrom (t : Gt) : Nat → Int
  | 0 => wordK t
  | 1 => if t.is wPeer = true then 2 else if t.is wWorld = true then 4 else if t.is wAny = true then 5 else 0
  | 2 => if t.is wWorld = true then 4 else if t.is wAny = true then 5 else 0
  | 3 => if t.is wAny = true then 5 else 0
  | _ => 0

theorem two2 {w w1 : World} {A B : Obj} (hb : Below ((w.alloc A).alloc B).heap.size ((w.alloc A).alloc B) w1) :
    w1.heap[w.heap.size]? = some A ∧ w1.heap[w.heap.size + 1]? = some B ∧ Below w.heap.size w w1 ∧ w.heap.size + 2 ≤ w1.heap.size := by
  have hs1 : (w.alloc A).heap.size = w.heap.size + 1 := World.size_alloc ..
  have hs2 : ((w.alloc A).alloc B).heap.size = w.heap.size + 2 := by rw [World.size_alloc, hs1]
  have hn0 := (Below.heap_alloc (w.alloc A) B _ (by omega)).trans (heap_new w A)
  have hn1 := heap_new (w.alloc A) B
  rw [hs1] at hn1
  refine ⟨(hb.block _ (by omega)).trans hn0, (hb.block _ (by omega)).trans hn1, ?_, by have := hb.size; omega⟩
  exact ((boxed w A).trans ((boxed (w.alloc A) B).mono (by omega))).trans (hb.mono (by omega))

theorem rs_nil (W : World) (B : Nat) : RS W B none [] := fun h => absurd h (by simp)
theorem otext_w (k : Int) (s : ByteArray) (h : Ow.text ⟨k, 0⟩ [] = s) (W : World) : Calls Try.prog 46 #[.agg #[.int .i64 k, .int .i64 0], .slice none 0 0] W fun e w' => e = .returned (.string s) ∧ Below W.heap.size W w' := by
  have := otext_any ⟨k, 0⟩ none 0 [] W (rs_nil _ _) (by simp) (by simp)
  rw [h] at this
  exact this
theorem index4_0 (W : World) : (Instr.index 94 (.agg #[.int .i64 1, .int .i64 2, .int .i64 4, .int .i64 5]) (.int .i64 0)).run Try.prog W = .ok (.int .i64 1) W := by
  simp [Instr.index, run_underlying Try.underlying94, go_sem]
theorem index4_1 (W : World) : (Instr.index 94 (.agg #[.int .i64 1, .int .i64 2, .int .i64 4, .int .i64 5]) (.int .i64 1)).run Try.prog W = .ok (.int .i64 2) W := by
  simp [Instr.index, run_underlying Try.underlying94, go_sem]
theorem index4_2 (W : World) : (Instr.index 94 (.agg #[.int .i64 1, .int .i64 2, .int .i64 4, .int .i64 5]) (.int .i64 2)).run Try.prog W = .ok (.int .i64 4) W := by
  simp [Instr.index, run_underlying Try.underlying94, go_sem]
theorem index4_3 (W : World) : (Instr.index 94 (.agg #[.int .i64 1, .int .i64 2, .int .i64 4, .int .i64 5]) (.int .i64 3)).run Try.prog W = .ok (.int .i64 5) W := by
  simp [Instr.index, run_underlying Try.underlying94, go_sem]
/-- What the loop has in memory. -/
structure WoAt (w : World) (A B : Obj) (wr : World) : Prop where
  b0 : wr.heap[w.heap.size]? = some A
  b1 : wr.heap[w.heap.size + 1]? = some B
  bel : Below w.heap.size w wr
theorem WoAt.step {w wr w' : World} {A B : Obj} (h : WoAt w A B wr) (hb : Below wr.heap.size wr w') : WoAt w A B w' :=
  ⟨(hb.block _ (heap_lt h.b0)).trans h.b0, (hb.block _ (heap_lt h.b1)).trans h.b1, h.bel.trans (hb.mono h.bel.size)⟩

set_option maxRecDepth 100000 in
set_option maxHeartbeats 4000000 in
theorem wordOwner_any (t : Gt) (w : World) : Calls Try.prog 31 #[t.val] w fun x w' => x = .returned (.tuple #[.agg #[.int .i64 (wordK t), .int .i64 0], .bool (wordK t != 0)]) ∧ Below w.heap.size w w' := by
  have HIS : Hid (∀ s W, Calls Try.prog 33 #[t.val, .string s] W fun e w' => e = .returned (.bool (t.is s)) ∧ Below W.heap.size W w') := Lib.hid (fun s W => is_any t s W)
  have H0 : Hid (wkFrom t 0 = wordK t) := Lib.hid rfl
  have HST : Hid (∀ k, wkFrom t k = if k = 0 then (if t.is wRep = true then 1 else wkFrom t 1) else if k = 1 then (if t.is wPeer = true then 2 else wkFrom t 2) else if k = 2 then (if t.is wWorld = true then 4 else wkFrom t 3) else if k = 3 then (if t.is wAny = true then 5 else wkFrom t 4) else 0) := Lib.hid (by
    intro k
    match k with
    | 0 => rfl
    | 1 => rfl
    | 2 => rfl
    | 3 => rfl
    | k + 4 => simp [wkFrom])
  obtain ⟨b0, hb0⟩ : ∃ b, b = t.is wRep := ⟨_, rfl⟩
  obtain ⟨g, hg⟩ : ∃ g, g = wordK t := ⟨_, rfl⟩
  rw [← hg] at H0 ⊢
  obtain ⟨wk, hwk⟩ : ∃ wk, wk = wkFrom t := ⟨_, rfl⟩
  rw [← hwk] at H0 HST
  obtain ⟨is, his⟩ : ∃ is, is = t.is := ⟨_, rfl⟩
  rw [← his] at HIS HST
  obtain ⟨tk, tx, tp⟩ := t
  have hv : Gt.val ⟨tk, tx, tp⟩ = .agg #[.int .i64 tk, .string tx, .int .i64 tp] := rfl
  rw [hv] at HIS ⊢
  clear hg hwk his hv hb0
  go_enter Try.func31, Try.ntmps31
  go_wp2_with fail
  have HW0 : Hid (WoAt w (.cells #[.int .i64 tk, .string tx, .int .i64 tp] 55) (.cells #[.int .i64 0, .int .i64 0] 33) ((w.alloc (.cells #[.int .i64 tk, .string tx, .int .i64 tp] 55)).alloc (.cells #[.int .i64 0, .int .i64 0] 33))) := Lib.hid (by
    obtain ⟨h0, h1, h2, _⟩ := two2 (Below.refl ((w.alloc (.cells #[.int .i64 tk, .string tx, .int .i64 tp] 55)).alloc (.cells #[.int .i64 0, .int .i64 0] 33)).heap.size _)
    exact ⟨h0, h1, h2⟩)
  go_loopw [8] (fun i wr => ∃ k : Nat, k ≤ 4 ∧ i = .int .i64 k ∧ Hid (wk k = g) ∧ Hid (WoAt w (.cells #[.int .i64 tk, .string tx, .int .i64 tp] 55) (.cells #[.int .i64 0, .int .i64 0] 33) wr)) (fun i _ => 4 - (intOf i).toNat)
  case atStart => exact ⟨0, by omega, rfl, H0, HW0⟩
  case round =>
    obtain ⟨k, hk, rfl, hw, HW⟩ := hrel
    have hw := hw.out
    clear H0 HW0
    rcases (show k = 4 ∨ k = 0 ∨ k = 1 ∨ k = 2 ∨ k = 3 by omega) with rfl | h
    · have hg : g = 0 := by rw [← hw]; exact HST.out 4
      subst hg
      clear hw
      obtain ⟨z0, z1⟩ := row2 HW.out.b1
      have f0 := frozen_of HW.out.b1 0
      have f1 := frozen_of HW.out.b1 1
      have hlq := heap_lt HW.out.b1
      go_wp2_with fail
      have hs := set2 HW.out.b1 (.int .i64 0) (.int .i64 0)
      have hbf := below2 HW.out.bel (Nat.le_succ w.heap.size) (.int .i64 0) (.int .i64 0)
      obtain ⟨Wf, hWf⟩ : ∃ Wf, Wf = (wr.setCell ⟨w.heap.size + 1, 0, none⟩ (.int .i64 0)).setCell ⟨w.heap.size + 1, 1, none⟩ (.int .i64 0) := ⟨_, rfl⟩
      rw [← hWf] at hs hbf ⊢
      obtain ⟨r0, r1⟩ := row2 hs
      exact bodyPost_ret (v := .tuple #[.agg #[.int .i64 0, .int .i64 0], .bool false]) (by simp [results, Try.results31, go_sem, r0, r1]) rfl ⟨rfl, hbf⟩
    · rcases h with rfl | rfl | rfl | rfl
      · have hix := index4_0
        have hg : (if is wRep = true then (1 : Int) else wk 1) = g := by rw [← hw]; exact (HST.out 0).symm
        have HG := Lib.hid hg
        clear hg hw
        go_upto_region 5 with fail
        clear hix
        have hbx := heap_new wr (.cells #[.int .i64 1, .int .i64 0] 33)
        have HWB := Lib.hid (HW.out.step (boxed wr (.cells #[.int .i64 1, .int .i64 0] 33)))
        obtain ⟨W4, hW4⟩ : ∃ W4, W4 = wr.alloc (.cells #[.int .i64 1, .int .i64 0] 33) := ⟨_, rfl⟩
        rw [← hW4] at hbx HWB ⊢
        obtain ⟨x0, x1, x2⟩ := row3 HWB.out.b0
        obtain ⟨y0, y1⟩ := row2 hbx
        have f0 := cls_cell x0
        have f1 := cls_cell x1
        have f2 := cls_cell x2
        have f3 := cls_cell y0
        have f4 := cls_cell y1
        have HBX := Lib.hid hbx
        clear x0 x1 x2 y0 y1 hbx hW4
        refine region_class (by kernel_rfl) (by kernel_rfl) (drew_below _) ?_
        repeat (go_big_quiet_step (first | (go_at_call 46; with_reducible exact cls_below _ (otext_w 1 wRep (by kernel_rfl) _)) | (go_at_call 33; with_reducible exact cls_below _ (HIS.out _ _))))
        refine wpQuiet_nil ?_
        intro wq hw'
        obtain ⟨⟨wq2, hq⟩, hw''⟩ := hw'
        have hw3 : wq = wq2 := hw''
        subst hw3
        clear hw''
        have HWQ := Lib.hid (HWB.out.step hq)
        have hbq := (hq.block _ (heap_lt HBX.out)).trans HBX.out
        clear f0 f1 f2 f3 f4
        obtain ⟨bb, hbb⟩ : ∃ bb, bb = is wRep := ⟨_, rfl⟩
        rw [← hbb] at HG ⊢
        clear hbb
        obtain ⟨y0, y1⟩ := row2 hbq
        obtain ⟨z0, z1⟩ := row2 HWQ.out.b1
        have f0 := frozen_of HWQ.out.b1 0
        have f1 := frozen_of HWQ.out.b1 1
        have hlq := heap_lt HWQ.out.b1
        have hne : ¬ w.heap.size + 1 = wr.heap.size := by have := heap_lt HW.out.b1; omega
        cases bb with
        | true =>
          obtain rfl : g = 1 := by have := HG.out; simpa using this.symm
          go_wp2_with fail
          have hs := set2 HWQ.out.b1 (.int .i64 1) (.int .i64 0)
          have hbf := below2 HWQ.out.bel (Nat.le_succ w.heap.size) (.int .i64 1) (.int .i64 0)
          obtain ⟨Wf, hWf⟩ : ∃ Wf, Wf = (wq.setCell ⟨w.heap.size + 1, 0, none⟩ (.int .i64 1)).setCell ⟨w.heap.size + 1, 1, none⟩ (.int .i64 0) := ⟨_, rfl⟩
          rw [← hWf] at hs hbf ⊢
          obtain ⟨r0, r1⟩ := row2 hs
          exact bodyPost_ret (v := .tuple #[.agg #[.int .i64 1, .int .i64 0], .bool true]) (by simp [results, Try.results31, go_sem, r0, r1]) rfl ⟨rfl, hbf⟩
        | false =>
          have HG : Hid (wk 1 = g) := HG
          clear y0 y1 z0 z1 f0 f1
          go_wp2_with fail
          go_roundw
          case rel => exact ⟨1, by omega, by go_num, HG, HWQ⟩
          case measure => simp [intOf]
      · have hix := index4_1
        have hg : (if is wPeer = true then (2 : Int) else wk 2) = g := by rw [← hw]; exact (HST.out 1).symm
        have HG := Lib.hid hg
        clear hg hw
        go_upto_region 5 with fail
        clear hix
        have hbx := heap_new wr (.cells #[.int .i64 2, .int .i64 0] 33)
        have HWB := Lib.hid (HW.out.step (boxed wr (.cells #[.int .i64 2, .int .i64 0] 33)))
        obtain ⟨W4, hW4⟩ : ∃ W4, W4 = wr.alloc (.cells #[.int .i64 2, .int .i64 0] 33) := ⟨_, rfl⟩
        rw [← hW4] at hbx HWB ⊢
        obtain ⟨x0, x1, x2⟩ := row3 HWB.out.b0
        obtain ⟨y0, y1⟩ := row2 hbx
        have f0 := cls_cell x0
        have f1 := cls_cell x1
        have f2 := cls_cell x2
        have f3 := cls_cell y0
        have f4 := cls_cell y1
        have HBX := Lib.hid hbx
        clear x0 x1 x2 y0 y1 hbx hW4
        refine region_class (by kernel_rfl) (by kernel_rfl) (drew_below _) ?_
        repeat (go_big_quiet_step (first | (go_at_call 46; with_reducible exact cls_below _ (otext_w 2 wPeer (by kernel_rfl) _)) | (go_at_call 33; with_reducible exact cls_below _ (HIS.out _ _))))
        refine wpQuiet_nil ?_
        intro wq hw'
        obtain ⟨⟨wq2, hq⟩, hw''⟩ := hw'
        have hw3 : wq = wq2 := hw''
        subst hw3
        clear hw''
        have HWQ := Lib.hid (HWB.out.step hq)
        have hbq := (hq.block _ (heap_lt HBX.out)).trans HBX.out
        clear f0 f1 f2 f3 f4
        obtain ⟨bb, hbb⟩ : ∃ bb, bb = is wPeer := ⟨_, rfl⟩
        rw [← hbb] at HG ⊢
        clear hbb
        obtain ⟨y0, y1⟩ := row2 hbq
        obtain ⟨z0, z1⟩ := row2 HWQ.out.b1
        have f0 := frozen_of HWQ.out.b1 0
        have f1 := frozen_of HWQ.out.b1 1
        have hlq := heap_lt HWQ.out.b1
        have hne : ¬ w.heap.size + 1 = wr.heap.size := by have := heap_lt HW.out.b1; omega
        cases bb with
        | true =>
          obtain rfl : g = 2 := by have := HG.out; simpa using this.symm
          go_wp2_with fail
          have hs := set2 HWQ.out.b1 (.int .i64 2) (.int .i64 0)
          have hbf := below2 HWQ.out.bel (Nat.le_succ w.heap.size) (.int .i64 2) (.int .i64 0)
          obtain ⟨Wf, hWf⟩ : ∃ Wf, Wf = (wq.setCell ⟨w.heap.size + 1, 0, none⟩ (.int .i64 2)).setCell ⟨w.heap.size + 1, 1, none⟩ (.int .i64 0) := ⟨_, rfl⟩
          rw [← hWf] at hs hbf ⊢
          obtain ⟨r0, r1⟩ := row2 hs
          exact bodyPost_ret (v := .tuple #[.agg #[.int .i64 2, .int .i64 0], .bool true]) (by simp [results, Try.results31, go_sem, r0, r1]) rfl ⟨rfl, hbf⟩
        | false =>
          have HG : Hid (wk 2 = g) := HG
          clear y0 y1 z0 z1 f0 f1
          go_wp2_with fail
          go_roundw
          case rel => exact ⟨2, by omega, by go_num, HG, HWQ⟩
          case measure => simp [intOf]
      · have hix := index4_2
        have hg : (if is wWorld = true then (4 : Int) else wk 3) = g := by rw [← hw]; exact (HST.out 2).symm
        have HG := Lib.hid hg
        clear hg hw
        go_upto_region 5 with fail
        clear hix
        have hbx := heap_new wr (.cells #[.int .i64 4, .int .i64 0] 33)
        have HWB := Lib.hid (HW.out.step (boxed wr (.cells #[.int .i64 4, .int .i64 0] 33)))
        obtain ⟨W4, hW4⟩ : ∃ W4, W4 = wr.alloc (.cells #[.int .i64 4, .int .i64 0] 33) := ⟨_, rfl⟩
        rw [← hW4] at hbx HWB ⊢
        obtain ⟨x0, x1, x2⟩ := row3 HWB.out.b0
        obtain ⟨y0, y1⟩ := row2 hbx
        have f0 := cls_cell x0
        have f1 := cls_cell x1
        have f2 := cls_cell x2
        have f3 := cls_cell y0
        have f4 := cls_cell y1
        have HBX := Lib.hid hbx
        clear x0 x1 x2 y0 y1 hbx hW4
        refine region_class (by kernel_rfl) (by kernel_rfl) (drew_below _) ?_
        repeat (go_big_quiet_step (first | (go_at_call 46; with_reducible exact cls_below _ (otext_w 4 wWorld (by kernel_rfl) _)) | (go_at_call 33; with_reducible exact cls_below _ (HIS.out _ _))))
        refine wpQuiet_nil ?_
        intro wq hw'
        obtain ⟨⟨wq2, hq⟩, hw''⟩ := hw'
        have hw3 : wq = wq2 := hw''
        subst hw3
        clear hw''
        have HWQ := Lib.hid (HWB.out.step hq)
        have hbq := (hq.block _ (heap_lt HBX.out)).trans HBX.out
        clear f0 f1 f2 f3 f4
        obtain ⟨bb, hbb⟩ : ∃ bb, bb = is wWorld := ⟨_, rfl⟩
        rw [← hbb] at HG ⊢
        clear hbb
        obtain ⟨y0, y1⟩ := row2 hbq
        obtain ⟨z0, z1⟩ := row2 HWQ.out.b1
        have f0 := frozen_of HWQ.out.b1 0
        have f1 := frozen_of HWQ.out.b1 1
        have hlq := heap_lt HWQ.out.b1
        have hne : ¬ w.heap.size + 1 = wr.heap.size := by have := heap_lt HW.out.b1; omega
        cases bb with
        | true =>
          obtain rfl : g = 4 := by have := HG.out; simpa using this.symm
          go_wp2_with fail
          have hs := set2 HWQ.out.b1 (.int .i64 4) (.int .i64 0)
          have hbf := below2 HWQ.out.bel (Nat.le_succ w.heap.size) (.int .i64 4) (.int .i64 0)
          obtain ⟨Wf, hWf⟩ : ∃ Wf, Wf = (wq.setCell ⟨w.heap.size + 1, 0, none⟩ (.int .i64 4)).setCell ⟨w.heap.size + 1, 1, none⟩ (.int .i64 0) := ⟨_, rfl⟩
          rw [← hWf] at hs hbf ⊢
          obtain ⟨r0, r1⟩ := row2 hs
          exact bodyPost_ret (v := .tuple #[.agg #[.int .i64 4, .int .i64 0], .bool true]) (by simp [results, Try.results31, go_sem, r0, r1]) rfl ⟨rfl, hbf⟩
        | false =>
          have HG : Hid (wk 3 = g) := HG
          clear y0 y1 z0 z1 f0 f1
          go_wp2_with fail
          go_roundw
          case rel => exact ⟨3, by omega, by go_num, HG, HWQ⟩
          case measure => simp [intOf]
      · have hix := index4_3
        have hg : (if is wAny = true then (5 : Int) else wk 4) = g := by rw [← hw]; exact (HST.out 3).symm
        have HG := Lib.hid hg
        clear hg hw
        go_upto_region 5 with fail
        clear hix
        have hbx := heap_new wr (.cells #[.int .i64 5, .int .i64 0] 33)
        have HWB := Lib.hid (HW.out.step (boxed wr (.cells #[.int .i64 5, .int .i64 0] 33)))
        obtain ⟨W4, hW4⟩ : ∃ W4, W4 = wr.alloc (.cells #[.int .i64 5, .int .i64 0] 33) := ⟨_, rfl⟩
        rw [← hW4] at hbx HWB ⊢
        obtain ⟨x0, x1, x2⟩ := row3 HWB.out.b0
        obtain ⟨y0, y1⟩ := row2 hbx
        have f0 := cls_cell x0
        have f1 := cls_cell x1
        have f2 := cls_cell x2
        have f3 := cls_cell y0
        have f4 := cls_cell y1
        have HBX := Lib.hid hbx
        clear x0 x1 x2 y0 y1 hbx hW4
        refine region_class (by kernel_rfl) (by kernel_rfl) (drew_below _) ?_
        repeat (go_big_quiet_step (first | (go_at_call 46; with_reducible exact cls_below _ (otext_w 5 wAny (by kernel_rfl) _)) | (go_at_call 33; with_reducible exact cls_below _ (HIS.out _ _))))
        refine wpQuiet_nil ?_
        intro wq hw'
        obtain ⟨⟨wq2, hq⟩, hw''⟩ := hw'
        have hw3 : wq = wq2 := hw''
        subst hw3
        clear hw''
        have HWQ := Lib.hid (HWB.out.step hq)
        have hbq := (hq.block _ (heap_lt HBX.out)).trans HBX.out
        clear f0 f1 f2 f3 f4
        obtain ⟨bb, hbb⟩ : ∃ bb, bb = is wAny := ⟨_, rfl⟩
        rw [← hbb] at HG ⊢
        clear hbb
        obtain ⟨y0, y1⟩ := row2 hbq
        obtain ⟨z0, z1⟩ := row2 HWQ.out.b1
        have f0 := frozen_of HWQ.out.b1 0
        have f1 := frozen_of HWQ.out.b1 1
        have hlq := heap_lt HWQ.out.b1
        have hne : ¬ w.heap.size + 1 = wr.heap.size := by have := heap_lt HW.out.b1; omega
        cases bb with
        | true =>
          obtain rfl : g = 5 := by have := HG.out; simpa using this.symm
          go_wp2_with fail
          have hs := set2 HWQ.out.b1 (.int .i64 5) (.int .i64 0)
          have hbf := below2 HWQ.out.bel (Nat.le_succ w.heap.size) (.int .i64 5) (.int .i64 0)
          obtain ⟨Wf, hWf⟩ : ∃ Wf, Wf = (wq.setCell ⟨w.heap.size + 1, 0, none⟩ (.int .i64 5)).setCell ⟨w.heap.size + 1, 1, none⟩ (.int .i64 0) := ⟨_, rfl⟩
          rw [← hWf] at hs hbf ⊢
          obtain ⟨r0, r1⟩ := row2 hs
          exact bodyPost_ret (v := .tuple #[.agg #[.int .i64 5, .int .i64 0], .bool true]) (by simp [results, Try.results31, go_sem, r0, r1]) rfl ⟨rfl, hbf⟩
        | false =>
          have HG : Hid (wk 4 = g) := HG
          clear y0 y1 z0 z1 f0 f1
          go_wp2_with fail
          go_roundw
          case rel => exact ⟨4, by omega, by go_num, HG, HWQ⟩
          case measure => simp [intOf]
end Go.Proofs.Ytbcgooofelnkoaa
