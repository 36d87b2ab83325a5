/- The document's answer: which owner a word of the language is. Conditions: none. -/
import Derived.Test.YtbcgooofelnkoaaAs
namespace Go.Proofs.Ytbcgooofelnkoaa
open Go.RowKit
set_option linter.unusedVariables false

/-- The words that the answer goes through. -/
def wordsV : Array Value := #[.string ⟨#[114, 101, 112]⟩, .string ⟨#[112, 101, 101, 114]⟩, .string ⟨#[]⟩, .string ⟨#[119, 111, 114, 108, 100]⟩, .string ⟨#[97, 110, 121]⟩, .string ⟨#[117, 110, 105, 113, 117, 101]⟩]
/-- What is still to be asked from the k-th word on. -/
def owFrom (t : Gt) : Nat → Int
  | 0 => if t.is ⟨#[114, 101, 112]⟩ = true then 1 else if t.is ⟨#[112, 101, 101, 114]⟩ = true then 2 else if t.is ⟨#[119, 111, 114, 108, 100]⟩ = true then 4 else if t.is ⟨#[97, 110, 121]⟩ = true then 5 else if t.is ⟨#[117, 110, 105, 113, 117, 101]⟩ = true then 6 else 0
  | 1 => if t.is ⟨#[112, 101, 101, 114]⟩ = true then 2 else if t.is ⟨#[119, 111, 114, 108, 100]⟩ = true then 4 else if t.is ⟨#[97, 110, 121]⟩ = true then 5 else if t.is ⟨#[117, 110, 105, 113, 117, 101]⟩ = true then 6 else 0
  | 2 => if t.is ⟨#[119, 111, 114, 108, 100]⟩ = true then 4 else if t.is ⟨#[97, 110, 121]⟩ = true then 5 else if t.is ⟨#[117, 110, 105, 113, 117, 101]⟩ = true then 6 else 0
  | 3 => if t.is ⟨#[119, 111, 114, 108, 100]⟩ = true then 4 else if t.is ⟨#[97, 110, 121]⟩ = true then 5 else if t.is ⟨#[117, 110, 105, 113, 117, 101]⟩ = true then 6 else 0
  | 4 => if t.is ⟨#[97, 110, 121]⟩ = true then 5 else if t.is ⟨#[117, 110, 105, 113, 117, 101]⟩ = true then 6 else 0
  | 5 => if t.is ⟨#[117, 110, 105, 113, 117, 101]⟩ = true then 6 else 0
  | _ => 0
theorem owFrom_eq (t : Gt) : owFrom t 0 = wOw t := by
  unfold owFrom wOw wordK wRep wPeer wWorld wAny wUnique
  repeat' split
  all_goals simp_all
structure OwAt (w : World) (A B C : Obj) (wr : World) : Prop where
  b0 : wr.heap[w.heap.size]? = some A
  b1 : wr.heap[w.heap.size + 1]? = some B
  b2 : wr.heap[w.heap.size + 2]? = some C
  bel : Below w.heap.size w wr
theorem OwAt.step {w wr w' : World} {A B C : Obj} (h : OwAt w A B C wr) (hb : Below wr.heap.size wr w') : OwAt w A B C w' :=
  ⟨(hb.block _ (heap_lt h.b0)).trans h.b0, (hb.block _ (heap_lt h.b1)).trans h.b1, (hb.block _ (heap_lt h.b2)).trans h.b2, h.bel.trans (hb.mono h.bel.size)⟩
theorem OwAt.new (w : World) (A B C : Obj) : OwAt w A B C (((w.alloc A).alloc B).alloc C) := by
  obtain ⟨h0, h1, h2, _⟩ := two2 (Below.refl ((w.alloc A).alloc B).heap.size _)
  have hs : ((w.alloc A).alloc B).heap.size = w.heap.size + 2 := by simp
  have hn := heap_new ((w.alloc A).alloc B) C
  have hb := boxed ((w.alloc A).alloc B) C
  rw [hs] at hn hb
  exact ⟨(hb.block _ (by omega)).trans h0, (hb.block _ (by omega)).trans h1, hn, h2.trans (hb.mono (by omega))⟩

set_option maxRecDepth 100000 in
set_option maxHeartbeats 4000000 in
theorem refWord_any (t : Gt) (w : World) : Calls Try.prog 23 #[t.val] w fun x w' => x = .returned (.agg #[.int .i64 (wOw t), .int .i64 0]) ∧ Below w.heap.size w w' := by
  have HIS : Hid (∀ s W, Calls Try.prog 22 #[t.val, .string s] W fun e w' => e = .returned (.bool (t.is s)) ∧ Below W.heap.size W w') := Lib.hid (fun s W => refIs_any t s W)
  have H0 : Hid (owFrom t 0 = wOw t) := Lib.hid (owFrom_eq t)
  have HST : Hid (owFrom t 0 = (if t.is ⟨#[114, 101, 112]⟩ = true then 1 else owFrom t 1) ∧ owFrom t 1 = (if t.is ⟨#[112, 101, 101, 114]⟩ = true then 2 else owFrom t 2) ∧ owFrom t 2 = owFrom t 3 ∧ owFrom t 3 = (if t.is ⟨#[119, 111, 114, 108, 100]⟩ = true then 4 else owFrom t 4) ∧ owFrom t 4 = (if t.is ⟨#[97, 110, 121]⟩ = true then 5 else owFrom t 5) ∧ owFrom t 5 = (if t.is ⟨#[117, 110, 105, 113, 117, 101]⟩ = true then 6 else owFrom t 6) ∧ owFrom t 6 = 0) := Lib.hid ⟨rfl, rfl, rfl, rfl, rfl, rfl, rfl⟩
  obtain ⟨g, hg⟩ : ∃ g, g = wOw t := ⟨_, rfl⟩
  rw [← hg] at H0 ⊢
  obtain ⟨wk, hwk⟩ : ∃ wk, wk = owFrom t := ⟨_, rfl⟩
  rw [← hwk] at H0 HST
  obtain ⟨is, his⟩ : ∃ is, is = t.is := ⟨_, rfl⟩
  rw [← his] at HIS HST
  obtain ⟨tk, tx, tp⟩ := t
  have hv : Gt.val ⟨tk, tx, tp⟩ = .agg #[.int .i64 tk, .string tx, .int .i64 tp] := rfl
  rw [hv] at HIS ⊢
  clear hg hwk his hv
  have HW0 : Hid (OwAt w (.cells #[.int .i64 tk, .string tx, .int .i64 tp] 55) (.cells #[.int .i64 0, .int .i64 0] 33) (.cells wordsV 9) (((w.alloc (.cells #[.int .i64 tk, .string tx, .int .i64 tp] 55)).alloc (.cells #[.int .i64 0, .int .i64 0] 33)).alloc (.cells wordsV 9))) := Lib.hid (OwAt.new _ _ _ _)
  go_enter Try.func23, Try.ntmps23
  go_wp2_with fail
  go_loopw [4] (fun i wr => ∃ k : Nat, k ≤ 6 ∧ i = .int .i64 k ∧ Hid (wk k = g) ∧ Hid (OwAt w (.cells #[.int .i64 tk, .string tx, .int .i64 tp] 55) (.cells #[.int .i64 0, .int .i64 0] 33) (.cells wordsV 9) wr)) (fun i _ => 6 - (intOf i).toNat)
  case atStart => exact ⟨0, by omega, rfl, H0, HW0⟩
  case round =>
    obtain ⟨k, hk, rfl, hw, HW⟩ := hrel
    have hw := hw.out
    clear H0 HW0
    rcases (show k = 6 ∨ k = 0 ∨ k = 1 ∨ k = 2 ∨ k = 3 ∨ k = 4 ∨ k = 5 by omega) with rfl | h
    · have hg : g = 0 := by rw [← hw]; exact HST.out.2.2.2.2.2.2
      subst hg
      clear hw
      obtain ⟨z0, z1⟩ := row2 HW.out.b1
      have f0 := frozen_of HW.out.b1 0
      have f1 := frozen_of HW.out.b1 1
      have hlq := heap_lt HW.out.b1
      go_wp2_with fail
      have hs := set2 HW.out.b1 (.int .i64 0) (.int .i64 0)
      have hbf := below2 HW.out.bel (Nat.le_succ w.heap.size) (.int .i64 0) (.int .i64 0)
      obtain ⟨Wf, hWf⟩ : ∃ Wf, Wf = (wr.setCell ⟨w.heap.size + 1, 0, none⟩ (.int .i64 0)).setCell ⟨w.heap.size + 1, 1, none⟩ (.int .i64 0) := ⟨_, rfl⟩
      rw [← hWf] at hs hbf ⊢
      obtain ⟨r0, r1⟩ := row2 hs
      exact bodyPost_ret (v := .agg #[.int .i64 0, .int .i64 0]) (by simp [results, Try.results23, go_sem, r0, r1]) rfl ⟨rfl, hbf⟩
    · rcases h with rfl | rfl | rfl | rfl | rfl | rfl
      · have hIS := HIS.out ⟨#[114, 101, 112]⟩
        have hl : wk 0 = _ := HST.out.1
        rw [hw] at hl
        obtain ⟨bb, hbb⟩ : ∃ bb, bb = is ⟨#[114, 101, 112]⟩ := ⟨_, rfl⟩
        rw [← hbb] at hIS hl
        clear hbb hw
        cases bb with
        | true =>
          obtain rfl : g = 1 := by simpa using hl
          clear hl
          have hne : (((⟨#[114, 101, 112]⟩ : ByteArray)).toList != []) = true := by rw [ByteArray.toList_eq]; rfl
          go_upto_region 5 with fail
          obtain ⟨x0, x1, x2⟩ := row3 HW.out.b0
          have q0 : wr.cell? ⟨w.heap.size + 2, 0, none⟩ = some (.string ⟨#[114, 101, 112]⟩) := cell_of_row wr _ 0 wordsV 9 (0, 0) HW.out.b2
          have f0 := cls_cell x0
          have f1 := cls_cell x1
          have f2 := cls_cell x2
          have f3 := cls_cell q0
          clear x0 x1 x2 q0
          refine region_class (by kernel_rfl) (by kernel_rfl) (drew_below _) ?_
          repeat (go_big_quiet_step ((go_at_call 22; with_reducible exact cls_below _ (hIS _))))
          refine wpQuiet_nil ?_
          intro wq hw'
          obtain ⟨⟨wq2, hq⟩, hw''⟩ := hw'
          have hw3 : wq = wq2 := hw''
          subst hw3
          clear hw''
          have HWQ := Lib.hid (HW.out.step hq)
          clear f0 f1 f2 f3
          obtain ⟨z0, z1⟩ := row2 HWQ.out.b1
          have f0 := frozen_of HWQ.out.b1 0
          have f1 := frozen_of HWQ.out.b1 1
          have hlq := heap_lt HWQ.out.b1
          go_wp2_with fail
          have hs := set2 HWQ.out.b1 (.int .i64 1) (.int .i64 0)
          have hbf := below2 HWQ.out.bel (Nat.le_succ w.heap.size) (.int .i64 1) (.int .i64 0)
          obtain ⟨Wf, hWf⟩ : ∃ Wf, Wf = (wq.setCell ⟨w.heap.size + 1, 0, none⟩ (.int .i64 1)).setCell ⟨w.heap.size + 1, 1, none⟩ (.int .i64 0) := ⟨_, rfl⟩
          rw [← hWf] at hs hbf ⊢
          obtain ⟨r0, r1⟩ := row2 hs
          exact bodyPost_ret (v := .agg #[.int .i64 1, .int .i64 0]) (by simp [results, Try.results23, go_sem, r0, r1]) rfl ⟨rfl, hbf⟩
        | false =>
          have HG : Hid (wk 1 = g) := Lib.hid (by simpa using hl.symm)
          clear hl
          have hne : (((⟨#[114, 101, 112]⟩ : ByteArray)).toList != []) = true := by rw [ByteArray.toList_eq]; rfl
          go_upto_region 5 with fail
          obtain ⟨x0, x1, x2⟩ := row3 HW.out.b0
          have q0 : wr.cell? ⟨w.heap.size + 2, 0, none⟩ = some (.string ⟨#[114, 101, 112]⟩) := cell_of_row wr _ 0 wordsV 9 (0, 0) HW.out.b2
          have f0 := cls_cell x0
          have f1 := cls_cell x1
          have f2 := cls_cell x2
          have f3 := cls_cell q0
          clear x0 x1 x2 q0
          refine region_class (by kernel_rfl) (by kernel_rfl) (drew_below _) ?_
          repeat (go_big_quiet_step ((go_at_call 22; with_reducible exact cls_below _ (hIS _))))
          refine wpQuiet_nil ?_
          intro wq hw'
          obtain ⟨⟨wq2, hq⟩, hw''⟩ := hw'
          have hw3 : wq = wq2 := hw''
          subst hw3
          clear hw''
          have HWQ := Lib.hid (HW.out.step hq)
          clear f0 f1 f2 f3
          obtain ⟨z0, z1⟩ := row2 HWQ.out.b1
          have f0 := frozen_of HWQ.out.b1 0
          have f1 := frozen_of HWQ.out.b1 1
          have hlq := heap_lt HWQ.out.b1
          go_wp2_with fail
          go_roundw
          case rel => exact ⟨1, by omega, by go_num, HG, HWQ⟩
          case measure => simp [intOf]
      · have hIS := HIS.out ⟨#[112, 101, 101, 114]⟩
        have hl : wk 1 = _ := HST.out.2.1
        rw [hw] at hl
        obtain ⟨bb, hbb⟩ : ∃ bb, bb = is ⟨#[112, 101, 101, 114]⟩ := ⟨_, rfl⟩
        rw [← hbb] at hIS hl
        clear hbb hw
        cases bb with
        | true =>
          obtain rfl : g = 2 := by simpa using hl
          clear hl
          have hne : (((⟨#[112, 101, 101, 114]⟩ : ByteArray)).toList != []) = true := by rw [ByteArray.toList_eq]; rfl
          go_upto_region 5 with fail
          obtain ⟨x0, x1, x2⟩ := row3 HW.out.b0
          have q0 : wr.cell? ⟨w.heap.size + 2, 1, none⟩ = some (.string ⟨#[112, 101, 101, 114]⟩) := cell_of_row wr _ 1 wordsV 9 (0, 0) HW.out.b2
          have f0 := cls_cell x0
          have f1 := cls_cell x1
          have f2 := cls_cell x2
          have f3 := cls_cell q0
          clear x0 x1 x2 q0
          refine region_class (by kernel_rfl) (by kernel_rfl) (drew_below _) ?_
          repeat (go_big_quiet_step ((go_at_call 22; with_reducible exact cls_below _ (hIS _))))
          refine wpQuiet_nil ?_
          intro wq hw'
          obtain ⟨⟨wq2, hq⟩, hw''⟩ := hw'
          have hw3 : wq = wq2 := hw''
          subst hw3
          clear hw''
          have HWQ := Lib.hid (HW.out.step hq)
          clear f0 f1 f2 f3
          obtain ⟨z0, z1⟩ := row2 HWQ.out.b1
          have f0 := frozen_of HWQ.out.b1 0
          have f1 := frozen_of HWQ.out.b1 1
          have hlq := heap_lt HWQ.out.b1
          go_wp2_with fail
          have hs := set2 HWQ.out.b1 (.int .i64 2) (.int .i64 0)
          have hbf := below2 HWQ.out.bel (Nat.le_succ w.heap.size) (.int .i64 2) (.int .i64 0)
          obtain ⟨Wf, hWf⟩ : ∃ Wf, Wf = (wq.setCell ⟨w.heap.size + 1, 0, none⟩ (.int .i64 2)).setCell ⟨w.heap.size + 1, 1, none⟩ (.int .i64 0) := ⟨_, rfl⟩
          rw [← hWf] at hs hbf ⊢
          obtain ⟨r0, r1⟩ := row2 hs
          exact bodyPost_ret (v := .agg #[.int .i64 2, .int .i64 0]) (by simp [results, Try.results23, go_sem, r0, r1]) rfl ⟨rfl, hbf⟩
        | false =>
          have HG : Hid (wk 2 = g) := Lib.hid (by simpa using hl.symm)
          clear hl
          have hne : (((⟨#[112, 101, 101, 114]⟩ : ByteArray)).toList != []) = true := by rw [ByteArray.toList_eq]; rfl
          go_upto_region 5 with fail
          obtain ⟨x0, x1, x2⟩ := row3 HW.out.b0
          have q0 : wr.cell? ⟨w.heap.size + 2, 1, none⟩ = some (.string ⟨#[112, 101, 101, 114]⟩) := cell_of_row wr _ 1 wordsV 9 (0, 0) HW.out.b2
          have f0 := cls_cell x0
          have f1 := cls_cell x1
          have f2 := cls_cell x2
          have f3 := cls_cell q0
          clear x0 x1 x2 q0
          refine region_class (by kernel_rfl) (by kernel_rfl) (drew_below _) ?_
          repeat (go_big_quiet_step ((go_at_call 22; with_reducible exact cls_below _ (hIS _))))
          refine wpQuiet_nil ?_
          intro wq hw'
          obtain ⟨⟨wq2, hq⟩, hw''⟩ := hw'
          have hw3 : wq = wq2 := hw''
          subst hw3
          clear hw''
          have HWQ := Lib.hid (HW.out.step hq)
          clear f0 f1 f2 f3
          obtain ⟨z0, z1⟩ := row2 HWQ.out.b1
          have f0 := frozen_of HWQ.out.b1 0
          have f1 := frozen_of HWQ.out.b1 1
          have hlq := heap_lt HWQ.out.b1
          go_wp2_with fail
          go_roundw
          case rel => exact ⟨2, by omega, by go_num, HG, HWQ⟩
          case measure => simp [intOf]
      · have hIS := HIS.out ⟨#[]⟩
        have hl : wk 2 = _ := HST.out.2.2.1
        rw [hw] at hl
        obtain ⟨bb, hbb⟩ : ∃ bb, bb = is ⟨#[]⟩ := ⟨_, rfl⟩
        rw [← hbb] at hIS
        clear hbb hw
        cases bb with
        | true =>
          have HG : Hid (wk 3 = g) := Lib.hid hl.symm
          clear hl
          have hne : (((⟨#[]⟩ : ByteArray)).toList != []) = false := by rw [ByteArray.toList_eq]; rfl
          go_upto_region 5 with fail
          obtain ⟨x0, x1, x2⟩ := row3 HW.out.b0
          have q0 : wr.cell? ⟨w.heap.size + 2, 2, none⟩ = some (.string ⟨#[]⟩) := cell_of_row wr _ 2 wordsV 9 (0, 0) HW.out.b2
          have f0 := cls_cell x0
          have f1 := cls_cell x1
          have f2 := cls_cell x2
          have f3 := cls_cell q0
          clear x0 x1 x2 q0
          refine region_class (by kernel_rfl) (by kernel_rfl) (drew_below _) ?_
          repeat (go_big_quiet_step ((go_at_call 22; with_reducible exact cls_below _ (hIS _))))
          refine wpQuiet_nil ?_
          intro wq hw'
          obtain ⟨⟨wq2, hq⟩, hw''⟩ := hw'
          have hw3 : wq = wq2 := hw''
          subst hw3
          clear hw''
          have HWQ := Lib.hid (HW.out.step hq)
          clear f0 f1 f2 f3
          obtain ⟨z0, z1⟩ := row2 HWQ.out.b1
          have f0 := frozen_of HWQ.out.b1 0
          have f1 := frozen_of HWQ.out.b1 1
          have hlq := heap_lt HWQ.out.b1
          go_wp2_with fail
          go_roundw
          case rel => exact ⟨3, by omega, by go_num, HG, HWQ⟩
          case measure => simp [intOf]
        | false =>
          have HG : Hid (wk 3 = g) := Lib.hid (by simpa using hl.symm)
          clear hl
          have hne : (((⟨#[]⟩ : ByteArray)).toList != []) = false := by rw [ByteArray.toList_eq]; rfl
          go_upto_region 5 with fail
          obtain ⟨x0, x1, x2⟩ := row3 HW.out.b0
          have q0 : wr.cell? ⟨w.heap.size + 2, 2, none⟩ = some (.string ⟨#[]⟩) := cell_of_row wr _ 2 wordsV 9 (0, 0) HW.out.b2
          have f0 := cls_cell x0
          have f1 := cls_cell x1
          have f2 := cls_cell x2
          have f3 := cls_cell q0
          clear x0 x1 x2 q0
          refine region_class (by kernel_rfl) (by kernel_rfl) (drew_below _) ?_
          repeat (go_big_quiet_step ((go_at_call 22; with_reducible exact cls_below _ (hIS _))))
          refine wpQuiet_nil ?_
          intro wq hw'
          obtain ⟨⟨wq2, hq⟩, hw''⟩ := hw'
          have hw3 : wq = wq2 := hw''
          subst hw3
          clear hw''
          have HWQ := Lib.hid (HW.out.step hq)
          clear f0 f1 f2 f3
          obtain ⟨z0, z1⟩ := row2 HWQ.out.b1
          have f0 := frozen_of HWQ.out.b1 0
          have f1 := frozen_of HWQ.out.b1 1
          have hlq := heap_lt HWQ.out.b1
          go_wp2_with fail
          go_roundw
          case rel => exact ⟨3, by omega, by go_num, HG, HWQ⟩
          case measure => simp [intOf]
      · have hIS := HIS.out ⟨#[119, 111, 114, 108, 100]⟩
        have hl : wk 3 = _ := HST.out.2.2.2.1
        rw [hw] at hl
        obtain ⟨bb, hbb⟩ : ∃ bb, bb = is ⟨#[119, 111, 114, 108, 100]⟩ := ⟨_, rfl⟩
        rw [← hbb] at hIS hl
        clear hbb hw
        cases bb with
        | true =>
          obtain rfl : g = 4 := by simpa using hl
          clear hl
          have hne : (((⟨#[119, 111, 114, 108, 100]⟩ : ByteArray)).toList != []) = true := by rw [ByteArray.toList_eq]; rfl
          go_upto_region 5 with fail
          obtain ⟨x0, x1, x2⟩ := row3 HW.out.b0
          have q0 : wr.cell? ⟨w.heap.size + 2, 3, none⟩ = some (.string ⟨#[119, 111, 114, 108, 100]⟩) := cell_of_row wr _ 3 wordsV 9 (0, 0) HW.out.b2
          have f0 := cls_cell x0
          have f1 := cls_cell x1
          have f2 := cls_cell x2
          have f3 := cls_cell q0
          clear x0 x1 x2 q0
          refine region_class (by kernel_rfl) (by kernel_rfl) (drew_below _) ?_
          repeat (go_big_quiet_step ((go_at_call 22; with_reducible exact cls_below _ (hIS _))))
          refine wpQuiet_nil ?_
          intro wq hw'
          obtain ⟨⟨wq2, hq⟩, hw''⟩ := hw'
          have hw3 : wq = wq2 := hw''
          subst hw3
          clear hw''
          have HWQ := Lib.hid (HW.out.step hq)
          clear f0 f1 f2 f3
          obtain ⟨z0, z1⟩ := row2 HWQ.out.b1
          have f0 := frozen_of HWQ.out.b1 0
          have f1 := frozen_of HWQ.out.b1 1
          have hlq := heap_lt HWQ.out.b1
          go_wp2_with fail
          have hs := set2 HWQ.out.b1 (.int .i64 4) (.int .i64 0)
          have hbf := below2 HWQ.out.bel (Nat.le_succ w.heap.size) (.int .i64 4) (.int .i64 0)
          obtain ⟨Wf, hWf⟩ : ∃ Wf, Wf = (wq.setCell ⟨w.heap.size + 1, 0, none⟩ (.int .i64 4)).setCell ⟨w.heap.size + 1, 1, none⟩ (.int .i64 0) := ⟨_, rfl⟩
          rw [← hWf] at hs hbf ⊢
          obtain ⟨r0, r1⟩ := row2 hs
          exact bodyPost_ret (v := .agg #[.int .i64 4, .int .i64 0]) (by simp [results, Try.results23, go_sem, r0, r1]) rfl ⟨rfl, hbf⟩
        | false =>
          have HG : Hid (wk 4 = g) := Lib.hid (by simpa using hl.symm)
          clear hl
          have hne : (((⟨#[119, 111, 114, 108, 100]⟩ : ByteArray)).toList != []) = true := by rw [ByteArray.toList_eq]; rfl
          go_upto_region 5 with fail
          obtain ⟨x0, x1, x2⟩ := row3 HW.out.b0
          have q0 : wr.cell? ⟨w.heap.size + 2, 3, none⟩ = some (.string ⟨#[119, 111, 114, 108, 100]⟩) := cell_of_row wr _ 3 wordsV 9 (0, 0) HW.out.b2
          have f0 := cls_cell x0
          have f1 := cls_cell x1
          have f2 := cls_cell x2
          have f3 := cls_cell q0
          clear x0 x1 x2 q0
          refine region_class (by kernel_rfl) (by kernel_rfl) (drew_below _) ?_
          repeat (go_big_quiet_step ((go_at_call 22; with_reducible exact cls_below _ (hIS _))))
          refine wpQuiet_nil ?_
          intro wq hw'
          obtain ⟨⟨wq2, hq⟩, hw''⟩ := hw'
          have hw3 : wq = wq2 := hw''
          subst hw3
          clear hw''
          have HWQ := Lib.hid (HW.out.step hq)
          clear f0 f1 f2 f3
          obtain ⟨z0, z1⟩ := row2 HWQ.out.b1
          have f0 := frozen_of HWQ.out.b1 0
          have f1 := frozen_of HWQ.out.b1 1
          have hlq := heap_lt HWQ.out.b1
          go_wp2_with fail
          go_roundw
          case rel => exact ⟨4, by omega, by go_num, HG, HWQ⟩
          case measure => simp [intOf]
      · have hIS := HIS.out ⟨#[97, 110, 121]⟩
        have hl : wk 4 = _ := HST.out.2.2.2.2.1
        rw [hw] at hl
        obtain ⟨bb, hbb⟩ : ∃ bb, bb = is ⟨#[97, 110, 121]⟩ := ⟨_, rfl⟩
        rw [← hbb] at hIS hl
        clear hbb hw
        cases bb with
        | true =>
          obtain rfl : g = 5 := by simpa using hl
          clear hl
          have hne : (((⟨#[97, 110, 121]⟩ : ByteArray)).toList != []) = true := by rw [ByteArray.toList_eq]; rfl
          go_upto_region 5 with fail
          obtain ⟨x0, x1, x2⟩ := row3 HW.out.b0
          have q0 : wr.cell? ⟨w.heap.size + 2, 4, none⟩ = some (.string ⟨#[97, 110, 121]⟩) := cell_of_row wr _ 4 wordsV 9 (0, 0) HW.out.b2
          have f0 := cls_cell x0
          have f1 := cls_cell x1
          have f2 := cls_cell x2
          have f3 := cls_cell q0
          clear x0 x1 x2 q0
          refine region_class (by kernel_rfl) (by kernel_rfl) (drew_below _) ?_
          repeat (go_big_quiet_step ((go_at_call 22; with_reducible exact cls_below _ (hIS _))))
          refine wpQuiet_nil ?_
          intro wq hw'
          obtain ⟨⟨wq2, hq⟩, hw''⟩ := hw'
          have hw3 : wq = wq2 := hw''
          subst hw3
          clear hw''
          have HWQ := Lib.hid (HW.out.step hq)
          clear f0 f1 f2 f3
          obtain ⟨z0, z1⟩ := row2 HWQ.out.b1
          have f0 := frozen_of HWQ.out.b1 0
          have f1 := frozen_of HWQ.out.b1 1
          have hlq := heap_lt HWQ.out.b1
          go_wp2_with fail
          have hs := set2 HWQ.out.b1 (.int .i64 5) (.int .i64 0)
          have hbf := below2 HWQ.out.bel (Nat.le_succ w.heap.size) (.int .i64 5) (.int .i64 0)
          obtain ⟨Wf, hWf⟩ : ∃ Wf, Wf = (wq.setCell ⟨w.heap.size + 1, 0, none⟩ (.int .i64 5)).setCell ⟨w.heap.size + 1, 1, none⟩ (.int .i64 0) := ⟨_, rfl⟩
          rw [← hWf] at hs hbf ⊢
          obtain ⟨r0, r1⟩ := row2 hs
          exact bodyPost_ret (v := .agg #[.int .i64 5, .int .i64 0]) (by simp [results, Try.results23, go_sem, r0, r1]) rfl ⟨rfl, hbf⟩
        | false =>
          have HG : Hid (wk 5 = g) := Lib.hid (by simpa using hl.symm)
          clear hl
          have hne : (((⟨#[97, 110, 121]⟩ : ByteArray)).toList != []) = true := by rw [ByteArray.toList_eq]; rfl
          go_upto_region 5 with fail
          obtain ⟨x0, x1, x2⟩ := row3 HW.out.b0
          have q0 : wr.cell? ⟨w.heap.size + 2, 4, none⟩ = some (.string ⟨#[97, 110, 121]⟩) := cell_of_row wr _ 4 wordsV 9 (0, 0) HW.out.b2
          have f0 := cls_cell x0
          have f1 := cls_cell x1
          have f2 := cls_cell x2
          have f3 := cls_cell q0
          clear x0 x1 x2 q0
          refine region_class (by kernel_rfl) (by kernel_rfl) (drew_below _) ?_
          repeat (go_big_quiet_step ((go_at_call 22; with_reducible exact cls_below _ (hIS _))))
          refine wpQuiet_nil ?_
          intro wq hw'
          obtain ⟨⟨wq2, hq⟩, hw''⟩ := hw'
          have hw3 : wq = wq2 := hw''
          subst hw3
          clear hw''
          have HWQ := Lib.hid (HW.out.step hq)
          clear f0 f1 f2 f3
          obtain ⟨z0, z1⟩ := row2 HWQ.out.b1
          have f0 := frozen_of HWQ.out.b1 0
          have f1 := frozen_of HWQ.out.b1 1
          have hlq := heap_lt HWQ.out.b1
          go_wp2_with fail
          go_roundw
          case rel => exact ⟨5, by omega, by go_num, HG, HWQ⟩
          case measure => simp [intOf]
      · have hIS := HIS.out ⟨#[117, 110, 105, 113, 117, 101]⟩
        have hl : wk 5 = _ := HST.out.2.2.2.2.2.1
        rw [hw] at hl
        obtain ⟨bb, hbb⟩ : ∃ bb, bb = is ⟨#[117, 110, 105, 113, 117, 101]⟩ := ⟨_, rfl⟩
        rw [← hbb] at hIS hl
        clear hbb hw
        cases bb with
        | true =>
          obtain rfl : g = 6 := by simpa using hl
          clear hl
          have hne : (((⟨#[117, 110, 105, 113, 117, 101]⟩ : ByteArray)).toList != []) = true := by rw [ByteArray.toList_eq]; rfl
          go_upto_region 5 with fail
          obtain ⟨x0, x1, x2⟩ := row3 HW.out.b0
          have q0 : wr.cell? ⟨w.heap.size + 2, 5, none⟩ = some (.string ⟨#[117, 110, 105, 113, 117, 101]⟩) := cell_of_row wr _ 5 wordsV 9 (0, 0) HW.out.b2
          have f0 := cls_cell x0
          have f1 := cls_cell x1
          have f2 := cls_cell x2
          have f3 := cls_cell q0
          clear x0 x1 x2 q0
          refine region_class (by kernel_rfl) (by kernel_rfl) (drew_below _) ?_
          repeat (go_big_quiet_step ((go_at_call 22; with_reducible exact cls_below _ (hIS _))))
          refine wpQuiet_nil ?_
          intro wq hw'
          obtain ⟨⟨wq2, hq⟩, hw''⟩ := hw'
          have hw3 : wq = wq2 := hw''
          subst hw3
          clear hw''
          have HWQ := Lib.hid (HW.out.step hq)
          clear f0 f1 f2 f3
          obtain ⟨z0, z1⟩ := row2 HWQ.out.b1
          have f0 := frozen_of HWQ.out.b1 0
          have f1 := frozen_of HWQ.out.b1 1
          have hlq := heap_lt HWQ.out.b1
          go_wp2_with fail
          have hs := set2 HWQ.out.b1 (.int .i64 6) (.int .i64 0)
          have hbf := below2 HWQ.out.bel (Nat.le_succ w.heap.size) (.int .i64 6) (.int .i64 0)
          obtain ⟨Wf, hWf⟩ : ∃ Wf, Wf = (wq.setCell ⟨w.heap.size + 1, 0, none⟩ (.int .i64 6)).setCell ⟨w.heap.size + 1, 1, none⟩ (.int .i64 0) := ⟨_, rfl⟩
          rw [← hWf] at hs hbf ⊢
          obtain ⟨r0, r1⟩ := row2 hs
          exact bodyPost_ret (v := .agg #[.int .i64 6, .int .i64 0]) (by simp [results, Try.results23, go_sem, r0, r1]) rfl ⟨rfl, hbf⟩
        | false =>
          have HG : Hid (wk 6 = g) := Lib.hid (by simpa using hl.symm)
          clear hl
          have hne : (((⟨#[117, 110, 105, 113, 117, 101]⟩ : ByteArray)).toList != []) = true := by rw [ByteArray.toList_eq]; rfl
          go_upto_region 5 with fail
          obtain ⟨x0, x1, x2⟩ := row3 HW.out.b0
          have q0 : wr.cell? ⟨w.heap.size + 2, 5, none⟩ = some (.string ⟨#[117, 110, 105, 113, 117, 101]⟩) := cell_of_row wr _ 5 wordsV 9 (0, 0) HW.out.b2
          have f0 := cls_cell x0
          have f1 := cls_cell x1
          have f2 := cls_cell x2
          have f3 := cls_cell q0
          clear x0 x1 x2 q0
          refine region_class (by kernel_rfl) (by kernel_rfl) (drew_below _) ?_
          repeat (go_big_quiet_step ((go_at_call 22; with_reducible exact cls_below _ (hIS _))))
          refine wpQuiet_nil ?_
          intro wq hw'
          obtain ⟨⟨wq2, hq⟩, hw''⟩ := hw'
          have hw3 : wq = wq2 := hw''
          subst hw3
          clear hw''
          have HWQ := Lib.hid (HW.out.step hq)
          clear f0 f1 f2 f3
          obtain ⟨z0, z1⟩ := row2 HWQ.out.b1
          have f0 := frozen_of HWQ.out.b1 0
          have f1 := frozen_of HWQ.out.b1 1
          have hlq := heap_lt HWQ.out.b1
          go_wp2_with fail
          go_roundw
          case rel => exact ⟨6, by omega, by go_num, HG, HWQ⟩
          case measure => simp [intOf]
end Go.Proofs.Ytbcgooofelnkoaa
