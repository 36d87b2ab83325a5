/- What is read as an owner, by the program. Conditions: at most 1000 parameters. -/
import Derived.Test.YtbcgooofelnkoaaAn
namespace Go.Proofs.Ytbcgooofelnkoaa
open Go.RowKit
set_option linter.unusedVariables false

set_option maxRecDepth 100000 in
set_option maxHeartbeats 4000000 in
theorem owner_any (R B : Nat) (l : List Gt) (A : Option Addr) (c : Nat) (PA : Option Addr) (ps : List ByteArray) (pc : Nat) (a : Int) (w : World) (h : An R B l A c PA ps pc a w) (hlp : ps.length ≤ 1000) (hpc : ps.length ≤ pc) :
    Calls Try.prog 43 #[pR R] w (RzP R B l A c PA ps pc owZ owV (ownP l ps a) w) := by
  have hfr := Fr.new h 33 28 [.int .i64 0, .int .i64 0] [.int .i64 0, .int .i64 0]
  have hRw := hfr.hR
  obtain ⟨W0, hW0⟩ : ∃ W0, W0 = (w.alloc (.cells #[.int .i64 0, .int .i64 0] 33)).alloc (.cells #[.int .i64 0, .int .i64 0] 28) := ⟨_, rfl⟩
  rw [← hW0] at hfr
  have HF := Lib.hid hfr
  have HTK := Lib.hid (take_any R B l A c _ _ a W0 hfr.an.cu)
  obtain ⟨t, ht⟩ : ∃ t, t = tokI l a := ⟨_, rfl⟩
  rw [← ht] at HTK
  have HIN : Hid (¬ t.kind = 0 → nx a = a + 1) := Lib.hid (fun h0 => by
    rw [ht] at h0
    have := tokI_in h0
    have := h.cu.len
    have := h.cu.cap
    exact nx_in (by unfold maxLen at *; omega))
  have HO : Hid (ownP l ps a = if t.kind = 1 then (if findP t.text ps = 0 then .err 4 t.pos else .ok ⟨3, (findP t.text ps : Nat)⟩ (a + 1)) else if wordK t = 0 then .err 3 t.pos else .ok ⟨wordK t, 0⟩ (a + 1)) := Lib.hid (by rw [ht]; rfl)
  have HWR : Hid (∀ e W, Calls Try.prog 44 #[.int .i64 e, t.val] W fun x w' => x = .returned (fV e t.pos) ∧ Below W.heap.size W w') := Lib.hid (fun e W => wrong_any e t W)
  have HWO : Hid (∀ W, Calls Try.prog 31 #[t.val] W fun x w' => x = .returned (.tuple #[.agg #[.int .i64 (wordK t), .int .i64 0], .bool (wordK t != 0)]) ∧ Below W.heap.size W w') := Lib.hid (fun W => wordOwner_any t W)
  have HFN : Hid (∀ W, RS W W.heap.size PA ps → Calls Try.prog 50 #[.string t.text, .slice PA ps.length pc] W fun e w' => e = .returned (.int .i64 (findP t.text ps : Nat)) ∧ Below W.heap.size W w') := Lib.hid (fun W hW => find_ps_b t.text PA pc ps W hW hlp hpc)
  have HWK : Hid (¬ wordK t = 0 → ¬ t.kind = 0) := Lib.hid wordK_is
  obtain ⟨wk, hwk⟩ : ∃ wk, wk = wordK t := ⟨_, rfl⟩
  rw [← hwk] at HO HWO HWK
  obtain ⟨m, hm⟩ : ∃ m, m = findP t.text ps := ⟨_, rfl⟩
  rw [← hm] at HO HFN
  obtain ⟨tk, tx, tp⟩ := t
  rw [val_eq] at HTK HWR HWO
  dsimp only at HTK HWR HWO HO HIN HFN HWK
  clear ht h hfr hwk hm
  by_cases hk : tk = 1
  · subst hk
    rw [if_pos rfl] at HO
    obtain hnx := HIN.out (by decide)
    rw [hnx] at HTK
    have hfind : Hid (∀ W', Below W0.heap.size W0 W' → True) := Lib.hid (fun _ _ => trivial)
    clear hfind
    rcases Nat.eq_zero_or_pos m with h0 | h0
    · subst h0
      rw [if_pos rfl] at HO
      go_enter Try.func43, Try.ntmps43
      go_upto_region 1 with fail
      rw [← hW0]
      clear hW0
      go_wp2_with fail
      refine (HTK.out).mono ?_
      rintro e w1 ⟨rfl, hc1, hg1⟩
      have HF1 := Lib.hid (HF.out.turn (HF.out.an.turn hc1 hg1) hg1)
      clear hc1 hg1
      have hb2 := boxed w1 (.cells #[.int .i64 1, .string tx, .int .i64 tp] 55)
      have ht2 := heap_new w1 (.cells #[.int .i64 1, .string tx, .int .i64 tp] 55)
      obtain ⟨W2, hW2⟩ : ∃ W2, W2 = w1.alloc (.cells #[.int .i64 1, .string tx, .int .i64 tp] 55) := ⟨_, rfl⟩
      go_upto_region 2 with fail
      rw [← hW2] at hb2 ht2 ⊢
      clear hW2
      have HF2 := Lib.hid (HF1.out.step hb2)
      have HT2 := Lib.hid ht2
      clear hb2 ht2
      obtain ⟨q0, q1, q2⟩ := row3 HT2.out
      go_upto_region 3 with fail
      obtain ⟨z0, z1, z2⟩ := HF2.out.an.cells
      have hpar := HF2.out.an.par.more (Nat.le_trans HF2.out.an.cu.hB (Nat.le_of_lt (heap_lt HF2.out.an.cu.row)))
      have f0 := cls_cell q0
      have f1 := cls_cell q1
      have f2 := cls_cell q2
      have f3 := cls_cell z2
      have HFC : Hid (∀ p : InC (Below W2.heap.size W2), Calls Try.prog 50 #[.string tx, .slice PA ps.length pc] p.w fun e w' => e = .returned (.int .i64 ((0 : Nat) : Int)) ∧ Below p.w.heap.size p.w w') := Lib.hid (fun p => HFN.out p.w ((hpar.below p.ok).more p.ok.size))
      clear q0 q1 q2 z0 z1 z2 hpar
      refine region_class (by kernel_rfl) (by kernel_rfl) (drew_below _) ?_
      repeat (go_big_quiet_step ((go_at_call 50; with_reducible exact cls_below _ (HFC.out _))))
      refine wpQuiet_nil ?_
      intro wq hw'
      obtain ⟨⟨wq2, hq⟩, hw''⟩ := hw'
      have hw3 : wq = wq2 := hw''
      subst hw3
      clear hw'' f0 f1 f2 f3
      have HF3 := Lib.hid (HF2.out.step hq)
      have ht3 := (hq.block _ (heap_lt HT2.out)).trans HT2.out
      obtain ⟨q0, q1, q2⟩ := row3 ht3
      clear hq
      go_wp2_with fail
      refine (HWR.out 4 _).mono ?_
      rintro e w4 ⟨rfl, hb4⟩
      have HF4 := Lib.hid (HF3.out.step hb4)
      clear hb4 q0 q1 q2 ht3
      have hth0 := there_row (n := 2) HF4.out.b0 rfl
      have hth1 := there_row (n := 2) HF4.out.b1 rfl
      go_wp2_with (first | (refine wpList_store_mid rfl 33 _ _ rfl w.heap.size 0 #[.int .i64 (0), .int .i64 (0)] rfl rfl hth0 (by kernel_rfl) (one2 _ _) ?_) | (refine wpList_store_mid rfl 28 _ _ rfl (w.heap.size + 1) 0 #[.int .i64 (4), .int .i64 (tp)] rfl rfl (World.there_setCells hth1 _ _ _) (by kernel_rfl) (one2 _ _) ?_))
      have hF := (HF4.out.put0 [.int .i64 (0), .int .i64 (0)] rfl).put1 [.int .i64 (4), .int .i64 (tp)] rfl
      exact bodyPost_ret (v := .tuple #[.agg [.int .i64 (0), .int .i64 (0)].toArray, .agg [.int .i64 (4), .int .i64 (tp)].toArray]) (results_two Try.results43 _ _ w.heap.size (w.heap.size + 1) 33 28 _ _ _ _ rfl rfl hF.b0 hF.b1 Try.underlying33 rfl (by kernel_rfl) Try.underlying28 rfl (by kernel_rfl)) rfl ⟨hF.gb, by rw [HO.out]; exact ⟨rfl, by decide, _, hF.an⟩⟩
    · rw [if_neg (by omega)] at HO
      have hm0 : ((m : Int) == 0) = false := by simp; omega
      go_enter Try.func43, Try.ntmps43
      go_upto_region 1 with fail
      rw [← hW0]
      clear hW0
      go_wp2_with fail
      refine (HTK.out).mono ?_
      rintro e w1 ⟨rfl, hc1, hg1⟩
      have HF1 := Lib.hid (HF.out.turn (HF.out.an.turn hc1 hg1) hg1)
      clear hc1 hg1
      have hb2 := boxed w1 (.cells #[.int .i64 1, .string tx, .int .i64 tp] 55)
      have ht2 := heap_new w1 (.cells #[.int .i64 1, .string tx, .int .i64 tp] 55)
      obtain ⟨W2, hW2⟩ : ∃ W2, W2 = w1.alloc (.cells #[.int .i64 1, .string tx, .int .i64 tp] 55) := ⟨_, rfl⟩
      go_upto_region 2 with fail
      rw [← hW2] at hb2 ht2 ⊢
      clear hW2
      have HF2 := Lib.hid (HF1.out.step hb2)
      have HT2 := Lib.hid ht2
      clear hb2 ht2
      obtain ⟨q0, q1, q2⟩ := row3 HT2.out
      go_upto_region 3 with fail
      obtain ⟨z0, z1, z2⟩ := HF2.out.an.cells
      have hpar := HF2.out.an.par.more (Nat.le_trans HF2.out.an.cu.hB (Nat.le_of_lt (heap_lt HF2.out.an.cu.row)))
      have f0 := cls_cell q0
      have f1 := cls_cell q1
      have f2 := cls_cell q2
      have f3 := cls_cell z2
      have HFC : Hid (∀ p : InC (Below W2.heap.size W2), Calls Try.prog 50 #[.string tx, .slice PA ps.length pc] p.w fun e w' => e = .returned (.int .i64 (m : Nat)) ∧ Below p.w.heap.size p.w w') := Lib.hid (fun p => HFN.out p.w ((hpar.below p.ok).more p.ok.size))
      clear q0 q1 q2 z0 z1 z2 hpar
      refine region_class (by kernel_rfl) (by kernel_rfl) (drew_below _) ?_
      repeat (go_big_quiet_step ((go_at_call 50; with_reducible exact cls_below _ (HFC.out _))))
      refine wpQuiet_nil ?_
      intro wq hw'
      obtain ⟨⟨wq2, hq⟩, hw''⟩ := hw'
      have hw3 : wq = wq2 := hw''
      subst hw3
      clear hw'' f0 f1 f2 f3
      have HF3 := Lib.hid (HF2.out.step hq)
      have ht3 := (hq.block _ (heap_lt HT2.out)).trans HT2.out
      obtain ⟨q0, q1, q2⟩ := row3 ht3
      clear hq
      clear q0 q1 q2 ht3
      have hth0 := there_row (n := 2) HF3.out.b0 rfl
      have hth1 := there_row (n := 2) HF3.out.b1 rfl
      go_wp2_with (first | (refine wpList_store_mid rfl 33 _ _ rfl w.heap.size 0 #[.int .i64 (3), .int .i64 (m)] rfl rfl hth0 (by kernel_rfl) (one2 _ _) ?_) | (refine wpList_store_mid rfl 28 _ _ rfl (w.heap.size + 1) 0 #[.int .i64 (0), .int .i64 (0)] rfl rfl (World.there_setCells hth1 _ _ _) (by kernel_rfl) (one2 _ _) ?_))
      have hF := (HF3.out.put0 [.int .i64 (3), .int .i64 (m)] rfl).put1 [.int .i64 (0), .int .i64 (0)] rfl
      exact bodyPost_ret (v := .tuple #[.agg [.int .i64 (3), .int .i64 (m)].toArray, .agg [.int .i64 (0), .int .i64 (0)].toArray]) (results_two Try.results43 _ _ w.heap.size (w.heap.size + 1) 33 28 _ _ _ _ rfl rfl hF.b0 hF.b1 Try.underlying33 rfl (by kernel_rfl) Try.underlying28 rfl (by kernel_rfl)) rfl ⟨hF.gb, by rw [HO.out]; exact ⟨rfl, hF.an⟩⟩
  · rw [if_neg hk] at HO
    have hk0 : (tk == 1) = false := by simpa using hk
    by_cases h0 : wk = 0
    · subst h0
      rw [if_pos rfl] at HO
      have hwb : ((0 : Int) != 0) = false := rfl
      go_enter Try.func43, Try.ntmps43
      go_upto_region 1 with fail
      rw [← hW0]
      clear hW0
      go_wp2_with fail
      refine (HTK.out).mono ?_
      rintro e w1 ⟨rfl, hc1, hg1⟩
      have HF1 := Lib.hid (HF.out.turn (HF.out.an.turn hc1 hg1) hg1)
      clear hc1 hg1
      have hb2 := boxed w1 (.cells #[.int .i64 tk, .string tx, .int .i64 tp] 55)
      have ht2 := heap_new w1 (.cells #[.int .i64 tk, .string tx, .int .i64 tp] 55)
      obtain ⟨W2, hW2⟩ : ∃ W2, W2 = w1.alloc (.cells #[.int .i64 tk, .string tx, .int .i64 tp] 55) := ⟨_, rfl⟩
      go_upto_region 2 with fail
      rw [← hW2] at hb2 ht2 ⊢
      clear hW2
      have HF2 := Lib.hid (HF1.out.step hb2)
      have HT2 := Lib.hid ht2
      clear hb2 ht2
      obtain ⟨q0, q1, q2⟩ := row3 HT2.out
      go_wp2_with fail
      refine (HWO.out _).mono ?_
      rintro e w3 ⟨rfl, hb3⟩
      have HF3 := Lib.hid (HF2.out.step hb3)
      have ht3 := (hb3.block _ (heap_lt HT2.out)).trans HT2.out
      have HT3 := Lib.hid ht3
      clear hb3 ht3 q0 q1 q2
      have hb4 := boxed w3 (.cells #[.int .i64 0, .int .i64 0] 33)
      have ho4 := heap_new w3 (.cells #[.int .i64 0, .int .i64 0] 33)
      have HF4 := Lib.hid (HF3.out.step hb4)
      have ht4 := (hb4.block _ (heap_lt HT3.out)).trans HT3.out
      obtain ⟨W4, hW4⟩ : ∃ W4, W4 = w3.alloc (.cells #[.int .i64 0, .int .i64 0] 33) := ⟨_, rfl⟩
      go_upto_region 8 with fail
      rw [← hW4] at hb4 ho4 ht4 HF4 ⊢
      clear hW4
      obtain ⟨q0, q1, q2⟩ := row3 ht4
      obtain ⟨p0, p1⟩ := row2 ho4
      clear ht4 ho4 hb4
      go_wp2_with fail
      refine (HWR.out 3 _).mono ?_
      rintro e w5 ⟨rfl, hb5⟩
      have HF5 := Lib.hid (HF4.out.step hb5)
      clear hb5 q0 q1 q2 p0 p1
      have hth0 := there_row (n := 2) HF5.out.b0 rfl
      have hth1 := there_row (n := 2) HF5.out.b1 rfl
      go_wp2_with (first | (refine wpList_store_mid rfl 33 _ _ rfl w.heap.size 0 #[.int .i64 (0), .int .i64 (0)] rfl rfl hth0 (by kernel_rfl) (one2 _ _) ?_) | (refine wpList_store_mid rfl 28 _ _ rfl (w.heap.size + 1) 0 #[.int .i64 (3), .int .i64 (tp)] rfl rfl (World.there_setCells hth1 _ _ _) (by kernel_rfl) (one2 _ _) ?_))
      have hF := (HF5.out.put0 [.int .i64 (0), .int .i64 (0)] rfl).put1 [.int .i64 (3), .int .i64 (tp)] rfl
      exact bodyPost_ret (v := .tuple #[.agg [.int .i64 (0), .int .i64 (0)].toArray, .agg [.int .i64 (3), .int .i64 (tp)].toArray]) (results_two Try.results43 _ _ w.heap.size (w.heap.size + 1) 33 28 _ _ _ _ rfl rfl hF.b0 hF.b1 Try.underlying33 rfl (by kernel_rfl) Try.underlying28 rfl (by kernel_rfl)) rfl ⟨hF.gb, by rw [HO.out]; exact ⟨rfl, by decide, _, hF.an⟩⟩
    · rw [if_neg h0] at HO
      have hwb : (wk != 0) = true := by simpa using h0
      have hnx := HIN.out (HWK.out h0)
      rw [hnx] at HTK
      clear h0
      go_enter Try.func43, Try.ntmps43
      go_upto_region 1 with fail
      rw [← hW0]
      clear hW0
      go_wp2_with fail
      refine (HTK.out).mono ?_
      rintro e w1 ⟨rfl, hc1, hg1⟩
      have HF1 := Lib.hid (HF.out.turn (HF.out.an.turn hc1 hg1) hg1)
      clear hc1 hg1
      have hb2 := boxed w1 (.cells #[.int .i64 tk, .string tx, .int .i64 tp] 55)
      have ht2 := heap_new w1 (.cells #[.int .i64 tk, .string tx, .int .i64 tp] 55)
      obtain ⟨W2, hW2⟩ : ∃ W2, W2 = w1.alloc (.cells #[.int .i64 tk, .string tx, .int .i64 tp] 55) := ⟨_, rfl⟩
      go_upto_region 2 with fail
      rw [← hW2] at hb2 ht2 ⊢
      clear hW2
      have HF2 := Lib.hid (HF1.out.step hb2)
      have HT2 := Lib.hid ht2
      clear hb2 ht2
      obtain ⟨q0, q1, q2⟩ := row3 HT2.out
      go_wp2_with fail
      refine (HWO.out _).mono ?_
      rintro e w3 ⟨rfl, hb3⟩
      have HF3 := Lib.hid (HF2.out.step hb3)
      have ht3 := (hb3.block _ (heap_lt HT2.out)).trans HT2.out
      have HT3 := Lib.hid ht3
      clear hb3 ht3 q0 q1 q2
      have hb4 := boxed w3 (.cells #[.int .i64 wk, .int .i64 0] 33)
      have ho4 := heap_new w3 (.cells #[.int .i64 wk, .int .i64 0] 33)
      have HF4 := Lib.hid (HF3.out.step hb4)
      have ht4 := (hb4.block _ (heap_lt HT3.out)).trans HT3.out
      obtain ⟨W4, hW4⟩ : ∃ W4, W4 = w3.alloc (.cells #[.int .i64 wk, .int .i64 0] 33) := ⟨_, rfl⟩
      go_upto_region 8 with fail
      rw [← hW4] at hb4 ho4 ht4 HF4 ⊢
      clear hW4
      obtain ⟨q0, q1, q2⟩ := row3 ht4
      obtain ⟨p0, p1⟩ := row2 ho4
      clear ht4 ho4 hb4
      have hth0 := there_row (n := 2) HF4.out.b0 rfl
      have hth1 := there_row (n := 2) HF4.out.b1 rfl
      go_wp2_with (first | (refine wpList_store_mid rfl 33 _ _ rfl w.heap.size 0 #[.int .i64 (wk), .int .i64 (0)] rfl rfl hth0 (by kernel_rfl) (one2 _ _) ?_) | (refine wpList_store_mid rfl 28 _ _ rfl (w.heap.size + 1) 0 #[.int .i64 (0), .int .i64 (0)] rfl rfl (World.there_setCells hth1 _ _ _) (by kernel_rfl) (one2 _ _) ?_))
      have hF := (HF4.out.put0 [.int .i64 (wk), .int .i64 (0)] rfl).put1 [.int .i64 (0), .int .i64 (0)] rfl
      exact bodyPost_ret (v := .tuple #[.agg [.int .i64 (wk), .int .i64 (0)].toArray, .agg [.int .i64 (0), .int .i64 (0)].toArray]) (results_two Try.results43 _ _ w.heap.size (w.heap.size + 1) 33 28 _ _ _ _ rfl rfl hF.b0 hF.b1 Try.underlying33 rfl (by kernel_rfl) Try.underlying28 rfl (by kernel_rfl)) rfl ⟨hF.gb, by rw [HO.out]; exact ⟨rfl, hF.an⟩⟩
end Go.Proofs.Ytbcgooofelnkoaa
