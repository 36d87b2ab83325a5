/- What is read as owners between two signs, by the program: its loop. Conditions: at most 1000 parameters, and at most 1000000 tokens. -/
import Derived.Test.YtbcgooofelnkoaaOl
namespace Go.Proofs.Ytbcgooofelnkoaa
open Go.RowKit
set_option linter.unusedVariables false

set_option maxRecDepth 100000 in
set_option maxHeartbeats 8000000 in
theorem owners_any (R B : Nat) (l : List Gt) (A : Option Addr) (c : Nat) (PA : Option Addr) (ps : List ByteArray) (pc : Nat) (a : Int) (w : World) (h : An R B l A c PA ps pc a w) (hlp : ps.length ≤ 1000) (hpc : ps.length ≤ pc) (hbd : l.length ≤ 1000000) :
    Calls Try.prog 27 #[pR R] w (OwsP R B l A c PA ps pc (ownersP l ps a) w) := by
  obtain ⟨i0, hi, hz0, hz1, hz2⟩ := info_parts own_info
  have hfr := Fr1.new h 28 [.int .i64 0, .int .i64 0]
  have hRw := hfr.hR
  obtain ⟨W0, hW0⟩ : ∃ W0, W0 = w.alloc (.cells #[.int .i64 0, .int .i64 0] 28) := ⟨_, rfl⟩
  rw [← hW0] at hfr
  have HF := Lib.hid hfr
  have HWT : Hid (∀ s a W, Cu R B l A c #[.slice PA ps.length pc] 62 a W → Calls Try.prog 42 #[pR R, .string s] W (CuP R B l A c _ _ W (if (tokI l a).is s = true then fV 0 0 else fV 3 (tokI l a).pos) (if (tokI l a).is s = true then a + 1 else a))) := Lib.hid (fun s a W hW => want_any R B l A c _ _ a s W hW)
  have HTK : Hid (∀ a W, Cu R B l A c #[.slice PA ps.length pc] 62 a W → Calls Try.prog 30 #[pR R] W fun x w' => x = .returned (tokI l a).val ∧ Below W.heap.size W w') := Lib.hid (fun a W hW => token_any R B l A c _ _ a W hW)
  have HSK : Hid (∀ s a W, Cu R B l A c #[.slice PA ps.length pc] 62 a W → Calls Try.prog 39 #[pR R, .string s] W (CuP R B l A c _ _ W (.bool ((tokI l a).is s)) (if (tokI l a).is s = true then a + 1 else a))) := Lib.hid (fun s a W hW => skip_tok R B l A c _ _ a s W hW)
  have HOW : Hid (∀ a W, An R B l A c PA ps pc a W → Calls Try.prog 43 #[pR R] W (RzP R B l A c PA ps pc owZ owV (ownP l ps a) W)) := Lib.hid (fun a W hW => owner_any R B l A c PA ps pc a W hW hlp hpc)
  have HWR : Hid (∀ e t W, Calls Try.prog 44 #[.int .i64 e, Gt.val t] W fun x w' => x = .returned (fV e t.pos) ∧ Below W.heap.size W w') := Lib.hid (fun e t W => wrong_any e t W)
  have hwant := HWT.out ⟨#[60]⟩ a W0 hfr.an.cu
  obtain ⟨res, hres⟩ : ∃ res, res = ownersP l ps a := ⟨_, rfl⟩
  obtain ⟨b, hb⟩ : ∃ b, b = (tokI l a).is ⟨#[60]⟩ := ⟨_, rfl⟩
  have HRES : Hid (res = if b = true then ownersGo l ps 3 (a + 1) [] else .err 3 (tokI l a).pos) := Lib.hid (by rw [hres, hb]; rfl)
  rw [← hb] at hwant
  rw [← hres]
  obtain ⟨p0, hp0⟩ : ∃ p, p = (tokI l a).pos := ⟨_, rfl⟩
  rw [← hp0] at hwant HRES
  clear hres hb hfr hp0
  cases b with
  | false =>
    replace hwant : Hid (Calls Try.prog 42 #[pR R, .string ⟨#[60]⟩] W0 (CuP R B l A c #[.slice PA ps.length pc] 62 W0 (fV 3 p0) a)) := Lib.hid hwant
    have HR2 : Hid (res = .err 3 p0) := HRES
    go_enter Try.func27, Try.ntmps27
    go_upto_region 1 with fail
    rw [← hW0]
    clear hW0
    go_wp2_with fail
    refine hwant.out.mono ?_
    rintro e w1 ⟨rfl, hc1, hg1⟩
    have HF1 := Lib.hid (HF.out.turn (HF.out.an.turn hc1 hg1) hg1)
    have hl1 := heap_lt HF1.out.b1
    have hb2 := boxed w1 (.cells #[.int .i64 3, .int .i64 p0] 28)
    have ht2 := heap_new w1 (.cells #[.int .i64 3, .int .i64 p0] 28)
    obtain ⟨W2, hW2⟩ : ∃ W2, W2 = w1.alloc (.cells #[.int .i64 3, .int .i64 p0] 28) := ⟨_, rfl⟩
    go_upto_region 2 with fail
    rw [← hW2] at hb2 ht2 ⊢
    clear hW2 hc1 hg1
    have HF2 := Lib.hid (HF1.out.step hb2)
    have hl2 := heap_lt ht2
    obtain ⟨q0, q1⟩ := row2 ht2
    have n1 : ¬ w.heap.size = w1.heap.size := by omega
    have n2 : ¬ w1.heap.size = w.heap.size := by omega
    clear hb2 ht2
    obtain ⟨x0, x1⟩ := row2 HF2.out.b1
    have f0 := frozen_of HF2.out.b1 0
    have f1 := frozen_of HF2.out.b1 1
    have hlt0 := heap_lt HF2.out.b1
    go_wp2_with fail
    go_region
    go_wp2_with fail
    have hF := (HF2.out.put [.int .i64 (3), .int .i64 (p0)] rfl).step (drew_below _)
    change bodyPost _ _ _ _ _ (World.drew (World.setCells _ w.heap.size 0 [.int .i64 (3), .int .i64 (p0)]))
    exact bodyPost_ret (v := .tuple #[.slice none 0 0, fV (3) (p0)]) (results_tc Try.results27 _ _ w.heap.size 28 _ _ _ rfl rfl hF.b1 Try.underlying28 rfl (by kernel_rfl)) rfl ⟨hF.gb, by rw [HR2.out]; exact ⟨rfl, by decide, _, hF.an⟩⟩
  | true =>
    replace hwant : Hid (Calls Try.prog 42 #[pR R, .string ⟨#[60]⟩] W0 (CuP R B l A c #[.slice PA ps.length pc] 62 W0 (fV 0 0) (a + 1))) := Lib.hid hwant
    have HR2 : Hid (res = ownersGo l ps 3 (a + 1) []) := HRES
    go_enter Try.func27, Try.ntmps27
    go_upto_region 1 with fail
    rw [← hW0]
    clear hW0
    go_wp2_with fail
    refine hwant.out.mono ?_
    rintro e w1 ⟨rfl, hc1, hg1⟩
    have HF1 := Lib.hid (HF.out.turn (HF.out.an.turn hc1 hg1) hg1)
    have hb2 := boxed w1 (.cells #[.int .i64 0, .int .i64 0] 28)
    have ht2 := heap_new w1 (.cells #[.int .i64 0, .int .i64 0] 28)
    obtain ⟨W2, hW2⟩ : ∃ W2, W2 = w1.alloc (.cells #[.int .i64 0, .int .i64 0] 28) := ⟨_, rfl⟩
    go_upto_region 2 with fail
    rw [← hW2] at hb2 ht2 ⊢
    clear hW2 hc1 hg1
    have HF2 := Lib.hid (HF1.out.step hb2)
    obtain ⟨q0, q1⟩ := row2 ht2
    clear hb2 ht2
    go_wp2_with fail
    clear q0 q1
    have HL0 : Hid (OwsAt R B l A c PA ps pc w res 4 (.slice none 0 0) (.bool true) W2) := Lib.hid ⟨[], a + 1, rfl, HF2.out, World.ownsRow_nil _ _ _ _, .inr ⟨3, rfl, rfl, HR2.out.symm⟩⟩
    go_loopg [5, 6] 4 (fun g v m wr => Hid (OwsAt R B l A c PA ps pc w res g v m wr))
    case atStart => exact HL0
    case round =>
      obtain ⟨acc, a', rfl, hfr, hown, hways⟩ := hrel.out
      obtain ⟨VA, vc, rfl⟩ := own_slice hown
      have HFR := Lib.hid hfr
      have HWN := Lib.hid hown
      clear hfr hown HL0
      rcases hways with ⟨rfl, hacc, hr⟩ | ⟨n, rfl, hn, hr⟩
      · -- behind the last owner
        have hdec : decide (0 < 0) = false := rfl
        have hwant2 := HWT.out ⟨#[62]⟩ a' wr HFR.out.an.cu
        obtain ⟨b, hb⟩ : ∃ b, b = (tokI l a').is ⟨#[62]⟩ := ⟨_, rfl⟩
        have HR3 : Hid (res = if b = true then .ok acc (a' + 1) else .err 3 (tokI l a').pos) := Lib.hid (by rw [hr, hb]; rfl)
        rw [← hb] at hwant2
        obtain ⟨p1, hp1⟩ : ∃ p, p = (tokI l a').pos := ⟨_, rfl⟩
        rw [← hp1] at hwant2 HR3
        clear hr hb hp1
        cases b with
        | false =>
          replace hwant2 : Hid (Calls Try.prog 42 #[pR R, .string ⟨#[62]⟩] wr (CuP R B l A c #[.slice PA ps.length pc] 62 wr (fV 3 p1) a')) := Lib.hid hwant2
          have HR4 : Hid (res = .err 3 p1) := HR3
          go_wp2_with fail
          refine hwant2.out.mono ?_
          rintro e w3 ⟨rfl, hc3, hg3⟩
          have HF3 := Lib.hid (HFR.out.turn (HFR.out.an.turn hc3 hg3) hg3)
          have hl3 := heap_lt HF3.out.b1
          have hb4 := boxed w3 (.cells #[.int .i64 3, .int .i64 p1] 28)
          have ht4 := heap_new w3 (.cells #[.int .i64 3, .int .i64 p1] 28)
          obtain ⟨W4, hW4⟩ : ∃ W4, W4 = w3.alloc (.cells #[.int .i64 3, .int .i64 p1] 28) := ⟨_, rfl⟩
          go_upto_region 16 with fail
          rw [← hW4] at hb4 ht4 ⊢
          clear hW4 hc3 hg3
          have HF4 := Lib.hid (HF3.out.step hb4)
          have hl4 := heap_lt ht4
          obtain ⟨q0, q1⟩ := row2 ht4
          have n1 : ¬ w.heap.size = w3.heap.size := by omega
          have n2 : ¬ w3.heap.size = w.heap.size := by omega
          clear hb4 ht4
          obtain ⟨x0, x1⟩ := row2 HF4.out.b1
          have f0 := frozen_of HF4.out.b1 0
          have f1 := frozen_of HF4.out.b1 1
          have hlt0 := heap_lt HF4.out.b1
          go_wp2_with fail
          go_region
          go_wp2_with fail
          have hF := (HF4.out.put [.int .i64 (3), .int .i64 (p1)] rfl).step (drew_below _)
          change bodyPost _ _ _ _ _ (World.drew (World.setCells _ w.heap.size 0 [.int .i64 (3), .int .i64 (p1)]))
          exact bodyPost_ret (v := .tuple #[.slice none 0 0, fV (3) (p1)]) (results_tc Try.results27 _ _ w.heap.size 28 _ _ _ rfl rfl hF.b1 Try.underlying28 rfl (by kernel_rfl)) rfl ⟨hF.gb, by rw [HR4.out]; exact ⟨rfl, by decide, _, hF.an⟩⟩
        | true =>
          replace hwant2 : Hid (Calls Try.prog 42 #[pR R, .string ⟨#[62]⟩] wr (CuP R B l A c #[.slice PA ps.length pc] 62 wr (fV 0 0) (a' + 1))) := Lib.hid hwant2
          have HR4 : Hid (res = .ok acc (a' + 1)) := HR3
          go_wp2_with fail
          refine hwant2.out.mono ?_
          rintro e w3 ⟨rfl, hc3, hg3⟩
          have HF3 := Lib.hid (HFR.out.turn (HFR.out.an.turn hc3 hg3) hg3)
          have hw3 := own_apart HWN.out hg3 (by omega)
          have hb4 := boxed w3 (.cells #[.int .i64 0, .int .i64 0] 28)
          have ht4 := heap_new w3 (.cells #[.int .i64 0, .int .i64 0] 28)
          have HW4 := Lib.hid (hw3.alloc (.cells #[.int .i64 0, .int .i64 0] 28))
          obtain ⟨W4, hW4⟩ : ∃ W4, W4 = w3.alloc (.cells #[.int .i64 0, .int .i64 0] 28) := ⟨_, rfl⟩
          go_upto_region 16 with fail
          rw [← hW4] at hb4 ht4 HW4 ⊢
          clear hW4 hc3 hg3 hw3
          have HF4 := Lib.hid (HF3.out.step hb4)
          obtain ⟨q0, q1⟩ := row2 ht4
          clear hb4 ht4
          have hth1 := there_row (n := 2) HF4.out.b1 rfl
          go_wp2_with (refine wpList_store_mid rfl 28 _ _ rfl w.heap.size 0 #[.int .i64 (0), .int .i64 (0)] rfl rfl hth1 (by kernel_rfl) (one2 _ _) ?_)
          have ho := own_base (own_apart HW4.out (setCells_gb w.heap.size [.int .i64 0, .int .i64 0] 0 W4) (Nat.lt_succ_self _)) (Nat.le_succ _)
          have hF := HF4.out.put [.int .i64 (0), .int .i64 (0)] rfl
          exact bodyPost_ret (v := .tuple #[.slice VA acc.length vc, fV (0) (0)]) (results_tc Try.results27 _ _ w.heap.size 28 _ _ _ rfl rfl hF.b1 Try.underlying28 rfl (by kernel_rfl)) rfl ⟨hF.gb, by rw [HR4.out]; exact ⟨_, rfl, hF.an, ho⟩⟩
      · have hdec : decide (0 < n + 1) = true := by simp
        have htk := Lib.hid (HTK.out a' wr HFR.out.an.cu)
        obtain ⟨t, ht⟩ : ∃ t, t = tokI l a' := ⟨_, rfl⟩
        have HT := Lib.hid ht
        rw [← ht] at htk
        have HWRt := Lib.hid (fun W => HWR.out 10 t W)
        obtain ⟨tk, tx, tp⟩ := t
        rw [val_eq] at htk HWRt
        dsimp only at htk HWRt
        clear ht
        have HRR := Lib.hid hr
        clear hr
        rw [hdec]
        go_wp2_with fail
        refine htk.out.mono ?_
        rintro e w3 ⟨rfl, hb3⟩
        have HF3 := Lib.hid (HFR.out.step hb3)
        have hw3 := own_apart HWN.out (gb_below hb3 (some R)) (by omega)
        have hb4 := boxed w3 (.cells #[.int .i64 tk, .string tx, .int .i64 tp] 55)
        have ht4 := heap_new w3 (.cells #[.int .i64 tk, .string tx, .int .i64 tp] 55)
        have HW4 := Lib.hid (hw3.alloc (.cells #[.int .i64 tk, .string tx, .int .i64 tp] 55))
        obtain ⟨W4, hW4⟩ : ∃ W4, W4 = w3.alloc (.cells #[.int .i64 tk, .string tx, .int .i64 tp] 55) := ⟨_, rfl⟩
        go_upto_region 9 with fail
        rw [← hW4] at hb4 ht4 HW4 ⊢
        clear hW4 hw3 hb3
        have HF4 := Lib.hid (HF3.out.step hb4)
        have HT4 := Lib.hid ht4
        have hR3 : R < w3.heap.size := heap_lt HF3.out.an.cu.row
        have hl4 := heap_lt ht4
        clear hb4 ht4
        have how := Lib.hid (HOW.out a' W4 HF4.out.an)
        go_wp2_with fail
        refine how.out.mono ?_
        rintro e w5 hpost
        cases hop : ownP l ps a' with
        | err er po =>
          obtain ⟨rfl, he, a5, ha5, hg5⟩ := rzP_err hpost hop
          have HRE : Hid (res = .err er po) := Lib.hid (by rw [← HRR.out]; exact go_err hop)
          have HHE := Lib.hid he
          have hne0 : (er != 0) = true := by simpa using he
          have HF5 := Lib.hid (HF4.out.turn ha5 hg5)
          have hl5 := heap_lt HF5.out.b1
          obtain ⟨z0, z1, z2, z3⟩ := two2 (Below.refl ((w5.alloc (.cells #[.int .i64 0, .int .i64 0] 33)).alloc (.cells #[.int .i64 er, .int .i64 po] 28)).heap.size _)
          clear hpost hop he ha5 hg5
          obtain ⟨W6, hW6⟩ : ∃ W6, W6 = (w5.alloc (.cells #[.int .i64 0, .int .i64 0] 33)).alloc (.cells #[.int .i64 er, .int .i64 po] 28) := ⟨_, rfl⟩
          go_upto_region 10 with fail
          rw [← hW6] at z0 z1 z2 z3 ⊢
          clear hW6
          have HF6 := Lib.hid (HF5.out.step z2)
          obtain ⟨q0, q1⟩ := row2 z1
          have n1 : ¬ w.heap.size = w5.heap.size + 1 := by omega
          have n2 : ¬ w5.heap.size + 1 = w.heap.size := by omega
          clear z0 z1 z2
          obtain ⟨x0, x1⟩ := row2 HF6.out.b1
          have f0 := frozen_of HF6.out.b1 0
          have f1 := frozen_of HF6.out.b1 1
          have hlt0 := heap_lt HF6.out.b1
          go_wp2_with fail
          go_region
          go_wp2_with fail
          have hF := (HF6.out.put [.int .i64 (er), .int .i64 (po)] rfl).step (drew_below _)
          change bodyPost _ _ _ _ _ (World.drew (World.setCells _ w.heap.size 0 [.int .i64 (er), .int .i64 (po)]))
          exact bodyPost_ret (v := .tuple #[.slice none 0 0, fV (er) (po)]) (results_tc Try.results27 _ _ w.heap.size 28 _ _ _ rfl rfl hF.b1 Try.underlying28 rfl (by kernel_rfl)) rfl ⟨hF.gb, by rw [HRE.out]; exact ⟨rfl, HHE.out, _, hF.an⟩⟩
        | ok o ao =>
          obtain ⟨rfl, ha5, hg5⟩ := rzP_ok hpost hop
          have hin := ownP_in hop
          obtain ⟨hin1, rfl⟩ := hin
          have HF5 := Lib.hid (HF4.out.turn ha5 hg5)
          have hw5 := own_apart HW4.out hg5 (by omega)
          have ht5 := (hg5.block _ (heap_lt HT4.out) (fun e => by cases e; omega)).trans HT4.out
          have HOP := Lib.hid hop
          obtain ⟨ok, on⟩ := o
          obtain ⟨z0, z1, z2, z3⟩ := two2 (Below.refl ((w5.alloc (.cells #[.int .i64 ok, .int .i64 on] 33)).alloc (.cells #[.int .i64 0, .int .i64 0] 28)).heap.size _)
          have hw6 := (hw5.alloc (.cells #[.int .i64 ok, .int .i64 on] 33)).alloc (.cells #[.int .i64 0, .int .i64 0] 28)
          clear hpost hop ha5 hg5 hw5
          obtain ⟨W6, hW6⟩ : ∃ W6, W6 = (w5.alloc (.cells #[.int .i64 ok, .int .i64 on] 33)).alloc (.cells #[.int .i64 0, .int .i64 0] 28) := ⟨_, rfl⟩
          go_upto_region 10 with fail
          rw [← hW6] at z0 z1 z2 z3 hw6 ⊢
          clear hW6
          have HF6 := Lib.hid (HF5.out.step z2)
          have HW6 := Lib.hid hw6
          have ht6 := (z2.block _ (heap_lt ht5)).trans ht5
          obtain ⟨q0, q1, q2⟩ := row3 ht6
          obtain ⟨m0, m1⟩ := row2 z0
          obtain ⟨u0, u1⟩ := row2 z1
          have hl6 := HF6.out.hR
          have hls6 := heap_lt HF6.out.b1
          have HTO := Lib.hid z0
          clear z0 z1 z2 ht5 ht6 hw6
          rcases Nat.eq_zero_or_pos n with h0 | h0
          · subst h0
            have h3 : ((acc.length : Int) == 3) = true := by simp; omega
            have HRE : Hid (res = .err 10 tp) := Lib.hid (by rw [← HRR.out, go_full HOP.out, ← HT.out])
            go_wp2_with fail
            refine (HWRt.out _).mono ?_
            rintro e w7 ⟨rfl, hb7⟩
            have HF7 := Lib.hid (HF6.out.step hb7)
            clear hb7 q0 q1 q2 m0 m1 u0 u1
            have hth1 := there_row (n := 2) HF7.out.b1 rfl
            go_wp2_with (refine wpList_store_mid rfl 28 _ _ rfl w.heap.size 0 #[.int .i64 (10), .int .i64 (tp)] rfl rfl hth1 (by kernel_rfl) (one2 _ _) ?_)
            have hF := HF7.out.put [.int .i64 (10), .int .i64 (tp)] rfl
            exact bodyPost_ret (v := .tuple #[.slice none 0 0, fV (10) (tp)]) (results_tc Try.results27 _ _ w.heap.size 28 _ _ _ rfl rfl hF.b1 Try.underlying28 rfl (by kernel_rfl)) rfl ⟨hF.gb, by rw [HRE.out]; exact ⟨rfl, by decide, _, hF.an⟩⟩
          · obtain ⟨n', rfl⟩ : ∃ n', n = n' + 1 := ⟨n - 1, by omega⟩
            have h3 : ((acc.length : Int) == 3) = false := by simp; omega
            have HRE : Hid (res = if (tokI l (a' + 1)).is sComma = true then ownersGo l ps n' (a' + 2) (acc ++ [⟨ok, on⟩]) else if (tokI l (a' + 1)).is sGt = true then .ok (acc ++ [⟨ok, on⟩]) (a' + 2) else .err 3 (tokI l (a' + 1)).pos) := Lib.hid (by rw [← HRR.out]; exact go_more HOP.out)
            go_wp2_with (at_builtin; refine wpList_append_own _ rfl (.tmp 42) (.tmp 44) 39 rfl (w.heap.size + 1) 33 i0 (.agg #[.int .i64 0, .int .i64 0]) 2 16 Try.underlying39 hi hz0 hz1 hz2 rfl (by decide) _ _ _ rfl (HW6.out.alloc _) ⟨W6.heap.size, 0, none⟩ 1 1 [.int .i64 ok, .int .i64 on] rfl rfl (new2 _ _ _ _ _ rfl) (ones2 _ _) (by unfold maxLen; omega) (by omega) (by simp; omega) ?_; intro v' w' hown' hgrow' hiff; clear hiff; have HO' := Lib.hid hown'; have HG' := Lib.hid hgrow'; have HF7 := Lib.hid ((HF6.out.step (boxed W6 (.cells #[.int .i64 ok, .int .i64 on] 33))).grow (HW6.out.alloc _) hgrow'); clear hown' hgrow')
            have hsk := HSK.out ⟨#[44]⟩ (a' + 1) _ HF7.out.an.cu
            obtain ⟨b, hb⟩ : ∃ b, b = (tokI l (a' + 1)).is ⟨#[44]⟩ := ⟨_, rfl⟩
            have HRE2 : Hid (res = if b = true then ownersGo l ps n' (a' + 2) (acc ++ [⟨ok, on⟩]) else if (tokI l (a' + 1)).is sGt = true then .ok (acc ++ [⟨ok, on⟩]) (a' + 2) else .err 3 (tokI l (a' + 1)).pos) := Lib.hid (by rw [hb]; exact HRE.out)
            rw [← hb] at hsk
            clear hb
            cases b with
            | false =>
              replace hsk : Hid (Calls Try.prog 39 #[pR R, .string ⟨#[44]⟩] w' (CuP R B l A c #[.slice PA ps.length pc] 62 w' (.bool false) (a' + 1))) := Lib.hid hsk
              refine hsk.out.mono ?_
              rintro e w8 ⟨rfl, hc8, hg8⟩
              have HF8 := Lib.hid (HF7.out.turn (HF7.out.an.turn hc8 hg8) hg8)
              have HW8 := Lib.hid (own_apart HO'.out hg8 (by omega))
              clear hc8 hg8
              go_wp2_with fail
              go_roundg 0
              case rel => exact Lib.hid ⟨acc ++ [⟨ok, on⟩], a' + 1, rfl, HF8.out, by rw [ocells_snoc, List.length_append]; exact HW8.out, .inl ⟨rfl, by simp; omega, by
                have := HRE2.out
                rw [if_neg Bool.false_ne_true] at this
                rw [this, show a' + 1 + 1 = a' + 2 by omega]⟩⟩
              case measure => omega
            | true =>
              replace hsk : Hid (Calls Try.prog 39 #[pR R, .string ⟨#[44]⟩] w' (CuP R B l A c #[.slice PA ps.length pc] 62 w' (.bool true) (a' + 1 + 1))) := Lib.hid hsk
              refine hsk.out.mono ?_
              rintro e w8 ⟨rfl, hc8, hg8⟩
              have HF8 := Lib.hid (HF7.out.turn (HF7.out.an.turn hc8 hg8) hg8)
              have HW8 := Lib.hid (own_apart HO'.out hg8 (by omega))
              clear hc8 hg8
              go_wp2_with fail
              go_roundg (n' + 1)
              case rel => exact Lib.hid ⟨acc ++ [⟨ok, on⟩], a' + 1 + 1, by simp, HF8.out, by rw [ocells_snoc, List.length_append]; exact HW8.out, .inr ⟨n', rfl, by simp; omega, by
                have := HRE2.out
                simp only [if_true] at this
                rw [this, show a' + 1 + 1 = a' + 2 by omega]⟩⟩
              case measure => omega
end Go.Proofs.Ytbcgooofelnkoaa
