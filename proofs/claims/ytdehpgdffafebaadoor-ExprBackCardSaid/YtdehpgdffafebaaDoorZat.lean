/- The reader: a sign and the Kid behind it, joined to the one ahead, where the reading of that Kid is told. Conditions: the place is at most 4611686018427387903.
The reader: what no sign behind it takes apart, where the readings that it chooses from are told. Conditions: the place is at most 4611686018427387904.
A region that draws its order, at large, by what holds between its operations: each is shown once, whatever the order. Conditions: none. -/
import Derived.Test.YtdehpgdffafebaaDoorZas
namespace Go.Proofs.YtdehpgdffafebaaDoor
open Go.RowKit
set_option linter.unusedVariables false

/-- What is handed back where older blocks may bear it too. -/
def PtQ (PL : Nat → Prop) (R B : Nat) (l : List Gt) (A : Option Addr) (c r : Nat) (w : World) (pr : Pr) (x : Ending) (w' : World) : Prop :=
  w.grownBy w' (some R) ∧ match pr with
  | .ok e d a => ∃ k n s A' L' c', x = .returned (.tuple #[.agg #[.int .i64 k, .int .i64 n, .string s, .slice A' L' c', .int .i64 (d : Int)], fV 0 0]) ∧ InP (fun b => PL b ∨ Fresh w w' b) w' e (.agg #[.int .i64 k, .int .i64 n, .string s, .slice A' L' c']) ∧ Rd R B l A c a r w'
  | .err e p => x = .returned (.tuple #[.agg #[.int .i64 0, .int .i64 0, .string ⟨#[]⟩, .slice none 0 0, .int .i64 0], fV e p]) ∧ e ≠ 0 ∧ ∃ a, Rd R B l A c a r w'

set_option maxRecDepth 100000 in
set_option maxHeartbeats 4000000 in
theorem join_any (pr : Pr) (PL : Nat → Prop) (e0 : E) (K0 N0 : Int) (S0 : ByteArray) (A0 : Option Addr) (L0 C0 D0 : Nat) (sx : ByteArray) (sk sb : Int) (sc : Bool) (R B : Nat) (l : List Gt) (A : Option Addr) (c a r : Nat) (w : World) (h : Rd R B l A c a r w) (ha : a ≤ 4611686018427387903)
    (hL : InP PL w e0 (.agg #[.int .i64 K0, .int .i64 N0, .string S0, .slice A0 L0 C0])) (hPL : ∀ b, PL b → b < w.heap.size ∧ b ≠ R) (hd0 : D0 ≤ 1000) (hpd : ∀ e d a', pr = .ok e d a' → d ≤ 1000) (hsb : 0 ≤ sb ∧ sb ≤ 4)
    (hB : ∀ W, w.grownBy W (some R) → Rd R B l A c (a + 1) r W → Calls Tryd.prog 28 #[pR R, .int .i64 (sb + 1)] W (PtP R B l A c r W pr)) :
    Calls Tryd.prog 52 #[pR R, .agg #[.int .i64 K0, .int .i64 N0, .string S0, .slice A0 L0 C0, .int .i64 (D0 : Int)], .agg #[.string sx, .int .i64 sk, .int .i64 sb, .bool sc]] w (PtQ PL R B l A c r w (joinQ (tokN l a) sk e0 D0 pr)) := by
  obtain ⟨hsg, hbB⟩ := two_at w (.cells #[.int .i64 K0, .int .i64 N0, .string S0, .slice A0 L0 C0, .int .i64 (D0 : Int)] 59) #[.string sx, .int .i64 sk, .int .i64 sb, .bool sc] 70
  have hlf := (Below.heap_alloc (w.alloc (.cells #[.int .i64 K0, .int .i64 N0, .string S0, .slice A0 L0 C0, .int .i64 (D0 : Int)] 59)) (.cells #[.string sx, .int .i64 sk, .int .i64 sb, .bool sc] 70) _ (by simp)).trans (heap_new w (.cells #[.int .i64 K0, .int .i64 N0, .string S0, .slice A0 L0 C0, .int .i64 (D0 : Int)] 59))
  have hnB : ((w.alloc (.cells #[.int .i64 K0, .int .i64 N0, .string S0, .slice A0 L0 C0, .int .i64 (D0 : Int)] 59)).alloc (.cells #[.string sx, .int .i64 sk, .int .i64 sb, .bool sc] 70)).heap.size = w.heap.size + 1 + 1 := by simp
  obtain ⟨wB, hwB⟩ : ∃ wB, wB = (w.alloc (.cells #[.int .i64 K0, .int .i64 N0, .string S0, .slice A0 L0 C0, .int .i64 (D0 : Int)] 59)).alloc (.cells #[.string sx, .int .i64 sk, .int .i64 sb, .bool sc] 70) := ⟨_, rfl⟩
  rw [← hwB] at hsg hbB hlf hnB
  have hS := Rs.new (h.below hbB)
  obtain ⟨W0, hW0⟩ : ∃ W0, W0 = (wB.alloc pt0).alloc flt0 := ⟨_, rfl⟩
  rw [← hW0] at hS
  have hTK := Lib.hid (rd_take R B l A c a r W0 hS.rd (by omega))
  obtain ⟨t, ht⟩ : ∃ t, t = tokN l a := ⟨_, rfl⟩
  rw [← ht] at hTK ⊢
  have HS := Lib.hid hS
  have HB := Lib.hid hB
  have HPD := Lib.hid hpd
  have HBB := Lib.hid hbB
  have HLF := Lib.hid hlf
  have HSG := Lib.hid hsg
  have HLI := Lib.hid hL
  have HPL := Lib.hid hPL
  have hRw := heap_lt h.row
  have HOV : Hid (∀ (ps : List Pk) (b o cap : Nat) (W : World), ps.length ≤ 2 → ps.length ≤ cap → cap ≤ maxLen → PksIn W b o ps → b < W.heap.size → (∀ p ∈ ps, p.d ≤ 1000) → Calls Tryd.prog 68 #[t.val, .int .i64 sk, .slice (some ⟨b, o, none⟩) ps.length cap] W (OvP W t sk ps)) := Lib.hid (fun ps b o cap W h1 h2 h3 h4 h5 h6 => over_any t sk ps b o cap W h1 h2 h3 h4 h5 h6)
  obtain ⟨t0, ht0⟩ : ∃ t0, t0 = t := ⟨_, rfl⟩
  obtain ⟨tk, tx, tp⟩ := t
  have hv : Gt.val ⟨tk, tx, tp⟩ = .agg #[.int .i64 tk, .string tx, .int .i64 tp] := rfl
  rw [hv] at hTK HOV
  rw [← ht0] at HOV ⊢
  have HTP : Hid (t0.pos = tp) := Lib.hid (by rw [ht0])
  have hW00 : ((((w.alloc (.cells #[.int .i64 K0, .int .i64 N0, .string S0, .slice A0 L0 C0, .int .i64 (D0 : Int)] 59)).alloc (.cells #[.string sx, .int .i64 sk, .int .i64 sb, .bool sc] 70)).alloc pt0).alloc flt0) = W0 := by rw [hW0, hwB]
  clear ht hv h hS hB hpd ht0 hwB hW0 hsg hbB hlf hL hPL
  go_enter Tryd.func52, Tryd.ntmps52
  go_wp2_with fail
  clear hW00
  refine hTK.out.mono ?_
  rintro e w1 ⟨rfl, hrd1, hg1⟩
  have hS1 := HS.out.step hrd1 hg1
  have hb2 := boxed w1 (.cells #[.int .i64 tk, .string tx, .int .i64 tp] 49)
  have hn2 := heap_new w1 (.cells #[.int .i64 tk, .string tx, .int .i64 tp] 49)
  have HS2 := Lib.hid (hS1.below hb2)
  have hl1 := heap_lt hS1.b1
  have hs2 : (w1.alloc (.cells #[.int .i64 tk, .string tx, .int .i64 tp] 49)).heap.size = w1.heap.size + 1 := World.size_alloc ..
  obtain ⟨W2, hW2⟩ : ∃ W2, W2 = w1.alloc (.cells #[.int .i64 tk, .string tx, .int .i64 tp] 49) := ⟨_, rfl⟩
  rw [← hW2] at hn2 HS2 hs2
  have HN2 := Lib.hid hn2
  have hneT : ¬ w1.heap.size = R := by omega
  have HSG2 := Lib.hid ((HS2.out.gb.block _ (heap_lt HSG.out) (fun e => by cases e; omega)).trans HSG.out)
  have HLF2 := Lib.hid ((HS2.out.gb.block _ (heap_lt HLF.out) (fun e => by cases e; omega)).trans HLF.out)
  obtain ⟨z0, z1, z2, z3⟩ := row4 HSG2.out
  clear hb2 hn2 hS1
  go_upto_region 2 with fail
  rw [← hW2]
  clear hW2
  go_wp2_with fail
  refine (HB.out W2 ((gb_below HBB.out _).trans HS2.out.gb) HS2.out.rd).mono ?_
  rintro e w3 hpt
  cases pr with
  | err er po =>
    obtain ⟨hg3, rfl, he0, a', hrd3⟩ := hpt
    have HE0 := Lib.hid he0
    have hne0 : (er != 0) = true := by simpa using he0
    have HS3 := Lib.hid (HS2.out.step hrd3 hg3)
    clear hrd3 hg3 he0
    obtain ⟨hf1, hb4⟩ := two_at w3 pt0 #[.int .i64 er, .int .i64 po] 35
    have HS4 := Lib.hid (HS3.out.below hb4)
    obtain ⟨W4, hW4⟩ : ∃ W4, W4 = (w3.alloc pt0).alloc (.cells #[.int .i64 er, .int .i64 po] 35) := ⟨_, rfl⟩
    rw [← hW4] at hf1 HS4
    have hl3 := heap_lt HS3.out.b1
    obtain ⟨q0, q1⟩ := row2 hf1
    have b0 := HS4.out.b0
    have b1 := HS4.out.b1
    rw [hnB] at b0 b1
    obtain ⟨x0, x1, x2, x3, x4⟩ := row5 b0
    obtain ⟨y0, y1⟩ := row2 b1
    have f0 := frozen_of b0 0
    have f1 := frozen_of b0 1
    have f2 := frozen_of b0 2
    have f3 := frozen_of b0 3
    have f4 := frozen_of b0 4
    have g0 := frozen_of b1 0
    have g1 := frozen_of b1 1
    clear b0 b1
    have n1 : ¬ w.heap.size + 1 + 1 = w3.heap.size + 1 := by omega
    have n5 : ¬ w3.heap.size + 1 = w.heap.size + 1 + 1 := by omega
    have n7 : ¬ w3.heap.size + 1 = w.heap.size + 1 + 1 + 1 := by omega
    clear hb4 hf1 z0 z1 z2 z3
    go_upto_region 3 with fail
    rw [← hW4]
    clear hW4
    go_wp2_with fail
    go_region
    go_wp2_with fail
    have hF := (HS4.out.put (.int .i64 0) (.int .i64 0) (.string ⟨#[]⟩) (.slice none 0 0) (.int .i64 0) (.int .i64 er) (.int .i64 po)).below (drew_below _)
    rw [hnB] at hF
    change bodyPost _ _ _ _ _ (World.drew (stPF (w.heap.size + 1 + 1) W4 (.int .i64 0) (.int .i64 0) (.string ⟨#[]⟩) (.slice none 0 0) (.int .i64 0) (.int .i64 er) (.int .i64 po)))
    generalize World.drew (stPF (w.heap.size + 1 + 1) W4 (.int .i64 0) (.int .i64 0) (.string ⟨#[]⟩) (.slice none 0 0) (.int .i64 0) (.int .i64 er) (.int .i64 po)) = Wf at hF ⊢
    have b0 := hF.b0
    have b1 := hF.b1
    rw [hnB] at b0 b1
    obtain ⟨r0, r1, r2, r3, r4⟩ := row5 b0
    obtain ⟨s0, s1⟩ := row2 b1
    exact bodyPost_ret (v := .tuple #[.agg #[.int .i64 0, .int .i64 0, .string ⟨#[]⟩, .slice none 0 0, .int .i64 0], fV er po]) (by simp [results, Tryd.results52, go_sem, r0, r1, r2, r3, r4, s0, s1]) rfl ⟨(gb_below HBB.out _).trans hF.gb, rfl, HE0.out, _, hF.rd⟩
  | ok e d a' =>
    obtain ⟨hg3, K, N, S, A', L', C', rfl, hi3, hrd3⟩ := hpt
    have HI3 := Lib.hid hi3
    have HG3 := Lib.hid hg3
    have HS3 := Lib.hid (HS2.out.step hrd3 hg3)
    have HN3 := Lib.hid ((hg3.block _ (heap_lt HN2.out) (fun e => hneT (by cases e; rfl))).trans HN2.out)
    have HSG3 := Lib.hid ((hg3.block _ (heap_lt HSG2.out) (fun e => by cases e; omega)).trans HSG2.out)
    have HLF3 := Lib.hid ((hg3.block _ (heap_lt HLF2.out) (fun e => by cases e; omega)).trans HLF2.out)
    have h23 := hg3.size
    clear hrd3 hi3 hg3 z0 z1 z2 z3
    obtain ⟨hf1, hb4⟩ := two_at w3 (.cells #[.int .i64 K, .int .i64 N, .string S, .slice A' L' C', .int .i64 (d : Int)] 59) #[.int .i64 0, .int .i64 0] 35
    have hp1 := (Below.heap_alloc (w3.alloc (.cells #[.int .i64 K, .int .i64 N, .string S, .slice A' L' C', .int .i64 (d : Int)] 59)) (.cells #[.int .i64 0, .int .i64 0] 35) _ (by simp)).trans (heap_new w3 (.cells #[.int .i64 K, .int .i64 N, .string S, .slice A' L' C', .int .i64 (d : Int)] 59))
    have HS4 := Lib.hid (HS3.out.below hb4)
    have HB4 := Lib.hid hb4
    have HN4 := Lib.hid ((hb4.block _ (heap_lt HN3.out)).trans HN3.out)
    have HSG4 := Lib.hid ((hb4.block _ (heap_lt HSG3.out)).trans HSG3.out)
    have HLF4 := Lib.hid ((hb4.block _ (heap_lt HLF3.out)).trans HLF3.out)
    obtain ⟨W4, hW4⟩ : ∃ W4, W4 = (w3.alloc (.cells #[.int .i64 K, .int .i64 N, .string S, .slice A' L' C', .int .i64 (d : Int)] 59)).alloc (.cells #[.int .i64 0, .int .i64 0] 35) := ⟨_, rfl⟩
    rw [← hW4] at hf1 hp1 HS4 HB4 HN4 HSG4 HLF4
    have hl3 := heap_lt HS3.out.b1
    obtain ⟨q0, q1⟩ := row2 hf1
    obtain ⟨p0, p1, p2, p3, p4⟩ := row5 hp1
    obtain ⟨v0, v1, v2⟩ := row3 HN4.out
    obtain ⟨z0, z1, z2, z3⟩ := row4 HSG4.out
    obtain ⟨l0, l1, l2, l3, l4⟩ := row5 HLF4.out
    have hb5 := boxed W4 (.cells #[.int .i64 K0, .int .i64 N0, .string S0, .slice A0 L0 C0, .int .i64 (D0 : Int), .int .i64 K, .int .i64 N, .string S, .slice A' L' C', .int .i64 (d : Int)] 59)
    have hn5 := heap_new W4 (.cells #[.int .i64 K0, .int .i64 N0, .string S0, .slice A0 L0 C0, .int .i64 (D0 : Int), .int .i64 K, .int .i64 N, .string S, .slice A' L' C', .int .i64 (d : Int)] 59)
    have HS5 := Lib.hid (HS4.out.below hb5)
    have HB5 := Lib.hid hb5
    clear hb4 hf1 hp1 hb5
    go_upto_region 3 with fail
    rw [← hW4]
    clear hW4
    go_wp2_with fail
    have hps : PksIn (W4.alloc (.cells #[.int .i64 K0, .int .i64 N0, .string S0, .slice A0 L0 C0, .int .i64 (D0 : Int), .int .i64 K, .int .i64 N, .string S, .slice A' L' C', .int .i64 (d : Int)] 59)) W4.heap.size 0 [⟨e0, K0, N0, S0, A0, L0, C0, D0⟩, ⟨e, K, N, S, A', L', C', d⟩] := by
      intro i p hp
      have hi : i = 0 ∨ i = 1 := by
        have := (List.getElem?_eq_some_iff.1 hp).1
        simp at this; omega
      rcases hi with rfl | rfl
      · simp at hp
        subst hp
        exact ⟨cell_of_row _ _ 0 _ _ (0, 0) hn5, cell_of_row _ _ 1 _ _ (0, 0) hn5, cell_of_row _ _ 2 _ _ (0, 0) hn5, cell_of_row _ _ 3 _ _ (0, 0) hn5, cell_of_row _ _ 4 _ _ (0, 0) hn5⟩
      · simp at hp
        subst hp
        exact ⟨cell_of_row _ _ 5 _ _ (0, 0) hn5, cell_of_row _ _ 6 _ _ (0, 0) hn5, cell_of_row _ _ 7 _ _ (0, 0) hn5, cell_of_row _ _ 8 _ _ (0, 0) hn5, cell_of_row _ _ 9 _ _ (0, 0) hn5⟩
    obtain ⟨md, hmd⟩ : ∃ md, md = max (D0 + 1) (d + 1) := ⟨_, rfl⟩
    have hd1 : pdeep [⟨e0, K0, N0, S0, A0, L0, C0, D0⟩, ⟨e, K, N, S, A', L', C', d⟩] = md := by rw [hmd]; show max (max 0 (D0 + 1)) (d + 1) = _; omega
    have HD1 := Lib.hid hd1
    have HC := Lib.hid (HOV.out [⟨e0, K0, N0, S0, A0, L0, C0, D0⟩, ⟨e, K, N, S, A', L', C', d⟩] W4.heap.size 0 2 (W4.alloc (.cells #[.int .i64 K0, .int .i64 N0, .string S0, .slice A0 L0 C0, .int .i64 (D0 : Int), .int .i64 K, .int .i64 N, .string S, .slice A' L' C', .int .i64 (d : Int)] 59)) (by simp) (by simp) (by unfold maxLen; omega) hps (by simp) (fun p hp => by
      simp at hp
      rcases hp with rfl | rfl
      · exact hd0
      · exact HPD.out e d a' rfl))
    have hs5 : (W4.alloc (.cells #[.int .i64 K0, .int .i64 N0, .string S0, .slice A0 L0 C0, .int .i64 (D0 : Int), .int .i64 K, .int .i64 N, .string S, .slice A' L' C', .int .i64 (d : Int)] 59)).heap.size = W4.heap.size + 1 := World.size_alloc ..
    have HJ : Hid (joinQ t0 sk e0 D0 (.ok e d a') = if 20 < md then .err 5 t0.pos else .ok (.mk sk 0 ⟨#[]⟩ [e0, e]) md a') := Lib.hid (by rw [hmd]; rfl)
    obtain ⟨W5, hW5⟩ : ∃ W5, W5 = W4.alloc (.cells #[.int .i64 K0, .int .i64 N0, .string S0, .slice A0 L0 C0, .int .i64 (D0 : Int), .int .i64 K, .int .i64 N, .string S, .slice A' L' C', .int .i64 (d : Int)] 59) := ⟨_, rfl⟩
    rw [← hW5] at HS5 HB5 HC hs5 ⊢
    clear hW5 hps hd1 hmd q0 q1 p0 p1 p2 p3 p4 v0 v1 v2 z0 z1 z2 z3 l0 l1 l2 l3 l4 hn5
    refine HC.out.mono ?_
    rintro x w6 ⟨hb6, hov⟩
    rw [HD1.out] at hov
    have HS6 := Lib.hid (HS5.out.below hb6)
    have HB6 := Lib.hid hb6
    have b0 := HS6.out.b0
    have b1 := HS6.out.b1
    rw [hnB] at b0 b1
    obtain ⟨x0, x1, x2, x3, x4⟩ := row5 b0
    obtain ⟨y0, y1⟩ := row2 b1
    have f0 := frozen_of b0 0
    have f1 := frozen_of b0 1
    have f2 := frozen_of b0 2
    have f3 := frozen_of b0 3
    have f4 := frozen_of b0 4
    have g0 := frozen_of b1 0
    have g1 := frozen_of b1 1
    clear b0 b1
    by_cases h20 : 20 < md
    · rw [if_pos h20, HTP.out] at hov
      subst hov
      have HRES : Hid (joinQ t0 sk e0 D0 (.ok e d a') = .err 5 tp) := Lib.hid (by rw [HJ.out, if_pos h20, HTP.out])
      clear h20
      go_wp2_with fail
      have hF := HS6.out.put (.int .i64 0) (.int .i64 0) (.string ⟨#[]⟩) (.slice none 0 0) (.int .i64 0) (.int .i64 5) (.int .i64 tp)
      rw [hnB] at hF
      change bodyPost _ _ _ _ _ (stPF (w.heap.size + 1 + 1) w6 (.int .i64 0) (.int .i64 0) (.string ⟨#[]⟩) (.slice none 0 0) (.int .i64 0) (.int .i64 5) (.int .i64 tp))
      generalize stPF (w.heap.size + 1 + 1) w6 (.int .i64 0) (.int .i64 0) (.string ⟨#[]⟩) (.slice none 0 0) (.int .i64 0) (.int .i64 5) (.int .i64 tp) = Wf at hF ⊢
      have b0 := hF.b0
      have b1 := hF.b1
      rw [hnB] at b0 b1
      obtain ⟨r0, r1, r2, r3, r4⟩ := row5 b0
      obtain ⟨s0, s1⟩ := row2 b1
      exact bodyPost_ret (v := .tuple #[.agg #[.int .i64 0, .int .i64 0, .string ⟨#[]⟩, .slice none 0 0, .int .i64 0], fV 5 tp]) (by simp [results, Tryd.results52, go_sem, r0, r1, r2, r3, r4, s0, s1]) rfl ⟨(gb_below HBB.out _).trans hF.gb, by rw [HRES.out]; exact ⟨rfl, by decide, _, hF.rd⟩⟩
    · rw [if_neg h20] at hov
      obtain ⟨v, A6, c6, rfl, rfl, ho6⟩ := hov
      have HO6 := Lib.hid ho6
      have HRES : Hid (joinQ t0 sk e0 D0 (.ok e d a') = .ok (.mk sk 0 ⟨#[]⟩ [e0, e]) md a') := Lib.hid (by rw [HJ.out, if_neg h20])
      clear h20 ho6
      go_wp2_with fail
      have hF := HS6.out.put (.int .i64 sk) (.int .i64 0) (.string ⟨#[]⟩) (.slice A6 2 c6) (.int .i64 (md : Int)) (.int .i64 0) (.int .i64 0)
      rw [hnB] at hF
      have hk := stPF_keep (w.heap.size + 1 + 1) w6 (.int .i64 sk) (.int .i64 0) (.string ⟨#[]⟩) (.slice A6 2 c6) (.int .i64 (md : Int)) (.int .i64 0) (.int .i64 0)
      have hsz := (stPF_gb (R := 0) (w.heap.size + 1 + 1) w6 (.int .i64 sk) (.int .i64 0) (.string ⟨#[]⟩) (.slice A6 2 c6) (.int .i64 (md : Int)) (.int .i64 0) (.int .i64 0)).size
      change bodyPost _ _ _ _ _ (stPF (w.heap.size + 1 + 1) w6 (.int .i64 sk) (.int .i64 0) (.string ⟨#[]⟩) (.slice A6 2 c6) (.int .i64 (md : Int)) (.int .i64 0) (.int .i64 0))
      generalize stPF (w.heap.size + 1 + 1) w6 (.int .i64 sk) (.int .i64 0) (.string ⟨#[]⟩) (.slice A6 2 c6) (.int .i64 (md : Int)) (.int .i64 0) (.int .i64 0) = Wf at hF hk hsz ⊢
      have b0 := hF.b0
      have b1 := hF.b1
      rw [hnB] at b0 b1
      obtain ⟨r0, r1, r2, r3, r4⟩ := row5 b0
      obtain ⟨s0, s1⟩ := row2 b1
      refine bodyPost_ret (v := .tuple #[.agg #[.int .i64 sk, .int .i64 0, .string ⟨#[]⟩, .slice A6 2 c6, .int .i64 (md : Int)], fV 0 0]) (by simp [results, Tryd.results52, go_sem, r0, r1, r2, r3, r4, s0, s1]) rfl ⟨(gb_below HBB.out _).trans hF.gb, ?_⟩
      rw [HRES.out]
      have hB4 := HB4.out.size
      have hB5 := HB5.out.size
      have hB6 := HB6.out.size
      have hg2 := HS2.out.gb
      have hin := ov_inP (w := w) (k := sk) (Q := fun b => PL b ∨ (w.heap.size + 1 + 1 + 2 ≤ b ∧ b < w6.heap.size ∧ b ≠ R)) HO6.out (fun p hp => by
        simp at hp
        rcases hp with rfl | rfl
        · refine HLI.out.imp (fun b hb => .inl hb) (fun b hb => ?_)
          obtain ⟨h1, h2⟩ := HPL.out b hb
          rw [HB6.out.block b (by omega), HB5.out.block b (by omega), HB4.out.block b (by omega), HG3.out.block b (by omega) (fun e => h2 (by cases e; rfl)), hg2.block b (by omega) (fun e => h2 (by cases e; rfl)), HBB.out.block b h1]
        · refine HI3.out.imp (fun b hb => ?_) (fun b hb => ?_)
          · have h1 := hb.1
            have h2 := hb.2
            exact .inr ⟨by omega, by omega, by omega⟩
          · have h1 := hb.1
            have h2 := hb.2
            rw [HB6.out.block b (by omega), HB5.out.block b (by omega), HB4.out.block b h2]) (fun g h1 h2 => .inr ⟨by omega, h2, by omega⟩)
      refine ⟨sk, 0, ⟨#[]⟩, A6, 2, c6, rfl, hin.imp (fun b hb => ?_) (fun b hb => ?_), hF.rd⟩
      · rcases hb with hb | hb
        · exact .inl hb
        · exact .inr ⟨by have := hb.1; omega, by have := hb.2.1; omega⟩
      · rcases hb with hb | hb
        · have := (HPL.out b hb).1
          exact hk b (by omega) (by omega)
        · have := hb.1
          exact hk b (by omega) (by omega)
end Go.Proofs.YtdehpgdffafebaaDoor
namespace Go.Proofs.YtdehpgdffafebaaDoor
open Go.RowKit
set_option linter.unusedVariables false

def tightQ (t : Gt) (pN pBk pNi pSa pPl : Pr) : Pr :=
  if t.is ⟨#[33]⟩ = true then pN else if t.is ⟨#[40]⟩ = true then pBk else if t.is ⟨#[110, 105, 108]⟩ = true then pNi else if t.is ⟨#[115, 97, 109, 101]⟩ = true then pSa else pPl

set_option maxRecDepth 100000 in
set_option maxHeartbeats 8000000 in
theorem tight_any (pN pBk pNi pSa pPl : Pr) (R B : Nat) (l : List Gt) (A : Option Addr) (c a r : Nat) (w : World) (h : Rd R B l A c a r w) (ha : a ≤ 4611686018427387904)
    (hN : ∀ W, w.grownBy W (some R) → Rd R B l A c a r W → (tokN l a).is ⟨#[33]⟩ = true → Calls Tryd.prog 62 #[pR R] W (PtP R B l A c r W pN))
    (hBk : ∀ W, w.grownBy W (some R) → Rd R B l A c a r W → (tokN l a).is ⟨#[40]⟩ = true → Calls Tryd.prog 63 #[pR R] W (PtP R B l A c r W pBk))
    (hNi : ∀ W, w.grownBy W (some R) → Rd R B l A c a r W → (tokN l a).is ⟨#[110, 105, 108]⟩ = true → Calls Tryd.prog 64 #[pR R, .int .i64 13] W (PtP R B l A c r W pNi))
    (hSa : ∀ W, w.grownBy W (some R) → Rd R B l A c a r W → (tokN l a).is ⟨#[115, 97, 109, 101]⟩ = true → Calls Tryd.prog 64 #[pR R, .int .i64 14] W (PtP R B l A c r W pSa))
    (hPl : ∀ W, w.grownBy W (some R) → Rd R B l A c a r W → Calls Tryd.prog 65 #[pR R] W (PtP R B l A c r W pPl)) :
    Calls Tryd.prog 49 #[pR R] w (PtP R B l A c r w (tightQ (tokN l a) pN pBk pNi pSa pPl)) := by
  have hS := Rs.new h
  obtain ⟨W0, hW0⟩ : ∃ W0, W0 = (w.alloc pt0).alloc flt0 := ⟨_, rfl⟩
  rw [← hW0] at hS
  have hTK := Lib.hid (rd_token R B l A c a r W0 hS.rd ha)
  obtain ⟨t, ht⟩ : ∃ t, t = tokN l a := ⟨_, rfl⟩
  rw [← ht] at hTK hN hBk hNi hSa ⊢
  have HS := Lib.hid hS
  have HN := Lib.hid hN
  have HBk := Lib.hid hBk
  have HNi := Lib.hid hNi
  have HSa := Lib.hid hSa
  have HPl := Lib.hid hPl
  have HIS : Hid (∀ s W, Calls Tryd.prog 61 #[t.val, .string s] W fun e w' => e = .returned (.bool (t.is s)) ∧ Below W.heap.size W w') := Lib.hid (fun s W => is_any t s W)
  obtain ⟨t0, ht0⟩ : ∃ t0, t0 = t := ⟨_, rfl⟩
  obtain ⟨tk, tx, tp⟩ := t
  have hv : Gt.val ⟨tk, tx, tp⟩ = .agg #[.int .i64 tk, .string tx, .int .i64 tp] := rfl
  rw [hv] at hTK HIS
  rw [← ht0] at HIS HN HBk HNi HSa ⊢
  clear ht hv h hS hN hBk hNi hSa hPl ht0
  go_enter Tryd.func49, Tryd.ntmps49
  go_wp2_with fail
  rw [← hW0]
  clear hW0
  refine hTK.out.mono ?_
  rintro e w1 ⟨rfl, hb1⟩
  have hS1 := HS.out.below hb1
  have hb2 := boxed w1 (.cells #[.int .i64 tk, .string tx, .int .i64 tp] 49)
  have hn2 := heap_new w1 (.cells #[.int .i64 tk, .string tx, .int .i64 tp] 49)
  have HSa0 := Lib.hid (hS1.below hb2)
  obtain ⟨W2, hW2⟩ : ∃ W2, W2 = w1.alloc (.cells #[.int .i64 tk, .string tx, .int .i64 tp] 49) := ⟨_, rfl⟩
  rw [← hW2] at hn2 HSa0
  have HNa0 := Lib.hid hn2
  obtain ⟨q0, q1, q2⟩ := row3 hn2
  clear hb2 hn2 hS1
  go_upto_region 2 with fail
  rw [← hW2]
  clear hW2
  cases h1 : t0.is ⟨#[33]⟩ with
  | true =>
    go_wp2_with fail
    refine (HIS.out ⟨#[33]⟩ _).mono ?_
    rintro e wi1 ⟨rfl, hbi1⟩
    rw [h1]
    have HSa1 := Lib.hid (HSa0.out.below hbi1)
    have HNa1 := Lib.hid ((hbi1.block _ (heap_lt HNa0.out)).trans HNa0.out)
    clear q0 q1 q2
    obtain ⟨q0, q1, q2⟩ := row3 HNa1.out
    have HRES : Hid (tightQ t0 pN pBk pNi pSa pPl = pN) := Lib.hid (by unfold tightQ; simp [h1])
    have HCL := Lib.hid (HN.out wi1 HSa1.out.gb HSa1.out.rd h1)
    clear q0 q1 q2 h1
    go_wp2_with fail
    refine HCL.out.mono ?_
    rintro e w3 hpt
    obtain ⟨K, N, S, A', L', C', D, er, po, a', rfl, hrd3, hg3, hkeep⟩ := hpt.open
    have HKEEP := Lib.hid hkeep
    have HS3 := Lib.hid (HSa1.out.step hrd3 hg3)
    have hl2 := heap_lt HSa1.out.b1
    obtain ⟨x0, x1, x2, x3, x4⟩ := row5 HS3.out.b0
    obtain ⟨y0, y1⟩ := row2 HS3.out.b1
    have f0 := frozen_of HS3.out.b0 0
    have f1 := frozen_of HS3.out.b0 1
    have f2 := frozen_of HS3.out.b0 2
    have f3 := frozen_of HS3.out.b0 3
    have f4 := frozen_of HS3.out.b0 4
    have g0 := frozen_of HS3.out.b1 0
    have g1 := frozen_of HS3.out.b1 1
    clear hpt hkeep hrd3 hg3
    go_wp2_with fail
    have hF := HS3.out.put (.int .i64 K) (.int .i64 N) (.string S) (.slice A' L' C') (.int .i64 D) (.int .i64 er) (.int .i64 po)
    have hk := stPF_keep w.heap.size w3 (.int .i64 K) (.int .i64 N) (.string S) (.slice A' L' C') (.int .i64 D) (.int .i64 er) (.int .i64 po)
    have hsz := (stPF_gb (R := 0) w.heap.size w3 (.int .i64 K) (.int .i64 N) (.string S) (.slice A' L' C') (.int .i64 D) (.int .i64 er) (.int .i64 po)).size
    change bodyPost _ _ _ _ _ (stPF w.heap.size w3 (.int .i64 K) (.int .i64 N) (.string S) (.slice A' L' C') (.int .i64 D) (.int .i64 er) (.int .i64 po))
    generalize stPF w.heap.size w3 (.int .i64 K) (.int .i64 N) (.string S) (.slice A' L' C') (.int .i64 D) (.int .i64 er) (.int .i64 po) = Wf at hF hk hsz ⊢
    obtain ⟨r0, r1, r2, r3, r4⟩ := row5 hF.b0
    obtain ⟨s0, s1⟩ := row2 hF.b1
    refine bodyPost_ret (v := .tuple #[.agg #[.int .i64 K, .int .i64 N, .string S, .slice A' L' C', .int .i64 D], fV er po]) (by simp [results, Tryd.results49, go_sem, r0, r1, r2, r3, r4, s0, s1]) rfl ?_
    rw [HRES.out]
    exact HKEEP.out w Wf r (fun b hb => hk b (by have := hb.1; omega) (by have := hb.1; omega)) (by omega) hsz hF.rd hF.gb
  | false =>
    go_wp2_with fail
    refine (HIS.out ⟨#[33]⟩ _).mono ?_
    rintro e wi1 ⟨rfl, hbi1⟩
    rw [h1]
    have HSa1 := Lib.hid (HSa0.out.below hbi1)
    have HNa1 := Lib.hid ((hbi1.block _ (heap_lt HNa0.out)).trans HNa0.out)
    clear q0 q1 q2
    obtain ⟨q0, q1, q2⟩ := row3 HNa1.out
    cases h2 : t0.is ⟨#[40]⟩ with
    | true =>
      go_wp2_with fail
      refine (HIS.out ⟨#[40]⟩ _).mono ?_
      rintro e wi2 ⟨rfl, hbi2⟩
      rw [h2]
      have HSa2 := Lib.hid (HSa1.out.below hbi2)
      have HNa2 := Lib.hid ((hbi2.block _ (heap_lt HNa1.out)).trans HNa1.out)
      clear q0 q1 q2
      obtain ⟨q0, q1, q2⟩ := row3 HNa2.out
      have HRES : Hid (tightQ t0 pN pBk pNi pSa pPl = pBk) := Lib.hid (by unfold tightQ; simp [h1, h2])
      have HCL := Lib.hid (HBk.out wi2 HSa2.out.gb HSa2.out.rd h2)
      clear q0 q1 q2 h1 h2
      go_wp2_with fail
      refine HCL.out.mono ?_
      rintro e w3 hpt
      obtain ⟨K, N, S, A', L', C', D, er, po, a', rfl, hrd3, hg3, hkeep⟩ := hpt.open
      have HKEEP := Lib.hid hkeep
      have HS3 := Lib.hid (HSa2.out.step hrd3 hg3)
      have hl2 := heap_lt HSa2.out.b1
      obtain ⟨x0, x1, x2, x3, x4⟩ := row5 HS3.out.b0
      obtain ⟨y0, y1⟩ := row2 HS3.out.b1
      have f0 := frozen_of HS3.out.b0 0
      have f1 := frozen_of HS3.out.b0 1
      have f2 := frozen_of HS3.out.b0 2
      have f3 := frozen_of HS3.out.b0 3
      have f4 := frozen_of HS3.out.b0 4
      have g0 := frozen_of HS3.out.b1 0
      have g1 := frozen_of HS3.out.b1 1
      clear hpt hkeep hrd3 hg3
      go_wp2_with fail
      have hF := HS3.out.put (.int .i64 K) (.int .i64 N) (.string S) (.slice A' L' C') (.int .i64 D) (.int .i64 er) (.int .i64 po)
      have hk := stPF_keep w.heap.size w3 (.int .i64 K) (.int .i64 N) (.string S) (.slice A' L' C') (.int .i64 D) (.int .i64 er) (.int .i64 po)
      have hsz := (stPF_gb (R := 0) w.heap.size w3 (.int .i64 K) (.int .i64 N) (.string S) (.slice A' L' C') (.int .i64 D) (.int .i64 er) (.int .i64 po)).size
      change bodyPost _ _ _ _ _ (stPF w.heap.size w3 (.int .i64 K) (.int .i64 N) (.string S) (.slice A' L' C') (.int .i64 D) (.int .i64 er) (.int .i64 po))
      generalize stPF w.heap.size w3 (.int .i64 K) (.int .i64 N) (.string S) (.slice A' L' C') (.int .i64 D) (.int .i64 er) (.int .i64 po) = Wf at hF hk hsz ⊢
      obtain ⟨r0, r1, r2, r3, r4⟩ := row5 hF.b0
      obtain ⟨s0, s1⟩ := row2 hF.b1
      refine bodyPost_ret (v := .tuple #[.agg #[.int .i64 K, .int .i64 N, .string S, .slice A' L' C', .int .i64 D], fV er po]) (by simp [results, Tryd.results49, go_sem, r0, r1, r2, r3, r4, s0, s1]) rfl ?_
      rw [HRES.out]
      exact HKEEP.out w Wf r (fun b hb => hk b (by have := hb.1; omega) (by have := hb.1; omega)) (by omega) hsz hF.rd hF.gb
    | false =>
      go_wp2_with fail
      refine (HIS.out ⟨#[40]⟩ _).mono ?_
      rintro e wi2 ⟨rfl, hbi2⟩
      rw [h2]
      have HSa2 := Lib.hid (HSa1.out.below hbi2)
      have HNa2 := Lib.hid ((hbi2.block _ (heap_lt HNa1.out)).trans HNa1.out)
      clear q0 q1 q2
      obtain ⟨q0, q1, q2⟩ := row3 HNa2.out
      cases h3 : t0.is ⟨#[110, 105, 108]⟩ with
      | true =>
        go_wp2_with fail
        refine (HIS.out ⟨#[110, 105, 108]⟩ _).mono ?_
        rintro e wi3 ⟨rfl, hbi3⟩
        rw [h3]
        have HSa3 := Lib.hid (HSa2.out.below hbi3)
        have HNa3 := Lib.hid ((hbi3.block _ (heap_lt HNa2.out)).trans HNa2.out)
        clear q0 q1 q2
        obtain ⟨q0, q1, q2⟩ := row3 HNa3.out
        have HRES : Hid (tightQ t0 pN pBk pNi pSa pPl = pNi) := Lib.hid (by unfold tightQ; simp [h1, h2, h3])
        have HCL := Lib.hid (HNi.out wi3 HSa3.out.gb HSa3.out.rd h3)
        clear q0 q1 q2 h1 h2 h3
        go_wp2_with fail
        refine HCL.out.mono ?_
        rintro e w3 hpt
        obtain ⟨K, N, S, A', L', C', D, er, po, a', rfl, hrd3, hg3, hkeep⟩ := hpt.open
        have HKEEP := Lib.hid hkeep
        have HS3 := Lib.hid (HSa3.out.step hrd3 hg3)
        have hl2 := heap_lt HSa3.out.b1
        obtain ⟨x0, x1, x2, x3, x4⟩ := row5 HS3.out.b0
        obtain ⟨y0, y1⟩ := row2 HS3.out.b1
        have f0 := frozen_of HS3.out.b0 0
        have f1 := frozen_of HS3.out.b0 1
        have f2 := frozen_of HS3.out.b0 2
        have f3 := frozen_of HS3.out.b0 3
        have f4 := frozen_of HS3.out.b0 4
        have g0 := frozen_of HS3.out.b1 0
        have g1 := frozen_of HS3.out.b1 1
        clear hpt hkeep hrd3 hg3
        go_wp2_with fail
        have hF := HS3.out.put (.int .i64 K) (.int .i64 N) (.string S) (.slice A' L' C') (.int .i64 D) (.int .i64 er) (.int .i64 po)
        have hk := stPF_keep w.heap.size w3 (.int .i64 K) (.int .i64 N) (.string S) (.slice A' L' C') (.int .i64 D) (.int .i64 er) (.int .i64 po)
        have hsz := (stPF_gb (R := 0) w.heap.size w3 (.int .i64 K) (.int .i64 N) (.string S) (.slice A' L' C') (.int .i64 D) (.int .i64 er) (.int .i64 po)).size
        change bodyPost _ _ _ _ _ (stPF w.heap.size w3 (.int .i64 K) (.int .i64 N) (.string S) (.slice A' L' C') (.int .i64 D) (.int .i64 er) (.int .i64 po))
        generalize stPF w.heap.size w3 (.int .i64 K) (.int .i64 N) (.string S) (.slice A' L' C') (.int .i64 D) (.int .i64 er) (.int .i64 po) = Wf at hF hk hsz ⊢
        obtain ⟨r0, r1, r2, r3, r4⟩ := row5 hF.b0
        obtain ⟨s0, s1⟩ := row2 hF.b1
        refine bodyPost_ret (v := .tuple #[.agg #[.int .i64 K, .int .i64 N, .string S, .slice A' L' C', .int .i64 D], fV er po]) (by simp [results, Tryd.results49, go_sem, r0, r1, r2, r3, r4, s0, s1]) rfl ?_
        rw [HRES.out]
        exact HKEEP.out w Wf r (fun b hb => hk b (by have := hb.1; omega) (by have := hb.1; omega)) (by omega) hsz hF.rd hF.gb
      | false =>
        go_wp2_with fail
        refine (HIS.out ⟨#[110, 105, 108]⟩ _).mono ?_
        rintro e wi3 ⟨rfl, hbi3⟩
        rw [h3]
        have HSa3 := Lib.hid (HSa2.out.below hbi3)
        have HNa3 := Lib.hid ((hbi3.block _ (heap_lt HNa2.out)).trans HNa2.out)
        clear q0 q1 q2
        obtain ⟨q0, q1, q2⟩ := row3 HNa3.out
        cases h4 : t0.is ⟨#[115, 97, 109, 101]⟩ with
        | true =>
          go_wp2_with fail
          refine (HIS.out ⟨#[115, 97, 109, 101]⟩ _).mono ?_
          rintro e wi4 ⟨rfl, hbi4⟩
          rw [h4]
          have HSa4 := Lib.hid (HSa3.out.below hbi4)
          have HNa4 := Lib.hid ((hbi4.block _ (heap_lt HNa3.out)).trans HNa3.out)
          clear q0 q1 q2
          obtain ⟨q0, q1, q2⟩ := row3 HNa4.out
          have HRES : Hid (tightQ t0 pN pBk pNi pSa pPl = pSa) := Lib.hid (by unfold tightQ; simp [h1, h2, h3, h4])
          have HCL := Lib.hid (HSa.out wi4 HSa4.out.gb HSa4.out.rd h4)
          clear q0 q1 q2 h1 h2 h3 h4
          go_wp2_with fail
          refine HCL.out.mono ?_
          rintro e w3 hpt
          obtain ⟨K, N, S, A', L', C', D, er, po, a', rfl, hrd3, hg3, hkeep⟩ := hpt.open
          have HKEEP := Lib.hid hkeep
          have HS3 := Lib.hid (HSa4.out.step hrd3 hg3)
          have hl2 := heap_lt HSa4.out.b1
          obtain ⟨x0, x1, x2, x3, x4⟩ := row5 HS3.out.b0
          obtain ⟨y0, y1⟩ := row2 HS3.out.b1
          have f0 := frozen_of HS3.out.b0 0
          have f1 := frozen_of HS3.out.b0 1
          have f2 := frozen_of HS3.out.b0 2
          have f3 := frozen_of HS3.out.b0 3
          have f4 := frozen_of HS3.out.b0 4
          have g0 := frozen_of HS3.out.b1 0
          have g1 := frozen_of HS3.out.b1 1
          clear hpt hkeep hrd3 hg3
          go_wp2_with fail
          have hF := HS3.out.put (.int .i64 K) (.int .i64 N) (.string S) (.slice A' L' C') (.int .i64 D) (.int .i64 er) (.int .i64 po)
          have hk := stPF_keep w.heap.size w3 (.int .i64 K) (.int .i64 N) (.string S) (.slice A' L' C') (.int .i64 D) (.int .i64 er) (.int .i64 po)
          have hsz := (stPF_gb (R := 0) w.heap.size w3 (.int .i64 K) (.int .i64 N) (.string S) (.slice A' L' C') (.int .i64 D) (.int .i64 er) (.int .i64 po)).size
          change bodyPost _ _ _ _ _ (stPF w.heap.size w3 (.int .i64 K) (.int .i64 N) (.string S) (.slice A' L' C') (.int .i64 D) (.int .i64 er) (.int .i64 po))
          generalize stPF w.heap.size w3 (.int .i64 K) (.int .i64 N) (.string S) (.slice A' L' C') (.int .i64 D) (.int .i64 er) (.int .i64 po) = Wf at hF hk hsz ⊢
          obtain ⟨r0, r1, r2, r3, r4⟩ := row5 hF.b0
          obtain ⟨s0, s1⟩ := row2 hF.b1
          refine bodyPost_ret (v := .tuple #[.agg #[.int .i64 K, .int .i64 N, .string S, .slice A' L' C', .int .i64 D], fV er po]) (by simp [results, Tryd.results49, go_sem, r0, r1, r2, r3, r4, s0, s1]) rfl ?_
          rw [HRES.out]
          exact HKEEP.out w Wf r (fun b hb => hk b (by have := hb.1; omega) (by have := hb.1; omega)) (by omega) hsz hF.rd hF.gb
        | false =>
          go_wp2_with fail
          refine (HIS.out ⟨#[115, 97, 109, 101]⟩ _).mono ?_
          rintro e wi4 ⟨rfl, hbi4⟩
          rw [h4]
          have HSa4 := Lib.hid (HSa3.out.below hbi4)
          have HNa4 := Lib.hid ((hbi4.block _ (heap_lt HNa3.out)).trans HNa3.out)
          clear q0 q1 q2
          obtain ⟨q0, q1, q2⟩ := row3 HNa4.out
          have HRES : Hid (tightQ t0 pN pBk pNi pSa pPl = pPl) := Lib.hid (by unfold tightQ; simp [h1, h2, h3, h4])
          have HCL := Lib.hid (HPl.out wi4 HSa4.out.gb HSa4.out.rd)
          clear q0 q1 q2 h1 h2 h3 h4
          go_wp2_with fail
          refine HCL.out.mono ?_
          rintro e w3 hpt
          obtain ⟨K, N, S, A', L', C', D, er, po, a', rfl, hrd3, hg3, hkeep⟩ := hpt.open
          have HKEEP := Lib.hid hkeep
          have HS3 := Lib.hid (HSa4.out.step hrd3 hg3)
          have hl2 := heap_lt HSa4.out.b1
          obtain ⟨x0, x1, x2, x3, x4⟩ := row5 HS3.out.b0
          obtain ⟨y0, y1⟩ := row2 HS3.out.b1
          have f0 := frozen_of HS3.out.b0 0
          have f1 := frozen_of HS3.out.b0 1
          have f2 := frozen_of HS3.out.b0 2
          have f3 := frozen_of HS3.out.b0 3
          have f4 := frozen_of HS3.out.b0 4
          have g0 := frozen_of HS3.out.b1 0
          have g1 := frozen_of HS3.out.b1 1
          clear hpt hkeep hrd3 hg3
          go_wp2_with fail
          have hF := HS3.out.put (.int .i64 K) (.int .i64 N) (.string S) (.slice A' L' C') (.int .i64 D) (.int .i64 er) (.int .i64 po)
          have hk := stPF_keep w.heap.size w3 (.int .i64 K) (.int .i64 N) (.string S) (.slice A' L' C') (.int .i64 D) (.int .i64 er) (.int .i64 po)
          have hsz := (stPF_gb (R := 0) w.heap.size w3 (.int .i64 K) (.int .i64 N) (.string S) (.slice A' L' C') (.int .i64 D) (.int .i64 er) (.int .i64 po)).size
          change bodyPost _ _ _ _ _ (stPF w.heap.size w3 (.int .i64 K) (.int .i64 N) (.string S) (.slice A' L' C') (.int .i64 D) (.int .i64 er) (.int .i64 po))
          generalize stPF w.heap.size w3 (.int .i64 K) (.int .i64 N) (.string S) (.slice A' L' C') (.int .i64 D) (.int .i64 er) (.int .i64 po) = Wf at hF hk hsz ⊢
          obtain ⟨r0, r1, r2, r3, r4⟩ := row5 hF.b0
          obtain ⟨s0, s1⟩ := row2 hF.b1
          refine bodyPost_ret (v := .tuple #[.agg #[.int .i64 K, .int .i64 N, .string S, .slice A' L' C', .int .i64 D], fV er po]) (by simp [results, Tryd.results49, go_sem, r0, r1, r2, r3, r4, s0, s1]) rfl ?_
          rw [HRES.out]
          exact HKEEP.out w Wf r (fun b hb => hk b (by have := hb.1; omega) (by have := hb.1; omega)) (by omega) hsz hF.rd hF.gb
end Go.Proofs.YtdehpgdffafebaaDoor
namespace Go.Proofs.YtdehpgdffafebaaDoor
open Go.RowKit
set_option linter.unusedVariables false

section
variable {P : Program} {md : Region.Mode} {ops : Array Oper} {Q : Exit → Act → World → Prop}

/-- Each operation waits for earlier ones alone. -/
def earlyM (md : Region.Mode) (ops : Array Oper) : Bool := (List.range ops.size).all fun d => match ops[d]? with | some o => o.after.all fun e => !Region.binds md e || decide (e.on < d) | none => true
theorem ready_nilM {listed : Array Bool} (hs : listed.size = ops.size) (he : earlyM md ops = true) (h : Region.ready md ops listed = []) : ∀ d, d < ops.size → listed.getD d false = true := by
  intro d
  induction d using Nat.strongRecOn with
  | ind d ih =>
    intro hd
    have ho : ops[d]? = some ops[d] := Array.getElem?_eq_getElem hd
    have h1 := List.all_eq_true.1 he d (List.mem_range.2 hd)
    rw [ho] at h1
    have h2 : d ∉ Region.ready md ops listed := by rw [h]; simp
    unfold Region.ready at h2
    rw [List.mem_filter, ho] at h2
    have h3 : (ops[d].after.all fun e => !Region.binds md e || listed.getD e.on false) = true := by
      rw [Array.all_eq_true']
      intro e hm
      have h4 := Array.all_eq_true'.1 h1 e hm
      cases hbd : Region.binds md e with
      | false => rfl
      | true =>
        rw [hbd] at h4
        have h6 : e.on < d := by simpa using h4
        have h5 := ih e.on h6 (by omega)
        rw [h5]; simp
    simp only [Option.map_some, Option.getD_some, h3, Bool.and_true, List.mem_range] at h2
    cases hg : listed.getD d true with
    | false => exact absurd ⟨hd, by rw [hg]; rfl⟩ h2
    | true =>
      have hd' : d < listed.size := by omega
      unfold Array.getD at hg ⊢
      rw [dif_pos hd'] at hg ⊢
      exact hg

theorem wpAny_inv (I : Array Bool → Act → World → Prop) (he : earlyM md ops = true)
    (hstep : ∀ listed a w i, Down md ops listed → I listed a w → i ∈ Region.ready md ops listed → wpOp P ops Q i (I (listed.setIfInBounds i true)) a w)
    (hend : ∀ listed a w, I listed a w → (∀ d, d < ops.size → listed.getD d false = true) → Q .normal a w) :
    ∀ (fuel : Nat) (listed : Array Bool) (a : Act) (w : World), listed.size = ops.size → listed.toList.count false ≤ fuel → Down md ops listed → I listed a w → wpAny P md ops Q fuel listed a w
  | 0, listed, a, w, hs, hc, hd, h => by
    have h0 := ready_none (md := md) hs (by omega)
    exact ⟨h0, hend _ _ _ h (ready_nilM hs he h0)⟩
  | fuel + 1, listed, a, w, hs, hc, hd, h => ⟨fun h0 => hend _ _ _ h (ready_nilM hs he h0), fun i hi => wpOp_mono (fun a' w' h' => wpAny_inv I he hstep hend fuel _ a' w' (by simpa using hs) (by
      have := count_less (ready_open hi).2
      omega) (hd.step hi) h') (hstep _ _ _ _ hd h hi)⟩
theorem region_inv {id : Nat} {a : Act} {w : World} (hm : P.follows .mixedOrders = true) (I : Array Bool → Act → World → Prop) (he : earlyM .any ops = true)
    (hstep : ∀ listed a w i, Down .any ops listed → I listed a w → i ∈ Region.ready .any ops listed → wpOp P ops Q i (I (listed.setIfInBounds i true)) a w)
    (hend : ∀ listed a w, I listed a w → (∀ d, d < ops.size → listed.getD d false = true) → Q .normal a w) (h0 : I (Array.replicate ops.size false) a w.drew) : (Code.region id ops true).wp P Q a w :=
  wp_region_any hm (wpAny_inv I he hstep hend _ _ _ _ (by simp) (by simp) (Down.start _) h0)
/-- An operation of the region, in a state of it. -/
theorem wpOp_at {i : Nat} {o : Oper} {K : Act → World → Prop} {a : Act} {w : World} (ho : ops[i]? = some o) (hg : o.guard = none) (h : o.wp P a w K Q) : wpOp P ops Q i K a w := by
  unfold wpOp
  rw [ho]
  simp only
  rw [if_pos (by unfold Region.wanted; rw [hg])]
  exact .inl h
theorem wpOp_step {i : Nat} {o : Oper} {I' : Act → World → Prop} {a : Act} {w : World} (ho : ops[i]? = some o) (hg : o.guard = none) (h : ∀ K : Act → World → Prop, (∀ a' w', I' a' w' → K a' w') → o.wp P a w K Q) : wpOp P ops Q i I' a w :=
  wpOp_at ho hg (h _ (fun _ _ h => h))
theorem getD_self {listed : Array Bool} {i : Nat} (hi : i < listed.size) : (listed.setIfInBounds i true).getD i false = true := by
  simp only [Array.getD_eq_getD_getElem?]
  rw [Array.getElem?_setIfInBounds_self_of_lt hi]; rfl
end
/-- An operation that hands back a value. -/
theorem wp_val {P : Program} {o : Oper} {a : Act} {w : World} {K : Act → World → Prop} {Q : Exit → Act → World → Prop} (p : Op) (v : Value) (ho : o.op = p) (h : ∀ o : Oper, o.op = p → (execOp a.eval o).run P w = .ok (.value v) w) (hk : K (a.put o.dst v) w) : o.wp P a w K Q := by
  unfold Oper.wp
  rw [h o ho]
  exact hk
theorem wp_enter {P : Program} {o : Oper} {a : Act} {w : World} {K : Act → World → Prop} {Q : Exit → Act → World → Prop} (p : Op) (f : FuncId) (args : Array Value) (v : Value) (ho : o.op = p) (h : ∀ o : Oper, o.op = p → (execOp a.eval o).run P w = .ok (.enter f args) w) (hc : Calls P f args w fun x w' => x = .returned v ∧ Below w.heap.size w w') (hk : ∀ w', Below w.heap.size w w' → K (a.put o.dst v) w') : o.wp P a w K Q := by
  unfold Oper.wp
  rw [h o ho, Oper.upon_enter]
  refine hc.mono ?_
  rintro x w' ⟨rfl, hb⟩
  exact hk w' hb
theorem wp_enter0 {P : Program} {o : Oper} {a : Act} {w : World} {K : Act → World → Prop} {Q : Exit → Act → World → Prop} (p : Op) (f : FuncId) (args : Array Value) (v : Value) (ho : o.op = p) (h : ∀ o : Oper, o.op = p → (execOp a.eval o).run P w = .ok (.enter f args) w) (hc : Calls P f args w fun x w' => x = .returned v ∧ w = w') (hk : K (a.put o.dst v) w) : o.wp P a w K Q := by
  unfold Oper.wp
  rw [h o ho, Oper.upon_enter]
  refine hc.mono ?_
  rintro x w' ⟨rfl, rfl⟩
  exact hk
theorem wp_as {P : Program} {o : Oper} {a : Act} {w : World} {K : Act → World → Prop} {Q : Exit → Act → World → Prop} (x : Operand) (h : o.op = .assign x) (hk : K (a.put o.dst (a.eval x)) w) : o.wp P a w K Q := by
  unfold Oper.wp execOp
  rw [h]
  exact hk
theorem wp_mv {P : Program} {o : Oper} {a : Act} {w : World} {K : Act → World → Prop} {Q : Exit → Act → World → Prop} (x : Operand) (h : o.op = .move x) (hk : K (a.put o.dst (a.eval x)) w) : o.wp P a w K Q := by
  unfold Oper.wp execOp
  rw [h]
  exact hk
theorem wp_built {P : Program} {o : Oper} {a : Act} {w : World} {K : Act → World → Prop} {Q : Exit → Act → World → Prop} (t : TypeId) (parts : Array (Nat × Operand)) (vals : List (Nat × Value)) (cells : Array Value) (ho : o.op = .build t parts) (hm : (parts.map fun (i, x) => (i, a.eval x)) = vals.toArray) (hb : P.built t vals = some cells) (hk : K (a.put o.dst (.agg cells)) w) : o.wp P a w K Q := by
  unfold Oper.wp execOp
  simp only [ho, Sem.run_bind, hm, run_build w t vals.toArray cells hb, Result.andThen_ok]
  exact hk
theorem tget {T : Array Value} {i : Nat} {v : Value} (h : T[i]? = some v) : (⟨T, []⟩ : Act).eval (.tmp i) = v := by
  show T.getD i undef = v
  rw [Array.getD_eq_getD_getElem?, h]; rfl
theorem tgetD {T : Array Value} {i : Nat} {v : Value} (h : T[i]? = some v) : T.getD i undef = v := tget h

theorem setCells_heap {t : TypeId} (g : Nat) : ∀ (vs : List Value) (i : Nat) (W : World) (pre old : List Value), W.heap[g]? = some (.cells (pre ++ old).toArray t (0, 0)) → pre.length = i → old.length = vs.length → (W.setCells g i vs).heap[g]? = some (.cells (pre ++ vs).toArray t (0, 0))
  | [], i, W, pre, old, h, hp, ho => by
    have : old = [] := List.eq_nil_of_length_eq_zero ho
    subst this
    exact h
  | v :: r, i, W, pre, old, h, hp, ho => by
    obtain ⟨x, q, rfl⟩ : ∃ x q, old = x :: q := by
      cases old with
      | nil => simp at ho
      | cons x q => exact ⟨x, q, rfl⟩
    have h1 := heap_setCell_same W g i _ t v h
    have h2 : (pre ++ x :: q).toArray.setIfInBounds i v = ((pre ++ [v]) ++ q).toArray := by
      rw [List.setIfInBounds_toArray, List.set_append_right _ _ (by omega), ← hp, Nat.sub_self]
      simp
    rw [h2] at h1
    have h3 := setCells_heap g r (i + 1) (W.setCell ⟨g, i, none⟩ v) (pre ++ [v]) q h1 (by simp; omega) (by simpa using ho)
    have h4 : (pre ++ [v]) ++ r = pre ++ v :: r := by simp
    rw [h4] at h3
    exact h3
theorem set_all {t : TypeId} {W : World} {g : Nat} {cs : List Value} (h : W.heap[g]? = some (.cells cs.toArray t (0, 0))) (vs : List Value) (hl : cs.length = vs.length) : (W.setCells g 0 vs).heap[g]? = some (.cells vs.toArray t (0, 0)) :=
  setCells_heap g vs 0 W [] cs h rfl hl
theorem setCells_below {B : Nat} {w : World} (g : Nat) (hg : B ≤ g) : ∀ (vs : List Value) (i : Nat) (W : World), Below B w W → Below B w (W.setCells g i vs)
  | [], i, W, h => h
  | v :: r, i, W, h => setCells_below g hg r (i + 1) _ (h.setCell (p := ⟨g, i, none⟩) hg v)
theorem cell_at {W : World} {g : Nat} {cs : List Value} {t : TypeId} (h : W.heap[g]? = some (.cells cs.toArray t (0, 0))) (k : Nat) (v : Value) (hk : cs[k]? = some v) : W.cell? ⟨g, k, none⟩ = some v := by
  rw [cell_of_row W g k cs.toArray t (0, 0) h]
  simpa using hk

theorem there_row {W : World} {g : Nat} {cs : List Value} {t : TypeId} (h : W.heap[g]? = some (.cells cs.toArray t (0, 0))) {n : Nat} (hn : n = cs.length) : W.there g 0 n := fun j hj => by
  subst hn
  rw [Nat.zero_add]
  exact ⟨by rw [cell_at h j _ (List.getElem?_eq_getElem hj)]; rfl, frozen_of h j⟩
theorem range_row {W : World} {g : Nat} {cs : List Value} {t : TypeId} (h : W.heap[g]? = some (.cells cs.toArray t (0, 0))) : W.rangeAt g 0 cs := fun j v hv => by
  rw [Nat.zero_add]
  exact cell_at h j v hv
theorem setCells_other {g b : Nat} (hb : b ≠ g) : ∀ (vs : List Value) (i : Nat) (W : World), (W.setCells g i vs).heap[b]? = W.heap[b]?
  | [], i, W => rfl
  | v :: r, i, W => (setCells_other hb r (i + 1) (W.setCell ⟨g, i, none⟩ v)).trans (heap_setCell_other W ⟨g, i, none⟩ b v hb)
end Go.Proofs.YtdehpgdffafebaaDoor
