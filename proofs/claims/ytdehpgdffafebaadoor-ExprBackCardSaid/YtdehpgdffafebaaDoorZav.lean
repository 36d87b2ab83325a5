/- The reader: what is bound less tightly than a ! is: its loop. Conditions: the tokens are at most 4611686018427387903.
The reader, whole: what is bound so tightly, where nil and same are told. Conditions: the tokens are at most 4611686018427387902.
The reader: nil and same, and their Kids: plain facts. No function is walked here. Conditions: none. -/
import Derived.Test.YtdehpgdffafebaaDoorZau
namespace Go.Proofs.YtdehpgdffafebaaDoor
open Go.RowKit
set_option linter.unusedVariables false

/-- The blocks that what was read so far may lie in. -/
def BlP (w : World) (R p6 : Nat) (wr : World) (b : Nat) : Prop := w.heap.size + 2 ≤ b ∧ b < wr.heap.size ∧ b ≠ p6 ∧ b ≠ p6 + 1 ∧ b ≠ R
/-- What was read so far, in its two boxes. -/
def CurP (R B : Nat) (l : List Gt) (A : Option Addr) (c r : Nat) (w : World) (p6 : Nat) (wr : World) (pr : Pr) : Prop :=
  ∃ (a : Nat) (K N : Int) (S : ByteArray) (A' : Option Addr) (L' C' : Nat) (D er po : Int), Rd R B l A c a r wr ∧
    wr.heap[p6]? = some (.cells #[.int .i64 K, .int .i64 N, .string S, .slice A' L' C', .int .i64 D] 59 (0, 0)) ∧ wr.heap[p6 + 1]? = some (.cells #[.int .i64 er, .int .i64 po] 35 (0, 0)) ∧
    match pr with
    | .ok e d a0 => er = 0 ∧ po = 0 ∧ a0 = a ∧ D = (d : Int) ∧ a ≤ l.length ∧ d ≤ 20 ∧ InP (BlP w R p6 wr) wr e (.agg #[.int .i64 K, .int .i64 N, .string S, .slice A' L' C'])
    | .err e p => er = e ∧ po = p ∧ e ≠ 0 ∧ K = 0 ∧ N = 0 ∧ S = ⟨#[]⟩ ∧ A' = none ∧ L' = 0 ∧ C' = 0 ∧ D = 0
/-- The loop's head, with so much fuel. -/
structure BlAt (R B : Nat) (l : List Gt) (A : Option Addr) (c r : Nat) (w : World) (p6 : Nat) (b : Int) (fin : Pr) (f0 g : Nat) (wr : World) : Prop where
  le : g ≤ f0
  b0 : wr.heap[w.heap.size]? = some pt0
  b1 : wr.heap[w.heap.size + 1]? = some flt0
  gb : w.grownBy wr (some R)
  hR : R < w.heap.size
  p6b : w.heap.size + 2 ≤ p6
  p7b : p6 + 1 < wr.heap.size
  cur : ∃ pr, fin = loopP l g b r pr ∧ (∀ e d a0, pr = .ok e d a0 → 7 * (l.length - a0) + 1 ≤ g) ∧ CurP R B l A c r w p6 wr pr

/-- What was read so far, handed back. -/
theorem cur_ptp {R B : Nat} {l : List Gt} {A : Option Addr} {c r a : Nat} {w V Wf : World} {p6 : Nat} {K N : Int} {S : ByteArray} {A' : Option Addr} {L' C' : Nat} {D er po : Int} {pr : Pr}
    (hw : match pr with
      | .ok e d a0 => er = 0 ∧ po = 0 ∧ a0 = a ∧ D = (d : Int) ∧ a ≤ l.length ∧ d ≤ 20 ∧ InP (BlP w R p6 V) V e (.agg #[.int .i64 K, .int .i64 N, .string S, .slice A' L' C'])
      | .err e p => er = e ∧ po = p ∧ e ≠ 0 ∧ K = 0 ∧ N = 0 ∧ S = ⟨#[]⟩ ∧ A' = none ∧ L' = 0 ∧ C' = 0 ∧ D = 0)
    (hk : ∀ x, x ≠ w.heap.size → x ≠ w.heap.size + 1 → Wf.heap[x]? = V.heap[x]?) (hs : V.heap.size ≤ Wf.heap.size) (hrd : Rd R B l A c a r Wf) (hg : w.grownBy Wf (some R)) :
    PtP R B l A c r w pr (.returned (.tuple #[.agg #[.int .i64 K, .int .i64 N, .string S, .slice A' L' C', .int .i64 D], fV er po])) Wf := by
  cases pr with
  | ok e d a0 =>
    obtain ⟨rfl, rfl, rfl, rfl, _, _, hi⟩ := hw
    exact ⟨hg, K, N, S, A', L', C', rfl, hi.imp (fun x hx => ⟨by have := hx.1; omega, by have := hx.2.1; omega⟩) (fun x hx => hk x (by have := hx.1; omega) (by have := hx.1; omega)), hrd⟩
  | err e p =>
    obtain ⟨rfl, rfl, hn, rfl, rfl, rfl, rfl, rfl, rfl, rfl⟩ := hw
    exact ⟨hg, rfl, hn, a, hrd⟩

set_option maxRecDepth 100000 in
set_option maxHeartbeats 4000000 in
theorem bound_loop (f : Nat) (pr0 : Pr) (b : Int) (hb : 1 ≤ b ∧ b ≤ 4) (R B : Nat) (l : List Gt) (A : Option Addr) (c a r : Nat) (w : World) (h : Rd R B l A c a r w) (hl : l.length ≤ 4611686018427387903) (hSg : SignsIn w) (hBR : 0 ≠ R)
    (h0 : ∀ W, w.grownBy W (some R) → Rd R B l A c a r W → Calls Tryd.prog 28 #[pR R, .int .i64 (b + 1)] W (PtP R B l A c r W pr0)) (hok : Okk l a pr0) (hne : NE (loopP l f b r pr0)) (hen : ∀ e d a0, pr0 = .ok e d a0 → 7 * (l.length - a0) + 1 ≤ f)
    (hJ : ∀ (f' a' : Nat) W, f' < f → a' ≤ l.length → 7 * ((l.length - a' : Nat) : Int) + 6 ≤ (f' : Int) + b → w.grownBy W (some R) → Rd R B l A c a' r W → Calls Tryd.prog 28 #[pR R, .int .i64 (b + 1)] W (PtP R B l A c r W (boundP l f' (b + 1) a' r))) :
    Calls Tryd.prog 28 #[pR R, .int .i64 b] w (PtP R B l A c r w (loopP l f b r pr0)) := by
  have hS := Rs.new h
  obtain ⟨W0, hW0⟩ : ∃ W0, W0 = (w.alloc pt0).alloc flt0 := ⟨_, rfl⟩
  rw [← hW0] at hS
  have HS := Lib.hid hS
  have HCL := Lib.hid (h0 W0 hS.gb hS.rd)
  have HSG : Hid (∀ W, w.grownBy W (some R) → SignsIn W) := Lib.hid (fun W hg => by
    obtain ⟨tt, fr, h0⟩ := hSg
    exact ⟨tt, fr, (hg.block _ (heap_lt h0) (fun e => hBR (by cases e; rfl))).trans h0⟩)
  have HJ := Lib.hid hJ
  have HOK := Lib.hid hok
  have HEN := Lib.hid hen
  obtain ⟨fin, hfin⟩ : ∃ fin, fin = loopP l f b r pr0 := ⟨_, rfl⟩
  rw [← hfin] at hne ⊢
  have HFIN := Lib.hid hfin
  have HNE := Lib.hid hne
  obtain ⟨hb1, hb4⟩ := hb
  have hbb : decide (5 ≤ b) = false := by simp; omega
  have hRw : R < w.heap.size := hS.hR
  clear h hS h0 hJ hSg hfin hne hok hen
  go_enter Tryd.func28, Tryd.ntmps28
  go_upto_region 3 with fail
  rw [← hW0]
  clear hW0
  go_wp2_with fail
  refine HCL.out.mono ?_
  rintro e w3 hpt
  have hg3 := hpt.1
  have h03 := (hg3.block _ (heap_lt HS.out.b0) (fun e => by have := Option.some.inj e; omega)).trans HS.out.b0
  have h13 := (hg3.block _ (heap_lt HS.out.b1) (fun e => by have := Option.some.inj e; omega)).trans HS.out.b1
  have hgs := hg3.size
  have hl0 := heap_lt HS.out.b1
  have key : ∃ (K N : Int) (S : ByteArray) (A' : Option Addr) (L' C' : Nat) (D er po : Int), e = .returned (.tuple #[.agg #[.int .i64 K, .int .i64 N, .string S, .slice A' L' C', .int .i64 D], fV er po]) ∧
      ∀ W4, W4 = (w3.alloc (.cells #[.int .i64 K, .int .i64 N, .string S, .slice A' L' C', .int .i64 D] 59)).alloc (.cells #[.int .i64 er, .int .i64 po] 35) → CurP R B l A c r w w3.heap.size W4 pr0 := by
    cases pr0 with
    | ok e0 d0 a0 =>
      obtain ⟨_, K, N, S, A', L', C', rfl, hi, hr⟩ := hpt
      refine ⟨K, N, S, A', L', C', d0, 0, 0, rfl, ?_⟩
      rintro W4 hW4
      obtain ⟨hf1, hb4⟩ := two_at w3 (.cells #[.int .i64 K, .int .i64 N, .string S, .slice A' L' C', .int .i64 (d0 : Int)] 59) #[.int .i64 0, .int .i64 0] 35
      have hp1 := (Below.heap_alloc (w3.alloc (.cells #[.int .i64 K, .int .i64 N, .string S, .slice A' L' C', .int .i64 (d0 : Int)] 59)) (.cells #[.int .i64 0, .int .i64 0] 35) _ (by simp)).trans (heap_new w3 (.cells #[.int .i64 K, .int .i64 N, .string S, .slice A' L' C', .int .i64 (d0 : Int)] 59))
      rw [← hW4] at hf1 hb4 hp1
      obtain ⟨k1, k2, k3⟩ := HOK.out _ _ _ rfl
      have hs4 := hb4.size
      exact ⟨a0, K, N, S, A', L', C', d0, 0, 0, hr.below hb4, hp1, hf1, rfl, rfl, rfl, rfl, k2, k3, hi.imp (fun x hx => ⟨by have := hx.1; omega, by have := hx.2; omega, by have := hx.2; omega, by have := hx.2; omega, by have := hx.1; omega⟩) (fun x hx => hb4.block x hx.2)⟩
    | err e0 p0 =>
      obtain ⟨_, rfl, hn, a', hr⟩ := hpt
      refine ⟨0, 0, ⟨#[]⟩, none, 0, 0, 0, e0, p0, rfl, ?_⟩
      rintro W4 hW4
      obtain ⟨hf1, hb4⟩ := two_at w3 (.cells #[.int .i64 0, .int .i64 0, .string ⟨#[]⟩, .slice none 0 0, .int .i64 0] 59) #[.int .i64 e0, .int .i64 p0] 35
      have hp1 := (Below.heap_alloc (w3.alloc (.cells #[.int .i64 0, .int .i64 0, .string ⟨#[]⟩, .slice none 0 0, .int .i64 0] 59)) (.cells #[.int .i64 e0, .int .i64 p0] 35) _ (by simp)).trans (heap_new w3 (.cells #[.int .i64 0, .int .i64 0, .string ⟨#[]⟩, .slice none 0 0, .int .i64 0] 59))
      rw [← hW4] at hf1 hb4 hp1
      exact ⟨a', 0, 0, ⟨#[]⟩, none, 0, 0, 0, e0, p0, hr.below hb4, hp1, hf1, rfl, rfl, hn, rfl, rfl, rfl, rfl, rfl, rfl, rfl⟩
  obtain ⟨K, N, S, A', L', C', D, er, po, rfl, hcur⟩ := key
  obtain ⟨W4, hW4⟩ : ∃ W4, W4 = (w3.alloc (.cells #[.int .i64 K, .int .i64 N, .string S, .slice A' L' C', .int .i64 D] 59)).alloc (.cells #[.int .i64 er, .int .i64 po] 35) := ⟨_, rfl⟩
  have hcur := hcur W4 hW4
  have hb34 : Below w3.heap.size w3 W4 := by rw [hW4]; exact (two_at w3 _ _ _).2
  have hs4 : W4.heap.size = w3.heap.size + 1 + 1 := by rw [hW4]; simp
  obtain ⟨p6, hp6⟩ : ∃ p6, p6 = w3.heap.size := ⟨_, rfl⟩
  have hp6w : w.heap.size + 2 ≤ p6 := by omega
  have HAT : Hid (BlAt R B l A c r w p6 b fin f f W4) := Lib.hid ⟨Nat.le_refl _, (hb34.block _ (heap_lt h03)).trans h03, (hb34.block _ (heap_lt h13)).trans h13, (HS.out.gb.trans hg3).trans (gb_below hb34 _), hRw, hp6w, by omega, pr0, HFIN.out, HEN.out, by rw [hp6]; exact hcur⟩
  go_wp2_with fail
  rw [← hW4, ← hp6]
  clear hW4 hp6 hcur hb34 hs4 h03 h13 hgs hl0 hpt hg3
  go_loopg [] f (fun g wr => Hid (BlAt R B l A c r w p6 b fin f g wr))
  case atStart => exact HAT
  case round =>
    obtain ⟨pr, hfin, hen, hcur⟩ := hrel.out.cur
    have HENR := Lib.hid hen
    have HREL := hrel
    obtain ⟨a1, K1, N1, S1, A1, L1, C1, D1, er1, po1, hrd1, hx1, hy1, hways⟩ := hcur
    have HSV : Hid (Rs0 R B l A c a1 r w wr) := Lib.hid ⟨hrel.out.b0, hrel.out.b1, hrd1, hrel.out.gb, hrel.out.hR⟩
    have hp7 := hrel.out.p7b
    have HX := Lib.hid hx1
    have HY := Lib.hid hy1
    have HFI := Lib.hid hfin
    clear hfin hrd1 hx1 hy1 hen
    cases pr with
    | err e p =>
      have HW := Lib.hid hways
      have HFE : Hid (fin = .err e p) := Lib.hid (by
        have h1 := HFI.out
        cases gk with
        | zero =>
          unfold loopP at h1
          exact absurd rfl (HNE.out 0 0 h1)
        | succ gk => unfold loopP at h1; exact h1)
      have her : (er1 == 0) = false := by
        have := hways.2.2.1
        have h2 := hways.1
        simp; omega
      clear hways
      obtain ⟨p0, p1, p2, p3, p4⟩ := row5 HX.out
      obtain ⟨q0, q1⟩ := row2 HY.out
      obtain ⟨x0, x1, x2, x3, x4⟩ := row5 HSV.out.b0
      obtain ⟨y0, y1⟩ := row2 HSV.out.b1
      have f0 := frozen_of HSV.out.b0 0
      have f1 := frozen_of HSV.out.b0 1
      have f2 := frozen_of HSV.out.b0 2
      have f3 := frozen_of HSV.out.b0 3
      have f4 := frozen_of HSV.out.b0 4
      have g0 := frozen_of HSV.out.b1 0
      have g1 := frozen_of HSV.out.b1 1
      have n0 : ¬ w.heap.size = p6 := by omega
      have n1 : ¬ w.heap.size = p6 + 1 := by omega
      have n2 : ¬ w.heap.size + 1 = p6 := by omega
      have n4 : ¬ p6 = w.heap.size := by omega
      have n5 : ¬ p6 + 1 = w.heap.size := by omega
      have n6 : ¬ p6 = w.heap.size + 1 := by omega
      have n7 : ¬ p6 + 1 = w.heap.size + 1 := by omega
      go_upto_region 9 with fail
      go_region
      go_wp2_with fail
      have hF := (HSV.out.put (.int .i64 K1) (.int .i64 N1) (.string S1) (.slice A1 L1 C1) (.int .i64 D1) (.int .i64 er1) (.int .i64 po1)).below (drew_below _)
      have hk := fun (b : Nat) (h0 : b ≠ w.heap.size) (h1 : b ≠ w.heap.size + 1) => (drew_heap (stPF w.heap.size wr (.int .i64 K1) (.int .i64 N1) (.string S1) (.slice A1 L1 C1) (.int .i64 D1) (.int .i64 er1) (.int .i64 po1)) b).trans (stPF_keep w.heap.size wr (.int .i64 K1) (.int .i64 N1) (.string S1) (.slice A1 L1 C1) (.int .i64 D1) (.int .i64 er1) (.int .i64 po1) b h0 h1)
      have hsz := ((stPF_gb (R := 0) w.heap.size wr (.int .i64 K1) (.int .i64 N1) (.string S1) (.slice A1 L1 C1) (.int .i64 D1) (.int .i64 er1) (.int .i64 po1)).drew).size
      change bodyPost _ _ _ _ _ (World.drew (stPF w.heap.size wr (.int .i64 K1) (.int .i64 N1) (.string S1) (.slice A1 L1 C1) (.int .i64 D1) (.int .i64 er1) (.int .i64 po1)))
      generalize World.drew (stPF w.heap.size wr (.int .i64 K1) (.int .i64 N1) (.string S1) (.slice A1 L1 C1) (.int .i64 D1) (.int .i64 er1) (.int .i64 po1)) = Wf at hF hk hsz ⊢
      obtain ⟨r0, r1, r2, r3, r4⟩ := row5 hF.b0
      obtain ⟨s0, s1⟩ := row2 hF.b1
      refine bodyPost_ret (v := .tuple #[.agg #[.int .i64 K1, .int .i64 N1, .string S1, .slice A1 L1 C1, .int .i64 D1], fV er1 po1]) (by simp [results, Tryd.results28, go_sem, r0, r1, r2, r3, r4, s0, s1]) rfl ?_
      rw [HFE.out]
      exact cur_ptp (p6 := p6) (V := wr) HW.out hk hsz hF.rd hF.gb
    | ok e d a0 =>
      have hen1 := HENR.out e d a0 rfl
      obtain ⟨rfl, rfl, rfl, rfl, hal, hd20, hi⟩ := hways
      have HI := Lib.hid hi
      clear hi
      have HTK := Lib.hid (rd_token R B l A c a0 r wr HSV.out.rd (by omega))
      obtain ⟨t, ht⟩ : ∃ t, t = tokN l a0 := ⟨_, rfl⟩
      have HT := Lib.hid ht
      rw [← ht] at HTK
      clear ht
      obtain ⟨p0, p1, p2, p3, p4⟩ := row5 HX.out
      obtain ⟨q0, q1⟩ := row2 HY.out
      go_wp2_with fail
      refine HTK.out.mono ?_
      rintro x w5 ⟨rfl, hb5⟩
      have HG5 := Lib.hid (HSV.out.gb.trans (gb_below hb5 _))
      have HSA := Lib.hid (signAt_any t b w5 (HSG.out w5 HG5.out))
      go_wp2_with fail
      refine HSA.out.mono ?_
      rintro x w6 ⟨rfl, hb6⟩
      have hb56 := hb5.trans (hb6.mono hb5.size)
      have hkey : ∀ (v0 v1 v2 v3 : Value) W7, W7 = w6.alloc (.cells #[v0, v1, v2, v3] 70) → Below wr.heap.size wr W7 := fun v0 v1 v2 v3 W7 hW7 => by
        rw [hW7]; exact hb56.trans ((boxed w6 _).mono hb56.size)
      have hs56 := hb56.size
      clear p0 p1 p2 p3 p4 q0 q1 hb5 hb6
      cases hsn : signAt t b with
      | none =>
        have hsv : ((none : Option Sg).getD sg0).val = .agg #[.string ⟨#[]⟩, .int .i64 0, .int .i64 0, .bool false] := rfl
        rw [hsv]
        have hn7 := heap_new w6 (.cells #[.string ⟨#[]⟩, .int .i64 0, .int .i64 0, .bool false] 70)
        obtain ⟨W7, hW7⟩ : ∃ W7, W7 = w6.alloc (.cells #[.string ⟨#[]⟩, .int .i64 0, .int .i64 0, .bool false] 70) := ⟨_, rfl⟩
        have hb7 := hkey _ _ _ _ W7 hW7
        have hbs7 := hb7.size
        have HSV7 := Lib.hid (HSV.out.below hb7)
        have HX7 := Lib.hid ((hb7.block _ (heap_lt HX.out)).trans HX.out)
        have HY7 := Lib.hid ((hb7.block _ (heap_lt HY.out)).trans HY.out)
        have HW7 : Hid ((0 : Int) = 0 ∧ (0 : Int) = 0 ∧ a0 = a0 ∧ (d : Int) = (d : Int) ∧ a0 ≤ l.length ∧ d ≤ 20 ∧ InP (BlP w R p6 W7) W7 e (.agg #[.int .i64 K1, .int .i64 N1, .string S1, .slice A1 L1 C1])) :=
          Lib.hid ⟨rfl, rfl, rfl, rfl, hal, hd20, HI.out.imp (fun x hx => ⟨hx.1, by have := hx.2.1; omega, hx.2.2⟩) (fun x hx => hb7.block x hx.2.1)⟩
        have HFE : Hid (fin = .ok e d a0) := Lib.hid (by
          have h1 := HFI.out
          cases gk with
          | zero =>
            unfold loopP at h1
            exact absurd rfl (HNE.out 0 0 h1)
          | succ gk =>
            unfold loopP at h1
            rw [← HT.out, hsn] at h1
            exact h1)
        clear hkey hsn hsv hb7 hb56
        go_upto_region 6 with fail
        rw [← hW7]
        clear hW7 hn7
        obtain ⟨p0, p1, p2, p3, p4⟩ := row5 HX7.out
        obtain ⟨q0, q1⟩ := row2 HY7.out
        obtain ⟨x0, x1, x2, x3, x4⟩ := row5 HSV7.out.b0
        obtain ⟨y0, y1⟩ := row2 HSV7.out.b1
        have f0 := frozen_of HSV7.out.b0 0
        have f1 := frozen_of HSV7.out.b0 1
        have f2 := frozen_of HSV7.out.b0 2
        have f3 := frozen_of HSV7.out.b0 3
        have f4 := frozen_of HSV7.out.b0 4
        have g0 := frozen_of HSV7.out.b1 0
        have g1 := frozen_of HSV7.out.b1 1
        have n0 : ¬ w.heap.size = p6 := by omega
        have n1 : ¬ w.heap.size = p6 + 1 := by omega
        have n2 : ¬ w.heap.size + 1 = p6 := by omega
        have n4 : ¬ p6 = w.heap.size := by omega
        have n5 : ¬ p6 + 1 = w.heap.size := by omega
        have n6 : ¬ p6 = w.heap.size + 1 := by omega
        have n7 : ¬ p6 + 1 = w.heap.size + 1 := by omega
        go_upto_region 9 with fail
        go_region
        go_wp2_with fail
        have hF := (HSV7.out.put (.int .i64 K1) (.int .i64 N1) (.string S1) (.slice A1 L1 C1) (.int .i64 (d : Int)) (.int .i64 0) (.int .i64 0)).below (drew_below _)
        have hk := fun (b : Nat) (h0 : b ≠ w.heap.size) (h1 : b ≠ w.heap.size + 1) => (drew_heap (stPF w.heap.size W7 (.int .i64 K1) (.int .i64 N1) (.string S1) (.slice A1 L1 C1) (.int .i64 (d : Int)) (.int .i64 0) (.int .i64 0)) b).trans (stPF_keep w.heap.size W7 (.int .i64 K1) (.int .i64 N1) (.string S1) (.slice A1 L1 C1) (.int .i64 (d : Int)) (.int .i64 0) (.int .i64 0) b h0 h1)
        have hsz := ((stPF_gb (R := 0) w.heap.size W7 (.int .i64 K1) (.int .i64 N1) (.string S1) (.slice A1 L1 C1) (.int .i64 (d : Int)) (.int .i64 0) (.int .i64 0)).drew).size
        change bodyPost _ _ _ _ _ (World.drew (stPF w.heap.size W7 (.int .i64 K1) (.int .i64 N1) (.string S1) (.slice A1 L1 C1) (.int .i64 (d : Int)) (.int .i64 0) (.int .i64 0)))
        generalize World.drew (stPF w.heap.size W7 (.int .i64 K1) (.int .i64 N1) (.string S1) (.slice A1 L1 C1) (.int .i64 (d : Int)) (.int .i64 0) (.int .i64 0)) = Wf at hF hk hsz ⊢
        obtain ⟨r0, r1, r2, r3, r4⟩ := row5 hF.b0
        obtain ⟨s0, s1⟩ := row2 hF.b1
        refine bodyPost_ret (v := .tuple #[.agg #[.int .i64 K1, .int .i64 N1, .string S1, .slice A1 L1 C1, .int .i64 (d : Int)], fV 0 0]) (by simp [results, Tryd.results28, go_sem, r0, r1, r2, r3, r4, s0, s1]) rfl ?_
        rw [HFE.out]
        exact cur_ptp (p6 := p6) (V := W7) (pr := .ok e d a0) (by have h9 := HW7.out; exact ⟨rfl, rfl, rfl, rfl, hal, hd20, h9.2.2.2.2.2.2⟩) hk hsz hF.rd hF.gb
      | some s =>
        obtain ⟨hin, hsb⟩ := signAt_in (l := l) (a := a0) (by rw [← HT.out]; exact hsn)
        obtain ⟨sx, sk, sb, sc⟩ := s
        have hsb : sb = b := hsb
        subst hsb
        have hsv : ((some (⟨sx, sk, sb, sc⟩ : Sg)).getD sg0).val = .agg #[.string sx, .int .i64 sk, .int .i64 sb, .bool sc] := rfl
        rw [hsv]
        have hn7 := heap_new w6 (.cells #[.string sx, .int .i64 sk, .int .i64 sb, .bool sc] 70)
        obtain ⟨W7, hW7⟩ : ∃ W7, W7 = w6.alloc (.cells #[.string sx, .int .i64 sk, .int .i64 sb, .bool sc] 70) := ⟨_, rfl⟩
        rw [← hW7] at hn7
        have hb7 := hkey _ _ _ _ W7 hW7
        have hbs7 := hb7.size
        have hl7 := heap_lt hn7
        have HSV7 := Lib.hid (HSV.out.below hb7)
        have HX7 := Lib.hid ((hb7.block _ (heap_lt HX.out)).trans HX.out)
        have HY7 := Lib.hid ((hb7.block _ (heap_lt HY.out)).trans HY.out)
        have HI7 : Hid (InP (BlP w R p6 W7) W7 e (.agg #[.int .i64 K1, .int .i64 N1, .string S1, .slice A1 L1 C1])) :=
          Lib.hid (HI.out.imp (fun x hx => ⟨hx.1, by have := hx.2.1; omega, hx.2.2⟩) (fun x hx => hb7.block x hx.2.1))
        obtain ⟨g', rfl⟩ : ∃ g', gk = g' + 1 := by
          cases gk with
          | zero =>
            have h1 := HFI.out
            unfold loopP at h1
            exact absurd rfl (HNE.out 0 0 h1)
          | succ gk => exact ⟨gk, rfl⟩
        obtain ⟨prj, hprj⟩ : ∃ prj, prj = joinQ (tokN l a0) sk e d (boundP l g' (sb + 1) (a0 + 1) r) := ⟨_, rfl⟩
        have HFE : Hid (fin = if sc = true then loopP l g' sb r prj else prj) := Lib.hid (by
          have h1 := HFI.out
          unfold loopP at h1
          rw [← HT.out, hsn] at h1
          rw [hprj, ← HT.out]
          exact h1)
        have hle := HREL.out.le
        have HJN := Lib.hid (join_any (boundP l g' (sb + 1) (a0 + 1) r) (BlP w R p6 W7) e K1 N1 S1 A1 L1 C1 d sx sk sb sc R B l A c a0 r W7 HSV7.out.rd (by omega) HI7.out (fun x hx => ⟨hx.2.1, hx.2.2.2.2⟩) (by omega) (fun e2 d2 a2 h2 => by have := ((all_ok l g').1 _ _ _ e2 d2 a2 h2).2.2; omega) ⟨by omega, by omega⟩
          (fun W hg hr => HJ.out g' (a0 + 1) W (by omega) (by omega) (by omega) (HSV7.out.gb.trans hg) hr))
        rw [← hprj] at HJN
        have HOKJ : Hid (Okk l a0 prj) := Lib.hid (by rw [hprj]; exact (join_ok ((all_ok l g').1 _ _ _)).le (by omega))
        clear hkey hsn hsv hb7 hb56 hprj
        obtain ⟨p0, p1, p2, p3, p4⟩ := row5 HX7.out
        obtain ⟨q0, q1⟩ := row2 HY7.out
        obtain ⟨z0, z1, z2, z3⟩ := row4 hn7
        have HN7 := Lib.hid hn7
        go_upto_region 7 with fail
        rw [← hW7]
        clear hW7 hn7
        go_wp2_with fail
        refine HJN.out.mono ?_
        rintro x w8 hpt
        have hg8 := hpt.1
        have hgs8 := hg8.size
        have hx8 := (hg8.block _ (heap_lt HX7.out) (fun e => by have := Option.some.inj e; omega)).trans HX7.out
        have hy8 := (hg8.block _ (heap_lt HY7.out) (fun e => by have := Option.some.inj e; omega)).trans HY7.out
        have hn8 := (hg8.block _ (heap_lt HN7.out) (fun e => by have := Option.some.inj e; omega)).trans HN7.out
        clear p0 p1 p2 p3 p4 q0 q1 z0 z1 z2 z3
        have key : ∃ (K N : Int) (S : ByteArray) (A' : Option Addr) (L' C' : Nat) (D er po : Int) (a' : Nat), x = .returned (.tuple #[.agg #[.int .i64 K, .int .i64 N, .string S, .slice A' L' C', .int .i64 D], fV er po]) ∧ Rd R B l A c a' r w8 ∧
            ∀ V, w8.heap.size ≤ V.heap.size → (∀ x, x ≠ p6 → x ≠ p6 + 1 → V.heap[x]? = w8.heap[x]?) → (match prj with
              | .ok e d a0 => er = 0 ∧ po = 0 ∧ a0 = a' ∧ D = (d : Int) ∧ a' ≤ l.length ∧ d ≤ 20 ∧ InP (BlP w R p6 V) V e (.agg #[.int .i64 K, .int .i64 N, .string S, .slice A' L' C'])
              | .err e p => er = e ∧ po = p ∧ e ≠ 0 ∧ K = 0 ∧ N = 0 ∧ S = ⟨#[]⟩ ∧ A' = none ∧ L' = 0 ∧ C' = 0 ∧ D = 0) := by
          cases prj with
          | ok e2 d2 a2 =>
            obtain ⟨_, K, N, S, A', L', C', rfl, hi, hr⟩ := hpt
            obtain ⟨k1, k2, k3⟩ := HOKJ.out _ _ _ rfl
            refine ⟨K, N, S, A', L', C', d2, 0, 0, a2, rfl, hr, fun V hV hk => ⟨rfl, rfl, rfl, rfl, k2, k3, hi.imp (fun x hx => ?_) (fun x hx => ?_)⟩⟩
            · rcases hx with hx | hx
              · exact ⟨hx.1, by have := hx.2.1; omega, hx.2.2⟩
              · have := hx.1
                have := hx.2
                exact ⟨by omega, by omega, by omega, by omega, by omega⟩
            · rcases hx with hx | hx
              · exact hk x hx.2.2.1 hx.2.2.2.1
              · have := hx.1
                exact hk x (by omega) (by omega)
          | err e2 p2 =>
            obtain ⟨_, rfl, hn, a', hr⟩ := hpt
            exact ⟨0, 0, ⟨#[]⟩, none, 0, 0, 0, e2, p2, a', rfl, hr, fun V hV hk => ⟨rfl, rfl, hn, rfl, rfl, rfl, rfl, rfl, rfl, rfl⟩⟩
        obtain ⟨K2, N2, S2, A2, L2, C2, D2, er2, po2, a2, rfl, hr8, hways⟩ := key
        have HS8 := HSV7.out.step hr8 hg8
        have hrow9 := stPF_rows hx8 hy8 (.int .i64 K2) (.int .i64 N2) (.string S2) (.slice A2 L2 C2) (.int .i64 D2) (.int .i64 er2) (.int .i64 po2)
        have hkeep9 := stPF_keep p6 w8 (.int .i64 K2) (.int .i64 N2) (.string S2) (.slice A2 L2 C2) (.int .i64 D2) (.int .i64 er2) (.int .i64 po2)
        have hbl9 := stPF_gb (R := 0) p6 w8 (.int .i64 K2) (.int .i64 N2) (.string S2) (.slice A2 L2 C2) (.int .i64 D2) (.int .i64 er2) (.int .i64 po2)
        have hgb9 := (HS8.gb.andThen (gb_set5 w8 p6 (.int .i64 K2) (.int .i64 N2) (.string S2) (.slice A2 L2 C2) (.int .i64 D2)) (fun j e => by cases e; exact .inl (by omega))).andThen (gb_set2 _ (p6 + 1) (.int .i64 er2) (.int .i64 po2)) (fun j e => by cases e; exact .inl (by omega))
        have hgb9 : w.grownBy (stPF p6 w8 (.int .i64 K2) (.int .i64 N2) (.string S2) (.slice A2 L2 C2) (.int .i64 D2) (.int .i64 er2) (.int .i64 po2)) (some R) := hgb9
        have p0 := row5 hx8
        obtain ⟨x0, x1, x2, x3, x4⟩ := p0
        obtain ⟨y0, y1⟩ := row2 hy8
        have f0 := frozen_of hx8 0
        have f1 := frozen_of hx8 1
        have f2 := frozen_of hx8 2
        have f3 := frozen_of hx8 3
        have f4 := frozen_of hx8 4
        have g0 := frozen_of hy8 0
        have g1 := frozen_of hy8 1
        go_upto_region 8 with fail
        change Code.wp _ _ _ _ (stPF p6 w8 (.int .i64 K2) (.int .i64 N2) (.string S2) (.slice A2 L2 C2) (.int .i64 D2) (.int .i64 er2) (.int .i64 po2))
        obtain ⟨V9, hV9⟩ : ∃ V, V = stPF p6 w8 (.int .i64 K2) (.int .i64 N2) (.string S2) (.slice A2 L2 C2) (.int .i64 D2) (.int .i64 er2) (.int .i64 po2) := ⟨_, rfl⟩
        rw [← hV9] at hrow9 hkeep9 hbl9 hgb9 ⊢
        clear hV9 x0 x1 x2 x3 x4 y0 y1 f0 f1 f2 f3 f4 g0 g1
        have hw9 := hways V9 hbl9.size hkeep9
        have hbs9 := hbl9.size
        have hlx := heap_lt hy8
        have hB : B ≤ R := hr8.hB
        have hr9 : Rd R B l A c a2 r V9 := ⟨(hkeep9 R (by omega) (by omega)).trans hr8.row, hr8.toks.below (hbl9.mono (by omega)), hr8.hB, hr8.len, hr8.cap⟩
        have HS9 : Hid (Rs0 R B l A c a2 r w V9) := Lib.hid ⟨(hkeep9 _ (by omega) (by omega)).trans HS8.b0, (hkeep9 _ (by omega) (by omega)).trans HS8.b1, hr9, hgb9, hRw⟩
        have HX9 := Lib.hid hrow9.1
        have HY9 := Lib.hid hrow9.2
        have HW9 := Lib.hid hw9
        obtain ⟨z0, z1, z2, z3⟩ := row4 ((hkeep9 _ (by omega) (by omega)).trans hn8)
        clear hways hrow9 hkeep9 hbl9 hgb9 hw9 HS8 hx8 hy8 hn8 hr8 hr9 hg8 hpt
        cases sc with
        | true =>
          have HFE2 : Hid (fin = loopP l g' sb r prj) := Lib.hid (by rw [HFE.out]; rfl)
          go_wp2_with fail
          go_roundg g'
          case rel => exact Lib.hid ⟨by omega, HS9.out.b0, HS9.out.b1, HS9.out.gb, hRw, hp6w, by omega, prj, HFE2.out, fun e3 d3 a3 h3 => by have h4 := HOKJ.out e3 d3 a3 h3; omega, a2, K2, N2, S2, A2, L2, C2, D2, er2, po2, HS9.out.rd, HX9.out, HY9.out, HW9.out⟩
          case measure => omega
        | false =>
          have HFE2 : Hid (fin = prj) := Lib.hid (by rw [HFE.out]; rfl)
          obtain ⟨p0, p1, p2, p3, p4⟩ := row5 HX9.out
          obtain ⟨q0, q1⟩ := row2 HY9.out
          obtain ⟨x0, x1, x2, x3, x4⟩ := row5 HS9.out.b0
          obtain ⟨y0, y1⟩ := row2 HS9.out.b1
          have f0 := frozen_of HS9.out.b0 0
          have f1 := frozen_of HS9.out.b0 1
          have f2 := frozen_of HS9.out.b0 2
          have f3 := frozen_of HS9.out.b0 3
          have f4 := frozen_of HS9.out.b0 4
          have g0 := frozen_of HS9.out.b1 0
          have g1 := frozen_of HS9.out.b1 1
          have n0 : ¬ w.heap.size = p6 := by omega
          have n1 : ¬ w.heap.size = p6 + 1 := by omega
          have n2 : ¬ w.heap.size + 1 = p6 := by omega
          have n4 : ¬ p6 = w.heap.size := by omega
          have n5 : ¬ p6 + 1 = w.heap.size := by omega
          have n6 : ¬ p6 = w.heap.size + 1 := by omega
          have n7 : ¬ p6 + 1 = w.heap.size + 1 := by omega
          go_upto_region 9 with fail
          go_region
          go_wp2_with fail
          have hF := (HS9.out.put (.int .i64 K2) (.int .i64 N2) (.string S2) (.slice A2 L2 C2) (.int .i64 D2) (.int .i64 er2) (.int .i64 po2)).below (drew_below _)
          have hk := fun (b : Nat) (h0 : b ≠ w.heap.size) (h1 : b ≠ w.heap.size + 1) => (drew_heap (stPF w.heap.size V9 (.int .i64 K2) (.int .i64 N2) (.string S2) (.slice A2 L2 C2) (.int .i64 D2) (.int .i64 er2) (.int .i64 po2)) b).trans (stPF_keep w.heap.size V9 (.int .i64 K2) (.int .i64 N2) (.string S2) (.slice A2 L2 C2) (.int .i64 D2) (.int .i64 er2) (.int .i64 po2) b h0 h1)
          have hsz := ((stPF_gb (R := 0) w.heap.size V9 (.int .i64 K2) (.int .i64 N2) (.string S2) (.slice A2 L2 C2) (.int .i64 D2) (.int .i64 er2) (.int .i64 po2)).drew).size
          change bodyPost _ _ _ _ _ (World.drew (stPF w.heap.size V9 (.int .i64 K2) (.int .i64 N2) (.string S2) (.slice A2 L2 C2) (.int .i64 D2) (.int .i64 er2) (.int .i64 po2)))
          generalize World.drew (stPF w.heap.size V9 (.int .i64 K2) (.int .i64 N2) (.string S2) (.slice A2 L2 C2) (.int .i64 D2) (.int .i64 er2) (.int .i64 po2)) = Wf at hF hk hsz ⊢
          obtain ⟨r0, r1, r2, r3, r4⟩ := row5 hF.b0
          obtain ⟨s0, s1⟩ := row2 hF.b1
          refine bodyPost_ret (v := .tuple #[.agg #[.int .i64 K2, .int .i64 N2, .string S2, .slice A2 L2 C2, .int .i64 D2], fV er2 po2]) (by simp [results, Tryd.results28, go_sem, r0, r1, r2, r3, r4, s0, s1]) rfl ?_
          rw [HFE2.out]
          exact cur_ptp (p6 := p6) (V := V9) HW9.out hk hsz hF.rd hF.gb
end Go.Proofs.YtdehpgdffafebaaDoor
namespace Go.Proofs.YtdehpgdffafebaaDoor
open Go.RowKit
set_option linter.unusedVariables false

theorem signs_gb {w W : World} {R : Nat} (h : SignsIn w) (hg : w.grownBy W (some R)) (hR : 0 ≠ R) : SignsIn W := by
  obtain ⟨tt, fr, h0⟩ := h
  exact ⟨tt, fr, (hg.block _ (heap_lt h0) (fun e => hR (by cases e; rfl))).trans h0⟩
theorem plains_gb {w W : World} {R : Nat} (h : PlainsIn w) (hg : w.grownBy W (some R)) (hR : 1 ≠ R) : PlainsIn W := by
  obtain ⟨tt, fr, h0⟩ := h
  exact ⟨tt, fr, (hg.block _ (heap_lt h0) (fun e => hR (by cases e; rfl))).trans h0⟩
/-- A reader at a place, its tables in memory. -/
structure RdAll (R B : Nat) (l : List Gt) (A : Option Addr) (c a r : Nat) (w : World) : Prop where
  rd : Rd R B l A c a r w
  sg : SignsIn w
  pl : PlainsIn w
  hsg : 0 ≠ R
  hpl : 1 ≠ R
theorem RdAll.to {R B : Nat} {l : List Gt} {A : Option Addr} {c a r a' r' : Nat} {w W : World} (h : RdAll R B l A c a r w) (hg : w.grownBy W (some R)) (hr : Rd R B l A c a' r' W) : RdAll R B l A c a' r' W :=
  ⟨hr, signs_gb h.sg hg h.hsg, plains_gb h.pl hg h.hpl, h.hsg, h.hpl⟩

theorem bound_all (l : List Gt) (hl : l.length ≤ 4611686018427387902)
    (hNi : ∀ R B A c a r w, RdAll R B l A c a r w → a ≤ l.length → Calls Tryd.prog 64 #[pR R, .int .i64 13] w (PtP R B l A c r w (nilP l a)))
    (hSa : ∀ R B A c a r w, RdAll R B l A c a r w → a ≤ l.length → Calls Tryd.prog 64 #[pR R, .int .i64 14] w (PtP R B l A c r w (sameP l a))) :
    ∀ f : Nat, (∀ (b : Int) (a r : Nat) R B A c w, 1 ≤ b → b ≤ 5 → (7 * (l.length - a) : Nat) + 7 - b ≤ (f : Int) → a ≤ l.length → r ≤ 20 → RdAll R B l A c a r w → Calls Tryd.prog 28 #[pR R, .int .i64 b] w (PtP R B l A c r w (boundP l f b a r))) ∧
      (∀ (a r : Nat) R B A c w, 7 * (l.length - a) + 1 ≤ f → a ≤ l.length → r ≤ 20 → RdAll R B l A c a r w → Calls Tryd.prog 49 #[pR R] w (PtP R B l A c r w (tightP l f a r))) := by
  intro f
  induction f using Nat.strongRecOn with
  | ind f ih =>
    cases f with
    | zero => exact ⟨fun b a r R B A c w h1 h2 h => by omega, fun a r R B A c w h => by omega⟩
    | succ f =>
      refine ⟨fun b a r R B A c w h1 h2 h ha hr hA => ?_, fun a r R B A c w h ha hr hA => ?_⟩
      · by_cases hb5 : 5 ≤ b
        · have he : boundP l (f + 1) b a r = tightP l f a r := by
            rw [boundP, if_pos hb5]
          rw [he]
          exact bound_tight _ b hb5 R B l A c a r w hA.rd (fun W hg hr' => (ih f (by omega)).2 a r R B A c W (by omega) ha hr (hA.to hg hr'))
        · have he : boundP l (f + 1) b a r = loopP l f b r (boundP l f (b + 1) a r) := by
            rw [boundP, if_neg hb5]
          have hne := (all_ne l (f + 1)).1 b a r h1 h2 h
          rw [he] at hne ⊢
          have hok := (all_ok l f).1 (b + 1) a r
          exact bound_loop f _ b ⟨h1, by omega⟩ R B l A c a r w hA.rd (by omega) hA.sg hA.hsg (fun W hg hr' => (ih f (by omega)).1 (b + 1) a r R B A c W (by omega) (by omega) (by omega) ha hr (hA.to hg hr')) hok hne
            (fun e d a0 h0 => by have := hok e d a0 h0; omega)
            (fun f' a' W hf hle hen hg hr' => (ih f' (by omega)).1 (b + 1) a' r R B A c W (by omega) (by omega) (by omega) hle hr (hA.to hg hr'))
      · have he : tightP l (f + 1) a r = tightQ (tokN l a) (notP l a (withinP l a r (boundP l f 5 (a + 1) (r + 1)))) (bracketP l (withinP l a r (boundP l f 1 (a + 1) (r + 1)))) (nilP l a) (sameP l a) (plainP l a) := by
          rw [tightP]; rfl
        rw [he]
        refine tight_any _ _ _ _ _ R B l A c a r w hA.rd (by omega) (fun W hg hr' his => ?_) (fun W hg hr' his => ?_) (fun W hg hr' his => hNi R B A c a r W (hA.to hg hr') ha) (fun W hg hr' his => hSa R B A c a r W (hA.to hg hr') ha)
          (fun W hg hr' => plain_any R B l A c a r W hr' (by omega) (hA.to hg hr').pl hA.hpl)
        · have hin := isN_in his
          have hok : Okk l (a + 1) (withinP l a r (boundP l f 5 (a + 1) (r + 1))) := within_ok ((all_ok l f).1 5 (a + 1) (r + 1))
          exact not_any _ R B l A c a r W hr' (by omega) (fun e d a' h' => by have := (hok e d a' h').2.2; omega) (fun W2 hg2 hr2 =>
            within_any 5 _ R B l A c a r W2 hr2 (by omega) hr (fun h20 W3 hg3 hr3 => (ih f (by omega)).1 5 (a + 1) (r + 1) R B A c W3 (by omega) (by omega) (by omega) (by omega) (by omega) (((hA.to hg hr').to hg2 hr2).to hg3 hr3)))
        · have hin := isN_in his
          have hok : Okk l (a + 1) (withinP l a r (boundP l f 1 (a + 1) (r + 1))) := within_ok ((all_ok l f).1 1 (a + 1) (r + 1))
          exact bracket_any _ R B l A c a r W hr' (fun e d a' h' => by have := (hok e d a' h').2.1; omega) (fun W2 hg2 hr2 =>
            within_any 1 _ R B l A c a r W2 hr2 (by omega) hr (fun h20 W3 hg3 hr3 => (ih f (by omega)).1 1 (a + 1) (r + 1) R B A c W3 (by omega) (by omega) (by omega) (by omega) (by omega) (((hA.to hg hr').to hg2 hr2).to hg3 hr3)))
end Go.Proofs.YtdehpgdffafebaaDoor
namespace Go.Proofs.YtdehpgdffafebaaDoor
open Go.RowKit
set_option linter.unusedVariables false

theorem part_info : (Tryd.prog.info? 59).map (fun i => (i.zero, i.size, i.bytes)) = some (some (.agg #[.int .i64 0, .int .i64 0, .string ⟨#[]⟩, .slice none 0 0, .int .i64 0]), 5, 64) := by kernel_rfl

/-- A Kid of nil, of same, that was read. -/
structure Qk where
  k : Int
  n : Int
  s : ByteArray
  A : Option Addr
  c : Nat
def Qk.e (q : Qk) : E := .mk q.k q.n q.s []
def Qk.cells (q : Qk) : List Value := [.int .i64 q.k, .int .i64 q.n, .string q.s, .slice q.A 0 q.c, .int .i64 1]
def Qk.may (q : Qk) : Prop := (-9223372036854775808 ≤ q.n ∧ q.n ≤ 9223372036854775807) ∧ q.c ≤ maxLen
def Qk.pk (q : Qk) : Pk := ⟨q.e, q.k, q.n, q.s, q.A, 0, q.c, 1⟩
def qcells (l : List Qk) : List Value := l.flatMap Qk.cells
theorem qcells_snoc (l : List Qk) (q : Qk) : qcells (l ++ [q]) = qcells l ++ q.cells := by unfold qcells; rw [List.flatMap_append]; simp
theorem qcells_at : ∀ (l : List Qk) (i : Nat) (q : Qk), l[i]? = some q → ∀ j u, q.cells[j]? = some u → (qcells l)[i * 5 + j]? = some u
  | [], i, q, h, j, u, hu => by simp at h
  | p :: r, 0, q, h, j, u, hu => by
    have : q = p := by simpa using h.symm
    subst this
    have hc : qcells (q :: r) = q.cells ++ qcells r := rfl
    have hj : j < q.cells.length := (List.getElem?_eq_some_iff.1 hu).1
    rw [hc, Nat.zero_mul, Nat.zero_add, List.getElem?_append_left hj]
    exact hu
  | p :: r, i + 1, q, h, j, u, hu => by
    have hr : r[i]? = some q := by simpa using h
    have hc : qcells (p :: r) = p.cells ++ qcells r := rfl
    have hl : p.cells.length = 5 := rfl
    rw [hc, List.getElem?_append_right (by rw [hl]; omega), hl, show (i + 1) * 5 + j - 5 = i * 5 + j by omega]
    exact qcells_at r i q hr j u hu
/-- What is read at nil, at same, where some Kids were read, and so many are to come. -/
def askP (l : List Gt) (k : Int) : Nat → List E → ByteArray → Nat → Pr
  | 0, es, _, a => wantP l a ⟨#[41]⟩ fun a' => .ok (.mk k 0 ⟨#[]⟩ es) 2 a'
  | m + 1, es, s, a => wantP l a s fun a1 => thenP (bareP k l a1) fun e _ a2 => askP l k m (es ++ [e]) ⟨#[44]⟩ a2
theorem bareP_ok {k : Int} {l : List Gt} {a : Nat} {e : E} {d a' : Nat} (h : bareP k l a = .ok e d a') : d = 1 ∧ a' = a + 1 ∧ ∃ kk n s, e = .mk kk n s [] ∧ plainE (tokN l a) = some (kk, n, s) := by
  unfold bareP at h
  cases hp : plainE (tokN l a) with
  | none => rw [hp] at h; cases h
  | some y =>
    obtain ⟨kk, n, s⟩ := y
    rw [hp] at h
    by_cases hk : E.kidOk k kk = true
    · simp only [hk, if_true] at h
      cases h
      exact ⟨rfl, rfl, kk, n, s, rfl, rfl⟩
    · simp only [hk] at h
      cases h
theorem nilP_ask (l : List Gt) (a : Nat) : nilP l a = askP l 13 1 [] ⟨#[40]⟩ (a + 1) := by
  unfold nilP
  simp only [askP]
  congr 1
  funext a1
  cases h : bareP 13 l a1 with
  | err e p => rfl
  | ok e d a2 =>
    obtain ⟨rfl, _⟩ := bareP_ok h
    rfl
theorem sameP_ask (l : List Gt) (a : Nat) : sameP l a = askP l 14 2 [] ⟨#[40]⟩ (a + 1) := by
  unfold sameP
  simp only [askP]
  congr 1
  funext a1
  cases h : bareP 14 l a1 with
  | err e p => rfl
  | ok e d a2 =>
    obtain ⟨rfl, _⟩ := bareP_ok h
    simp only [thenP]
    congr 1
    funext a3
    cases h : bareP 14 l a3 with
    | err e p => rfl
    | ok e d a2 =>
      obtain ⟨rfl, _⟩ := bareP_ok h
      rfl
theorem pdeep_pk : ∀ (l : List Qk), l ≠ [] → pdeep (l.map Qk.pk) = 2 := by
  have h : ∀ (l : List Qk) (m : Nat), m = 0 ∨ m = 2 → (l.map Qk.pk).foldl (fun m p => max m (p.d + 1)) m = if l = [] then m else 2 := by
    intro l
    induction l with
    | nil => intro m _; rfl
    | cons p r ih =>
      intro m hm
      rw [List.map_cons, List.foldl_cons, ih _ (by right; rcases hm with rfl | rfl <;> rfl)]
      rcases hm with rfl | rfl <;> split <;> rfl
  intro l hl
  unfold pdeep
  rw [h l 0 (.inl rfl), if_neg hl]
theorem pks_of {w : World} {g : Nat} {l : List Qk} (h : ∀ (j : Nat) (u : Value), (qcells l)[j]? = some u → w.cell? ((⟨g, 0, none⟩ : Addr).add j) = some u) : PksIn w g 0 (l.map Qk.pk) := by
  intro i p hp
  rw [List.getElem?_map] at hp
  cases hq : l[i]? with
  | none => rw [hq] at hp; cases hp
  | some q =>
    rw [hq] at hp
    cases hp
    have hx := qcells_at l i q hq
    have ha : ∀ j, (⟨g, 0, none⟩ : Addr).add j = ⟨g, 0 + j, none⟩ := fun j => by unfold Addr.add; split <;> simp_all
    have hh := fun j u hu => (ha _) ▸ h (i * 5 + j) u (hx j u hu)
    exact ⟨by simpa [Qk.pk] using hh 0 _ rfl, by simpa [Nat.add_assoc, Qk.pk] using hh 1 _ rfl, by simpa [Nat.add_assoc, Qk.pk] using hh 2 _ rfl, by simpa [Nat.add_assoc, Qk.pk] using hh 3 _ rfl, by simpa [Nat.add_assoc, Qk.pk] using hh 4 _ rfl⟩
theorem new5 (W : World) (x0 x1 x2 x3 x4 : Value) (t : TypeId) (g : Nat) (hg : g = W.heap.size) : ∀ (j : Nat) (u : Value), [x0, x1, x2, x3, x4][j]? = some u → (W.alloc (.cells #[x0, x1, x2, x3, x4] t)).cell? ((⟨g, 0, none⟩ : Addr).add j) = some u := by
  intro j u h
  subst hg
  have hn : (W.alloc (.cells #[x0, x1, x2, x3, x4] t)).heap[W.heap.size]? = some (.cells #[x0, x1, x2, x3, x4] t (0, 0)) := heap_new W _
  have ha : (⟨W.heap.size, 0, none⟩ : Addr).add j = ⟨W.heap.size, j, none⟩ := by unfold Addr.add; split <;> simp_all
  rw [ha, cell_of_row _ _ j _ t (0, 0) hn]
  rw [← h]; simp
theorem ones5 (q : Qk) : ∀ u ∈ q.cells, u.oneCell' = true := by
  intro u hu
  unfold Qk.cells at hu
  simp at hu
  rcases hu with rfl | rfl | rfl | rfl | rfl <;> rfl

theorem own_gb {W W' : World} {base size n R : Nat} {e : TypeId} {v : Value} {xs : List Value} (h : W.ownsRow base e size v n xs) (hg : W.grownBy W' (some R)) (hR : R < base) : W'.ownsRow base e size v n xs := h.kept hg (.inr (fun e => by have := (h.lt _ e).1; omega))
/-- A block behind the results' cells, or none, has changed. -/
theorem Rs.grown {R B : Nat} {l : List Gt} {A : Option Addr} {c a r : Nat} {w : World} {p0 p1 p2 p3 p4 f0 f1 : Value} {W W' : World} (h : Rs R B l A c a r w p0 p1 p2 p3 p4 f0 f1 W) {row : Option Nat} (hr : ∀ q, row = some q → w.heap.size + 2 ≤ q) (hb : W.grownBy W' row) : Rs R B l A c a r w p0 p1 p2 p3 p4 f0 f1 W' := by
  have hR := h.hR
  have hst : ∀ q ob, q < w.heap.size + 2 → W.heap[q]? = some ob → W'.heap[q]? = some ob := fun q ob hq ho => (hb.block q (heap_lt ho) (fun e => by have := hr q e.symm; omega)).trans ho
  exact ⟨hst _ _ (by omega) h.b0, hst _ _ (by omega) h.b1, ⟨hst _ _ (by omega) h.rd.row, h.rd.toks.below ((Below.refl B W).grown hb (by have := h.rd.hB; have := h.gb.size; omega) (fun k e => by have := h.rd.hB; have := hr k e; omega)), h.rd.hB, h.rd.len, h.rd.cap⟩, h.gb.andThen hb (fun j e => .inl (by have := hr j e; omega)), hR⟩
theorem over_qs (t : Gt) (k : Int) (qs : List Qk) (g cap : Nat) (W : World) (h1 : 1 ≤ qs.length) (h2 : qs.length ≤ 2) (hc : qs.length ≤ cap) (hcm : cap ≤ maxLen) (hcells : ∀ (j : Nat) (u : Value), (qcells qs)[j]? = some u → W.cell? ((⟨g, 0, none⟩ : Addr).add j) = some u) (hg : g < W.heap.size) (hmay : ∀ q ∈ qs, q.may) :
    Calls Tryd.prog 68 #[t.val, .int .i64 k, .slice (some ⟨g, 0, none⟩) qs.length cap] W fun x w' => Below W.heap.size W w' ∧ ∃ A' c', x = .returned (.tuple #[.agg #[.int .i64 k, .int .i64 0, .string ⟨#[]⟩, .slice A' qs.length c', .int .i64 2], fV 0 0]) ∧ InP (fun b => W.heap.size + 4 ≤ b ∧ b < w'.heap.size) w' (.mk k 0 ⟨#[]⟩ (qs.map Qk.e)) (.agg #[.int .i64 k, .int .i64 0, .string ⟨#[]⟩, .slice A' qs.length c']) := by
  have h := over_any t k (qs.map Qk.pk) g 0 cap W (by rw [List.length_map]; exact h2) (by rw [List.length_map]; exact hc) hcm (pks_of hcells) hg (fun p hp => by
    obtain ⟨q, _, rfl⟩ := List.mem_map.1 hp
    show 1 ≤ 1000
    omega)
  rw [List.length_map] at h
  refine h.mono ?_
  rintro x w' ⟨hb, hov⟩
  rw [pdeep_pk qs (fun e => by subst e; simp at h1), if_neg (by omega), List.length_map] at hov
  obtain ⟨v, A', c', rfl, rfl, ho⟩ := hov
  refine ⟨hb, A', c', rfl, ?_⟩
  have := ov_inP (k := k) (Q := fun b => W.heap.size + 4 ≤ b ∧ b < w'.heap.size) (w := W) (l := qs.map Qk.pk) (by rw [List.length_map]; exact ho) (fun p hp => by
    obtain ⟨q, hq, rfl⟩ := List.mem_map.1 hp
    exact inP_leaf _ _ _ _ _ _ _ (hmay q hq).1 (hmay q hq).2) (fun g h1 h2 => ⟨h1, h2⟩)
  rw [List.map_map] at this
  exact this
theorem leaf_open {P : Nat → Prop} {W : World} {kk nn : Int} {ss : ByteArray} {K N : Int} {S : ByteArray} {A' : Option Addr} {L' C' : Nat} (h : InP P W (.mk kk nn ss []) (.agg #[.int .i64 K, .int .i64 N, .string S, .slice A' L' C'])) : K = kk ∧ N = nn ∧ S = ss ∧ L' = 0 ∧ (-9223372036854775808 ≤ N ∧ N ≤ 9223372036854775807) ∧ C' ≤ maxLen := by
  rw [InP] at h
  obtain ⟨A, c, h1, h2, h3, h4, _⟩ := h
  simp at h1
  obtain ⟨rfl, rfl, rfl, rfl, rfl, rfl⟩ := h1
  exact ⟨rfl, rfl, rfl, rfl, h2, h4⟩

/-- Between two rounds: so many Kids are to come. -/
structure AkAt (R B : Nat) (l : List Gt) (A : Option Addr) (c r : Nat) (w : World) (g6 n : Nat) (k : Int) (tv : Array Value) (fin : Pr) (m : Nat) (v sv : Value) (wr : World) : Prop where
  tok : wr.heap[g6]? = some (.cells tv 49 (0, 0))
  g6b : w.heap.size + 2 ≤ g6
  ex : ∃ (a : Nat) (qs : List Qk) (s : ByteArray), sv = .string s ∧ qs.length + m = n ∧ Rs0 R B l A c a r w wr ∧ wr.ownsRow (g6 + 1) 59 5 v qs.length (qcells qs) ∧ (∀ q ∈ qs, q.may) ∧ a ≤ l.length + 1 ∧ fin = askP l k m (qs.map Qk.e) s a
end Go.Proofs.YtdehpgdffafebaaDoor
