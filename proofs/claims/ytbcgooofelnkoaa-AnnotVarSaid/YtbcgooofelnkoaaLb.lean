/- The second law of layer 7 returns true for every input. Conditions: none. -/
import Derived.Test.YtbcgooofelnkoaaRv
namespace Go.Proofs.Ytbcgooofelnkoaa
open Go.RowKit
set_option linter.unusedVariables false

def vrR : Rz Vr → Vr | .ok t _ => t | .err _ _ => vr0
theorem rd_vr {r : Rz Vr} {w w' : World} {x : Ending} (h : RdP vrZ vrV r w x w') : x = .returned (.tuple #[vrV (vrR r), .int .i64 (nxR r), fV (erR r) (poR r)]) ∧ Below w.heap.size w w' := by
  obtain ⟨hb, hx⟩ := h
  cases r <;> exact ⟨hx, hb⟩
theorem rv_vr {r : Rz Vr} {w w' : World} {x : Ending} (h : RvP r w x w') : x = .returned (gotV (.slice none 0 0) ty0 (vrR r).nm (vrR r).ty (vrR r).pos (nxR r) (erR r) (poR r)) ∧ Below w.heap.size w w' := by
  obtain ⟨hb, hx⟩ := h
  cases r <;> exact ⟨hx, hb⟩
theorem eq_four8 (a0 a1 a2 a3 a4 a5 a6 a7 : Int) (W : World) :
    (Op.equalIn 9998 34 (.agg #[.int .i64 a0, .int .i64 a1, .int .i64 a2, .int .i64 a3, .int .i64 a4, .int .i64 a5, .int .i64 a6, .int .i64 a7]) (.agg #[.int .i64 a0, .int .i64 a1, .int .i64 a2, .int .i64 a3, .int .i64 a4, .int .i64 a5, .int .i64 a6, .int .i64 a7])).run Try.prog W
      = .ok true W := by
  obtain ⟨i, hi⟩ := info_own
  rw [show (9998 : Nat) = 9997 + 1 from rfl, run_equalIn_array W 9997 _ _ Try.underlying34 hi, cells_own, show List.range 4 = [0, 1, 2, 3] from rfl]
  simp [Op.eqItems, go_sem]

theorem quiet_load_mid {P : Program} {C : World → Prop} {a : Act} {o : Oper} {K : Act → Prop} (ty : TypeId) (x : Operand) (ho : o.op = .load ty x) (b off : Nat) (hx : a.eval x = .pointer (some ⟨b, off, none⟩)) (cs : List Value) (d : TypeDesc) (hc : ∀ w, C w → w.rangeAt b off cs)
    (hu : P.underlying ty = some d) (hd : d.isRow = true) (hi : (P.info? ty).map (·.size) = some cs.length) (hk : K (a.put o.dst (.agg cs.toArray))) : o.quiet P a C K :=
  ⟨_, fun w hw => by
    unfold Oper.quietAt execOp
    simp only [ho, hx, Instr.loadAt, Instr.sureAddr, Sem.run_bind, Sem.run_pure, Result.andThen_ok, run_loadVar_mid w b off ty cs d (hc w hw) hu hd hi]
    exact ⟨rfl, rfl⟩, hk⟩

set_option maxRecDepth 100000 in
set_option maxHeartbeats 1000000 in
theorem vlaw_big (s : ByteArray) (at0 : Int) (PA : Option Addr) (ps : List ByteArray) (pc : Nat) (w : World) (hp : RS w w.heap.size PA ps) (hpc : ps.length ≤ pc) (hpm : pc ≤ maxLen) (hlow : -9223372036854775808 ≤ at0) (hhigh : at0 ≤ 9223372036854775807) (h : 300 < s.size) : Calls Try.prog 4 #[.agg #[.string s, .int .i64 at0], .slice PA ps.length pc] w fun e w' => e = .returned (.bool true) ∧ Below w.heap.size w w' := by
  go_enter Try.func4, Try.ntmps4
  go_upto_region 1 with fail
  have hq := heap_new w (.cells #[.string s, .int .i64 at0] 23)
  have hb0 := boxed w (.cells #[.string s, .int .i64 at0] 23)
  obtain ⟨W0, hW0⟩ : ∃ W, W = w.alloc (.cells #[.string s, .int .i64 at0] 23) := ⟨_, rfl⟩
  rw [← hW0] at hq hb0 ⊢
  clear hW0
  obtain ⟨a0, a1⟩ := row2 hq
  have HQ := Lib.hid hq
  have HB0 := Lib.hid hb0
  clear hq hb0
  go_wp2_with fail
  refine (refOf_all s _).mono ?_
  rintro e w1 ⟨⟨v, x, y, rfl⟩, hb1⟩
  have HQ1 := Lib.hid ((hb1.block _ (heap_lt HQ.out)).trans HQ.out)
  have HB1 := Lib.hid (HB0.out.trans (hb1.mono HB0.out.size))
  clear a0 a1 hb1
  have hb2 := boxed w1 (.cells #[.int .i64 x, .int .i64 y] 28)
  have hn2 := heap_new w1 (.cells #[.int .i64 x, .int .i64 y] 28)
  have hl1 := heap_lt HQ1.out
  obtain ⟨W2, hW2⟩ : ∃ W, W = w1.alloc (.cells #[.int .i64 x, .int .i64 y] 28) := ⟨_, rfl⟩
  go_upto_region 2 with fail
  rw [← hW2] at hb2 hn2 ⊢
  clear hW2
  obtain ⟨a0, a1⟩ := row2 ((hb2.block _ hl1).trans HQ1.out)
  obtain ⟨b0, b1⟩ := row2 hn2
  have HB2 := Lib.hid (HB1.out.trans (hb2.mono HB1.out.size))
  have e1 : decide (300 < (s.size : Int)) = true := by simp; omega
  clear hb2 hn2
  go_wp2_with fail
  refine (awake_any _).mono ?_
  rintro e w3 ⟨rfl, hb3⟩
  go_wp2_with fail
  go_ret
  exact ⟨rfl, HB2.out.trans (hb3.mono HB2.out.size)⟩

set_option maxRecDepth 100000 in
set_option maxHeartbeats 1000000 in
theorem vlaw_err (s : ByteArray) (at0 : Int) (PA : Option Addr) (ps : List ByteArray) (pc : Nat) (w : World) (hp : RS w w.heap.size PA ps) (hpc : ps.length ≤ pc) (hpm : pc ≤ maxLen) (hlow : -9223372036854775808 ≤ at0) (hhigh : at0 ≤ 9223372036854775807) (h : s.size ≤ 300) (x a : Nat) (hr : Tk.ofL s.data.toList = .err x a) : Calls Try.prog 4 #[.agg #[.string s, .int .i64 at0], .slice PA ps.length pc] w fun e w' => e = .returned (.bool true) ∧ Below w.heap.size w w' := by
  have hx0 : ((x : Int) != 0) = true := by
    have := Tk.ofL_err (s := s.data.toList) (by show s.size ≤ 16384; omega) hr
    simp
    omega
  have HR := Lib.hid hr
  clear hr
  go_enter Try.func4, Try.ntmps4
  go_upto_region 1 with fail
  have hq := heap_new w (.cells #[.string s, .int .i64 at0] 23)
  have hb0 := boxed w (.cells #[.string s, .int .i64 at0] 23)
  obtain ⟨W0, hW0⟩ : ∃ W, W = w.alloc (.cells #[.string s, .int .i64 at0] 23) := ⟨_, rfl⟩
  rw [← hW0] at hq hb0 ⊢
  clear hW0
  obtain ⟨a0, a1⟩ := row2 hq
  have HQ := Lib.hid hq
  have HB0 := Lib.hid hb0
  clear hq hb0
  go_wp2_with fail
  refine (refOf_any s (by omega) _).mono ?_
  rintro e w1 hp1
  obtain ⟨rfl, hb1⟩ := of_err hp1 HR.out
  have HQ1 := Lib.hid ((hb1.block _ (heap_lt HQ.out)).trans HQ.out)
  have HB1 := Lib.hid (HB0.out.trans (hb1.mono HB0.out.size))
  clear a0 a1 hb1 hp1
  have hb2 := boxed w1 (.cells #[.int .i64 (x : Nat), .int .i64 (a : Nat)] 28)
  have hn2 := heap_new w1 (.cells #[.int .i64 (x : Nat), .int .i64 (a : Nat)] 28)
  have hl1 := heap_lt HQ1.out
  obtain ⟨W2, hW2⟩ : ∃ W, W = w1.alloc (.cells #[.int .i64 (x : Nat), .int .i64 (a : Nat)] 28) := ⟨_, rfl⟩
  go_upto_region 2 with fail
  rw [← hW2] at hb2 hn2 ⊢
  clear hW2
  obtain ⟨a0, a1⟩ := row2 ((hb2.block _ hl1).trans HQ1.out)
  obtain ⟨b0, b1⟩ := row2 hn2
  have HB2 := Lib.hid (HB1.out.trans (hb2.mono HB1.out.size))
  have e1 : decide (300 < (s.size : Int)) = false := by simp; omega
  clear hb2 hn2
  go_wp2_with fail
  refine (awake_any _).mono ?_
  rintro e w3 ⟨rfl, hb3⟩
  go_wp2_with fail
  go_ret
  exact ⟨rfl, HB2.out.trans (hb3.mono HB2.out.size)⟩

set_option maxRecDepth 100000 in
set_option maxHeartbeats 1000000 in
theorem vlaw_many (s : ByteArray) (at0 : Int) (PA : Option Addr) (ps : List ByteArray) (pc : Nat) (w : World) (hp : RS w w.heap.size PA ps) (hpc : ps.length ≤ pc) (hpm : pc ≤ maxLen) (hlow : -9223372036854775808 ≤ at0) (hhigh : at0 ≤ 9223372036854775807) (h : s.size ≤ 300) (r : List Tk.Tok) (hr : Tk.ofL s.data.toList = .ok r) (h20 : 20 < ps.length) : Calls Try.prog 4 #[.agg #[.string s, .int .i64 at0], .slice PA ps.length pc] w fun e w' => e = .returned (.bool true) ∧ Below w.heap.size w w' := by
  have HR := Lib.hid hr
  clear hr
  go_enter Try.func4, Try.ntmps4
  go_upto_region 1 with fail
  have hq := heap_new w (.cells #[.string s, .int .i64 at0] 23)
  have hb0 := boxed w (.cells #[.string s, .int .i64 at0] 23)
  obtain ⟨W0, hW0⟩ : ∃ W, W = w.alloc (.cells #[.string s, .int .i64 at0] 23) := ⟨_, rfl⟩
  rw [← hW0] at hq hb0 ⊢
  clear hW0
  obtain ⟨a0, a1⟩ := row2 hq
  have HQ := Lib.hid hq
  have HB0 := Lib.hid hb0
  clear hq hb0
  go_wp2_with fail
  refine (refOf_any s (by omega) _).mono ?_
  rintro e w1 hp1
  obtain ⟨g, c, rfl, hg1, hl1, hc1, hm1, hcell1, hb1⟩ := of_ok hp1 HR.out
  have hrt1 := rt_of hcell1 hl1
  have hrl := Tk.ofL_len HR.out
  have HQ1 := Lib.hid ((hb1.block _ (heap_lt HQ.out)).trans HQ.out)
  have HB1 := Lib.hid (HB0.out.trans (hb1.mono HB0.out.size))
  clear a0 a1 hb1 hp1 hcell1
  obtain ⟨L, hL⟩ : ∃ L, L = r.map Gt.ofTok := ⟨_, rfl⟩
  have hlen : r.length = L.length := by rw [hL, List.length_map]
  rw [← hL] at hrt1
  rw [hlen] at hc1 hrl ⊢
  have hbd : L.length ≤ 1000000 := by
    have h2 : s.data.toList.length = s.size := rfl
    rw [h2] at hrl
    omega
  clear hL hlen
  have hb2 := boxed w1 (.cells #[.int .i64 0, .int .i64 0] 28)
  have hn2 := heap_new w1 (.cells #[.int .i64 0, .int .i64 0] 28)
  have hlq := heap_lt HQ1.out
  obtain ⟨W2, hW2⟩ : ∃ W, W = w1.alloc (.cells #[.int .i64 0, .int .i64 0] 28) := ⟨_, rfl⟩
  go_upto_region 2 with fail
  rw [← hW2] at hb2 hn2 ⊢
  clear hW2
  have HQ2 := Lib.hid ((hb2.block _ hlq).trans HQ1.out)
  obtain ⟨a0, a1⟩ := row2 HQ2.out
  obtain ⟨b0, b1⟩ := row2 hn2
  have HB2 := Lib.hid (HB1.out.trans (hb2.mono HB1.out.size))
  have HRT : Hid (∀ W, Below W2.heap.size W2 W → RT W W.heap.size (some ⟨g, 0, none⟩) L) := Lib.hid (fun W hb => ((hrt1.below hb2).more hb2.size).below (hb) |>.more hb.size)
  have HRS : Hid (∀ W, Below w.heap.size w W → RS W W.heap.size PA ps) := Lib.hid (fun W hb => (hp.below hb).more hb.size)
  have e1 : decide (300 < (s.size : Int)) = false := by simp; omega
  clear hb2 hn2 hrt1
  have e2 : decide (20 < (ps.length : Int)) = true := by simp; omega
  go_wp2_with fail
  refine (awake_any _).mono ?_
  rintro e w3 ⟨rfl, hb3⟩
  go_wp2_with fail
  go_ret
  exact ⟨rfl, HB2.out.trans (hb3.mono HB2.out.size)⟩

set_option maxRecDepth 100000 in
set_option maxHeartbeats 2000000 in
theorem vlaw_main (s : ByteArray) (at0 : Int) (PA : Option Addr) (ps : List ByteArray) (pc : Nat) (w : World) (hp : RS w w.heap.size PA ps) (hpc : ps.length ≤ pc) (hpm : pc ≤ maxLen) (hlow : -9223372036854775808 ≤ at0) (hhigh : at0 ≤ 9223372036854775807) (h : s.size ≤ 300) (r : List Tk.Tok) (hr : Tk.ofL s.data.toList = .ok r) (h20 : ps.length ≤ 20) : Calls Try.prog 4 #[.agg #[.string s, .int .i64 at0], .slice PA ps.length pc] w fun e w' => e = .returned (.bool true) ∧ Below w.heap.size w w' := by
  have HR := Lib.hid hr
  clear hr
  go_enter Try.func4, Try.ntmps4
  go_upto_region 1 with fail
  have hq := heap_new w (.cells #[.string s, .int .i64 at0] 23)
  have hb0 := boxed w (.cells #[.string s, .int .i64 at0] 23)
  obtain ⟨W0, hW0⟩ : ∃ W, W = w.alloc (.cells #[.string s, .int .i64 at0] 23) := ⟨_, rfl⟩
  rw [← hW0] at hq hb0 ⊢
  clear hW0
  obtain ⟨a0, a1⟩ := row2 hq
  have HQ := Lib.hid hq
  have HB0 := Lib.hid hb0
  clear hq hb0
  go_wp2_with fail
  refine (refOf_any s (by omega) _).mono ?_
  rintro e w1 hp1
  obtain ⟨g, c, rfl, hg1, hl1, hc1, hm1, hcell1, hb1⟩ := of_ok hp1 HR.out
  have hrt1 := rt_of hcell1 hl1
  have hrl := Tk.ofL_len HR.out
  have HQ1 := Lib.hid ((hb1.block _ (heap_lt HQ.out)).trans HQ.out)
  have HB1 := Lib.hid (HB0.out.trans (hb1.mono HB0.out.size))
  clear a0 a1 hb1 hp1 hcell1
  obtain ⟨L, hL⟩ : ∃ L, L = r.map Gt.ofTok := ⟨_, rfl⟩
  have hlen : r.length = L.length := by rw [hL, List.length_map]
  rw [← hL] at hrt1
  rw [hlen] at hc1 hrl ⊢
  have hbd : L.length ≤ 1000000 := by
    have h2 : s.data.toList.length = s.size := rfl
    rw [h2] at hrl
    omega
  clear hL hlen
  have hb2 := boxed w1 (.cells #[.int .i64 0, .int .i64 0] 28)
  have hn2 := heap_new w1 (.cells #[.int .i64 0, .int .i64 0] 28)
  have hlq := heap_lt HQ1.out
  obtain ⟨W2, hW2⟩ : ∃ W, W = w1.alloc (.cells #[.int .i64 0, .int .i64 0] 28) := ⟨_, rfl⟩
  go_upto_region 2 with fail
  rw [← hW2] at hb2 hn2 ⊢
  clear hW2
  have HQ2 := Lib.hid ((hb2.block _ hlq).trans HQ1.out)
  obtain ⟨a0, a1⟩ := row2 HQ2.out
  obtain ⟨b0, b1⟩ := row2 hn2
  have HB2 := Lib.hid (HB1.out.trans (hb2.mono HB1.out.size))
  have HRT : Hid (∀ W, Below W2.heap.size W2 W → RT W W.heap.size (some ⟨g, 0, none⟩) L) := Lib.hid (fun W hb => ((hrt1.below hb2).more hb2.size).below (hb) |>.more hb.size)
  have HRS : Hid (∀ W, Below w.heap.size w W → RS W W.heap.size PA ps) := Lib.hid (fun W hb => (hp.below hb).more hb.size)
  have e1 : decide (300 < (s.size : Int)) = false := by simp; omega
  clear hb2 hn2 hrt1
  have e2 : decide (20 < (ps.length : Int)) = false := by simp; omega
  have HP4 := Lib.hid (var_any L _ c PA ps pc at0 W2 (HRT.out W2 (Below.refl _ _)) (HRS.out W2 HB2.out) hc1 hm1 hlow hhigh (by omega) hpc hbd)
  obtain ⟨kr, hkr⟩ : ∃ k, k = varP L ps at0 := ⟨_, rfl⟩
  have HKR := Lib.hid hkr
  rw [← hkr] at HP4
  clear hkr
  obtain ⟨t, ht⟩ : ∃ t, t = vrR kr := ⟨_, rfl⟩
  obtain ⟨nx, hnx⟩ : ∃ t, t = nxR kr := ⟨_, rfl⟩
  obtain ⟨er, her⟩ : ∃ t, t = erR kr := ⟨_, rfl⟩
  obtain ⟨po, hpo⟩ : ∃ t, t = poR kr := ⟨_, rfl⟩
  have HA := Lib.hid (And.intro ht (And.intro hnx (And.intro her hpo)))
  clear ht hnx her hpo
  go_wp2_with fail
  refine HP4.out.mono ?_
  rintro x w3 hpost
  obtain ⟨hx, hb3⟩ := rd_vr hpost
  rw [← HA.out.1, ← HA.out.2.1, ← HA.out.2.2.1, ← HA.out.2.2.2] at hx
  have hx : x = .returned (.tuple #[.agg #[.string t.nm, .int .i64 t.ty.kind, .string t.ty.cls, .int .i64 t.ty.n, .int .i64 t.ty.o0.kind, .int .i64 t.ty.o0.n, .int .i64 t.ty.o1.kind, .int .i64 t.ty.o1.n, .int .i64 t.ty.o2.kind, .int .i64 t.ty.o2.n, .int .i64 t.ty.o3.kind, .int .i64 t.ty.o3.n, .int .i64 t.pos], .int .i64 nx, .agg #[.int .i64 er, .int .i64 po]]) := hx
  subst hx
  clear hpost
  obtain ⟨z0, z1, z2, z3⟩ := two2 (Below.refl ((w3.alloc (.cells #[.string t.nm, .int .i64 t.ty.kind, .string t.ty.cls, .int .i64 t.ty.n, .int .i64 t.ty.o0.kind, .int .i64 t.ty.o0.n, .int .i64 t.ty.o1.kind, .int .i64 t.ty.o1.n, .int .i64 t.ty.o2.kind, .int .i64 t.ty.o2.n, .int .i64 t.ty.o3.kind, .int .i64 t.ty.o3.n, .int .i64 t.pos] 41)).alloc (.cells #[.int .i64 er, .int .i64 po] 28)).heap.size _)
  have hq3 := (hb3.block _ (heap_lt HQ2.out)).trans HQ2.out
  have hlq3 := heap_lt hq3
  obtain ⟨W4, hW4⟩ : ∃ W, W = (w3.alloc (.cells #[.string t.nm, .int .i64 t.ty.kind, .string t.ty.cls, .int .i64 t.ty.n, .int .i64 t.ty.o0.kind, .int .i64 t.ty.o0.n, .int .i64 t.ty.o1.kind, .int .i64 t.ty.o1.n, .int .i64 t.ty.o2.kind, .int .i64 t.ty.o2.n, .int .i64 t.ty.o3.kind, .int .i64 t.ty.o3.n, .int .i64 t.pos] 41)).alloc (.cells #[.int .i64 er, .int .i64 po] 28) := ⟨_, rfl⟩
  go_upto_region 5 with fail
  rw [← hW4] at z0 z1 z2 z3 ⊢
  clear hW4 a0 a1 b0 b1
  have HZ0 := Lib.hid z0
  have HZ1 := Lib.hid z1
  have HQ4 := Lib.hid ((z2.block _ hlq3).trans hq3)
  have HB24 := Lib.hid (hb3.trans (z2.mono hb3.size))
  have HB4 := Lib.hid (HB2.out.trans (HB24.out.mono HB2.out.size))
  obtain ⟨a0, a1⟩ := row2 HQ4.out
  clear z0 z1 z2 hq3 hb3
  have HP5 := Lib.hid (refVar_any L _ c PA ps pc at0 W4 (HRT.out W4 HB24.out) (HRS.out W4 HB4.out) hc1 hm1 (by omega) hpc hbd)
  rw [← HKR.out] at HP5
  go_wp2_with fail
  refine HP5.out.mono ?_
  rintro x w5 hpost
  obtain ⟨rfl, hb5⟩ := rv_vr hpost
  clear hpost
  obtain ⟨C5, hC5⟩ : ∃ C, C = gotL (.slice none 0 0) ty0 t.nm t.ty t.pos nx er po := ⟨_, rfl⟩
  have H5Z : Hid (C5.toArray.size = 28) := Lib.hid (by rw [hC5]; rfl)
  have H5I : Hid ((Try.prog.info? 43).map (·.size) = some C5.toArray.size) := Lib.hid (by rw [H5Z.out]; kernel_rfl)
  have H5O : Hid (C5.toArray.all (·.oneCell') = true) := Lib.hid (by rw [hC5]; exact got_ones _ _ _ _ _ _ _ _ _ _)
  have H5L : Hid (28 = C5.length) := Lib.hid (by rw [hC5]; rfl)
  have H5V : Hid (gotV (.slice none 0 0) ty0 (vrR kr).nm (vrR kr).ty (vrR kr).pos (nxR kr) (erR kr) (poR kr) = .agg C5.toArray) := Lib.hid (by rw [← HA.out.1, ← HA.out.2.1, ← HA.out.2.2.1, ← HA.out.2.2.2, hC5]; rfl)
  have H5F : Hid (C5[25]? = some (.int .i64 nx) ∧ C5[26]? = some (.int .i64 er) ∧ C5[27]? = some (.int .i64 po)) := Lib.hid (by rw [hC5]; exact ⟨rfl, rfl, rfl⟩)
  have H5R : Hid (∀ j v, ([.string t.nm, .int .i64 t.ty.kind, .string t.ty.cls, .int .i64 t.ty.n, .int .i64 t.ty.o0.kind, .int .i64 t.ty.o0.n, .int .i64 t.ty.o1.kind, .int .i64 t.ty.o1.n, .int .i64 t.ty.o2.kind, .int .i64 t.ty.o2.n, .int .i64 t.ty.o3.kind, .int .i64 t.ty.o3.n, .int .i64 t.pos] : List Value)[j]? = some v → C5[12 + j]? = some v) := Lib.hid (by
    rw [hC5]; intro j v hv
    have hj : j < 13 := (List.getElem?_eq_some_iff.1 hv).1
    rcases (by omega : j = 0 ∨ j = 1 ∨ j = 2 ∨ j = 3 ∨ j = 4 ∨ j = 5 ∨ j = 6 ∨ j = 7 ∨ j = 8 ∨ j = 9 ∨ j = 10 ∨ j = 11 ∨ j = 12) with rfl | rfl | rfl | rfl | rfl | rfl | rfl | rfl | rfl | rfl | rfl | rfl | rfl <;> exact hv)
  clear hC5
  have hq5 := (hb5.block _ (heap_lt HQ4.out)).trans HQ4.out
  have hz05 := (hb5.block _ (heap_lt HZ0.out)).trans HZ0.out
  have hz15 := (hb5.block _ (heap_lt HZ1.out)).trans HZ1.out
  have hl5a := heap_lt hq5
  have hl5b := heap_lt hz05
  have hl5c := heap_lt hz15
  clear a0 a1
  have hbn5 := boxed w5 (.cells #[.slice none 0 0, .int .i64 0, .string ⟨#[]⟩, .int .i64 0, .int .i64 0, .int .i64 0, .int .i64 0, .int .i64 0, .int .i64 0, .int .i64 0, .int .i64 0, .int .i64 0, .string ⟨#[]⟩, .int .i64 0, .string ⟨#[]⟩, .int .i64 0, .int .i64 0, .int .i64 0, .int .i64 0, .int .i64 0, .int .i64 0, .int .i64 0, .int .i64 0, .int .i64 0, .int .i64 0, .int .i64 0, .int .i64 0, .int .i64 0] 43)
  have hnn5 := heap_new w5 (.cells #[.slice none 0 0, .int .i64 0, .string ⟨#[]⟩, .int .i64 0, .int .i64 0, .int .i64 0, .int .i64 0, .int .i64 0, .int .i64 0, .int .i64 0, .int .i64 0, .int .i64 0, .string ⟨#[]⟩, .int .i64 0, .string ⟨#[]⟩, .int .i64 0, .int .i64 0, .int .i64 0, .int .i64 0, .int .i64 0, .int .i64 0, .int .i64 0, .int .i64 0, .int .i64 0, .int .i64 0, .int .i64 0, .int .i64 0, .int .i64 0] 43)
  have hthg : World.there (w5.alloc (.cells #[.slice none 0 0, .int .i64 0, .string ⟨#[]⟩, .int .i64 0, .int .i64 0, .int .i64 0, .int .i64 0, .int .i64 0, .int .i64 0, .int .i64 0, .int .i64 0, .int .i64 0, .string ⟨#[]⟩, .int .i64 0, .string ⟨#[]⟩, .int .i64 0, .int .i64 0, .int .i64 0, .int .i64 0, .int .i64 0, .int .i64 0, .int .i64 0, .int .i64 0, .int .i64 0, .int .i64 0, .int .i64 0, .int .i64 0, .int .i64 0] 43)) w5.heap.size 0 C5.toArray.size := there_row (cs := [.slice none 0 0, .int .i64 0, .string ⟨#[]⟩, .int .i64 0, .int .i64 0, .int .i64 0, .int .i64 0, .int .i64 0, .int .i64 0, .int .i64 0, .int .i64 0, .int .i64 0, .string ⟨#[]⟩, .int .i64 0, .string ⟨#[]⟩, .int .i64 0, .int .i64 0, .int .i64 0, .int .i64 0, .int .i64 0, .int .i64 0, .int .i64 0, .int .i64 0, .int .i64 0, .int .i64 0, .int .i64 0, .int .i64 0, .int .i64 0]) hnn5 (by rw [H5Z.out]; rfl)
  have hng5 := set_all (cs := [.slice none 0 0, .int .i64 0, .string ⟨#[]⟩, .int .i64 0, .int .i64 0, .int .i64 0, .int .i64 0, .int .i64 0, .int .i64 0, .int .i64 0, .int .i64 0, .int .i64 0, .string ⟨#[]⟩, .int .i64 0, .string ⟨#[]⟩, .int .i64 0, .int .i64 0, .int .i64 0, .int .i64 0, .int .i64 0, .int .i64 0, .int .i64 0, .int .i64 0, .int .i64 0, .int .i64 0, .int .i64 0, .int .i64 0, .int .i64 0]) hnn5 C5 H5L.out
  have hbg5 := setCells_below w5.heap.size (Nat.le_refl _) C5 0 _ hbn5
  have hgi2 := H5I.out
  have hgone := H5O.out
  obtain ⟨W6, hW6⟩ : ∃ W, W = (w5.alloc (.cells #[.slice none 0 0, .int .i64 0, .string ⟨#[]⟩, .int .i64 0, .int .i64 0, .int .i64 0, .int .i64 0, .int .i64 0, .int .i64 0, .int .i64 0, .int .i64 0, .int .i64 0, .string ⟨#[]⟩, .int .i64 0, .string ⟨#[]⟩, .int .i64 0, .int .i64 0, .int .i64 0, .int .i64 0, .int .i64 0, .int .i64 0, .int .i64 0, .int .i64 0, .int .i64 0, .int .i64 0, .int .i64 0, .int .i64 0, .int .i64 0] 43)).setCells w5.heap.size 0 C5 := ⟨_, rfl⟩
  go_upto_region 6 with (refine wpList_store_mid rfl 43 (.tmp 10) (.tmp 45) rfl w5.heap.size 0 C5.toArray rfl H5V.out hthg hgi2 hgone ?_)
  change Code.wp _ _ _ _ ((w5.alloc (.cells #[.slice none 0 0, .int .i64 0, .string ⟨#[]⟩, .int .i64 0, .int .i64 0, .int .i64 0, .int .i64 0, .int .i64 0, .int .i64 0, .int .i64 0, .int .i64 0, .int .i64 0, .string ⟨#[]⟩, .int .i64 0, .string ⟨#[]⟩, .int .i64 0, .int .i64 0, .int .i64 0, .int .i64 0, .int .i64 0, .int .i64 0, .int .i64 0, .int .i64 0, .int .i64 0, .int .i64 0, .int .i64 0, .int .i64 0, .int .i64 0] 43)).setCells w5.heap.size 0 C5)
  rw [← hW6] at hbg5 hng5 ⊢
  clear hW6 hnn5 hbn5 hthg hgi2 hgone
  have HB46 := Lib.hid (hb5.trans (hbg5.mono hb5.size))
  have hq6 := (hbg5.block _ hl5a).trans hq5
  have hz06 := (hbg5.block _ hl5b).trans hz05
  have hz16 := (hbg5.block _ hl5c).trans hz15
  have HB6 := Lib.hid (HB4.out.trans (HB46.out.mono HB4.out.size))
  have HB26 := Lib.hid (HB24.out.trans (HB46.out.mono HB24.out.size))
  have hBG : ∀ p : InC (Below W6.heap.size W6), Calls Try.prog 13 #[.slice (some ⟨g, 0, none⟩) L.length c, .int .i64 at0] p.w fun x w' => x = .returned (.bool (beginsP L at0)) ∧ Below p.w.heap.size p.w w' := fun p => begins_any L _ c at0 p.w (HRT.out p.w (HB26.out.trans (p.ok.mono HB26.out.size))) hc1 hm1 hlow hhigh hbd
  have hRB : ∀ p : InC (Below W6.heap.size W6), Calls Try.prog 14 #[.slice (some ⟨g, 0, none⟩) L.length c, .int .i64 at0] p.w fun x w' => x = .returned (.bool (beginsP L at0)) ∧ Below p.w.heap.size p.w w' := fun p => refBegins_any L _ c at0 p.w (HRT.out p.w (HB26.out.trans (p.ok.mono HB26.out.size))) hc1 hm1 hlow hhigh hbd
  have hAW : ∀ p : InC (Below W6.heap.size W6), Calls Try.prog 6 #[] p.w fun e w' => e = .returned (.bool true) ∧ Below p.w.heap.size p.w w' := fun p => awake_any p.w
  obtain ⟨bg, hbgn⟩ : ∃ b, b = beginsP L at0 := ⟨_, rfl⟩
  rw [← hbgn] at hBG hRB
  clear hbgn
  have hRX : ∀ w', (∃ n : InC (Below W6.heap.size W6), w' = n.w) → w'.rangeAt w3.heap.size 0 [.string t.nm, .int .i64 t.ty.kind, .string t.ty.cls, .int .i64 t.ty.n, .int .i64 t.ty.o0.kind, .int .i64 t.ty.o0.n, .int .i64 t.ty.o1.kind, .int .i64 t.ty.o1.n, .int .i64 t.ty.o2.kind, .int .i64 t.ty.o2.n, .int .i64 t.ty.o3.kind, .int .i64 t.ty.o3.n, .int .i64 t.pos] := by
    rintro w' ⟨p, rfl⟩ j v hv
    rw [Nat.zero_add]
    exact cls_cell (cell_at hz06 j v hv) p
  have hRY : ∀ w', (∃ n : InC (Below W6.heap.size W6), w' = n.w) → w'.rangeAt w5.heap.size 12 [.string t.nm, .int .i64 t.ty.kind, .string t.ty.cls, .int .i64 t.ty.n, .int .i64 t.ty.o0.kind, .int .i64 t.ty.o0.n, .int .i64 t.ty.o1.kind, .int .i64 t.ty.o1.n, .int .i64 t.ty.o2.kind, .int .i64 t.ty.o2.n, .int .i64 t.ty.o3.kind, .int .i64 t.ty.o3.n, .int .i64 t.pos] := by
    rintro w' ⟨p, rfl⟩ j v hv
    exact cls_cell (cell_at hng5 _ v (H5R.out j v hv)) p
  obtain ⟨c0, c1⟩ := row2 hq6
  obtain ⟨d0, d1⟩ := row2 hz16
  have e3 := cls_cell c0
  have e4 := cls_cell c1
  have e5 := cls_cell d0
  have e6 := cls_cell d1
  obtain ⟨k25, k26, k27⟩ := H5F.out
  have y25 := cls_cell (cell_at hng5 25 _ k25)
  have y26 := cls_cell (cell_at hng5 26 _ k26)
  have y27 := cls_cell (cell_at hng5 27 _ k27)
  have hE := eq_four 0 t.ty.o0.kind t.ty.o0.n t.ty.o1.kind t.ty.o1.n t.ty.o2.kind t.ty.o2.n t.ty.o3.kind t.ty.o3.n
  have hE8 := eq_four8 t.ty.o0.kind t.ty.o0.n t.ty.o1.kind t.ty.o1.n t.ty.o2.kind t.ty.o2.n t.ty.o3.kind t.ty.o3.n
  clear hb5 hbg5 hng5 hq5 hz05 hz15 hq6 hz06 hz16 k25 k26 k27 c0 c1 d0 d1
  clear hlow hhigh hc1 hm1 hrl hpc hpm hp e1 e2 h h20
  have HIV : Hid ((Try.prog.info? 41).map (·.size) = some ([.string t.nm, .int .i64 t.ty.kind, .string t.ty.cls, .int .i64 t.ty.n, .int .i64 t.ty.o0.kind, .int .i64 t.ty.o0.n, .int .i64 t.ty.o1.kind, .int .i64 t.ty.o1.n, .int .i64 t.ty.o2.kind, .int .i64 t.ty.o2.n, .int .i64 t.ty.o3.kind, .int .i64 t.ty.o3.n, .int .i64 t.pos] : List Value).length) := Lib.hid (by kernel_rfl)
  refine region_class (by kernel_rfl) (by kernel_rfl) (drew_below _) ?_
  simp only [Act.put]
  go_big_quiet_want
  refine quiet_load_mid 41 (.tmp 7) rfl w3.heap.size 0 rfl [.string t.nm, .int .i64 t.ty.kind, .string t.ty.cls, .int .i64 t.ty.n, .int .i64 t.ty.o0.kind, .int .i64 t.ty.o0.n, .int .i64 t.ty.o1.kind, .int .i64 t.ty.o1.n, .int .i64 t.ty.o2.kind, .int .i64 t.ty.o2.n, .int .i64 t.ty.o3.kind, .int .i64 t.ty.o3.n, .int .i64 t.pos] _ hRX Try.underlying41 rfl HIV.out ?_
  go_big_quiet_on
  simp only [Act.put, List.setIfInBounds_toArray, List.set_cons_succ, List.set_cons_zero]
  go_big_quiet_step (first | (go_at_call 13; with_reducible exact cls_below _ (hBG _)) | (go_at_call 14; with_reducible exact cls_below _ (hRB _)) | (go_at_call 6; with_reducible exact cls_below _ (hAW _)))
  go_big_quiet_want
  refine quiet_load_mid 41 (.tmp 47) rfl w5.heap.size 12 rfl [.string t.nm, .int .i64 t.ty.kind, .string t.ty.cls, .int .i64 t.ty.n, .int .i64 t.ty.o0.kind, .int .i64 t.ty.o0.n, .int .i64 t.ty.o1.kind, .int .i64 t.ty.o1.n, .int .i64 t.ty.o2.kind, .int .i64 t.ty.o2.n, .int .i64 t.ty.o3.kind, .int .i64 t.ty.o3.n, .int .i64 t.pos] _ hRY Try.underlying41 rfl HIV.out ?_
  go_big_quiet_on
  simp only [Act.put, List.setIfInBounds_toArray, List.set_cons_succ, List.set_cons_zero]
  clear hRX hRY
  go_big_quiet_want
  go_big_quiet_op
  go_big_quiet_on
  repeat (go_big_quiet_step (first | (go_at_call 13; with_reducible exact cls_below _ (hBG _)) | (go_at_call 14; with_reducible exact cls_below _ (hRB _)) | (go_at_call 6; with_reducible exact cls_below _ (hAW _))))
  refine wpQuiet_nil ?_
  intro wq hw'
  obtain ⟨⟨wq2, hq⟩, hw''⟩ := hw'
  have hw3 : wq = wq2 := hw''
  subst hw3
  clear hw''
  clear e3 e4 e5 e6 y25 y26 y27 hE hE8 hBG hRB hAW
  go_wp2_with fail
  go_ret
  exact ⟨rfl, HB6.out.trans (hq.mono HB6.out.size)⟩

/-- The second law. -/
theorem law_var (s : ByteArray) (at0 : Int) (PA : Option Addr) (ps : List ByteArray) (pc : Nat) (w : World) (hp : RS w w.heap.size PA ps) (hpc : ps.length ≤ pc) (hpm : pc ≤ maxLen) (hlow : -9223372036854775808 ≤ at0) (hhigh : at0 ≤ 9223372036854775807) : Calls Try.prog 4 #[.agg #[.string s, .int .i64 at0], .slice PA ps.length pc] w fun e w' => e = .returned (.bool true) ∧ Below w.heap.size w w' := by
  by_cases h : s.size ≤ 300
  · cases hr : Tk.ofL s.data.toList with
    | ok r =>
      by_cases h20 : ps.length ≤ 20
      · exact vlaw_main s at0 PA ps pc w hp hpc hpm hlow hhigh h r hr h20
      · exact vlaw_many s at0 PA ps pc w hp hpc hpm hlow hhigh h r hr (by omega)
    | err x a => exact vlaw_err s at0 PA ps pc w hp hpc hpm hlow hhigh h x a hr
  · exact vlaw_big s at0 PA ps pc w hp hpc hpm hlow hhigh (by omega)
end Go.Proofs.Ytbcgooofelnkoaa
