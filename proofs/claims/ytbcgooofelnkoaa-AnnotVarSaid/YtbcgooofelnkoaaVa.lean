/- What is read as a variable, by the program. Conditions: at most 1000 parameters, and at most 1000000 tokens. -/
import Derived.Test.YtbcgooofelnkoaaKi
namespace Go.Proofs.Ytbcgooofelnkoaa
open Go.RowKit
set_option linter.unusedVariables false

/-- A variable. -/
structure Vr where
  nm : ByteArray
  ty : Ty
  pos : Int
def Vr.cellL (v : Vr) : List Value := [.string v.nm, .int .i64 v.ty.kind, .string v.ty.cls, .int .i64 v.ty.n, .int .i64 v.ty.o0.kind, .int .i64 v.ty.o0.n, .int .i64 v.ty.o1.kind, .int .i64 v.ty.o1.n, .int .i64 v.ty.o2.kind, .int .i64 v.ty.o2.n, .int .i64 v.ty.o3.kind, .int .i64 v.ty.o3.n, .int .i64 v.pos]
def vr0 : Vr := ⟨⟨#[]⟩, ty0, 0⟩
abbrev vrV (v : Vr) : Value := .agg v.cellL.toArray
abbrev vrZ : Value := .agg vr0.cellL.toArray
/-- What is read as a variable. -/
def varP (l : List Gt) (ps : List ByteArray) (a : Int) : Rz Vr := match kindP l ps a true with
  | .err e p => .err e p
  | .ok t a1 => if t.kind = 0 then .err 3 (tokI l a).pos else if (tokI l a1).kind = 1 then .ok ⟨(tokI l a1).text, t, (tokI l a).pos⟩ (a1 + 1) else .err 3 (tokI l a1).pos

set_option maxRecDepth 100000 in
set_option maxHeartbeats 1000000 in
theorem variable_any (R B : Nat) (l : List Gt) (A : Option Addr) (c : Nat) (PA : Option Addr) (ps : List ByteArray) (pc : Nat) (a : Int) (w : World) (h : An R B l A c PA ps pc a w) (hlp : ps.length ≤ 1000) (hpc : ps.length ≤ pc) (hbd : l.length ≤ 1000000) :
    Calls Try.prog 28 #[pR R] w (RzP R B l A c PA ps pc vrZ vrV (varP l ps a) w) := by
  have hfr := Fr.new h 41 28 vr0.cellL [.int .i64 0, .int .i64 0]
  have hRw := hfr.hR
  obtain ⟨W0, hW0⟩ : ∃ W0, W0 = (w.alloc (.cells #[.string ⟨#[]⟩, .int .i64 0, .string ⟨#[]⟩, .int .i64 0, .int .i64 0, .int .i64 0, .int .i64 0, .int .i64 0, .int .i64 0, .int .i64 0, .int .i64 0, .int .i64 0, .int .i64 0] 41)).alloc (.cells #[.int .i64 0, .int .i64 0] 28) := ⟨_, rfl⟩
  have hfr : Fr R B l A c PA ps pc w 41 28 vr0.cellL [.int .i64 0, .int .i64 0] a W0 := by rw [hW0]; exact hfr
  have HF := Lib.hid hfr
  have HTK := Lib.hid (token_any R B l A c #[.slice PA ps.length pc] 62 a W0 hfr.an.cu)
  have HKI : Hid (∀ W, An R B l A c PA ps pc a W → Calls Try.prog 19 #[pR R, .bool true] W (RzP R B l A c PA ps pc tyZ tyV (kindP l ps a true) W)) := Lib.hid (fun W hW => kind_any R B l A c PA ps pc a true W hW hlp hpc hbd)
  have HNM : Hid (∀ a W, Cu R B l A c #[.slice PA ps.length pc] 62 a W → Calls Try.prog 45 #[pR R] W (CuP R B l A c #[.slice PA ps.length pc] 62 W (if (tokI l a).kind = 1 then .tuple #[.string (tokI l a).text, fV 0 0] else .tuple #[.string ⟨#[]⟩, fV 3 (tokI l a).pos]) (if (tokI l a).kind = 1 then a + 1 else a))) := Lib.hid (fun a W hW => name_tok R B l A c _ _ a W hW)
  obtain ⟨kr, hkr⟩ : ∃ kr, kr = kindP l ps a true := ⟨_, rfl⟩
  have HKR := Lib.hid hkr
  rw [← hkr] at HKI
  obtain ⟨res, hres⟩ : ∃ res, res = varP l ps a := ⟨_, rfl⟩
  have HRES := Lib.hid hres
  rw [← hres]
  obtain ⟨t, ht⟩ : ∃ t, t = tokI l a := ⟨_, rfl⟩
  have HT := Lib.hid ht
  rw [← ht] at HTK
  have HWR := Lib.hid (fun W => wrong_any 3 t W)
  clear ht hres hkr hfr h
  obtain ⟨tk, tx, tp⟩ := t
  rw [val_eq] at HTK HWR
  dsimp only at HTK HWR
  go_enter Try.func28, Try.ntmps28
  go_upto_region 1 with fail
  rw [← hW0]
  clear hW0
  go_wp2_with fail
  refine HTK.out.mono ?_
  rintro x w1 ⟨rfl, hb1⟩
  have HF1 := Lib.hid (HF.out.step hb1)
  have hb2 := boxed w1 (.cells #[.int .i64 tk, .string tx, .int .i64 tp] 55)
  have ht2 := heap_new w1 (.cells #[.int .i64 tk, .string tx, .int .i64 tp] 55)
  obtain ⟨W2, hW2⟩ : ∃ W2, W2 = w1.alloc (.cells #[.int .i64 tk, .string tx, .int .i64 tp] 55) := ⟨_, rfl⟩
  go_upto_region 2 with fail
  rw [← hW2] at hb2 ht2 ⊢
  clear hW2 hb1
  have HF2 := Lib.hid (HF1.out.step hb2)
  have HT2 := Lib.hid ht2
  have hl2 := heap_lt ht2
  have hlr1 : R < w1.heap.size := heap_lt HF1.out.an.cu.row
  have hlw1 := heap_lt HF1.out.b1
  clear hb2 ht2
  go_wp2_with fail
  refine (HKI.out _ HF2.out.an).mono ?_
  rintro x w5 hpost
  cases kr with
  | err e p =>
    have HRE : Hid (res = .err e p) := Lib.hid (by rw [HRES.out]; unfold varP; rw [← HKR.out])
    obtain ⟨hx, he, a5, ha5, hg5⟩ := rzP_err hpost rfl
    have hx : x = .returned (.tuple #[.agg #[.int .i64 0, .string ⟨#[]⟩, .int .i64 0, .int .i64 0, .int .i64 0, .int .i64 0, .int .i64 0, .int .i64 0, .int .i64 0, .int .i64 0, .int .i64 0], fV e p]) := hx
    subst hx
    have HHE := Lib.hid he
    have hne0 : (e != 0) = true := by simpa using he
    have HF5 := Lib.hid (HF2.out.turn ha5 hg5)
    have hl5 := heap_lt HF5.out.b1
    obtain ⟨z0, z1, z2, z3⟩ := two2 (Below.refl ((w5.alloc (.cells #[.int .i64 0, .string ⟨#[]⟩, .int .i64 0, .int .i64 0, .int .i64 0, .int .i64 0, .int .i64 0, .int .i64 0, .int .i64 0, .int .i64 0, .int .i64 0] 36)).alloc (.cells #[.int .i64 e, .int .i64 p] 28)).heap.size _)
    clear hpost he ha5 hg5
    obtain ⟨W6, hW6⟩ : ∃ W6, W6 = (w5.alloc (.cells #[.int .i64 0, .string ⟨#[]⟩, .int .i64 0, .int .i64 0, .int .i64 0, .int .i64 0, .int .i64 0, .int .i64 0, .int .i64 0, .int .i64 0, .int .i64 0] 36)).alloc (.cells #[.int .i64 e, .int .i64 p] 28) := ⟨_, rfl⟩
    go_upto_region 3 with fail
    rw [← hW6] at z0 z1 z2 z3 ⊢
    clear hW6
    have HF6 := Lib.hid (HF5.out.step z2)
    obtain ⟨q0, q1⟩ := row2 z1
    clear z0 z1 z2
    have n1 : ¬ w.heap.size = w5.heap.size + 1 := by omega
    have n2 : ¬ w5.heap.size + 1 = w.heap.size := by omega
    have n3 : ¬ w.heap.size + 1 = w5.heap.size + 1 := by omega
    have n4 : ¬ w5.heap.size + 1 = w.heap.size + 1 := by omega
    obtain ⟨y0, y1⟩ := row2 HF6.out.b1
    have g0 := frozen_of HF6.out.b1 0
    have g1 := frozen_of HF6.out.b1 1
    have x0 := cell_at HF6.out.b0 0 _ rfl
    have f0 := frozen_of HF6.out.b0 0
    have x1 := cell_at HF6.out.b0 1 _ rfl
    have f1 := frozen_of HF6.out.b0 1
    have x2 := cell_at HF6.out.b0 2 _ rfl
    have f2 := frozen_of HF6.out.b0 2
    have x3 := cell_at HF6.out.b0 3 _ rfl
    have f3 := frozen_of HF6.out.b0 3
    have x4 := cell_at HF6.out.b0 4 _ rfl
    have f4 := frozen_of HF6.out.b0 4
    have x5 := cell_at HF6.out.b0 5 _ rfl
    have f5 := frozen_of HF6.out.b0 5
    have x6 := cell_at HF6.out.b0 6 _ rfl
    have f6 := frozen_of HF6.out.b0 6
    have x7 := cell_at HF6.out.b0 7 _ rfl
    have f7 := frozen_of HF6.out.b0 7
    have x8 := cell_at HF6.out.b0 8 _ rfl
    have f8 := frozen_of HF6.out.b0 8
    have x9 := cell_at HF6.out.b0 9 _ rfl
    have f9 := frozen_of HF6.out.b0 9
    have x10 := cell_at HF6.out.b0 10 _ rfl
    have f10 := frozen_of HF6.out.b0 10
    have x11 := cell_at HF6.out.b0 11 _ rfl
    have f11 := frozen_of HF6.out.b0 11
    have x12 := cell_at HF6.out.b0 12 _ rfl
    have f12 := frozen_of HF6.out.b0 12
    go_wp2_with fail
    go_region
    go_wp2_with fail
    have hF := ((HF6.out.put0 vr0.cellL rfl).put1 [.int .i64 (e), .int .i64 (p)] rfl).step (drew_below _)
    change bodyPost _ _ _ _ _ (World.drew (World.setCells (World.setCells _ w.heap.size 0 vr0.cellL) (w.heap.size + 1) 0 [.int .i64 (e), .int .i64 (p)]))
    exact bodyPost_ret (v := .tuple #[vrZ, fV (e) (p)]) (results_two Try.results28 _ _ w.heap.size (w.heap.size + 1) 41 28 _ _ _ _ rfl rfl hF.b0 hF.b1 Try.underlying41 rfl (by kernel_rfl) Try.underlying28 rfl (by kernel_rfl)) rfl ⟨hF.gb, by rw [HRE.out]; exact ⟨rfl, HHE.out, _, hF.an⟩⟩
  | ok t a1 =>
    obtain ⟨hx, ha5, hg5⟩ := rzP_ok hpost rfl
    have hx : x = .returned (.tuple #[.agg #[.int .i64 t.kind, .string t.cls, .int .i64 t.n, .int .i64 t.o0.kind, .int .i64 t.o0.n, .int .i64 t.o1.kind, .int .i64 t.o1.n, .int .i64 t.o2.kind, .int .i64 t.o2.n, .int .i64 t.o3.kind, .int .i64 t.o3.n], fV 0 0]) := hx
    subst hx
    have HF5 := Lib.hid (HF2.out.turn ha5 hg5)
    have ht5 := (hg5.block _ (heap_lt HT2.out) (fun e => by cases e; omega)).trans HT2.out
    have hl5 := heap_lt HF5.out.b1
    obtain ⟨z0, z1, z2, z3⟩ := two2 (Below.refl ((w5.alloc (.cells #[.int .i64 t.kind, .string t.cls, .int .i64 t.n, .int .i64 t.o0.kind, .int .i64 t.o0.n, .int .i64 t.o1.kind, .int .i64 t.o1.n, .int .i64 t.o2.kind, .int .i64 t.o2.n, .int .i64 t.o3.kind, .int .i64 t.o3.n] 36)).alloc (.cells #[.int .i64 0, .int .i64 0] 28)).heap.size _)
    have hlt5 := heap_lt ht5
    clear hpost ha5 hg5
    obtain ⟨W6, hW6⟩ : ∃ W6, W6 = (w5.alloc (.cells #[.int .i64 t.kind, .string t.cls, .int .i64 t.n, .int .i64 t.o0.kind, .int .i64 t.o0.n, .int .i64 t.o1.kind, .int .i64 t.o1.n, .int .i64 t.o2.kind, .int .i64 t.o2.n, .int .i64 t.o3.kind, .int .i64 t.o3.n] 36)).alloc (.cells #[.int .i64 0, .int .i64 0] 28) := ⟨_, rfl⟩
    go_upto_region 3 with fail
    rw [← hW6] at z0 z1 z2 z3 ⊢
    clear hW6
    have HF6 := Lib.hid (HF5.out.step z2)
    have HT6 := Lib.hid ((z2.block _ hlt5).trans ht5)
    have HY6 := Lib.hid z0
    have HB6 := Lib.hid z1
    obtain ⟨q0, q1⟩ := row2 z1
    have y0 := cell_at z0 0 _ rfl
    clear z0 z1 z2 ht5
    by_cases hk0 : t.kind = 0
    case pos =>
      have HRE : Hid (res = .err 3 tp) := Lib.hid (by rw [HRES.out]; unfold varP; rw [← HKR.out]; dsimp only; rw [if_pos hk0, ← HT.out])
      have hke : (t.kind == 0) = true := by simpa using hk0
      obtain ⟨m0, m1, m2⟩ := row3 HT6.out
      clear hk0
      go_wp2_with fail
      refine (HWR.out _).mono ?_
      rintro x w7 ⟨rfl, hb7⟩
      have HF7 := Lib.hid (HF6.out.step hb7)
      clear hb7 q0 q1 y0 m0 m1 m2
      obtain ⟨y0, y1⟩ := row2 HF7.out.b1
      have g0 := frozen_of HF7.out.b1 0
      have g1 := frozen_of HF7.out.b1 1
      have hlt := heap_lt HF7.out.b1
      have x0 := cell_at HF7.out.b0 0 _ rfl
      have f0 := frozen_of HF7.out.b0 0
      have x1 := cell_at HF7.out.b0 1 _ rfl
      have f1 := frozen_of HF7.out.b0 1
      have x2 := cell_at HF7.out.b0 2 _ rfl
      have f2 := frozen_of HF7.out.b0 2
      have x3 := cell_at HF7.out.b0 3 _ rfl
      have f3 := frozen_of HF7.out.b0 3
      have x4 := cell_at HF7.out.b0 4 _ rfl
      have f4 := frozen_of HF7.out.b0 4
      have x5 := cell_at HF7.out.b0 5 _ rfl
      have f5 := frozen_of HF7.out.b0 5
      have x6 := cell_at HF7.out.b0 6 _ rfl
      have f6 := frozen_of HF7.out.b0 6
      have x7 := cell_at HF7.out.b0 7 _ rfl
      have f7 := frozen_of HF7.out.b0 7
      have x8 := cell_at HF7.out.b0 8 _ rfl
      have f8 := frozen_of HF7.out.b0 8
      have x9 := cell_at HF7.out.b0 9 _ rfl
      have f9 := frozen_of HF7.out.b0 9
      have x10 := cell_at HF7.out.b0 10 _ rfl
      have f10 := frozen_of HF7.out.b0 10
      have x11 := cell_at HF7.out.b0 11 _ rfl
      have f11 := frozen_of HF7.out.b0 11
      have x12 := cell_at HF7.out.b0 12 _ rfl
      have f12 := frozen_of HF7.out.b0 12
      go_wp2_with fail
      have hF := (HF7.out.put0 [.string ⟨#[]⟩, .int .i64 0, .string ⟨#[]⟩, .int .i64 0, .int .i64 0, .int .i64 0, .int .i64 0, .int .i64 0, .int .i64 0, .int .i64 0, .int .i64 0, .int .i64 0, .int .i64 0] rfl).put1 [.int .i64 (3), .int .i64 (tp)] rfl
      change bodyPost _ _ _ _ _ (World.setCells (World.setCells _ w.heap.size 0 [.string ⟨#[]⟩, .int .i64 0, .string ⟨#[]⟩, .int .i64 0, .int .i64 0, .int .i64 0, .int .i64 0, .int .i64 0, .int .i64 0, .int .i64 0, .int .i64 0, .int .i64 0, .int .i64 0]) (w.heap.size + 1) 0 [.int .i64 (3), .int .i64 (tp)])
      exact bodyPost_ret (v := .tuple #[.agg #[.string ⟨#[]⟩, .int .i64 0, .string ⟨#[]⟩, .int .i64 0, .int .i64 0, .int .i64 0, .int .i64 0, .int .i64 0, .int .i64 0, .int .i64 0, .int .i64 0, .int .i64 0, .int .i64 0], fV (3) (tp)]) (results_two Try.results28 _ _ w.heap.size (w.heap.size + 1) 41 28 _ _ _ _ rfl rfl hF.b0 hF.b1 Try.underlying41 rfl (by kernel_rfl) Try.underlying28 rfl (by kernel_rfl)) rfl ⟨hF.gb, by rw [HRE.out]; exact ⟨rfl, by decide, _, hF.an⟩⟩
    case neg =>
      have hke : (t.kind == 0) = false := by simpa using hk0
      have hRES : res = if (tokI l a1).kind = 1 then .ok ⟨(tokI l a1).text, t, tp⟩ (a1 + 1) else .err 3 (tokI l a1).pos := by rw [HRES.out]; unfold varP; rw [← HKR.out]; dsimp only; rw [if_neg hk0, ← HT.out]
      have HN := Lib.hid (HNM.out a1 W6 HF6.out.an.cu)
      obtain ⟨u, hu⟩ : ∃ u, u = tokI l a1 := ⟨_, rfl⟩
      rw [← hu] at HN hRES
      have HRES2 := Lib.hid hRES
      clear hu hk0 hRES
      obtain ⟨uk, ux, up⟩ := u
      dsimp only at HN HRES2
      by_cases hk : uk = 1
      case neg =>
        rw [if_neg hk, if_neg hk] at HN
        have HRE : Hid (res = .err 3 up) := Lib.hid (by rw [HRES2.out]; rw [if_neg hk])
        clear hk
        go_wp2_with fail
        refine HN.out.mono ?_
        rintro x w7 ⟨rfl, hc7, hg7⟩
        have HF7 := Lib.hid (HF6.out.turn (HF6.out.an.turn hc7 hg7) hg7)
        have hb7 := (hg7.block _ (heap_lt HB6.out) (fun e => by cases e; omega)).trans HB6.out
        have HB7 := Lib.hid hb7
        have hth := there_row (n := 2) hb7 rfl
        clear hc7 hg7 hb7 q0 q1 y0
        go_upto_region 8 with (refine wpList_store_mid rfl 28 _ _ rfl (w5.heap.size + 1) 0 #[.int .i64 (3), .int .i64 (up)] rfl rfl hth (by kernel_rfl) (one2 _ _) ?_)
        have hFx := HF7.out.aside (w5.heap.size + 1) (by omega) [.int .i64 3, .int .i64 up] 0
        have hBx := set_all HB7.out [.int .i64 3, .int .i64 up] rfl
        obtain ⟨W8, hW8⟩ : ∃ W8, W8 = w7.setCells (w5.heap.size + 1) 0 [.int .i64 3, .int .i64 up] := ⟨_, rfl⟩
        rw [← hW8] at hFx hBx ⊢
        clear hW8 hth
        have HF8 := Lib.hid hFx
        obtain ⟨q0, q1⟩ := row2 hBx
        clear hFx hBx
        have hl8 := heap_lt HF8.out.b1
        have n1 : ¬ w.heap.size = w5.heap.size + 1 := by omega
        have n2 : ¬ w5.heap.size + 1 = w.heap.size := by omega
        have n3 : ¬ w.heap.size + 1 = w5.heap.size + 1 := by omega
        have n4 : ¬ w5.heap.size + 1 = w.heap.size + 1 := by omega
        obtain ⟨y0, y1⟩ := row2 HF8.out.b1
        have g0 := frozen_of HF8.out.b1 0
        have g1 := frozen_of HF8.out.b1 1
        have x0 := cell_at HF8.out.b0 0 _ rfl
        have f0 := frozen_of HF8.out.b0 0
        have x1 := cell_at HF8.out.b0 1 _ rfl
        have f1 := frozen_of HF8.out.b0 1
        have x2 := cell_at HF8.out.b0 2 _ rfl
        have f2 := frozen_of HF8.out.b0 2
        have x3 := cell_at HF8.out.b0 3 _ rfl
        have f3 := frozen_of HF8.out.b0 3
        have x4 := cell_at HF8.out.b0 4 _ rfl
        have f4 := frozen_of HF8.out.b0 4
        have x5 := cell_at HF8.out.b0 5 _ rfl
        have f5 := frozen_of HF8.out.b0 5
        have x6 := cell_at HF8.out.b0 6 _ rfl
        have f6 := frozen_of HF8.out.b0 6
        have x7 := cell_at HF8.out.b0 7 _ rfl
        have f7 := frozen_of HF8.out.b0 7
        have x8 := cell_at HF8.out.b0 8 _ rfl
        have f8 := frozen_of HF8.out.b0 8
        have x9 := cell_at HF8.out.b0 9 _ rfl
        have f9 := frozen_of HF8.out.b0 9
        have x10 := cell_at HF8.out.b0 10 _ rfl
        have f10 := frozen_of HF8.out.b0 10
        have x11 := cell_at HF8.out.b0 11 _ rfl
        have f11 := frozen_of HF8.out.b0 11
        have x12 := cell_at HF8.out.b0 12 _ rfl
        have f12 := frozen_of HF8.out.b0 12
        go_wp2_with fail
        go_region
        go_wp2_with fail
        have hF := ((HF8.out.put0 vr0.cellL rfl).put1 [.int .i64 (3), .int .i64 (up)] rfl).step (drew_below _)
        change bodyPost _ _ _ _ _ (World.drew (World.setCells (World.setCells _ w.heap.size 0 vr0.cellL) (w.heap.size + 1) 0 [.int .i64 (3), .int .i64 (up)]))
        exact bodyPost_ret (v := .tuple #[vrZ, fV (3) (up)]) (results_two Try.results28 _ _ w.heap.size (w.heap.size + 1) 41 28 _ _ _ _ rfl rfl hF.b0 hF.b1 Try.underlying41 rfl (by kernel_rfl) Try.underlying28 rfl (by kernel_rfl)) rfl ⟨hF.gb, by rw [HRE.out]; exact ⟨rfl, by decide, _, hF.an⟩⟩
      case pos =>
        subst hk
        have HRE : Hid (res = .ok ⟨ux, t, tp⟩ (a1 + 1)) := Lib.hid (by rw [HRES2.out]; rw [if_pos rfl])
        have HN : Hid (Calls Try.prog 45 #[pR R] W6 (CuP R B l A c #[.slice PA ps.length pc] 62 W6 (.tuple #[.string ux, fV 0 0]) (a1 + 1))) := HN
        go_wp2_with fail
        refine HN.out.mono ?_
        rintro x w7 ⟨rfl, hc7, hg7⟩
        have HF7 := Lib.hid (HF6.out.turn (HF6.out.an.turn hc7 hg7) hg7)
        have hb7 := (hg7.block _ (heap_lt HB6.out) (fun e => by cases e; omega)).trans HB6.out
        have hy7 := (hg7.block _ (heap_lt HY6.out) (fun e => by cases e; omega)).trans HY6.out
        have ht7 := (hg7.block _ (heap_lt HT6.out) (fun e => by cases e; omega)).trans HT6.out
        have HB7 := Lib.hid hb7
        have HY7 := Lib.hid hy7
        have HT7 := Lib.hid ht7
        have hth := there_row (n := 2) hb7 rfl
        clear hc7 hg7 hb7 hy7 ht7 q0 q1 y0
        go_upto_region 8 with (refine wpList_store_mid rfl 28 _ _ rfl (w5.heap.size + 1) 0 #[.int .i64 (0), .int .i64 (0)] rfl rfl hth (by kernel_rfl) (one2 _ _) ?_)
        have hFx := HF7.out.aside (w5.heap.size + 1) (by omega) [.int .i64 0, .int .i64 0] 0
        have hBx := set_all HB7.out [.int .i64 0, .int .i64 0] rfl
        have hYx := (setCells_other (w5.heap.size + 1) w5.heap.size (by omega) [.int .i64 0, .int .i64 0] 0 w7).trans HY7.out
        have hTx := (setCells_other (w5.heap.size + 1) w1.heap.size (by omega) [.int .i64 0, .int .i64 0] 0 w7).trans HT7.out
        obtain ⟨W8, hW8⟩ : ∃ W8, W8 = w7.setCells (w5.heap.size + 1) 0 [.int .i64 0, .int .i64 0] := ⟨_, rfl⟩
        rw [← hW8] at hFx hBx hYx hTx ⊢
        clear hW8 hth
        have HF8 := Lib.hid hFx
        obtain ⟨q0, q1⟩ := row2 hBx
        obtain ⟨m0, m1, m2⟩ := row3 hTx
        have hyx : W8.heap[w5.heap.size]? = some (.cells ([.int .i64 t.kind, .string t.cls, .int .i64 t.n, .int .i64 t.o0.kind, .int .i64 t.o0.n, .int .i64 t.o1.kind, .int .i64 t.o1.n, .int .i64 t.o2.kind, .int .i64 t.o2.n, .int .i64 t.o3.kind, .int .i64 t.o3.n] : List Value).toArray 36 (0, 0)) := hYx
        have hlY := heap_lt hyx
        clear hFx hBx hYx hTx
        obtain ⟨y0, y1⟩ := row2 HF8.out.b1
        have g0 := frozen_of HF8.out.b1 0
        have g1 := frozen_of HF8.out.b1 1
        have hlt := heap_lt HF8.out.b1
        have x0 := cell_at HF8.out.b0 0 _ rfl
        have f0 := frozen_of HF8.out.b0 0
        have x1 := cell_at HF8.out.b0 1 _ rfl
        have f1 := frozen_of HF8.out.b0 1
        have x2 := cell_at HF8.out.b0 2 _ rfl
        have f2 := frozen_of HF8.out.b0 2
        have x3 := cell_at HF8.out.b0 3 _ rfl
        have f3 := frozen_of HF8.out.b0 3
        have x4 := cell_at HF8.out.b0 4 _ rfl
        have f4 := frozen_of HF8.out.b0 4
        have x5 := cell_at HF8.out.b0 5 _ rfl
        have f5 := frozen_of HF8.out.b0 5
        have x6 := cell_at HF8.out.b0 6 _ rfl
        have f6 := frozen_of HF8.out.b0 6
        have x7 := cell_at HF8.out.b0 7 _ rfl
        have f7 := frozen_of HF8.out.b0 7
        have x8 := cell_at HF8.out.b0 8 _ rfl
        have f8 := frozen_of HF8.out.b0 8
        have x9 := cell_at HF8.out.b0 9 _ rfl
        have f9 := frozen_of HF8.out.b0 9
        have x10 := cell_at HF8.out.b0 10 _ rfl
        have f10 := frozen_of HF8.out.b0 10
        have x11 := cell_at HF8.out.b0 11 _ rfl
        have f11 := frozen_of HF8.out.b0 11
        have x12 := cell_at HF8.out.b0 12 _ rfl
        have f12 := frozen_of HF8.out.b0 12
        have v0 := cell_at hyx 0 _ rfl
        have v1 := cell_at hyx 1 _ rfl
        have v2 := cell_at hyx 2 _ rfl
        have v3 := cell_at hyx 3 _ rfl
        have v4 := cell_at hyx 4 _ rfl
        have v5 := cell_at hyx 5 _ rfl
        have v6 := cell_at hyx 6 _ rfl
        have v7 := cell_at hyx 7 _ rfl
        have v8 := cell_at hyx 8 _ rfl
        have v9 := cell_at hyx 9 _ rfl
        have v10 := cell_at hyx 10 _ rfl
        clear hyx
        go_wp2_with fail
        have hF := (HF8.out.put0 [.string ux, .int .i64 t.kind, .string t.cls, .int .i64 t.n, .int .i64 t.o0.kind, .int .i64 t.o0.n, .int .i64 t.o1.kind, .int .i64 t.o1.n, .int .i64 t.o2.kind, .int .i64 t.o2.n, .int .i64 t.o3.kind, .int .i64 t.o3.n, .int .i64 tp] rfl).put1 [.int .i64 (0), .int .i64 (0)] rfl
        change bodyPost _ _ _ _ _ (World.setCells (World.setCells _ w.heap.size 0 [.string ux, .int .i64 t.kind, .string t.cls, .int .i64 t.n, .int .i64 t.o0.kind, .int .i64 t.o0.n, .int .i64 t.o1.kind, .int .i64 t.o1.n, .int .i64 t.o2.kind, .int .i64 t.o2.n, .int .i64 t.o3.kind, .int .i64 t.o3.n, .int .i64 tp]) (w.heap.size + 1) 0 [.int .i64 (0), .int .i64 (0)])
        exact bodyPost_ret (v := .tuple #[.agg #[.string ux, .int .i64 t.kind, .string t.cls, .int .i64 t.n, .int .i64 t.o0.kind, .int .i64 t.o0.n, .int .i64 t.o1.kind, .int .i64 t.o1.n, .int .i64 t.o2.kind, .int .i64 t.o2.n, .int .i64 t.o3.kind, .int .i64 t.o3.n, .int .i64 tp], fV (0) (0)]) (results_two Try.results28 _ _ w.heap.size (w.heap.size + 1) 41 28 _ _ _ _ rfl rfl hF.b0 hF.b1 Try.underlying41 rfl (by kernel_rfl) Try.underlying28 rfl (by kernel_rfl)) rfl ⟨hF.gb, by rw [HRE.out]; exact ⟨rfl, hF.an⟩⟩
end Go.Proofs.Ytbcgooofelnkoaa
