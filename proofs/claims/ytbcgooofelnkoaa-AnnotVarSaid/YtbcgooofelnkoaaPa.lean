/- The program's two readers of a type and of a variable, from a place on. Conditions: at most 1000 parameters, and at most 1000000 tokens. -/
import Derived.Test.YtbcgooofelnkoaaVa
import Derived.Deep.RegionWith
namespace Go.Proofs.Ytbcgooofelnkoaa
open Go.RowKit
set_option linter.unusedVariables false

theorem newReader_any (A : Option Addr) (L c : Nat) (a : Int) (PA : Option Addr) (M pc : Nat) (w : World) : Calls Try.prog 18 #[.slice A L c, .int .i64 a, .slice PA M pc] w fun x w' => x = .returned (.agg #[.slice A L c, .int .i64 a, .slice PA M pc]) ∧ Below w.heap.size w w' := by
  have hb0 := boxed w (.cells #[.slice none 0 0, .int .i64 0, .slice none 0 0] 62)
  have hn0 := heap_new w (.cells #[.slice none 0 0, .int .i64 0, .slice none 0 0] 62)
  obtain ⟨W0, hW0⟩ : ∃ W0, W0 = w.alloc (.cells #[.slice none 0 0, .int .i64 0, .slice none 0 0] 62) := ⟨_, rfl⟩
  rw [← hW0] at hb0 hn0
  have HB := Lib.hid hb0
  have HN := Lib.hid hn0
  have HNW := Lib.hid (new_any A L c a W0)
  clear hb0 hn0
  go_enter Try.func18, Try.ntmps18
  go_upto_region 1 with fail
  rw [← hW0]
  clear hW0
  go_wp2_with fail
  refine HNW.out.mono ?_
  rintro e w1 ⟨rfl, hb1⟩
  have hn1 := (hb1.block _ (heap_lt HN.out)).trans HN.out
  obtain ⟨x0, x1, x2⟩ := row3 hn1
  have f0 := frozen_of hn1 0
  have f1 := frozen_of hn1 1
  have f2 := frozen_of hn1 2
  have hlt := heap_lt hn1
  have HN1 := Lib.hid hn1
  clear hn1
  go_wp2_with fail
  have hs := set_all HN1.out [.slice A L c, .int .i64 a, .slice PA M pc] rfl
  have hbf := setCells_below w.heap.size (Nat.le_refl _) [.slice A L c, .int .i64 a, .slice PA M pc] 0 _ (HB.out.trans (hb1.mono HB.out.size))
  change bodyPost _ _ _ _ _ (World.setCells _ w.heap.size 0 [.slice A L c, .int .i64 a, .slice PA M pc])
  obtain ⟨r0, r1, r2⟩ := row3 hs
  exact bodyPost_ret (v := .agg #[.slice A L c, .int .i64 a, .slice PA M pc]) (by simp [results, Try.results18, go_sem, r0, r1, r2]) rfl ⟨rfl, hbf⟩

/-- The reader, just made. -/
theorem An.new {w W : World} {l : List Gt} {A : Option Addr} {c : Nat} {PA : Option Addr} {ps : List ByteArray} {pc : Nat} {a : Int} (hr : RT w w.heap.size A l) (hp : RS w w.heap.size PA ps) (hlc : l.length ≤ c) (hcm : c ≤ maxLen) (hlow : -9223372036854775808 ≤ a) (hhigh : a ≤ 9223372036854775807) (hb : Below w.heap.size w W) :
    An W.heap.size w.heap.size l A c PA ps pc a (W.alloc (.cells #[.slice A l.length c, .int .i64 a, .slice PA ps.length pc] 62)) := by
  have hb2 := hb.trans ((boxed W (.cells #[.slice A l.length c, .int .i64 a, .slice PA ps.length pc] 62)).mono hb.size)
  exact ⟨⟨heap_new W _, hr.below hb2, hb.size, hlc, hcm, hlow, hhigh⟩, hp.below hb2⟩
/-- Three results: one in memory, a number, one in memory. -/
theorem results_ctc {P : Program} {fn : Func} {p q r : Tmp} {ty ty' : TypeId} (h : fn.results = #[.cell p ty, .tmp q, .cell r ty']) (tmps : Array Value) (w : World) (g g' : Nat) (t t' : TypeId) (v : Value) (cs cs' : Array Value) (d d' : TypeDesc)
    (hp : tmps.getD p undef = .pointer (some ⟨g, 0, none⟩)) (hq : tmps.getD q undef = v) (hr : tmps.getD r undef = .pointer (some ⟨g', 0, none⟩)) (hg : w.heap[g]? = some (.cells cs t (0, 0))) (hg' : w.heap[g']? = some (.cells cs' t' (0, 0)))
    (hu : P.underlying ty = some d) (hd : (match d with | .struct _ | .array _ _ => true | _ => false) = true) (hi : (P.info? ty).map (·.size) = some cs.size)
    (hu' : P.underlying ty' = some d') (hd' : (match d' with | .struct _ | .array _ _ => true | _ => false) = true) (hi' : (P.info? ty').map (·.size) = some cs'.size) :
    (results fn tmps).run P w = .ok (.tuple #[.agg cs, v, .agg cs']) w := by
  have hp' : tmps[p]?.getD undef = .pointer (some ⟨g, 0, none⟩) := by simpa using hp
  have hq' : tmps[q]?.getD undef = v := by simpa using hq
  have hr' : tmps[r]?.getD undef = .pointer (some ⟨g', 0, none⟩) := by simpa using hr
  simp [results, h, hp', hq', hr', asAddr, run_loadVar_row w g t ty cs (0, 0) d hg hu hd hi, run_loadVar_row w g' t' ty' cs' (0, 0) d' hg' hu' hd' hi']
/-- What the readers hand back. -/
def RdP {α : Type} (z : Value) (val : α → Value) (r : Rz α) (w : World) (x : Ending) (w' : World) : Prop :=
  Below w.heap.size w w' ∧ x = .returned (match r with
    | .ok y a => .tuple #[val y, .int .i64 a, fV 0 0]
    | .err e p => .tuple #[z, .int .i64 0, fV e p])
/-- Two results in memory, as they are. -/
structure F2 (w : World) (T0 T1 : TypeId) (xs ys : List Value) (W : World) : Prop where
  b0 : W.heap[w.heap.size]? = some (.cells xs.toArray T0 (0, 0))
  b1 : W.heap[w.heap.size + 1]? = some (.cells ys.toArray T1 (0, 0))
  bel : Below w.heap.size w W
theorem F2.step {w W W' : World} {T0 T1 : TypeId} {xs ys : List Value} (h : F2 w T0 T1 xs ys W) (hb : Below W.heap.size W W') : F2 w T0 T1 xs ys W' :=
  ⟨(hb.block _ (heap_lt h.b0)).trans h.b0, (hb.block _ (heap_lt h.b1)).trans h.b1, h.bel.trans (hb.mono h.bel.size)⟩
theorem F2.turn {w W W' : World} {T0 T1 : TypeId} {xs ys : List Value} (h : F2 w T0 T1 xs ys W) {R : Nat} (hg : W.grownBy W' (some R)) (hR : w.heap.size + 2 ≤ R) : F2 w T0 T1 xs ys W' :=
  ⟨(hg.block _ (heap_lt h.b0) (fun e => by cases e; omega)).trans h.b0, (hg.block _ (heap_lt h.b1) (fun e => by cases e; omega)).trans h.b1, h.bel.grown hg h.bel.size (fun k e => by cases e; omega)⟩
theorem F2.put {w W : World} {T0 T1 : TypeId} {xs ys : List Value} (h : F2 w T0 T1 xs ys W) (vs us : List Value) (hv : xs.length = vs.length) (hu : ys.length = us.length) : F2 w T0 T1 vs us ((W.setCells w.heap.size 0 vs).setCells (w.heap.size + 1) 0 us) := by
  refine ⟨(setCells_other _ _ (by omega) _ _ _).trans (set_all h.b0 vs hv), set_all ((setCells_other _ _ (by omega) _ _ _).trans h.b1) us hu, ?_⟩
  exact setCells_below _ (by omega) _ _ _ (setCells_below _ (Nat.le_refl _) _ _ _ h.bel)
theorem F2.new (w : World) (T0 T1 : TypeId) (xs ys : List Value) : F2 w T0 T1 xs ys ((w.alloc (.cells xs.toArray T0)).alloc (.cells ys.toArray T1)) := by
  obtain ⟨h0, h1, h2, h3⟩ := two2 (Below.refl ((w.alloc (.cells xs.toArray T0)).alloc (.cells ys.toArray T1)).heap.size _)
  exact ⟨h0, h1, h2⟩

set_option maxRecDepth 100000 in
set_option maxHeartbeats 2000000 in
theorem parse_any (l : List Gt) (A : Option Addr) (c : Nat) (PA : Option Addr) (ps : List ByteArray) (pc : Nat) (a : Int) (f : Bool) (w : World) (hr : RT w w.heap.size A l) (hp : RS w w.heap.size PA ps) (hlc : l.length ≤ c) (hcm : c ≤ maxLen) (hlow : -9223372036854775808 ≤ a) (hhigh : a ≤ 9223372036854775807) (hlp : ps.length ≤ 1000) (hpc : ps.length ≤ pc) (hbd : l.length ≤ 1000000) :
    Calls Try.prog 7 #[.slice A l.length c, .int .i64 a, .slice PA ps.length pc, .bool f] w (RdP tyZ tyV (kindP l ps a f) w) := by
  have hfr := F2.new w 36 28 [.int .i64 0, .string ⟨#[]⟩, .int .i64 0, .int .i64 0, .int .i64 0, .int .i64 0, .int .i64 0, .int .i64 0, .int .i64 0, .int .i64 0, .int .i64 0] [.int .i64 0, .int .i64 0]
  obtain ⟨W0, hW0⟩ : ∃ W0, W0 = (w.alloc (.cells #[.int .i64 0, .string ⟨#[]⟩, .int .i64 0, .int .i64 0, .int .i64 0, .int .i64 0, .int .i64 0, .int .i64 0, .int .i64 0, .int .i64 0, .int .i64 0] 36)).alloc (.cells #[.int .i64 0, .int .i64 0] 28) := ⟨_, rfl⟩
  have hfr : F2 w 36 28 [.int .i64 0, .string ⟨#[]⟩, .int .i64 0, .int .i64 0, .int .i64 0, .int .i64 0, .int .i64 0, .int .i64 0, .int .i64 0, .int .i64 0, .int .i64 0] [.int .i64 0, .int .i64 0] W0 := by rw [hW0]; exact hfr
  have HF := Lib.hid hfr
  have HNR := Lib.hid (newReader_any A l.length c a PA ps.length pc W0)
  have HRT := Lib.hid hr
  have HRS := Lib.hid hp
  clear hfr hr hp
  obtain ⟨rr, hrr⟩ : ∃ rr, rr = kindP l ps a f := ⟨_, rfl⟩
  have HRR := Lib.hid hrr
  rw [← hrr]
  clear hrr
  go_enter Try.func7, Try.ntmps7
  go_upto_region 1 with fail
  rw [← hW0]
  clear hW0
  go_wp2_with fail
  refine HNR.out.mono ?_
  rintro x w1 ⟨rfl, hb1⟩
  have HF1 := Lib.hid (HF.out.step hb1)
  have ha2 := An.new (pc := pc) HRT.out HRS.out hlc hcm hlow hhigh HF1.out.bel
  have hb2 := boxed w1 (.cells #[.slice A l.length c, .int .i64 a, .slice PA ps.length pc] 62)
  obtain ⟨W2, hW2⟩ : ∃ W2, W2 = w1.alloc (.cells #[.slice A l.length c, .int .i64 a, .slice PA ps.length pc] 62) := ⟨_, rfl⟩
  go_upto_region 2 with fail
  rw [← hW2] at ha2 hb2 ⊢
  clear hW2 hb1
  have HF2 := Lib.hid (HF1.out.step hb2)
  have hls1 := heap_lt HF1.out.b1
  have HK := Lib.hid (kind_any w1.heap.size w.heap.size l A c PA ps pc a f W2 ha2 hlp hpc hbd)
  rw [← HRR.out] at HK
  clear hb2 ha2
  go_wp2_with fail
  refine HK.out.mono ?_
  rintro x w5 hpost
  cases rr with
  | err e p =>
    obtain ⟨hx, he, a5, ha5, hg5⟩ := rzP_err hpost rfl
    have hx : x = .returned (.tuple #[.agg #[.int .i64 0, .string ⟨#[]⟩, .int .i64 0, .int .i64 0, .int .i64 0, .int .i64 0, .int .i64 0, .int .i64 0, .int .i64 0, .int .i64 0, .int .i64 0], fV e p]) := hx
    subst hx
    have hne0 : (e != 0) = true := by simpa using he
    have HF5 := Lib.hid (HF2.out.turn hg5 (by omega))
    have hl5 := heap_lt HF5.out.b1
    obtain ⟨z0, z1, z2, z3⟩ := two2 (Below.refl ((w5.alloc (.cells #[.int .i64 0, .string ⟨#[]⟩, .int .i64 0, .int .i64 0, .int .i64 0, .int .i64 0, .int .i64 0, .int .i64 0, .int .i64 0, .int .i64 0, .int .i64 0] 36)).alloc (.cells #[.int .i64 e, .int .i64 p] 28)).heap.size _)
    clear hpost he ha5 hg5
    obtain ⟨W6, hW6⟩ : ∃ W6, W6 = (w5.alloc (.cells #[.int .i64 0, .string ⟨#[]⟩, .int .i64 0, .int .i64 0, .int .i64 0, .int .i64 0, .int .i64 0, .int .i64 0, .int .i64 0, .int .i64 0, .int .i64 0] 36)).alloc (.cells #[.int .i64 e, .int .i64 p] 28) := ⟨_, rfl⟩
    go_upto_region 3 with fail
    rw [← hW6] at z0 z1 z2 z3 ⊢
    clear hW6
    have HF6 := Lib.hid (HF5.out.step z2)
    obtain ⟨q0, q1⟩ := row2 z1
    clear z0 z1 z2
    have x0 := cell_at HF6.out.b0 0 _ rfl
    have f0 := frozen_of HF6.out.b0 0
    have x1 := cell_at HF6.out.b0 1 _ rfl
    have f1 := frozen_of HF6.out.b0 1
    have x2 := cell_at HF6.out.b0 2 _ rfl
    have f2 := frozen_of HF6.out.b0 2
    have x3 := cell_at HF6.out.b0 3 _ rfl
    have f3 := frozen_of HF6.out.b0 3
    have x4 := cell_at HF6.out.b0 4 _ rfl
    have f4 := frozen_of HF6.out.b0 4
    have x5 := cell_at HF6.out.b0 5 _ rfl
    have f5 := frozen_of HF6.out.b0 5
    have x6 := cell_at HF6.out.b0 6 _ rfl
    have f6 := frozen_of HF6.out.b0 6
    have x7 := cell_at HF6.out.b0 7 _ rfl
    have f7 := frozen_of HF6.out.b0 7
    have x8 := cell_at HF6.out.b0 8 _ rfl
    have f8 := frozen_of HF6.out.b0 8
    have x9 := cell_at HF6.out.b0 9 _ rfl
    have f9 := frozen_of HF6.out.b0 9
    have x10 := cell_at HF6.out.b0 10 _ rfl
    have f10 := frozen_of HF6.out.b0 10
    obtain ⟨y0, y1⟩ := row2 HF6.out.b1
    have g0 := frozen_of HF6.out.b1 0
    have g1 := frozen_of HF6.out.b1 1
    have hlt6 := heap_lt HF6.out.b1
    have n1 : ¬ w.heap.size = w5.heap.size + 1 := by omega
    have n2 : ¬ w5.heap.size + 1 = w.heap.size := by omega
    have n3 : ¬ w.heap.size + 1 = w5.heap.size + 1 := by omega
    have n4 : ¬ w5.heap.size + 1 = w.heap.size + 1 := by omega
    go_wp2_with fail
    go_region
    go_wp2_with fail
    have hF := (HF6.out.put [.int .i64 0, .string ⟨#[]⟩, .int .i64 0, .int .i64 0, .int .i64 0, .int .i64 0, .int .i64 0, .int .i64 0, .int .i64 0, .int .i64 0, .int .i64 0] [.int .i64 e, .int .i64 p] rfl rfl).step (drew_below _)
    change bodyPost _ _ _ _ _ (World.drew (World.setCells (World.setCells _ w.heap.size 0 [.int .i64 0, .string ⟨#[]⟩, .int .i64 0, .int .i64 0, .int .i64 0, .int .i64 0, .int .i64 0, .int .i64 0, .int .i64 0, .int .i64 0, .int .i64 0]) (w.heap.size + 1) 0 [.int .i64 e, .int .i64 p]))
    exact bodyPost_ret (v := .tuple #[.agg #[.int .i64 0, .string ⟨#[]⟩, .int .i64 0, .int .i64 0, .int .i64 0, .int .i64 0, .int .i64 0, .int .i64 0, .int .i64 0, .int .i64 0, .int .i64 0], .int .i64 0, fV e p]) (results_ctc Try.results7 _ _ w.heap.size (w.heap.size + 1) 36 28 _ _ _ _ _ rfl rfl rfl hF.b0 hF.b1 Try.underlying36 rfl (by kernel_rfl) Try.underlying28 rfl (by kernel_rfl)) rfl ⟨hF.bel, rfl⟩
  | ok t a1 =>
    obtain ⟨hx, ha5, hg5⟩ := rzP_ok hpost rfl
    have hx : x = .returned (.tuple #[.agg #[.int .i64 t.kind, .string t.cls, .int .i64 t.n, .int .i64 t.o0.kind, .int .i64 t.o0.n, .int .i64 t.o1.kind, .int .i64 t.o1.n, .int .i64 t.o2.kind, .int .i64 t.o2.n, .int .i64 t.o3.kind, .int .i64 t.o3.n], fV 0 0]) := hx
    subst hx
    have HF5 := Lib.hid (HF2.out.turn hg5 (by omega))
    have hl5 := heap_lt HF5.out.b1
    obtain ⟨z0, z1, z2, z3⟩ := two2 (Below.refl ((w5.alloc (.cells #[.int .i64 t.kind, .string t.cls, .int .i64 t.n, .int .i64 t.o0.kind, .int .i64 t.o0.n, .int .i64 t.o1.kind, .int .i64 t.o1.n, .int .i64 t.o2.kind, .int .i64 t.o2.n, .int .i64 t.o3.kind, .int .i64 t.o3.n] 36)).alloc (.cells #[.int .i64 0, .int .i64 0] 28)).heap.size _)
    have ha6 := ha5.below z2
    have hl15 := heap_lt ha5.cu.row
    clear hpost ha5 hg5
    obtain ⟨W6, hW6⟩ : ∃ W6, W6 = (w5.alloc (.cells #[.int .i64 t.kind, .string t.cls, .int .i64 t.n, .int .i64 t.o0.kind, .int .i64 t.o0.n, .int .i64 t.o1.kind, .int .i64 t.o1.n, .int .i64 t.o2.kind, .int .i64 t.o2.n, .int .i64 t.o3.kind, .int .i64 t.o3.n] 36)).alloc (.cells #[.int .i64 0, .int .i64 0] 28) := ⟨_, rfl⟩
    go_upto_region 3 with fail
    rw [← hW6] at z0 z1 z2 z3 ha6 ⊢
    clear hW6
    have HF6 := Lib.hid (HF5.out.step z2)
    have HPL : Hid (∀ W, An w1.heap.size w.heap.size l A c PA ps pc a1 W → Calls Try.prog 20 #[pR w1.heap.size] W fun x w' => x = .returned (.int .i64 a1) ∧ W = w') := Lib.hid (fun W hW => place_any _ _ l A c _ _ a1 W hW.cu)
    have HA6 := Lib.hid ha6
    obtain ⟨q0, q1⟩ := row2 z1
    have v0 := cell_at (cs := [.int .i64 t.kind, .string t.cls, .int .i64 t.n, .int .i64 t.o0.kind, .int .i64 t.o0.n, .int .i64 t.o1.kind, .int .i64 t.o1.n, .int .i64 t.o2.kind, .int .i64 t.o2.n, .int .i64 t.o3.kind, .int .i64 t.o3.n]) z0 0 _ rfl
    have v1 := cell_at (cs := [.int .i64 t.kind, .string t.cls, .int .i64 t.n, .int .i64 t.o0.kind, .int .i64 t.o0.n, .int .i64 t.o1.kind, .int .i64 t.o1.n, .int .i64 t.o2.kind, .int .i64 t.o2.n, .int .i64 t.o3.kind, .int .i64 t.o3.n]) z0 1 _ rfl
    have v2 := cell_at (cs := [.int .i64 t.kind, .string t.cls, .int .i64 t.n, .int .i64 t.o0.kind, .int .i64 t.o0.n, .int .i64 t.o1.kind, .int .i64 t.o1.n, .int .i64 t.o2.kind, .int .i64 t.o2.n, .int .i64 t.o3.kind, .int .i64 t.o3.n]) z0 2 _ rfl
    have v3 := cell_at (cs := [.int .i64 t.kind, .string t.cls, .int .i64 t.n, .int .i64 t.o0.kind, .int .i64 t.o0.n, .int .i64 t.o1.kind, .int .i64 t.o1.n, .int .i64 t.o2.kind, .int .i64 t.o2.n, .int .i64 t.o3.kind, .int .i64 t.o3.n]) z0 3 _ rfl
    have v4 := cell_at (cs := [.int .i64 t.kind, .string t.cls, .int .i64 t.n, .int .i64 t.o0.kind, .int .i64 t.o0.n, .int .i64 t.o1.kind, .int .i64 t.o1.n, .int .i64 t.o2.kind, .int .i64 t.o2.n, .int .i64 t.o3.kind, .int .i64 t.o3.n]) z0 4 _ rfl
    have v5 := cell_at (cs := [.int .i64 t.kind, .string t.cls, .int .i64 t.n, .int .i64 t.o0.kind, .int .i64 t.o0.n, .int .i64 t.o1.kind, .int .i64 t.o1.n, .int .i64 t.o2.kind, .int .i64 t.o2.n, .int .i64 t.o3.kind, .int .i64 t.o3.n]) z0 5 _ rfl
    have v6 := cell_at (cs := [.int .i64 t.kind, .string t.cls, .int .i64 t.n, .int .i64 t.o0.kind, .int .i64 t.o0.n, .int .i64 t.o1.kind, .int .i64 t.o1.n, .int .i64 t.o2.kind, .int .i64 t.o2.n, .int .i64 t.o3.kind, .int .i64 t.o3.n]) z0 6 _ rfl
    have v7 := cell_at (cs := [.int .i64 t.kind, .string t.cls, .int .i64 t.n, .int .i64 t.o0.kind, .int .i64 t.o0.n, .int .i64 t.o1.kind, .int .i64 t.o1.n, .int .i64 t.o2.kind, .int .i64 t.o2.n, .int .i64 t.o3.kind, .int .i64 t.o3.n]) z0 7 _ rfl
    have v8 := cell_at (cs := [.int .i64 t.kind, .string t.cls, .int .i64 t.n, .int .i64 t.o0.kind, .int .i64 t.o0.n, .int .i64 t.o1.kind, .int .i64 t.o1.n, .int .i64 t.o2.kind, .int .i64 t.o2.n, .int .i64 t.o3.kind, .int .i64 t.o3.n]) z0 8 _ rfl
    have v9 := cell_at (cs := [.int .i64 t.kind, .string t.cls, .int .i64 t.n, .int .i64 t.o0.kind, .int .i64 t.o0.n, .int .i64 t.o1.kind, .int .i64 t.o1.n, .int .i64 t.o2.kind, .int .i64 t.o2.n, .int .i64 t.o3.kind, .int .i64 t.o3.n]) z0 9 _ rfl
    have v10 := cell_at (cs := [.int .i64 t.kind, .string t.cls, .int .i64 t.n, .int .i64 t.o0.kind, .int .i64 t.o0.n, .int .i64 t.o1.kind, .int .i64 t.o1.n, .int .i64 t.o2.kind, .int .i64 t.o2.n, .int .i64 t.o3.kind, .int .i64 t.o3.n]) z0 10 _ rfl
    clear z0 z1 z2 ha6
    have x0 := cell_at HF6.out.b0 0 _ rfl
    have f0 := frozen_of HF6.out.b0 0
    have x1 := cell_at HF6.out.b0 1 _ rfl
    have f1 := frozen_of HF6.out.b0 1
    have x2 := cell_at HF6.out.b0 2 _ rfl
    have f2 := frozen_of HF6.out.b0 2
    have x3 := cell_at HF6.out.b0 3 _ rfl
    have f3 := frozen_of HF6.out.b0 3
    have x4 := cell_at HF6.out.b0 4 _ rfl
    have f4 := frozen_of HF6.out.b0 4
    have x5 := cell_at HF6.out.b0 5 _ rfl
    have f5 := frozen_of HF6.out.b0 5
    have x6 := cell_at HF6.out.b0 6 _ rfl
    have f6 := frozen_of HF6.out.b0 6
    have x7 := cell_at HF6.out.b0 7 _ rfl
    have f7 := frozen_of HF6.out.b0 7
    have x8 := cell_at HF6.out.b0 8 _ rfl
    have f8 := frozen_of HF6.out.b0 8
    have x9 := cell_at HF6.out.b0 9 _ rfl
    have f9 := frozen_of HF6.out.b0 9
    have x10 := cell_at HF6.out.b0 10 _ rfl
    have f10 := frozen_of HF6.out.b0 10
    obtain ⟨y0, y1⟩ := row2 HF6.out.b1
    have g0 := frozen_of HF6.out.b1 0
    have g1 := frozen_of HF6.out.b1 1
    have hlt6 := heap_lt HF6.out.b1
    have n1 : ¬ w.heap.size = w5.heap.size + 1 := by omega
    have n2 : ¬ w5.heap.size + 1 = w.heap.size := by omega
    have n3 : ¬ w.heap.size + 1 = w5.heap.size + 1 := by omega
    have n4 : ¬ w5.heap.size + 1 = w.heap.size + 1 := by omega
    go_wp2_with fail
    go_region_with (go_at_call 20; refine (HPL.out _ (HA6.out.below (drew_below _))).mono ?_; rintro e w9 ⟨rfl, rfl⟩)
    all_goals
      go_wp2_with fail
      have hF := (HF6.out.put [.int .i64 t.kind, .string t.cls, .int .i64 t.n, .int .i64 t.o0.kind, .int .i64 t.o0.n, .int .i64 t.o1.kind, .int .i64 t.o1.n, .int .i64 t.o2.kind, .int .i64 t.o2.n, .int .i64 t.o3.kind, .int .i64 t.o3.n] [.int .i64 0, .int .i64 0] rfl rfl).step (drew_below _)
      change bodyPost _ _ _ _ _ (World.drew (World.setCells (World.setCells _ w.heap.size 0 [.int .i64 t.kind, .string t.cls, .int .i64 t.n, .int .i64 t.o0.kind, .int .i64 t.o0.n, .int .i64 t.o1.kind, .int .i64 t.o1.n, .int .i64 t.o2.kind, .int .i64 t.o2.n, .int .i64 t.o3.kind, .int .i64 t.o3.n]) (w.heap.size + 1) 0 [.int .i64 0, .int .i64 0]))
      exact bodyPost_ret (v := .tuple #[.agg #[.int .i64 t.kind, .string t.cls, .int .i64 t.n, .int .i64 t.o0.kind, .int .i64 t.o0.n, .int .i64 t.o1.kind, .int .i64 t.o1.n, .int .i64 t.o2.kind, .int .i64 t.o2.n, .int .i64 t.o3.kind, .int .i64 t.o3.n], .int .i64 a1, fV 0 0]) (results_ctc Try.results7 _ _ w.heap.size (w.heap.size + 1) 36 28 _ _ _ _ _ rfl rfl rfl hF.b0 hF.b1 Try.underlying36 rfl (by kernel_rfl) Try.underlying28 rfl (by kernel_rfl)) rfl ⟨hF.bel, rfl⟩
set_option maxRecDepth 100000 in
set_option maxHeartbeats 2000000 in
theorem var_any (l : List Gt) (A : Option Addr) (c : Nat) (PA : Option Addr) (ps : List ByteArray) (pc : Nat) (a : Int) (w : World) (hr : RT w w.heap.size A l) (hp : RS w w.heap.size PA ps) (hlc : l.length ≤ c) (hcm : c ≤ maxLen) (hlow : -9223372036854775808 ≤ a) (hhigh : a ≤ 9223372036854775807) (hlp : ps.length ≤ 1000) (hpc : ps.length ≤ pc) (hbd : l.length ≤ 1000000) :
    Calls Try.prog 11 #[.slice A l.length c, .int .i64 a, .slice PA ps.length pc] w (RdP vrZ vrV (varP l ps a) w) := by
  have hfr := F2.new w 41 28 [.string ⟨#[]⟩, .int .i64 0, .string ⟨#[]⟩, .int .i64 0, .int .i64 0, .int .i64 0, .int .i64 0, .int .i64 0, .int .i64 0, .int .i64 0, .int .i64 0, .int .i64 0, .int .i64 0] [.int .i64 0, .int .i64 0]
  obtain ⟨W0, hW0⟩ : ∃ W0, W0 = (w.alloc (.cells #[.string ⟨#[]⟩, .int .i64 0, .string ⟨#[]⟩, .int .i64 0, .int .i64 0, .int .i64 0, .int .i64 0, .int .i64 0, .int .i64 0, .int .i64 0, .int .i64 0, .int .i64 0, .int .i64 0] 41)).alloc (.cells #[.int .i64 0, .int .i64 0] 28) := ⟨_, rfl⟩
  have hfr : F2 w 41 28 [.string ⟨#[]⟩, .int .i64 0, .string ⟨#[]⟩, .int .i64 0, .int .i64 0, .int .i64 0, .int .i64 0, .int .i64 0, .int .i64 0, .int .i64 0, .int .i64 0, .int .i64 0, .int .i64 0] [.int .i64 0, .int .i64 0] W0 := by rw [hW0]; exact hfr
  have HF := Lib.hid hfr
  have HNR := Lib.hid (newReader_any A l.length c a PA ps.length pc W0)
  have HRT := Lib.hid hr
  have HRS := Lib.hid hp
  clear hfr hr hp
  obtain ⟨rr, hrr⟩ : ∃ rr, rr = varP l ps a := ⟨_, rfl⟩
  have HRR := Lib.hid hrr
  rw [← hrr]
  clear hrr
  go_enter Try.func11, Try.ntmps11
  go_upto_region 1 with fail
  rw [← hW0]
  clear hW0
  go_wp2_with fail
  refine HNR.out.mono ?_
  rintro x w1 ⟨rfl, hb1⟩
  have HF1 := Lib.hid (HF.out.step hb1)
  have ha2 := An.new (pc := pc) HRT.out HRS.out hlc hcm hlow hhigh HF1.out.bel
  have hb2 := boxed w1 (.cells #[.slice A l.length c, .int .i64 a, .slice PA ps.length pc] 62)
  obtain ⟨W2, hW2⟩ : ∃ W2, W2 = w1.alloc (.cells #[.slice A l.length c, .int .i64 a, .slice PA ps.length pc] 62) := ⟨_, rfl⟩
  go_upto_region 2 with fail
  rw [← hW2] at ha2 hb2 ⊢
  clear hW2 hb1
  have HF2 := Lib.hid (HF1.out.step hb2)
  have hls1 := heap_lt HF1.out.b1
  have HK := Lib.hid (variable_any w1.heap.size w.heap.size l A c PA ps pc a W2 ha2 hlp hpc hbd)
  rw [← HRR.out] at HK
  clear hb2 ha2
  go_wp2_with fail
  refine HK.out.mono ?_
  rintro x w5 hpost
  cases rr with
  | err e p =>
    obtain ⟨hx, he, a5, ha5, hg5⟩ := rzP_err hpost rfl
    have hx : x = .returned (.tuple #[.agg #[.string ⟨#[]⟩, .int .i64 0, .string ⟨#[]⟩, .int .i64 0, .int .i64 0, .int .i64 0, .int .i64 0, .int .i64 0, .int .i64 0, .int .i64 0, .int .i64 0, .int .i64 0, .int .i64 0], fV e p]) := hx
    subst hx
    have hne0 : (e != 0) = true := by simpa using he
    have HF5 := Lib.hid (HF2.out.turn hg5 (by omega))
    have hl5 := heap_lt HF5.out.b1
    obtain ⟨z0, z1, z2, z3⟩ := two2 (Below.refl ((w5.alloc (.cells #[.string ⟨#[]⟩, .int .i64 0, .string ⟨#[]⟩, .int .i64 0, .int .i64 0, .int .i64 0, .int .i64 0, .int .i64 0, .int .i64 0, .int .i64 0, .int .i64 0, .int .i64 0, .int .i64 0] 41)).alloc (.cells #[.int .i64 e, .int .i64 p] 28)).heap.size _)
    clear hpost he ha5 hg5
    obtain ⟨W6, hW6⟩ : ∃ W6, W6 = (w5.alloc (.cells #[.string ⟨#[]⟩, .int .i64 0, .string ⟨#[]⟩, .int .i64 0, .int .i64 0, .int .i64 0, .int .i64 0, .int .i64 0, .int .i64 0, .int .i64 0, .int .i64 0, .int .i64 0, .int .i64 0] 41)).alloc (.cells #[.int .i64 e, .int .i64 p] 28) := ⟨_, rfl⟩
    go_upto_region 3 with fail
    rw [← hW6] at z0 z1 z2 z3 ⊢
    clear hW6
    have HF6 := Lib.hid (HF5.out.step z2)
    obtain ⟨q0, q1⟩ := row2 z1
    clear z0 z1 z2
    have x0 := cell_at HF6.out.b0 0 _ rfl
    have f0 := frozen_of HF6.out.b0 0
    have x1 := cell_at HF6.out.b0 1 _ rfl
    have f1 := frozen_of HF6.out.b0 1
    have x2 := cell_at HF6.out.b0 2 _ rfl
    have f2 := frozen_of HF6.out.b0 2
    have x3 := cell_at HF6.out.b0 3 _ rfl
    have f3 := frozen_of HF6.out.b0 3
    have x4 := cell_at HF6.out.b0 4 _ rfl
    have f4 := frozen_of HF6.out.b0 4
    have x5 := cell_at HF6.out.b0 5 _ rfl
    have f5 := frozen_of HF6.out.b0 5
    have x6 := cell_at HF6.out.b0 6 _ rfl
    have f6 := frozen_of HF6.out.b0 6
    have x7 := cell_at HF6.out.b0 7 _ rfl
    have f7 := frozen_of HF6.out.b0 7
    have x8 := cell_at HF6.out.b0 8 _ rfl
    have f8 := frozen_of HF6.out.b0 8
    have x9 := cell_at HF6.out.b0 9 _ rfl
    have f9 := frozen_of HF6.out.b0 9
    have x10 := cell_at HF6.out.b0 10 _ rfl
    have f10 := frozen_of HF6.out.b0 10
    have x11 := cell_at HF6.out.b0 11 _ rfl
    have f11 := frozen_of HF6.out.b0 11
    have x12 := cell_at HF6.out.b0 12 _ rfl
    have f12 := frozen_of HF6.out.b0 12
    obtain ⟨y0, y1⟩ := row2 HF6.out.b1
    have g0 := frozen_of HF6.out.b1 0
    have g1 := frozen_of HF6.out.b1 1
    have hlt6 := heap_lt HF6.out.b1
    have n1 : ¬ w.heap.size = w5.heap.size + 1 := by omega
    have n2 : ¬ w5.heap.size + 1 = w.heap.size := by omega
    have n3 : ¬ w.heap.size + 1 = w5.heap.size + 1 := by omega
    have n4 : ¬ w5.heap.size + 1 = w.heap.size + 1 := by omega
    go_wp2_with fail
    go_region
    go_wp2_with fail
    have hF := (HF6.out.put [.string ⟨#[]⟩, .int .i64 0, .string ⟨#[]⟩, .int .i64 0, .int .i64 0, .int .i64 0, .int .i64 0, .int .i64 0, .int .i64 0, .int .i64 0, .int .i64 0, .int .i64 0, .int .i64 0] [.int .i64 e, .int .i64 p] rfl rfl).step (drew_below _)
    change bodyPost _ _ _ _ _ (World.drew (World.setCells (World.setCells _ w.heap.size 0 [.string ⟨#[]⟩, .int .i64 0, .string ⟨#[]⟩, .int .i64 0, .int .i64 0, .int .i64 0, .int .i64 0, .int .i64 0, .int .i64 0, .int .i64 0, .int .i64 0, .int .i64 0, .int .i64 0]) (w.heap.size + 1) 0 [.int .i64 e, .int .i64 p]))
    exact bodyPost_ret (v := .tuple #[.agg #[.string ⟨#[]⟩, .int .i64 0, .string ⟨#[]⟩, .int .i64 0, .int .i64 0, .int .i64 0, .int .i64 0, .int .i64 0, .int .i64 0, .int .i64 0, .int .i64 0, .int .i64 0, .int .i64 0], .int .i64 0, fV e p]) (results_ctc Try.results11 _ _ w.heap.size (w.heap.size + 1) 41 28 _ _ _ _ _ rfl rfl rfl hF.b0 hF.b1 Try.underlying41 rfl (by kernel_rfl) Try.underlying28 rfl (by kernel_rfl)) rfl ⟨hF.bel, rfl⟩
  | ok t a1 =>
    obtain ⟨hx, ha5, hg5⟩ := rzP_ok hpost rfl
    have hx : x = .returned (.tuple #[.agg #[.string t.nm, .int .i64 t.ty.kind, .string t.ty.cls, .int .i64 t.ty.n, .int .i64 t.ty.o0.kind, .int .i64 t.ty.o0.n, .int .i64 t.ty.o1.kind, .int .i64 t.ty.o1.n, .int .i64 t.ty.o2.kind, .int .i64 t.ty.o2.n, .int .i64 t.ty.o3.kind, .int .i64 t.ty.o3.n, .int .i64 t.pos], fV 0 0]) := hx
    subst hx
    have HF5 := Lib.hid (HF2.out.turn hg5 (by omega))
    have hl5 := heap_lt HF5.out.b1
    obtain ⟨z0, z1, z2, z3⟩ := two2 (Below.refl ((w5.alloc (.cells #[.string t.nm, .int .i64 t.ty.kind, .string t.ty.cls, .int .i64 t.ty.n, .int .i64 t.ty.o0.kind, .int .i64 t.ty.o0.n, .int .i64 t.ty.o1.kind, .int .i64 t.ty.o1.n, .int .i64 t.ty.o2.kind, .int .i64 t.ty.o2.n, .int .i64 t.ty.o3.kind, .int .i64 t.ty.o3.n, .int .i64 t.pos] 41)).alloc (.cells #[.int .i64 0, .int .i64 0] 28)).heap.size _)
    have ha6 := ha5.below z2
    have hl15 := heap_lt ha5.cu.row
    clear hpost ha5 hg5
    obtain ⟨W6, hW6⟩ : ∃ W6, W6 = (w5.alloc (.cells #[.string t.nm, .int .i64 t.ty.kind, .string t.ty.cls, .int .i64 t.ty.n, .int .i64 t.ty.o0.kind, .int .i64 t.ty.o0.n, .int .i64 t.ty.o1.kind, .int .i64 t.ty.o1.n, .int .i64 t.ty.o2.kind, .int .i64 t.ty.o2.n, .int .i64 t.ty.o3.kind, .int .i64 t.ty.o3.n, .int .i64 t.pos] 41)).alloc (.cells #[.int .i64 0, .int .i64 0] 28) := ⟨_, rfl⟩
    go_upto_region 3 with fail
    rw [← hW6] at z0 z1 z2 z3 ha6 ⊢
    clear hW6
    have HF6 := Lib.hid (HF5.out.step z2)
    have HPL : Hid (∀ W, An w1.heap.size w.heap.size l A c PA ps pc a1 W → Calls Try.prog 20 #[pR w1.heap.size] W fun x w' => x = .returned (.int .i64 a1) ∧ W = w') := Lib.hid (fun W hW => place_any _ _ l A c _ _ a1 W hW.cu)
    have HA6 := Lib.hid ha6
    obtain ⟨q0, q1⟩ := row2 z1
    have v0 := cell_at (cs := [.string t.nm, .int .i64 t.ty.kind, .string t.ty.cls, .int .i64 t.ty.n, .int .i64 t.ty.o0.kind, .int .i64 t.ty.o0.n, .int .i64 t.ty.o1.kind, .int .i64 t.ty.o1.n, .int .i64 t.ty.o2.kind, .int .i64 t.ty.o2.n, .int .i64 t.ty.o3.kind, .int .i64 t.ty.o3.n, .int .i64 t.pos]) z0 0 _ rfl
    have v1 := cell_at (cs := [.string t.nm, .int .i64 t.ty.kind, .string t.ty.cls, .int .i64 t.ty.n, .int .i64 t.ty.o0.kind, .int .i64 t.ty.o0.n, .int .i64 t.ty.o1.kind, .int .i64 t.ty.o1.n, .int .i64 t.ty.o2.kind, .int .i64 t.ty.o2.n, .int .i64 t.ty.o3.kind, .int .i64 t.ty.o3.n, .int .i64 t.pos]) z0 1 _ rfl
    have v2 := cell_at (cs := [.string t.nm, .int .i64 t.ty.kind, .string t.ty.cls, .int .i64 t.ty.n, .int .i64 t.ty.o0.kind, .int .i64 t.ty.o0.n, .int .i64 t.ty.o1.kind, .int .i64 t.ty.o1.n, .int .i64 t.ty.o2.kind, .int .i64 t.ty.o2.n, .int .i64 t.ty.o3.kind, .int .i64 t.ty.o3.n, .int .i64 t.pos]) z0 2 _ rfl
    have v3 := cell_at (cs := [.string t.nm, .int .i64 t.ty.kind, .string t.ty.cls, .int .i64 t.ty.n, .int .i64 t.ty.o0.kind, .int .i64 t.ty.o0.n, .int .i64 t.ty.o1.kind, .int .i64 t.ty.o1.n, .int .i64 t.ty.o2.kind, .int .i64 t.ty.o2.n, .int .i64 t.ty.o3.kind, .int .i64 t.ty.o3.n, .int .i64 t.pos]) z0 3 _ rfl
    have v4 := cell_at (cs := [.string t.nm, .int .i64 t.ty.kind, .string t.ty.cls, .int .i64 t.ty.n, .int .i64 t.ty.o0.kind, .int .i64 t.ty.o0.n, .int .i64 t.ty.o1.kind, .int .i64 t.ty.o1.n, .int .i64 t.ty.o2.kind, .int .i64 t.ty.o2.n, .int .i64 t.ty.o3.kind, .int .i64 t.ty.o3.n, .int .i64 t.pos]) z0 4 _ rfl
    have v5 := cell_at (cs := [.string t.nm, .int .i64 t.ty.kind, .string t.ty.cls, .int .i64 t.ty.n, .int .i64 t.ty.o0.kind, .int .i64 t.ty.o0.n, .int .i64 t.ty.o1.kind, .int .i64 t.ty.o1.n, .int .i64 t.ty.o2.kind, .int .i64 t.ty.o2.n, .int .i64 t.ty.o3.kind, .int .i64 t.ty.o3.n, .int .i64 t.pos]) z0 5 _ rfl
    have v6 := cell_at (cs := [.string t.nm, .int .i64 t.ty.kind, .string t.ty.cls, .int .i64 t.ty.n, .int .i64 t.ty.o0.kind, .int .i64 t.ty.o0.n, .int .i64 t.ty.o1.kind, .int .i64 t.ty.o1.n, .int .i64 t.ty.o2.kind, .int .i64 t.ty.o2.n, .int .i64 t.ty.o3.kind, .int .i64 t.ty.o3.n, .int .i64 t.pos]) z0 6 _ rfl
    have v7 := cell_at (cs := [.string t.nm, .int .i64 t.ty.kind, .string t.ty.cls, .int .i64 t.ty.n, .int .i64 t.ty.o0.kind, .int .i64 t.ty.o0.n, .int .i64 t.ty.o1.kind, .int .i64 t.ty.o1.n, .int .i64 t.ty.o2.kind, .int .i64 t.ty.o2.n, .int .i64 t.ty.o3.kind, .int .i64 t.ty.o3.n, .int .i64 t.pos]) z0 7 _ rfl
    have v8 := cell_at (cs := [.string t.nm, .int .i64 t.ty.kind, .string t.ty.cls, .int .i64 t.ty.n, .int .i64 t.ty.o0.kind, .int .i64 t.ty.o0.n, .int .i64 t.ty.o1.kind, .int .i64 t.ty.o1.n, .int .i64 t.ty.o2.kind, .int .i64 t.ty.o2.n, .int .i64 t.ty.o3.kind, .int .i64 t.ty.o3.n, .int .i64 t.pos]) z0 8 _ rfl
    have v9 := cell_at (cs := [.string t.nm, .int .i64 t.ty.kind, .string t.ty.cls, .int .i64 t.ty.n, .int .i64 t.ty.o0.kind, .int .i64 t.ty.o0.n, .int .i64 t.ty.o1.kind, .int .i64 t.ty.o1.n, .int .i64 t.ty.o2.kind, .int .i64 t.ty.o2.n, .int .i64 t.ty.o3.kind, .int .i64 t.ty.o3.n, .int .i64 t.pos]) z0 9 _ rfl
    have v10 := cell_at (cs := [.string t.nm, .int .i64 t.ty.kind, .string t.ty.cls, .int .i64 t.ty.n, .int .i64 t.ty.o0.kind, .int .i64 t.ty.o0.n, .int .i64 t.ty.o1.kind, .int .i64 t.ty.o1.n, .int .i64 t.ty.o2.kind, .int .i64 t.ty.o2.n, .int .i64 t.ty.o3.kind, .int .i64 t.ty.o3.n, .int .i64 t.pos]) z0 10 _ rfl
    have v11 := cell_at (cs := [.string t.nm, .int .i64 t.ty.kind, .string t.ty.cls, .int .i64 t.ty.n, .int .i64 t.ty.o0.kind, .int .i64 t.ty.o0.n, .int .i64 t.ty.o1.kind, .int .i64 t.ty.o1.n, .int .i64 t.ty.o2.kind, .int .i64 t.ty.o2.n, .int .i64 t.ty.o3.kind, .int .i64 t.ty.o3.n, .int .i64 t.pos]) z0 11 _ rfl
    have v12 := cell_at (cs := [.string t.nm, .int .i64 t.ty.kind, .string t.ty.cls, .int .i64 t.ty.n, .int .i64 t.ty.o0.kind, .int .i64 t.ty.o0.n, .int .i64 t.ty.o1.kind, .int .i64 t.ty.o1.n, .int .i64 t.ty.o2.kind, .int .i64 t.ty.o2.n, .int .i64 t.ty.o3.kind, .int .i64 t.ty.o3.n, .int .i64 t.pos]) z0 12 _ rfl
    clear z0 z1 z2 ha6
    have x0 := cell_at HF6.out.b0 0 _ rfl
    have f0 := frozen_of HF6.out.b0 0
    have x1 := cell_at HF6.out.b0 1 _ rfl
    have f1 := frozen_of HF6.out.b0 1
    have x2 := cell_at HF6.out.b0 2 _ rfl
    have f2 := frozen_of HF6.out.b0 2
    have x3 := cell_at HF6.out.b0 3 _ rfl
    have f3 := frozen_of HF6.out.b0 3
    have x4 := cell_at HF6.out.b0 4 _ rfl
    have f4 := frozen_of HF6.out.b0 4
    have x5 := cell_at HF6.out.b0 5 _ rfl
    have f5 := frozen_of HF6.out.b0 5
    have x6 := cell_at HF6.out.b0 6 _ rfl
    have f6 := frozen_of HF6.out.b0 6
    have x7 := cell_at HF6.out.b0 7 _ rfl
    have f7 := frozen_of HF6.out.b0 7
    have x8 := cell_at HF6.out.b0 8 _ rfl
    have f8 := frozen_of HF6.out.b0 8
    have x9 := cell_at HF6.out.b0 9 _ rfl
    have f9 := frozen_of HF6.out.b0 9
    have x10 := cell_at HF6.out.b0 10 _ rfl
    have f10 := frozen_of HF6.out.b0 10
    have x11 := cell_at HF6.out.b0 11 _ rfl
    have f11 := frozen_of HF6.out.b0 11
    have x12 := cell_at HF6.out.b0 12 _ rfl
    have f12 := frozen_of HF6.out.b0 12
    obtain ⟨y0, y1⟩ := row2 HF6.out.b1
    have g0 := frozen_of HF6.out.b1 0
    have g1 := frozen_of HF6.out.b1 1
    have hlt6 := heap_lt HF6.out.b1
    have n1 : ¬ w.heap.size = w5.heap.size + 1 := by omega
    have n2 : ¬ w5.heap.size + 1 = w.heap.size := by omega
    have n3 : ¬ w.heap.size + 1 = w5.heap.size + 1 := by omega
    have n4 : ¬ w5.heap.size + 1 = w.heap.size + 1 := by omega
    go_wp2_with fail
    go_region_with (go_at_call 20; refine (HPL.out _ (HA6.out.below (drew_below _))).mono ?_; rintro e w9 ⟨rfl, rfl⟩)
    all_goals
      go_wp2_with fail
      have hF := (HF6.out.put [.string t.nm, .int .i64 t.ty.kind, .string t.ty.cls, .int .i64 t.ty.n, .int .i64 t.ty.o0.kind, .int .i64 t.ty.o0.n, .int .i64 t.ty.o1.kind, .int .i64 t.ty.o1.n, .int .i64 t.ty.o2.kind, .int .i64 t.ty.o2.n, .int .i64 t.ty.o3.kind, .int .i64 t.ty.o3.n, .int .i64 t.pos] [.int .i64 0, .int .i64 0] rfl rfl).step (drew_below _)
      change bodyPost _ _ _ _ _ (World.drew (World.setCells (World.setCells _ w.heap.size 0 [.string t.nm, .int .i64 t.ty.kind, .string t.ty.cls, .int .i64 t.ty.n, .int .i64 t.ty.o0.kind, .int .i64 t.ty.o0.n, .int .i64 t.ty.o1.kind, .int .i64 t.ty.o1.n, .int .i64 t.ty.o2.kind, .int .i64 t.ty.o2.n, .int .i64 t.ty.o3.kind, .int .i64 t.ty.o3.n, .int .i64 t.pos]) (w.heap.size + 1) 0 [.int .i64 0, .int .i64 0]))
      exact bodyPost_ret (v := .tuple #[.agg #[.string t.nm, .int .i64 t.ty.kind, .string t.ty.cls, .int .i64 t.ty.n, .int .i64 t.ty.o0.kind, .int .i64 t.ty.o0.n, .int .i64 t.ty.o1.kind, .int .i64 t.ty.o1.n, .int .i64 t.ty.o2.kind, .int .i64 t.ty.o2.n, .int .i64 t.ty.o3.kind, .int .i64 t.ty.o3.n, .int .i64 t.pos], .int .i64 a1, fV 0 0]) (results_ctc Try.results11 _ _ w.heap.size (w.heap.size + 1) 41 28 _ _ _ _ _ rfl rfl rfl hF.b0 hF.b1 Try.underlying41 rfl (by kernel_rfl) Try.underlying28 rfl (by kernel_rfl)) rfl ⟨hF.bel, rfl⟩
/-- Three results: a value, a number, one in memory. -/
theorem results_ttc {P : Program} {fn : Func} {p q r : Tmp} {ty' : TypeId} (h : fn.results = #[.tmp p, .tmp q, .cell r ty']) (tmps : Array Value) (w : World) (g' : Nat) (t' : TypeId) (u v : Value) (cs' : Array Value) (d' : TypeDesc)
    (hp : tmps.getD p undef = u) (hq : tmps.getD q undef = v) (hr : tmps.getD r undef = .pointer (some ⟨g', 0, none⟩)) (hg' : w.heap[g']? = some (.cells cs' t' (0, 0)))
    (hu' : P.underlying ty' = some d') (hd' : (match d' with | .struct _ | .array _ _ => true | _ => false) = true) (hi' : (P.info? ty').map (·.size) = some cs'.size) :
    (results fn tmps).run P w = .ok (.tuple #[u, v, .agg cs']) w := by
  have hp' : tmps[p]?.getD undef = u := by simpa using hp
  have hq' : tmps[q]?.getD undef = v := by simpa using hq
  have hr' : tmps[r]?.getD undef = .pointer (some ⟨g', 0, none⟩) := by simpa using hr
  simp [results, h, hp', hq', hr', asAddr, run_loadVar_row w g' t' ty' cs' (0, 0) d' hg' hu' hd' hi']
/-- What the reader of owners hands back. -/
def RoP (r : Rz (List Ow)) (w : World) (x : Ending) (w' : World) : Prop :=
  Below w.heap.size w w' ∧ match r with
    | .ok y a => ∃ v, x = .returned (.tuple #[v, .int .i64 a, fV 0 0]) ∧ w'.ownsRow w.heap.size 33 2 v y.length (ocells y)
    | .err e p => x = .returned (.tuple #[.slice none 0 0, .int .i64 0, fV e p])

set_option maxRecDepth 100000 in
set_option maxHeartbeats 2000000 in
theorem ownersAt_any (l : List Gt) (A : Option Addr) (c : Nat) (PA : Option Addr) (ps : List ByteArray) (pc : Nat) (a : Int) (w : World) (hr : RT w w.heap.size A l) (hp : RS w w.heap.size PA ps) (hlc : l.length ≤ c) (hcm : c ≤ maxLen) (hlow : -9223372036854775808 ≤ a) (hhigh : a ≤ 9223372036854775807) (hlp : ps.length ≤ 1000) (hpc : ps.length ≤ pc) (hbd : l.length ≤ 1000000) :
    Calls Try.prog 9 #[.slice A l.length c, .int .i64 a, .slice PA ps.length pc] w (RoP (ownersP l ps a) w) := by
  have hb0 := boxed w flt0
  have hn0 := heap_new w flt0
  obtain ⟨W0, hW0⟩ : ∃ W0, W0 = w.alloc flt0 := ⟨_, rfl⟩
  rw [← hW0] at hb0 hn0
  have HB0 := Lib.hid hb0
  have HN0 := Lib.hid hn0
  have HNR := Lib.hid (newReader_any A l.length c a PA ps.length pc W0)
  have HRT := Lib.hid hr
  have HRS := Lib.hid hp
  clear hb0 hn0 hr hp
  obtain ⟨rr, hrr⟩ : ∃ rr, rr = ownersP l ps a := ⟨_, rfl⟩
  have HRR := Lib.hid hrr
  rw [← hrr]
  clear hrr
  go_enter Try.func9, Try.ntmps9
  go_upto_region 1 with fail
  rw [← hW0]
  clear hW0
  go_wp2_with fail
  refine HNR.out.mono ?_
  rintro x w1 ⟨rfl, hb1⟩
  have hbw1 := HB0.out.trans (hb1.mono HB0.out.size)
  have ha2 := An.new (pc := pc) HRT.out HRS.out hlc hcm hlow hhigh hbw1
  have hb2 := boxed w1 (.cells #[.slice A l.length c, .int .i64 a, .slice PA ps.length pc] 62)
  have hn1 := (hb1.block _ (heap_lt HN0.out)).trans HN0.out
  have hl1 := heap_lt hn1
  have HN2 := Lib.hid ((hb2.block _ hl1).trans hn1)
  obtain ⟨W2, hW2⟩ : ∃ W2, W2 = w1.alloc (.cells #[.slice A l.length c, .int .i64 a, .slice PA ps.length pc] 62) := ⟨_, rfl⟩
  go_upto_region 2 with fail
  rw [← hW2] at ha2 hb2 HN2 ⊢
  clear hW2 hb1 hn1
  have HB2 := Lib.hid (hbw1.trans (hb2.mono hbw1.size))
  have HK := Lib.hid (owners_any w1.heap.size w.heap.size l A c PA ps pc a W2 ha2 hlp hpc hbd)
  rw [← HRR.out] at HK
  have hlW2 := heap_lt ha2.cu.row
  clear hb2 ha2 hbw1
  go_wp2_with fail
  refine HK.out.mono ?_
  rintro x w5 hpost
  cases rr with
  | err e p =>
    obtain ⟨rfl, he, a5, ha5, hg5⟩ := owsP_err hpost rfl
    have hne0 : (e != 0) = true := by simpa using he
    have hn5 := (hg5.block _ (heap_lt HN2.out) (fun e => by have := Option.some.inj e; omega)).trans HN2.out
    have hB5 : Below w.heap.size w w5 := HB2.out.grown hg5 HB2.out.size (fun k e => by have := Option.some.inj e; omega)
    have hl5 := heap_lt hn5
    have hb6 := boxed w5 (.cells #[.int .i64 e, .int .i64 p] 28)
    have ht6 := heap_new w5 (.cells #[.int .i64 e, .int .i64 p] 28)
    clear hpost he ha5 hg5
    obtain ⟨W6, hW6⟩ : ∃ W6, W6 = w5.alloc (.cells #[.int .i64 e, .int .i64 p] 28) := ⟨_, rfl⟩
    go_upto_region 3 with fail
    rw [← hW6] at hb6 ht6 ⊢
    clear hW6
    have hn6 := (hb6.block _ (heap_lt hn5)).trans hn5
    have HN6 := Lib.hid hn6
    have HB6 := Lib.hid (hB5.trans (hb6.mono hB5.size))
    obtain ⟨q0, q1⟩ := row2 ht6
    obtain ⟨y0, y1⟩ := row2 hn6
    have g0 := frozen_of hn6 0
    have g1 := frozen_of hn6 1
    have hlt6 := heap_lt hn6
    have n1 : ¬ w.heap.size = w5.heap.size := by omega
    have n2 : ¬ w5.heap.size = w.heap.size := by omega
    clear hn6 hn5 hb6 ht6 hB5
    go_wp2_with fail
    go_region
    go_wp2_with fail
    have hs0 := set_all HN6.out [.int .i64 e, .int .i64 p] rfl
    have hs := ((drew_below _).block _ (heap_lt hs0)).trans hs0
    have hbf := (setCells_below w.heap.size (Nat.le_refl _) [.int .i64 e, .int .i64 p] 0 _ HB6.out).drew
    change bodyPost _ _ _ _ _ (World.drew (World.setCells _ w.heap.size 0 [.int .i64 e, .int .i64 p]))
    exact bodyPost_ret (v := .tuple #[.slice none 0 0, .int .i64 0, fV e p]) (results_ttc Try.results9 _ _ w.heap.size 28 _ _ _ _ rfl rfl rfl hs Try.underlying28 rfl (by kernel_rfl)) rfl ⟨hbf, rfl⟩
  | ok y a1 =>
    obtain ⟨v, rfl, ha5, ho5, hg5⟩ := owsP_ok hpost rfl
    have hn5 := (hg5.block _ (heap_lt HN2.out) (fun e => by have := Option.some.inj e; omega)).trans HN2.out
    have hB5 : Below w.heap.size w w5 := HB2.out.grown hg5 HB2.out.size (fun k e => by have := Option.some.inj e; omega)
    have hl5 := heap_lt hn5
    have hb6 := boxed w5 (.cells #[.int .i64 0, .int .i64 0] 28)
    have ht6 := heap_new w5 (.cells #[.int .i64 0, .int .i64 0] 28)
    have HO6 := Lib.hid (ho5.alloc (.cells #[.int .i64 0, .int .i64 0] 28))
    have ha6 := ha5.below hb6
    clear hpost ha5 hg5 ho5
    obtain ⟨W6, hW6⟩ : ∃ W6, W6 = w5.alloc (.cells #[.int .i64 0, .int .i64 0] 28) := ⟨_, rfl⟩
    go_upto_region 3 with fail
    rw [← hW6] at hb6 ht6 ha6 HO6 ⊢
    clear hW6
    have hn6 := (hb6.block _ (heap_lt hn5)).trans hn5
    have HN6 := Lib.hid hn6
    have HB6 := Lib.hid (hB5.trans (hb6.mono hB5.size))
    obtain ⟨q0, q1⟩ := row2 ht6
    obtain ⟨y0, y1⟩ := row2 hn6
    have g0 := frozen_of hn6 0
    have g1 := frozen_of hn6 1
    have hlt6 := heap_lt hn6
    have HPL := Lib.hid (place_any w1.heap.size w.heap.size l A c _ _ a1 W6 ha6.cu)
    clear hn6 hn5 hb6 ht6 hB5 ha6
    go_wp2_with fail
    refine HPL.out.mono ?_
    rintro e w9 ⟨rfl, rfl⟩
    go_wp2_with fail
    have hs := set_all HN6.out [.int .i64 0, .int .i64 0] rfl
    have hbf := setCells_below w.heap.size (Nat.le_refl _) [.int .i64 0, .int .i64 0] 0 _ HB6.out
    have ho := own_base (own_apart HO6.out (setCells_gb w.heap.size [.int .i64 0, .int .i64 0] 0 W6) (by have := HB2.out.size; omega)) HB2.out.size
    change bodyPost _ _ _ _ _ (World.setCells _ w.heap.size 0 [.int .i64 0, .int .i64 0])
    exact bodyPost_ret (v := .tuple #[v, .int .i64 a1, fV 0 0]) (results_ttc Try.results9 _ _ w.heap.size 28 _ _ _ _ rfl rfl rfl hs Try.underlying28 rfl (by kernel_rfl)) rfl ⟨hbf, _, rfl, ho⟩
end Go.Proofs.Ytbcgooofelnkoaa
