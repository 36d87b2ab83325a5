/- The reader: a Kid of nil or of same. Conditions: the tables lie in memory; the place is at most 4611686018427387903.
The reader: an expression is put over Kids. Conditions: none.
The reader: an expression is put over Kids. Conditions: there are at most two of them.
The reader: a ( or a !, and what it stands around, where the reading of that is told. Conditions: the place is at most 4611686018427387903. -/
import Derived.Test.YtdehpgdffafebaaDoorZaq
namespace Go.Proofs.YtdehpgdffafebaaDoor
open Go.RowKit
set_option linter.unusedVariables false

/-- What is read where a Kid of nil or of same has to stand. -/
def bareP (kind : Int) (l : List Gt) (a : Nat) : Pr := match plainE (tokN l a) with
  | some (k, n, s) => if E.kidOk kind k = true then .ok (.mk k n s []) 1 (a + 1) else .err 3 (tokN l a).pos
  | none => .err 3 (tokN l a).pos

set_option maxRecDepth 100000 in
set_option maxHeartbeats 4000000 in
theorem bare_any (kind : Int) (R B : Nat) (l : List Gt) (A : Option Addr) (c a r : Nat) (w : World) (h : Rd R B l A c a r w) (ha : a ≤ 4611686018427387903) (hP : PlainsIn w) (hBR : 1 ≠ R) :
    Calls Tryd.prog 77 #[pR R, .int .i64 kind] w (PtP R B l A c r w (bareP kind l a)) := by
  have hS := Rs.new h
  have hb0 := two_at w pt0 #[.int .i64 0, .int .i64 0] 35
  obtain ⟨W0, hW0⟩ : ∃ W0, W0 = (w.alloc pt0).alloc flt0 := ⟨_, rfl⟩
  rw [← hW0] at hS hb0
  have hTK := Lib.hid (rd_token R B l A c a r W0 hS.rd (by omega))
  obtain ⟨t, ht⟩ : ∃ t, t = tokN l a := ⟨_, rfl⟩
  rw [← ht] at hTK
  have HPP : Hid (bareP kind l a = match plainE t with
    | some (k, n, s) => if E.kidOk kind k = true then .ok (.mk k n s []) 1 (a + 1) else .err 3 t.pos
    | none => .err 3 t.pos) := Lib.hid (by rw [ht]; rfl)
  have HPL0 : Hid (plainP l a = match plainE t with
    | some (k, n, s) => .ok (.mk k n s []) 1 (a + 1)
    | none => .err 3 t.pos) := Lib.hid (by rw [ht]; rfl)
  have HS := Lib.hid hS
  have HPL : Hid (∀ W, w.grownBy W (some R) → PlainsIn W) := Lib.hid (fun W hg => by
    obtain ⟨tt, fr, h0⟩ := hP
    exact ⟨tt, fr, (hg.block _ (heap_lt h0) (fun e => hBR (by cases e; rfl))).trans h0⟩)
  have HPO : Hid (∀ W, w.grownBy W (some R) → Rd R B l A c a r W → Calls Tryd.prog 65 #[pR R] W (PtP R B l A c r W (plainP l a))) := Lib.hid (fun W hg hr => plain_any R B l A c a r W hr ha (HPL.out W hg) hBR)
  have HWR : Hid (∀ W, Calls Tryd.prog 79 #[.int .i64 3, t.val] W fun x w' => x = .returned (fV 3 t.pos) ∧ Below W.heap.size W w') := Lib.hid (fun W => wrong_any 3 t W)
  obtain ⟨tk, tx, tp⟩ := t
  have hv : Gt.val ⟨tk, tx, tp⟩ = .agg #[.int .i64 tk, .string tx, .int .i64 tp] := rfl
  rw [hv] at hTK HWR
  clear ht hv h hS hb0
  go_enter Tryd.func77, Tryd.ntmps77
  go_wp2_with fail
  rw [← hW0]
  clear hW0
  refine hTK.out.mono ?_
  rintro e w1 ⟨rfl, hb1⟩
  have hS1 := HS.out.below hb1
  have hb2 := boxed w1 (.cells #[.int .i64 tk, .string tx, .int .i64 tp] 49)
  have hn2 := heap_new w1 (.cells #[.int .i64 tk, .string tx, .int .i64 tp] 49)
  have HS2 := Lib.hid (hS1.below hb2)
  obtain ⟨W2, hW2⟩ : ∃ W2, W2 = w1.alloc (.cells #[.int .i64 tk, .string tx, .int .i64 tp] 49) := ⟨_, rfl⟩
  rw [← hW2] at hn2 HS2
  have HN2 := Lib.hid hn2
  have hne1 : w1.heap.size ≠ R := by
    have := HS.out.hR
    have := HS.out.gb.size
    have := hb1.size
    omega
  have HNE := Lib.hid hne1
  clear hb2 hn2 hS1 hne1
  go_wp2_with fail
  rw [← hW2]
  clear hW2
  refine (HPO.out W2 HS2.out.gb HS2.out.rd).mono ?_
  rintro e w3 ⟨hg3, hr3⟩
  have HN3 := Lib.hid ((hg3.block _ (heap_lt HN2.out) (fun e => HNE.out (by cases e; rfl))).trans HN2.out)
  have HG3 := Lib.hid hg3
  rw [HPL0.out] at hr3
  cases hp : plainE ⟨tk, tx, tp⟩ with
  | none =>
    rw [hp] at hr3
    obtain ⟨rfl, -, a', hrd⟩ := hr3
    have HS3 := Lib.hid (HS2.out.step hrd hg3)
    have HRES : Hid (bareP kind l a = .err 3 tp) := Lib.hid (by rw [HPP.out, hp])
    clear hp hrd hg3
    obtain ⟨hf1, hb4⟩ := two_at w3 pt0 #[.int .i64 3, .int .i64 tp] 35
    have hp1 := (Below.heap_alloc (w3.alloc pt0) (.cells #[.int .i64 3, .int .i64 tp] 35) _ (by simp)).trans (heap_new w3 pt0)
    have HS4 := Lib.hid (HS3.out.below hb4)
    obtain ⟨W4, hW4⟩ : ∃ W4, W4 = (w3.alloc pt0).alloc (.cells #[.int .i64 3, .int .i64 tp] 35) := ⟨_, rfl⟩
    rw [← hW4] at hf1 hp1 HS4
    obtain ⟨p0, p1, p2, p3, p4⟩ := row5 hp1
    obtain ⟨q0, q1⟩ := row2 hf1
    obtain ⟨x0, x1, x2, x3, x4⟩ := row5 HS4.out.b0
    obtain ⟨y0, y1⟩ := row2 HS4.out.b1
    have f0 := frozen_of HS4.out.b0 0
    have f1 := frozen_of HS4.out.b0 1
    have f2 := frozen_of HS4.out.b0 2
    have f3 := frozen_of HS4.out.b0 3
    have f4 := frozen_of HS4.out.b0 4
    have g0 := frozen_of HS4.out.b1 0
    have g1 := frozen_of HS4.out.b1 1
    clear hb4 hf1 hp1
    go_upto_region 3 with fail
    rw [← hW4]
    clear hW4
    have hwb := HS4.out.hR
    have hl3 := heap_lt HS3.out.b1
    have n0 : ¬ w.heap.size = w3.heap.size := by omega
    have n1 : ¬ w.heap.size = w3.heap.size + 1 := by omega
    have n2 : ¬ w.heap.size + 1 = w3.heap.size := by omega
    have n4 : ¬ w3.heap.size = w.heap.size := by omega
    have n5 : ¬ w3.heap.size + 1 = w.heap.size := by omega
    have n6 : ¬ w3.heap.size = w.heap.size + 1 := by omega
    have n7 : ¬ w3.heap.size + 1 = w.heap.size + 1 := by omega
    go_wp2_with fail
    go_region
    go_wp2_with fail
    have hF := (HS4.out.put (.int .i64 0) (.int .i64 0) (.string ⟨#[]⟩) (.slice none 0 0) (.int .i64 0) (.int .i64 3) (.int .i64 tp)).below (drew_below _)
    change bodyPost _ _ _ _ _ (World.drew (stPF w.heap.size W4 (.int .i64 0) (.int .i64 0) (.string ⟨#[]⟩) (.slice none 0 0) (.int .i64 0) (.int .i64 3) (.int .i64 tp)))
    generalize World.drew (stPF w.heap.size W4 (.int .i64 0) (.int .i64 0) (.string ⟨#[]⟩) (.slice none 0 0) (.int .i64 0) (.int .i64 3) (.int .i64 tp)) = Wf at hF ⊢
    obtain ⟨r0, r1, r2, r3, r4⟩ := row5 hF.b0
    obtain ⟨s0, s1⟩ := row2 hF.b1
    exact bodyPost_ret (v := .tuple #[.agg #[.int .i64 0, .int .i64 0, .string ⟨#[]⟩, .slice none 0 0, .int .i64 0], fV 3 tp]) (by simp [results, Tryd.results77, go_sem, r0, r1, r2, r3, r4, s0, s1]) rfl ⟨hF.gb, by rw [HRES.out]; exact ⟨rfl, by decide, _, hF.rd⟩⟩
  | some y =>
    obtain ⟨k, n, s⟩ := y
    rw [hp] at hr3
    obtain ⟨k', n', s', A', L', c', rfl, hv, hrd⟩ := hr3
    rw [InP] at hv
    obtain ⟨A1, c1, hve, hnn, -, hcm, -⟩ := hv
    cases hve
    have HCM := Lib.hid (And.intro hnn hcm)
    have HS3 := Lib.hid (HS2.out.step hrd hg3)
    have HRES0 : Hid (bareP kind l a = if E.kidOk kind k = true then .ok (.mk k n s []) 1 (a + 1) else .err 3 tp) := Lib.hid (by rw [HPP.out, hp])
    have HOK := Lib.hid (fun W => mayHold_any kind k W)
    clear hp hrd hg3 hnn hcm
    obtain ⟨hf1, hb4⟩ := two_at w3 (.cells #[.int .i64 k, .int .i64 n, .string s, .slice A' 0 c', .int .i64 1] 59) #[.int .i64 0, .int .i64 0] 35
    have hp1 := (Below.heap_alloc (w3.alloc (.cells #[.int .i64 k, .int .i64 n, .string s, .slice A' 0 c', .int .i64 1] 59)) (.cells #[.int .i64 0, .int .i64 0] 35) _ (by simp)).trans (heap_new w3 (.cells #[.int .i64 k, .int .i64 n, .string s, .slice A' 0 c', .int .i64 1] 59))
    have HS4 := Lib.hid (HS3.out.below hb4)
    have HN4 := Lib.hid ((hb4.block _ (heap_lt HN3.out)).trans HN3.out)
    obtain ⟨W4, hW4⟩ : ∃ W4, W4 = (w3.alloc (.cells #[.int .i64 k, .int .i64 n, .string s, .slice A' 0 c', .int .i64 1] 59)).alloc (.cells #[.int .i64 0, .int .i64 0] 35) := ⟨_, rfl⟩
    rw [← hW4] at hf1 hp1 HS4 HN4
    obtain ⟨p0, p1, p2, p3, p4⟩ := row5 hp1
    obtain ⟨q0, q1⟩ := row2 hf1
    obtain ⟨t0, t1, t2⟩ := row3 HN4.out
    have hwb := HS4.out.hR
    have hl3 := heap_lt HS3.out.b1
    have n0 : ¬ w.heap.size = w3.heap.size := by omega
    have n1 : ¬ w.heap.size = w3.heap.size + 1 := by omega
    have n2 : ¬ w.heap.size + 1 = w3.heap.size := by omega
    have n4 : ¬ w3.heap.size = w.heap.size := by omega
    have n5 : ¬ w3.heap.size + 1 = w.heap.size := by omega
    have n6 : ¬ w3.heap.size = w.heap.size + 1 := by omega
    have n7 : ¬ w3.heap.size + 1 = w.heap.size + 1 := by omega
    clear hb4
    go_upto_region 3 with fail
    rw [← hW4]
    clear hW4
    go_wp2_with fail
    refine (HOK.out W4).mono ?_
    rintro e W5 ⟨rfl, rfl⟩
    cases hok : E.kidOk kind k with
    | false =>
      have HRES : Hid (bareP kind l a = .err 3 tp) := Lib.hid (by rw [HRES0.out, hok]; rfl)
      clear hok
      go_wp2_with fail
      refine (HWR.out W5).mono ?_
      rintro e w6 ⟨rfl, hb6⟩
      have HS6 := Lib.hid (HS4.out.below hb6)
      obtain ⟨x0, x1, x2, x3, x4⟩ := row5 HS6.out.b0
      obtain ⟨y0, y1⟩ := row2 HS6.out.b1
      have f0 := frozen_of HS6.out.b0 0
      have f1 := frozen_of HS6.out.b0 1
      have f2 := frozen_of HS6.out.b0 2
      have f3 := frozen_of HS6.out.b0 3
      have f4 := frozen_of HS6.out.b0 4
      have g0 := frozen_of HS6.out.b1 0
      have g1 := frozen_of HS6.out.b1 1
      clear p0 p1 p2 p3 p4 q0 q1 t0 t1 t2 hf1 hp1
      go_wp2_with fail
      have hF := HS6.out.put (.int .i64 0) (.int .i64 0) (.string ⟨#[]⟩) (.slice none 0 0) (.int .i64 0) (.int .i64 3) (.int .i64 tp)
      change bodyPost _ _ _ _ _ (stPF w.heap.size w6 (.int .i64 0) (.int .i64 0) (.string ⟨#[]⟩) (.slice none 0 0) (.int .i64 0) (.int .i64 3) (.int .i64 tp))
      generalize stPF w.heap.size w6 (.int .i64 0) (.int .i64 0) (.string ⟨#[]⟩) (.slice none 0 0) (.int .i64 0) (.int .i64 3) (.int .i64 tp) = Wf at hF ⊢
      obtain ⟨r0, r1, r2, r3, r4⟩ := row5 hF.b0
      obtain ⟨s0, s1⟩ := row2 hF.b1
      exact bodyPost_ret (v := .tuple #[.agg #[.int .i64 0, .int .i64 0, .string ⟨#[]⟩, .slice none 0 0, .int .i64 0], fV 3 tp]) (by simp [results, Tryd.results77, go_sem, r0, r1, r2, r3, r4, s0, s1]) rfl ⟨hF.gb, by rw [HRES.out]; exact ⟨rfl, by decide, _, hF.rd⟩⟩
    | true =>
      have HRES : Hid (bareP kind l a = .ok (.mk k n s []) 1 (a + 1)) := Lib.hid (by rw [HRES0.out, hok]; rfl)
      obtain ⟨x0, x1, x2, x3, x4⟩ := row5 HS4.out.b0
      obtain ⟨y0, y1⟩ := row2 HS4.out.b1
      have f0 := frozen_of HS4.out.b0 0
      have f1 := frozen_of HS4.out.b0 1
      have f2 := frozen_of HS4.out.b0 2
      have f3 := frozen_of HS4.out.b0 3
      have f4 := frozen_of HS4.out.b0 4
      have g0 := frozen_of HS4.out.b1 0
      have g1 := frozen_of HS4.out.b1 1
      clear hok t0 t1 t2 hf1 hp1
      go_wp2_with fail
      go_region
      go_wp2_with fail
      have hF := (HS4.out.put (.int .i64 k) (.int .i64 n) (.string s) (.slice A' 0 c') (.int .i64 1) (.int .i64 0) (.int .i64 0)).below (drew_below _)
      change bodyPost _ _ _ _ _ (World.drew (stPF w.heap.size W5 (.int .i64 k) (.int .i64 n) (.string s) (.slice A' 0 c') (.int .i64 1) (.int .i64 0) (.int .i64 0)))
      generalize World.drew (stPF w.heap.size W5 (.int .i64 k) (.int .i64 n) (.string s) (.slice A' 0 c') (.int .i64 1) (.int .i64 0) (.int .i64 0)) = Wf at hF ⊢
      obtain ⟨r0, r1, r2, r3, r4⟩ := row5 hF.b0
      obtain ⟨s0, s1⟩ := row2 hF.b1
      exact bodyPost_ret (v := .tuple #[.agg #[.int .i64 k, .int .i64 n, .string s, .slice A' 0 c', .int .i64 1], fV 0 0]) (by simp [results, Tryd.results77, go_sem, r0, r1, r2, r3, r4, s0, s1]) rfl ⟨hF.gb, by rw [HRES.out]; exact ⟨k, n, s, A', 0, c', rfl, inP_leaf _ _ _ _ _ _ _ HCM.out.1 HCM.out.2, hF.rd⟩⟩
end Go.Proofs.YtdehpgdffafebaaDoor
namespace Go.Proofs.YtdehpgdffafebaaDoor
open Go.RowKit
set_option linter.unusedVariables false

theorem exp_info : (Tryd.prog.info? tE).map (fun i => (i.zero, i.size, i.bytes)) = some (some (.agg #[.int .i64 0, .int .i64 0, .string ⟨#[]⟩, .slice none 0 0]), 4, 56) := by kernel_rfl

/-- A Kid that was read: what it is, how it lies there, how deep it is. -/
structure Pk where
  e : E
  k : Int
  n : Int
  s : ByteArray
  A : Option Addr
  L : Nat
  c : Nat
  d : Nat
def Pk.cells (p : Pk) : List Value := [.int .i64 p.k, .int .i64 p.n, .string p.s, .slice p.A p.L p.c]
def pdeep (l : List Pk) : Nat := l.foldl (fun m p => max m (p.d + 1)) 0
theorem pdeep_snoc (l : List Pk) (p : Pk) : pdeep (l ++ [p]) = max (pdeep l) (p.d + 1) := by unfold pdeep; rw [List.foldl_append]; rfl
def pcells (l : List Pk) : List Value := l.flatMap Pk.cells
theorem pcells_len : ∀ l : List Pk, (pcells l).length = l.length * 4
  | [] => rfl
  | p :: r => by
    have := pcells_len r
    unfold pcells at this ⊢
    rw [List.flatMap_cons, List.length_append, this, List.length_cons]
    simp [Pk.cells]; omega
/-- Parts that lie one behind the other. -/
def PksIn (w : World) (b o : Nat) (l : List Pk) : Prop := ∀ (i : Nat) (p : Pk), l[i]? = some p → w.cell? ⟨b, o + i * 5, none⟩ = some (.int .i64 p.k) ∧ w.cell? ⟨b, o + i * 5 + 1, none⟩ = some (.int .i64 p.n) ∧ w.cell? ⟨b, o + i * 5 + 2, none⟩ = some (.string p.s) ∧ w.cell? ⟨b, o + i * 5 + 3, none⟩ = some (.slice p.A p.L p.c) ∧ w.cell? ⟨b, o + i * 5 + 4, none⟩ = some (.int .i64 (p.d : Int))

/-- Between two rounds. -/
structure OvAt (w : World) (tv : Array Value) (k : Int) (l : List Pk) (m : Nat) (W : World) : Prop where
  tok : W.heap[w.heap.size]? = some (.cells tv 49 (0, 0))
  r0 : W.heap[w.heap.size + 1]? = some (.cells #[.int .i64 0, .int .i64 0, .string ⟨#[]⟩, .slice none 0 0, .int .i64 0] 59 (0, 0))
  r1 : W.heap[w.heap.size + 1 + 1]? = some (.cells #[.int .i64 0, .int .i64 0] 35 (0, 0))
  own : ∃ v, W.heap[w.heap.size + 1 + 1 + 1]? = some (.cells #[.int .i64 k, .int .i64 0, .string ⟨#[]⟩, v, .int .i64 (pdeep (l.take m) : Int)] 59 (0, 0)) ∧ W.ownsRow (w.heap.size + 4) tE 4 v m (pcells (l.take m))
  below : Below w.heap.size w W

theorem new4 (W : World) (x0 x1 x2 x3 : Value) (t : TypeId) (g : Nat) (hg : g = W.heap.size) : ∀ (j : Nat) (u : Value), [x0, x1, x2, x3][j]? = some u → (W.alloc (.cells #[x0, x1, x2, x3] t)).cell? ((⟨g, 0, none⟩ : Addr).add j) = some u := by
  intro j u h
  subst hg
  have hn : (W.alloc (.cells #[x0, x1, x2, x3] t)).heap[W.heap.size]? = some (.cells #[x0, x1, x2, x3] t (0, 0)) := heap_new W _
  have ha : (⟨W.heap.size, 0, none⟩ : Addr).add j = ⟨W.heap.size, j, none⟩ := by unfold Addr.add; split <;> simp_all
  rw [ha, cell_of_row _ _ j _ t (0, 0) hn]
  rw [← h]; simp
theorem ones4 (p : Pk) : ∀ u ∈ p.cells, u.oneCell' = true := by
  intro u hu
  unfold Pk.cells at hu
  simp at hu
  rcases hu with rfl | rfl | rfl | rfl <;> rfl
end Go.Proofs.YtdehpgdffafebaaDoor
namespace Go.Proofs.YtdehpgdffafebaaDoor
open Go.RowKit
set_option linter.unusedVariables false

theorem own_slice {w : World} {base size n : Nat} {e : TypeId} {v : Value} {xs : List Value} (h : w.ownsRow base e size v n xs) : ∃ A c, v = .slice A n c := by
  rcases h.2 with ⟨rfl, h0⟩ | ⟨g, cap, cur, rfl, _⟩
  · subst h0; exact ⟨none, 0, rfl⟩
  · exact ⟨_, cap, rfl⟩
theorem OvAt.start (w : World) (tv : Array Value) (k : Int) (l : List Pk) : OvAt w tv k l 0 ((((w.alloc (.cells tv 49)).alloc pt0).alloc flt0).alloc (.cells #[.int .i64 k, .int .i64 0, .string ⟨#[]⟩, .slice none 0 0, .int .i64 0] 59)) := by
  have h0 := heap_new w (.cells tv 49)
  have h1 := heap_new (w.alloc (.cells tv 49)) pt0
  have h2 := heap_new ((w.alloc (.cells tv 49)).alloc pt0) flt0
  have h3 := heap_new (((w.alloc (.cells tv 49)).alloc pt0).alloc flt0) (.cells #[.int .i64 k, .int .i64 0, .string ⟨#[]⟩, .slice none 0 0, .int .i64 0] 59)
  simp only [World.size_alloc] at h1 h2 h3
  refine ⟨?_, ?_, ?_, ⟨_, h3, World.ownsRow_nil _ _ _ _⟩, ?_⟩
  · exact (Below.heap_alloc _ _ _ (by simp only [World.size_alloc]; omega)).trans ((Below.heap_alloc _ _ _ (by simp only [World.size_alloc]; omega)).trans ((Below.heap_alloc _ _ _ (by simp only [World.size_alloc]; omega)).trans h0))
  · exact (Below.heap_alloc _ _ _ (by simp only [World.size_alloc]; omega)).trans ((Below.heap_alloc _ _ _ (by simp only [World.size_alloc]; omega)).trans h1)
  · exact (Below.heap_alloc _ _ _ (by simp only [World.size_alloc]; omega)).trans h2
  · exact ((((Below.refl _ w).alloc (Nat.le_refl _) _).alloc (by simp only [World.size_alloc]; omega) _).alloc (by simp only [World.size_alloc]; omega) _).alloc (by simp only [World.size_alloc]; omega) _
theorem OvAt.next {w wr W2 w' : World} {tv : Array Value} {k : Int} {l : List Pk} {m : Nat} {v v0 d0 v' : Value} {p : Pk} (hat : OvAt w tv k l m wr) (hb2 : Below wr.heap.size wr W2) (hv : ∀ q, v.ownBlock = some q → w.heap.size + 4 ≤ q) (hg : W2.grownBy w' v.ownBlock)
    (k1 : w'.heap[w.heap.size + 1 + 1 + 1]? = some (.cells #[.int .i64 k, .int .i64 0, .string ⟨#[]⟩, v0, d0] 59 (0, 0))) (ho : w'.ownsRow (w.heap.size + 4) tE 4 v' (m + 1) (pcells (l.take m) ++ p.cells)) (hp : l[m]? = some p) :
    OvAt w tv k l (m + 1) ((w'.setCell ⟨w.heap.size + 1 + 1 + 1, 3, none⟩ v').setCell ⟨w.heap.size + 1 + 1 + 1, 4, none⟩ (.int .i64 (max ((pdeep (l.take m) : Nat) : Int) ((p.d : Int) + 1)))) := by
  have htk : l.take (m + 1) = l.take m ++ [p] := by
    have hm := (List.getElem?_eq_some_iff.1 hp).1
    rw [List.take_succ_eq_append_getElem hm, (List.getElem?_eq_some_iff.1 hp).2]
  have hpd : ((pdeep (l.take (m + 1)) : Nat) : Int) = max ((pdeep (l.take m) : Nat) : Int) ((p.d : Int) + 1) := by
    rw [htk, pdeep_snoc]; omega
  have hpc : pcells (l.take (m + 1)) = pcells (l.take m) ++ p.cells := by
    rw [htk]; unfold pcells; rw [List.flatMap_append]; simp
  obtain ⟨x, hx⟩ : ∃ x : Int, x = max ((pdeep (l.take m) : Nat) : Int) ((p.d : Int) + 1) := ⟨_, rfl⟩
  rw [← hx] at hpd ⊢
  have g1 := (gb_set w' (w.heap.size + 1 + 1 + 1) 3 v').trans (gb_set _ (w.heap.size + 1 + 1 + 1) 4 (.int .i64 x))
  have s1 := heap_setCell_same w' (w.heap.size + 1 + 1 + 1) 3 _ _ v' k1
  have s2 := heap_setCell_same (w'.setCell ⟨w.heap.size + 1 + 1 + 1, 3, none⟩ v') (w.heap.size + 1 + 1 + 1) 4 _ _ (.int .i64 x) s1
  obtain ⟨W3, hW3⟩ : ∃ W3, W3 = (w'.setCell ⟨w.heap.size + 1 + 1 + 1, 3, none⟩ v').setCell ⟨w.heap.size + 1 + 1 + 1, 4, none⟩ (.int .i64 x) := ⟨_, rfl⟩
  rw [← hW3] at g1 s2 ⊢
  have hst : ∀ q, q < w.heap.size + 1 + 1 + 1 → ∀ ob, wr.heap[q]? = some ob → W3.heap[q]? = some ob := fun q hq ob hob => by
    have h1 := (hb2.block q (heap_lt hob)).trans hob
    have h2 := (hg.block q (heap_lt h1) (fun e => by have := hv q e.symm; omega)).trans h1
    exact (g1.block q (heap_lt h2) (fun e => by cases e; omega)).trans h2
  refine ⟨hst _ (by omega) _ hat.tok, hst _ (by omega) _ hat.r0, hst _ (by omega) _ hat.r1, ⟨v', by rw [hpd]; exact s2, ?_⟩, ?_⟩
  · rw [hpc]
    exact ho.kept g1 (.inr (fun e => by have := (ho.lt _ e).1; omega))
  · have h1 := hat.below.trans (hb2.mono hat.below.size)
    have h2 := h1.grown hg h1.size (fun q e => by have := hv q e; omega)
    exact h2.grown g1 h2.size (fun q e => by cases e; omega)
theorem stPF_own {W : World} {base size n g : Nat} {e : TypeId} {v : Value} {xs : List Value} (h : W.ownsRow base e size v n xs) (hg : g + 1 < base) (x0 x1 x2 x3 x4 y0 y1 : Value) : (stPF g W x0 x1 x2 x3 x4 y0 y1).ownsRow base e size v n xs := by
  have h1 := h.kept (gb_set5 W g x0 x1 x2 x3 x4) (.inr (fun e => by have := (h.lt _ e).1; omega))
  exact h1.kept (gb_set2 _ (g + 1) y0 y1) (.inr (fun e => by have := (h1.lt _ e).1; omega))
theorem stPF_rows {W : World} {g : Nat} {a b c d e a' b' : Value} (h0 : W.heap[g]? = some (.cells #[a, b, c, d, e] 59 (0, 0))) (h1 : W.heap[g + 1]? = some (.cells #[a', b'] 35 (0, 0))) (x0 x1 x2 x3 x4 y0 y1 : Value) :
    (stPF g W x0 x1 x2 x3 x4 y0 y1).heap[g]? = some (.cells #[x0, x1, x2, x3, x4] 59 (0, 0)) ∧ (stPF g W x0 x1 x2 x3 x4 y0 y1).heap[g + 1]? = some (.cells #[y0, y1] 35 (0, 0)) := by
  have r1 := set5 h0 x0 x1 x2 x3 x4
  have f1 := (set5_other W g (g + 1) (by omega) x0 x1 x2 x3 x4).trans h1
  exact ⟨(set2_other _ (g + 1) g (by omega) y0 y1).trans r1, set2 f1 y0 y1⟩
/-- What is put over Kids. -/
def OvP (w : World) (t : Gt) (k : Int) (l : List Pk) (x : Ending) (w' : World) : Prop :=
  Below w.heap.size w w' ∧ if 20 < pdeep l then x = .returned (.tuple #[.agg #[.int .i64 0, .int .i64 0, .string ⟨#[]⟩, .slice none 0 0, .int .i64 0], fV 5 t.pos])
  else ∃ v A' c', v = .slice A' l.length c' ∧ x = .returned (.tuple #[.agg #[.int .i64 k, .int .i64 0, .string ⟨#[]⟩, v, .int .i64 (pdeep l : Int)], fV 0 0]) ∧ w'.ownsRow (w.heap.size + 4) tE 4 v l.length (pcells l)

set_option maxRecDepth 100000 in
set_option maxHeartbeats 8000000 in
theorem over_any (t : Gt) (k : Int) (l : List Pk) (b o cap : Nat) (w : World) (hl : l.length ≤ 2) (hlc : l.length ≤ cap) (hcap : cap ≤ maxLen) (hpk : PksIn w b o l) (hb : b < w.heap.size) (hd : ∀ p ∈ l, p.d ≤ 1000) :
    Calls Tryd.prog 68 #[t.val, .int .i64 k, .slice (some ⟨b, o, none⟩) l.length cap] w (OvP w t k l) := by
  obtain ⟨i0, hi, hz0, hz1, hz2⟩ := info_parts exp_info
  have HWR : Hid (∀ W, Calls Tryd.prog 79 #[.int .i64 5, t.val] W fun x w' => x = .returned (fV 5 t.pos) ∧ Below W.heap.size W w') := Lib.hid (fun W => wrong_any 5 t W)
  obtain ⟨tk, tx, tp⟩ := t
  have hv : Gt.val ⟨tk, tx, tp⟩ = .agg #[.int .i64 tk, .string tx, .int .i64 tp] := rfl
  rw [hv] at HWR ⊢
  clear hv
  have HPK := Lib.hid hpk
  have HDD := Lib.hid hd
  obtain ⟨L, hL⟩ : ∃ L, L = l.length := ⟨_, rfl⟩
  rw [← hL] at hl hlc ⊢
  have HL := Lib.hid hL
  clear hpk hd hL
  go_enter Tryd.func68, Tryd.ntmps68
  have HST := Lib.hid (OvAt.start w #[.int .i64 tk, .string tx, .int .i64 tp] k l)
  go_upto_region 3 with fail
  go_loopw [16] (fun i wr => ∃ k' : Nat, k' ≤ L ∧ i = .int .i64 k' ∧ Hid (OvAt w #[.int .i64 tk, .string tx, .int .i64 tp] k l k' wr)) (fun i _ => L - (intOf i).toNat)
  case atStart => exact ⟨0, by omega, rfl, HST⟩
  case round =>
    obtain ⟨k', hk', rfl, hat⟩ := hrel
    obtain ⟨v, hpr, hown⟩ := hat.out.own
    obtain ⟨A1, c1, rfl⟩ := own_slice hown
    have hsz := hat.out.below.size
    have hlp := heap_lt hpr
    have HPR := Lib.hid hpr
    have HOW := Lib.hid hown
    obtain ⟨dp, hdp⟩ : ∃ dp, dp = pdeep (l.take k') := ⟨_, rfl⟩
    rw [← hdp] at hpr HPR
    have HDP := Lib.hid hdp
    obtain ⟨m0, m1, m2, m3, m4⟩ := row5 hpr
    by_cases hlt : k' < L
    · have hlt' : k' < l.length := by rw [← HL.out]; exact hlt
      obtain ⟨p, hp⟩ : ∃ p, p = l[k'] := ⟨_, rfl⟩
      have hpl : l[k']? = some p := by rw [hp]; exact List.getElem?_eq_getElem hlt'
      obtain ⟨a0, a1, a2, a3, a4⟩ := HPK.out k' p hpl
      have hbc := fun (q : Nat) => hat.out.below.cell (p := ⟨b, q, none⟩) hb
      have a0 := (hbc _).trans a0
      have a1 := (hbc _).trans a1
      have a2 := (hbc _).trans a2
      have a3 := (hbc _).trans a3
      have a4 := (hbc _).trans a4
      have hpd : p.d ≤ 1000 := HDD.out p (List.mem_of_getElem? hpl)
      have HPL := Lib.hid hpl
      obtain ⟨pe, pk, pn, ps, pA, pL, pc, pd⟩ := p
      simp only at a0 a1 a2 a3 a4 hpd
      have hcells : Pk.cells ⟨pe, pk, pn, ps, pA, pL, pc, pd⟩ = [.int .i64 pk, .int .i64 pn, .string ps, .slice pA pL pc] := rfl
      have hb1 := boxed wr (.cells #[.int .i64 pk, .int .i64 pn, .string ps, .slice pA pL pc, .int .i64 (pd : Int)] 59)
      have hn1 := heap_new wr (.cells #[.int .i64 pk, .int .i64 pn, .string ps, .slice pA pL pc, .int .i64 (pd : Int)] 59)
      have HOA : Hid (((wr.alloc (.cells #[.int .i64 pk, .int .i64 pn, .string ps, .slice pA pL pc, .int .i64 (pd : Int)] 59)).alloc (.cells #[.int .i64 pk, .int .i64 pn, .string ps, .slice pA pL pc] tE)).ownsRow (w.heap.size + 4) tE 4 (.slice A1 k' c1) k' (pcells (l.take k'))) := Lib.hid ((hown.alloc _).alloc _)
      have hlb : b < wr.heap.size := by omega
      have HP2 : Hid (((wr.alloc (.cells #[.int .i64 pk, .int .i64 pn, .string ps, .slice pA pL pc, .int .i64 (pd : Int)] 59)).alloc (.cells #[.int .i64 pk, .int .i64 pn, .string ps, .slice pA pL pc] tE)).heap[w.heap.size + 1 + 1 + 1]? = some (.cells #[.int .i64 k, .int .i64 0, .string ⟨#[]⟩, .slice A1 k' c1, .int .i64 (dp : Int)] 59 (0, 0))) := Lib.hid ((Below.heap_alloc _ _ _ (by simp; omega)).trans ((Below.heap_alloc _ _ _ (by omega)).trans hpr))
      have HN2 : Hid (((wr.alloc (.cells #[.int .i64 pk, .int .i64 pn, .string ps, .slice pA pL pc, .int .i64 (pd : Int)] 59)).alloc (.cells #[.int .i64 pk, .int .i64 pn, .string ps, .slice pA pL pc] tE)).heap[wr.heap.size]? = some (.cells #[.int .i64 pk, .int .i64 pn, .string ps, .slice pA pL pc, .int .i64 (pd : Int)] 59 (0, 0))) := Lib.hid ((Below.heap_alloc _ _ _ (by simp)).trans hn1)
      have hneP : ¬ wr.heap.size = w.heap.size + 1 + 1 + 1 := by omega
      have hneP' : ¬ w.heap.size + 1 + 1 + 1 = wr.heap.size := by omega
      have hll2 : l.length ≤ 2 := by rw [← HL.out]; exact hl
      clear hp hpl hdp
      go_wp2_with (at_builtin; refine wpList_append_own _ rfl (.tmp 22) (.tmp 25) 22 rfl (w.heap.size + 4) tE i0 (.agg #[.int .i64 0, .int .i64 0, .string ⟨#[]⟩, .slice none 0 0]) 4 56 Tryd.underlying22 hi hz0 hz1 hz2 rfl (by decide) _ _ _ rfl HOA.out ⟨wr.heap.size + 1, 0, none⟩ 1 1 (Pk.cells ⟨pe, pk, pn, ps, pA, pL, pc, pd⟩) rfl rfl (new4 _ _ _ _ _ _ _ (by simp)) (ones4 _) (by unfold maxLen; omega) (by omega) (by simp; omega) ?_; intro v' w' hown' hgrow' hiff; clear hiff; obtain ⟨A5, c5, rfl⟩ := own_slice hown'; have k1 := (hgrow'.block _ (heap_lt HP2.out) (fun e => by have := (HOA.out.lt _ e.symm).1; omega)).trans HP2.out; have k2 := (hgrow'.block _ (heap_lt HN2.out) (fun e => by have := (HOW.out.lt _ e.symm).2; omega)).trans HN2.out; obtain ⟨n0, n1, n2, n3, n4⟩ := row5 k1; obtain ⟨t0, t1, t2, t3, t4⟩ := row5 k2; have fr3 := frozen_of k1 3; have fr4 := frozen_of k1 4; have K1 := Lib.hid k1; have K2 := Lib.hid k2; have HO' := Lib.hid hown'; have HG' := Lib.hid hgrow'; clear hown' hgrow' k1 k2)
      go_roundw
      case rel => exact ⟨k' + 1, by omega, by go_num, Lib.hid (by
        have := hat.out.next (((boxed wr (.cells #[.int .i64 pk, .int .i64 pn, .string ps, .slice pA pL pc, .int .i64 (pd : Int)] 59))).alloc (by simp) (.cells #[.int .i64 pk, .int .i64 pn, .string ps, .slice pA pL pc] tE)) (fun q e => (HOW.out.lt q e).1) HG'.out K1.out HO'.out HPL.out
        rw [← HDP.out] at this
        exact this)⟩
      case measure => simp [intOf]; omega
    · have hkL : k' = L := by omega
      have htk : l.take k' = l := by rw [hkL, HL.out]; exact List.take_length
      rw [htk] at HDP HOW
      have HRL := Lib.hid (hkL.trans HL.out)
      clear hdp hkL htk hown hpr
      obtain ⟨x0, x1, x2, x3, x4⟩ := row5 hat.out.r0
      obtain ⟨y0, y1⟩ := row2 hat.out.r1
      obtain ⟨q0, q1, q2⟩ := row3 hat.out.tok
      by_cases h20 : 20 < dp
      · have e20 : decide ((20 : Int) < (dp : Int)) = true := by simp; omega
        have HP20 : Hid (20 < pdeep l) := Lib.hid (by rw [← HDP.out]; exact h20)
        clear x0 x1 x2 x3 x4 y0 y1
        go_wp2_with fail
        refine (HWR.out wr).mono ?_
        rintro e w6 ⟨rfl, hb6⟩
        have h0 := (hb6.block _ (heap_lt hat.out.r0)).trans hat.out.r0
        have h1 := (hb6.block _ (heap_lt hat.out.r1)).trans hat.out.r1
        obtain ⟨x0, x1, x2, x3, x4⟩ := row5 h0
        obtain ⟨y0, y1⟩ := row2 h1
        have f0 := frozen_of h0 0
        have f1 := frozen_of h0 1
        have f2 := frozen_of h0 2
        have f3 := frozen_of h0 3
        have f4 := frozen_of h0 4
        have g0 := frozen_of h1 0
        have g1 := frozen_of h1 1
        have HH := Lib.hid (And.intro h0 h1)
        have HB6 := Lib.hid (hat.out.below.trans (hb6.mono hsz))
        clear h0 h1
        go_wp2_with fail
        have hF := stPF_rows HH.out.1 HH.out.2 (.int .i64 0) (.int .i64 0) (.string ⟨#[]⟩) (.slice none 0 0) (.int .i64 0) (.int .i64 5) (.int .i64 tp)
        have hbF := HB6.out.trans ((stPF_gb (R := 0) (w.heap.size + 1) w6 (.int .i64 0) (.int .i64 0) (.string ⟨#[]⟩) (.slice none 0 0) (.int .i64 0) (.int .i64 5) (.int .i64 tp)).mono (by omega))
        change bodyPost _ _ _ _ _ (stPF (w.heap.size + 1) w6 (.int .i64 0) (.int .i64 0) (.string ⟨#[]⟩) (.slice none 0 0) (.int .i64 0) (.int .i64 5) (.int .i64 tp))
        generalize stPF (w.heap.size + 1) w6 (.int .i64 0) (.int .i64 0) (.string ⟨#[]⟩) (.slice none 0 0) (.int .i64 0) (.int .i64 5) (.int .i64 tp) = Wf at hF hbF ⊢
        obtain ⟨r0, r1, r2, r3, r4⟩ := row5 hF.1
        obtain ⟨s0, s1⟩ := row2 hF.2
        exact bodyPost_ret (v := .tuple #[.agg #[.int .i64 0, .int .i64 0, .string ⟨#[]⟩, .slice none 0 0, .int .i64 0], fV 5 tp]) (by simp [results, Tryd.results68, go_sem, r0, r1, r2, r3, r4, s0, s1]) rfl ⟨hbF, by rw [if_pos HP20.out]⟩
      · have e20 : decide ((20 : Int) < (dp : Int)) = false := by simp; omega
        have HP20 : Hid (¬ 20 < pdeep l) := Lib.hid (by rw [← HDP.out]; exact h20)
        have f0 := frozen_of hat.out.r0 0
        have f1 := frozen_of hat.out.r0 1
        have f2 := frozen_of hat.out.r0 2
        have f3 := frozen_of hat.out.r0 3
        have f4 := frozen_of hat.out.r0 4
        have g0 := frozen_of hat.out.r1 0
        have g1 := frozen_of hat.out.r1 1
        clear h20
        go_wp2_with fail
        have hF := stPF_rows hat.out.r0 hat.out.r1 (.int .i64 k) (.int .i64 0) (.string ⟨#[]⟩) (.slice A1 k' c1) (.int .i64 (dp : Int)) (.int .i64 0) (.int .i64 0)
        have hbF := hat.out.below.trans ((stPF_gb (R := 0) (w.heap.size + 1) wr (.int .i64 k) (.int .i64 0) (.string ⟨#[]⟩) (.slice A1 k' c1) (.int .i64 (dp : Int)) (.int .i64 0) (.int .i64 0)).mono (by omega))
        have hoF := stPF_own HOW.out (g := w.heap.size + 1) (by omega) (.int .i64 k) (.int .i64 0) (.string ⟨#[]⟩) (.slice A1 k' c1) (.int .i64 (dp : Int)) (.int .i64 0) (.int .i64 0)
        change bodyPost _ _ _ _ _ (stPF (w.heap.size + 1) wr (.int .i64 k) (.int .i64 0) (.string ⟨#[]⟩) (.slice A1 k' c1) (.int .i64 (dp : Int)) (.int .i64 0) (.int .i64 0))
        generalize stPF (w.heap.size + 1) wr (.int .i64 k) (.int .i64 0) (.string ⟨#[]⟩) (.slice A1 k' c1) (.int .i64 (dp : Int)) (.int .i64 0) (.int .i64 0) = Wf at hF hbF hoF ⊢
        obtain ⟨r0, r1, r2, r3, r4⟩ := row5 hF.1
        obtain ⟨s0, s1⟩ := row2 hF.2
        refine bodyPost_ret (v := .tuple #[.agg #[.int .i64 k, .int .i64 0, .string ⟨#[]⟩, .slice A1 k' c1, .int .i64 (dp : Int)], fV 0 0]) (by simp [results, Tryd.results68, go_sem, r0, r1, r2, r3, r4, s0, s1]) rfl ⟨hbF, ?_⟩
        rw [if_neg HP20.out]
        have hr := HRL.out
        have hd := HDP.out
        subst hd
        rw [← hr]
        exact ⟨_, A1, c1, rfl, rfl, hoF⟩
end Go.Proofs.YtdehpgdffafebaaDoor
namespace Go.Proofs.YtdehpgdffafebaaDoor
open Go.RowKit
set_option linter.unusedVariables false

/-- What is read within a ( or a !. -/
def withinP (l : List Gt) (a r : Nat) (pr : Pr) : Pr := if r = 20 then .err 5 (tokN l a).pos else pr
theorem Rd.around {R B : Nat} {l : List Gt} {A : Option Addr} {c a r : Nat} {w : World} (h : Rd R B l A c a r w) (r' : Nat) (v : Value) (hv : v = .int .i64 (r' : Int)) : Rd R B l A c a r' (w.setCell ⟨R, 2, none⟩ v) := by
  subst hv
  exact h.with (gb_set w R 2 _) (heap_setCell_same w R 2 _ _ _ h.row)

theorem stPF_keep (g : Nat) (W : World) (x0 x1 x2 x3 x4 y0 y1 : Value) (b : Nat) (h0 : b ≠ g) (h1 : b ≠ g + 1) : (stPF g W x0 x1 x2 x3 x4 y0 y1).heap[b]? = W.heap[b]? :=
  (set2_other _ (g + 1) b h1 y0 y1).trans (set5_other W g b h0 x0 x1 x2 x3 x4)
theorem drew_heap (W : World) (b : Nat) : W.drew.heap[b]? = W.heap[b]? := rfl
/-- What was handed back, laid open: its cells, the reader behind it, and that it may be handed on from a later world. -/
theorem PtP.open {R B : Nat} {l : List Gt} {A : Option Addr} {c r : Nat} {w w' : World} {pr : Pr} {x : Ending} (h : PtP R B l A c r w pr x w') :
    ∃ (K N : Int) (S : ByteArray) (A' : Option Addr) (L' C' : Nat) (D e p : Int) (a' : Nat), x = .returned (.tuple #[.agg #[.int .i64 K, .int .i64 N, .string S, .slice A' L' C', .int .i64 D], fV e p]) ∧ Rd R B l A c a' r w' ∧ w.grownBy w' (some R) ∧
      (∀ (w0 W' : World) (r' : Nat), (∀ b, Fresh w w' b → W'.heap[b]? = w'.heap[b]?) → w0.heap.size ≤ w.heap.size → w'.heap.size ≤ W'.heap.size → Rd R B l A c a' r' W' → w0.grownBy W' (some R) →
        PtP R B l A c r' w0 pr (.returned (.tuple #[.agg #[.int .i64 K, .int .i64 N, .string S, .slice A' L' C', .int .i64 D], fV e p])) W') := by
  obtain ⟨hg, hp⟩ := h
  cases pr with
  | ok e d a =>
    obtain ⟨k, n, s, A', L', c', rfl, hi, hr⟩ := hp
    exact ⟨k, n, s, A', L', c', (d : Int), 0, 0, a, rfl, hr, hg, fun w0 W' r' hk h0 h1 hr' hg' => ⟨hg', k, n, s, A', L', c', rfl, hi.imp (fun b hb => ⟨Nat.le_trans h0 hb.1, Nat.lt_of_lt_of_le hb.2 h1⟩) hk, hr'⟩⟩
  | err e p =>
    obtain ⟨rfl, he, a, hr⟩ := hp
    exact ⟨0, 0, ⟨#[]⟩, none, 0, 0, 0, e, p, a, rfl, hr, hg, fun w0 W' r' _ _ _ hr' hg' => ⟨hg', rfl, he, a, hr'⟩⟩

set_option maxRecDepth 100000 in
set_option maxHeartbeats 4000000 in
theorem within_any (bind : Int) (pr : Pr) (R B : Nat) (l : List Gt) (A : Option Addr) (c a r : Nat) (w : World) (h : Rd R B l A c a r w) (ha : a ≤ 4611686018427387903) (hr : r ≤ 20)
    (hB : r ≠ 20 → ∀ W, w.grownBy W (some R) → Rd R B l A c (a + 1) (r + 1) W → Calls Tryd.prog 28 #[pR R, .int .i64 bind] W (PtP R B l A c (r + 1) W pr)) :
    Calls Tryd.prog 75 #[pR R, .int .i64 bind] w (PtP R B l A c r w (withinP l a r pr)) := by
  have hS := Rs.new h
  obtain ⟨W0, hW0⟩ : ∃ W0, W0 = (w.alloc pt0).alloc flt0 := ⟨_, rfl⟩
  rw [← hW0] at hS
  have hTK := Lib.hid (rd_take R B l A c a r W0 hS.rd (by omega))
  obtain ⟨t, ht⟩ : ∃ t, t = tokN l a := ⟨_, rfl⟩
  rw [← ht] at hTK
  have HPP : Hid (withinP l a r pr = if r = 20 then .err 5 t.pos else pr) := Lib.hid (by rw [ht]; rfl)
  have HS := Lib.hid hS
  have HB := Lib.hid hB
  have HWR : Hid (∀ W, Calls Tryd.prog 79 #[.int .i64 5, t.val] W fun x w' => x = .returned (fV 5 t.pos) ∧ Below W.heap.size W w') := Lib.hid (fun W => wrong_any 5 t W)
  obtain ⟨tk, tx, tp⟩ := t
  have hv : Gt.val ⟨tk, tx, tp⟩ = .agg #[.int .i64 tk, .string tx, .int .i64 tp] := rfl
  rw [hv] at hTK HWR
  clear ht hv h hS hB
  go_enter Tryd.func75, Tryd.ntmps75
  go_wp2_with fail
  rw [← hW0]
  clear hW0
  refine hTK.out.mono ?_
  rintro e w1 ⟨rfl, hrd1, hg1⟩
  have hS1 := HS.out.step hrd1 hg1
  have hb2 := boxed w1 (.cells #[.int .i64 tk, .string tx, .int .i64 tp] 49)
  have hn2 := heap_new w1 (.cells #[.int .i64 tk, .string tx, .int .i64 tp] 49)
  have HS2 := Lib.hid (hS1.below hb2)
  obtain ⟨W2, hW2⟩ : ∃ W2, W2 = w1.alloc (.cells #[.int .i64 tk, .string tx, .int .i64 tp] 49) := ⟨_, rfl⟩
  rw [← hW2] at hn2 HS2
  have HN2 := Lib.hid hn2
  obtain ⟨q0, q1, q2⟩ := row3 hn2
  obtain ⟨z0, z1, z2⟩ := row3 HS2.out.rd.row
  have fz2 := frozen_of HS2.out.rd.row 2
  clear hb2 hn2 hS1 hrd1
  by_cases h20 : r = 20
  · have e20 : ((r : Int) == 20) = true := by simp; omega
    have HRES : Hid (withinP l a r pr = .err 5 tp) := Lib.hid (by rw [HPP.out, if_pos h20])
    clear h20
    go_upto_region 2 with fail
    rw [← hW2]
    clear hW2
    go_wp2_with fail
    refine (HWR.out W2).mono ?_
    rintro e w6 ⟨rfl, hb6⟩
    have HS6 := Lib.hid (HS2.out.below hb6)
    obtain ⟨x0, x1, x2, x3, x4⟩ := row5 HS6.out.b0
    obtain ⟨y0, y1⟩ := row2 HS6.out.b1
    have f0 := frozen_of HS6.out.b0 0
    have f1 := frozen_of HS6.out.b0 1
    have f2 := frozen_of HS6.out.b0 2
    have f3 := frozen_of HS6.out.b0 3
    have f4 := frozen_of HS6.out.b0 4
    have g0 := frozen_of HS6.out.b1 0
    have g1 := frozen_of HS6.out.b1 1
    clear q0 q1 q2 z0 z1 z2 fz2
    go_wp2_with fail
    have hF := HS6.out.put (.int .i64 0) (.int .i64 0) (.string ⟨#[]⟩) (.slice none 0 0) (.int .i64 0) (.int .i64 5) (.int .i64 tp)
    change bodyPost _ _ _ _ _ (stPF w.heap.size w6 (.int .i64 0) (.int .i64 0) (.string ⟨#[]⟩) (.slice none 0 0) (.int .i64 0) (.int .i64 5) (.int .i64 tp))
    generalize stPF w.heap.size w6 (.int .i64 0) (.int .i64 0) (.string ⟨#[]⟩) (.slice none 0 0) (.int .i64 0) (.int .i64 5) (.int .i64 tp) = Wf at hF ⊢
    obtain ⟨r0, r1, r2, r3, r4⟩ := row5 hF.b0
    obtain ⟨s0, s1⟩ := row2 hF.b1
    exact bodyPost_ret (v := .tuple #[.agg #[.int .i64 0, .int .i64 0, .string ⟨#[]⟩, .slice none 0 0, .int .i64 0], fV 5 tp]) (by simp [results, Tryd.results75, go_sem, r0, r1, r2, r3, r4, s0, s1]) rfl ⟨hF.gb, by rw [HRES.out]; exact ⟨rfl, by decide, _, hF.rd⟩⟩
  · have e20 : ((r : Int) == 20) = false := by simp; omega
    have HRES : Hid (withinP l a r pr = pr) := Lib.hid (by rw [HPP.out, if_neg h20])
    have HB' := Lib.hid (HB.out h20)
    have hra := HS2.out.rd.around (r + 1) (.int .i64 ((r : Int) + 1)) (by rw [show ((r + 1 : Nat) : Int) = (r : Int) + 1 by omega])
    have hga := gb_set W2 R 2 (.int .i64 ((r : Int) + 1))
    have HSA := Lib.hid (HS2.out.step hra hga)
    clear h20
    go_upto_region 2 with fail
    rw [← hW2]
    clear hW2
    go_wp2_with fail
    refine (HB'.out _ HSA.out.gb HSA.out.rd).mono ?_
    rintro e w3 hpt
    obtain ⟨K, N, S, A', L', C', D, er, po, a', rfl, hrd3, hg3, hkeep⟩ := hpt.open
    have HKEEP := Lib.hid hkeep
    have HS3 := Lib.hid (HSA.out.step hrd3 hg3)
    have HWS : W2.heap.size = (W2.setCell ⟨R, 2, none⟩ (.int .i64 ((r : Int) + 1))).heap.size := by simp
    have HG3 := Lib.hid hg3
    clear hpt hkeep hrd3 hg3 q0 q1 q2 z0 z1 z2 fz2
    obtain ⟨hf1, hb4⟩ := two_at w3 (.cells #[.int .i64 K, .int .i64 N, .string S, .slice A' L' C', .int .i64 D] 59) #[.int .i64 er, .int .i64 po] 35
    have hp1 := (Below.heap_alloc (w3.alloc (.cells #[.int .i64 K, .int .i64 N, .string S, .slice A' L' C', .int .i64 D] 59)) (.cells #[.int .i64 er, .int .i64 po] 35) _ (by simp)).trans (heap_new w3 (.cells #[.int .i64 K, .int .i64 N, .string S, .slice A' L' C', .int .i64 D] 59))
    have HS4 := Lib.hid (HS3.out.below hb4)
    have HB4 := Lib.hid hb4
    obtain ⟨W4, hW4⟩ : ∃ W4, W4 = (w3.alloc (.cells #[.int .i64 K, .int .i64 N, .string S, .slice A' L' C', .int .i64 D] 59)).alloc (.cells #[.int .i64 er, .int .i64 po] 35) := ⟨_, rfl⟩
    rw [← hW4] at hf1 hp1 HS4 HB4
    have hRw := HS4.out.hR
    have hl3 := heap_lt HS3.out.b1
    have hneR0 : ¬ w3.heap.size = R := by omega
    have hneR1 : ¬ w3.heap.size + 1 = R := by omega
    have hcR : ((r + 1 : Nat) : Int) = (r : Int) + 1 := by omega
    have hra := HS4.out.rd.around r (.int .i64 (r : Int)) rfl
    have hga := gb_set W4 R 2 (.int .i64 (r : Int))
    have HS5 := Lib.hid (HS4.out.step hra hga)
    have hp5 := (hga.block _ (heap_lt hp1) (fun e => hneR0 (by cases e; rfl))).trans hp1
    have hf5 := (hga.block _ (heap_lt hf1) (fun e => hneR1 (by cases e; rfl))).trans hf1
    obtain ⟨z0, z1, z2⟩ := row3 HS4.out.rd.row
    rw [hcR] at z2
    have fz2 := frozen_of HS4.out.rd.row 2
    have HG5 := Lib.hid hga
    clear hra hga hb4 hf1 hp1
    go_upto_region 6 with fail
    rw [← hW4]
    clear hW4
    go_upto_region 7 with fail
    obtain ⟨W5, hW5⟩ : ∃ W5, W5 = W4.setCell ⟨R, 2, none⟩ (.int .i64 (r : Int)) := ⟨_, rfl⟩
    rw [← hW5] at HS5 hp5 hf5 HG5 ⊢
    clear hW5 z0 z1 z2 fz2
    obtain ⟨p0, p1, p2, p3, p4⟩ := row5 hp5
    obtain ⟨q0, q1⟩ := row2 hf5
    obtain ⟨x0, x1, x2, x3, x4⟩ := row5 HS5.out.b0
    obtain ⟨y0, y1⟩ := row2 HS5.out.b1
    have f0 := frozen_of HS5.out.b0 0
    have f1 := frozen_of HS5.out.b0 1
    have f2 := frozen_of HS5.out.b0 2
    have f3 := frozen_of HS5.out.b0 3
    have f4 := frozen_of HS5.out.b0 4
    have g0 := frozen_of HS5.out.b1 0
    have g1 := frozen_of HS5.out.b1 1
    have n0 : ¬ w.heap.size = w3.heap.size := by omega
    have n1 : ¬ w.heap.size = w3.heap.size + 1 := by omega
    have n2 : ¬ w.heap.size + 1 = w3.heap.size := by omega
    have n4 : ¬ w3.heap.size = w.heap.size := by omega
    have n5 : ¬ w3.heap.size + 1 = w.heap.size := by omega
    have n6 : ¬ w3.heap.size = w.heap.size + 1 := by omega
    have n7 : ¬ w3.heap.size + 1 = w.heap.size + 1 := by omega
    clear hp5 hf5
    go_region
    go_wp2_with fail
    have hF := (HS5.out.put (.int .i64 K) (.int .i64 N) (.string S) (.slice A' L' C') (.int .i64 D) (.int .i64 er) (.int .i64 po)).below (drew_below _)
    have hk := fun (b : Nat) (h0 : b ≠ w.heap.size) (h1 : b ≠ w.heap.size + 1) => (drew_heap (stPF w.heap.size W5 (.int .i64 K) (.int .i64 N) (.string S) (.slice A' L' C') (.int .i64 D) (.int .i64 er) (.int .i64 po)) b).trans (stPF_keep w.heap.size W5 (.int .i64 K) (.int .i64 N) (.string S) (.slice A' L' C') (.int .i64 D) (.int .i64 er) (.int .i64 po) b h0 h1)
    have hsz := ((stPF_gb (R := 0) w.heap.size W5 (.int .i64 K) (.int .i64 N) (.string S) (.slice A' L' C') (.int .i64 D) (.int .i64 er) (.int .i64 po)).drew).size
    change bodyPost _ _ _ _ _ (World.drew (stPF w.heap.size W5 (.int .i64 K) (.int .i64 N) (.string S) (.slice A' L' C') (.int .i64 D) (.int .i64 er) (.int .i64 po)))
    generalize World.drew (stPF w.heap.size W5 (.int .i64 K) (.int .i64 N) (.string S) (.slice A' L' C') (.int .i64 D) (.int .i64 er) (.int .i64 po)) = Wf at hF hk hsz ⊢
    obtain ⟨r0, r1, r2, r3, r4⟩ := row5 hF.b0
    obtain ⟨s0, s1⟩ := row2 hF.b1
    refine bodyPost_ret (v := .tuple #[.agg #[.int .i64 K, .int .i64 N, .string S, .slice A' L' C', .int .i64 D], fV er po]) (by simp [results, Tryd.results75, go_sem, r0, r1, r2, r3, r4, s0, s1]) rfl ?_
    rw [HRES.out]
    have hl2 := heap_lt HS2.out.b1
    refine HKEEP.out w Wf r (fun b hb => ?_) (by rw [← HWS]; omega) (Nat.le_trans HB4.out.size (Nat.le_trans HG5.out.size hsz)) hF.rd hF.gb
    have hb1 : W2.heap.size ≤ b := by rw [HWS]; exact hb.1
    have hbR : b ≠ R := by omega
    rw [hk b (by omega) (by omega), HG5.out.block b (Nat.lt_of_lt_of_le hb.2 HB4.out.size) (fun e => hbR (by cases e; rfl)), HB4.out.block b hb.2]
end Go.Proofs.YtdehpgdffafebaaDoor
