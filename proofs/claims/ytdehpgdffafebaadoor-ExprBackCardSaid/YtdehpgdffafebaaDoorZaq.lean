/- The reader: the expression that one token is. Conditions: the tables lie in memory.
What the reader's functions hand back: an expression and how deep it is, or what is wrong. No function is walked here. Conditions: none.
The reader: an expression that is one token. Conditions: the tables lie in memory; the place is at most 4611686018427387904.
Which of the signs that bind so tightly a token is. Conditions: the table of signs lies in memory. -/
import Derived.Test.YtdehpgdffafebaaDoorZap
namespace Go.Proofs.YtdehpgdffafebaaDoor
open Go.RowKit
set_option linter.unusedVariables false

/-- The expression that a token is by itself: its kind, its number, its name. -/
def plainE (t : Gt) : Option (Int × Int × ByteArray) :=
  if t.kind = 1 then some (2, 0, t.text) else if t.kind = 2 then (Wd.number t.text).map fun n => (1, n, ⟨#[]⟩)
  else if t.is (plW 0) = true then some (3, 0, ⟨#[]⟩) else if t.is (plW 1) = true then some (4, 0, ⟨#[]⟩) else if t.is (plW 2) = true then some (5, 0, ⟨#[]⟩) else none
/-- What is told of a token: a value that reads so, if it is one. -/
def PlP (t : Gt) (w : World) (x : Ending) (w' : World) : Prop :=
  (∃ k n s, x = .returned (.tuple #[.agg #[.int .i64 k, .int .i64 n, .string s, .slice none 0 0], .bool (plainE t).isSome]) ∧ ∀ y, plainE t = some y → y = (k, n, s)) ∧ Below w.heap.size w w'
abbrev exp0 : Obj := .cells #[.int .i64 0, .int .i64 0, .string ⟨#[]⟩, .slice none 0 0] tE

theorem two_at (w : World) (o : Obj) (cs : Array Value) (t : TypeId) : ((w.alloc o).alloc (.cells cs t)).heap[w.heap.size + 1]? = some (.cells cs t (0, 0)) ∧ Below w.heap.size w ((w.alloc o).alloc (.cells cs t)) := by
  have h := heap_new (w.alloc o) (.cells cs t)
  rw [World.size_alloc] at h
  exact ⟨h, (boxed w o).trans ((boxed (w.alloc o) (.cells cs t)).mono (by simp))⟩
theorem below4 {B : Nat} {w W : World} {g : Nat} (h : Below B w W) (hg : B ≤ g) (a b c d : Value) : Below B w ((((W.setCell ⟨g, 0, none⟩ a).setCell ⟨g, 1, none⟩ b).setCell ⟨g, 2, none⟩ c).setCell ⟨g, 3, none⟩ d) :=
  (((h.setCell (p := ⟨g, 0, none⟩) hg a).setCell (p := ⟨g, 1, none⟩) hg b).setCell (p := ⟨g, 2, none⟩) hg c).setCell (p := ⟨g, 3, none⟩) hg d

set_option maxRecDepth 100000 in
set_option maxHeartbeats 4000000 in
theorem plainOf_any (t : Gt) (w : World) (hP : PlainsIn w) : Calls Tryd.prog 78 #[t.val] w (PlP t w) := by
  obtain ⟨tk, tx, tp⟩ := t
  have hv : Gt.val ⟨tk, tx, tp⟩ = .agg #[.int .i64 tk, .string tx, .int .i64 tp] := rfl
  rw [hv]
  clear hv
  by_cases h1 : tk = 1
  · subst h1
    have HE : Hid (plainE ⟨1, tx, tp⟩ = some (2, 0, tx)) := Lib.hid rfl
    go_enter Tryd.func78, Tryd.ntmps78
    go_wp2_with fail
    obtain ⟨hs, hb⟩ := two_at w (.cells #[.int .i64 1, .string tx, .int .i64 tp] 49) #[.int .i64 2, .int .i64 0, .string tx, .slice none 0 0] tE
    obtain ⟨WC, hWC⟩ : ∃ WC, WC = (w.alloc (.cells #[.int .i64 1, .string tx, .int .i64 tp] 49)).alloc (.cells #[.int .i64 2, .int .i64 0, .string tx, .slice none 0 0] tE) := ⟨_, rfl⟩
    rw [← hWC] at hs hb ⊢
    obtain ⟨r0, r1, r2, r3⟩ := row4 hs
    exact bodyPost_ret (v := .tuple #[.agg #[.int .i64 2, .int .i64 0, .string tx, .slice none 0 0], .bool true]) (by simp [results, Tryd.results78, go_sem, r0, r1, r2, r3]) rfl ⟨⟨2, 0, tx, by rw [HE.out]; rfl, fun y hy => by rw [HE.out] at hy; cases hy; rfl⟩, hb⟩
  by_cases h2 : tk = 2
  · subst h2
    obtain ⟨N, hN⟩ : ∃ N : Int, N = ((Wd.number tx).getD 0 : Nat) := ⟨_, rfl⟩
    obtain ⟨b, hb⟩ : ∃ b, b = (Wd.number tx).isSome := ⟨_, rfl⟩
    have HN : Hid (∀ W, Calls Tryd.prog 53 #[.string tx] W fun e w' => e = .returned (.tuple #[.int .i64 N, .bool b]) ∧ W = w') := Lib.hid (fun W => by
      have := number_any tx W
      unfold numV at this
      rw [← hN, ← hb] at this
      exact this)
    have HE : Hid (plainE ⟨2, tx, tp⟩ = (Wd.number tx).map fun n => (1, (n : Int), ⟨#[]⟩)) := Lib.hid rfl
    have HY : Hid (∀ y, plainE ⟨2, tx, tp⟩ = some y → y = (1, N, ⟨#[]⟩)) := Lib.hid (fun y hy => by
      rw [HE.out] at hy
      rw [hN]
      cases hn : Wd.number tx with
      | none => rw [hn] at hy; cases hy
      | some n => rw [hn] at hy; cases hy; rfl)
    have HB : Hid ((plainE ⟨2, tx, tp⟩).isSome = b) := Lib.hid (by rw [HE.out, hb]; cases Wd.number tx <;> rfl)
    clear hN hb h1
    go_enter Tryd.func78, Tryd.ntmps78
    go_wp2_with fail
    refine (HN.out _).mono ?_
    rintro e w1 ⟨rfl, rfl⟩
    go_wp2_with fail
    obtain ⟨hs, hb⟩ := two_at w (.cells #[.int .i64 2, .string tx, .int .i64 tp] 49) #[.int .i64 1, .int .i64 N, .string ⟨#[]⟩, .slice none 0 0] tE
    obtain ⟨WC, hWC⟩ : ∃ WC, WC = (w.alloc (.cells #[.int .i64 2, .string tx, .int .i64 tp] 49)).alloc (.cells #[.int .i64 1, .int .i64 N, .string ⟨#[]⟩, .slice none 0 0] tE) := ⟨_, rfl⟩
    rw [← hWC] at hs hb ⊢
    obtain ⟨r0, r1, r2, r3⟩ := row4 hs
    exact bodyPost_ret (v := .tuple #[.agg #[.int .i64 1, .int .i64 N, .string ⟨#[]⟩, .slice none 0 0], .bool b]) (by simp [results, Tryd.results78, go_sem, r0, r1, r2, r3]) rfl ⟨⟨1, N, ⟨#[]⟩, by rw [HB.out], HY.out⟩, hb⟩
  · have e1 : (tk == 1) = false := by simpa using h1
    have e2 : (tk == 2) = false := by simpa using h2
    obtain ⟨t, ht⟩ : ∃ t : Gt, t = ⟨tk, tx, tp⟩ := ⟨_, rfl⟩
    have HE : Hid (plainE t = if t.is (plW 0) = true then some (3, 0, ⟨#[]⟩) else if t.is (plW 1) = true then some (4, 0, ⟨#[]⟩) else if t.is (plW 2) = true then some (5, 0, ⟨#[]⟩) else none) := Lib.hid (by rw [ht]; unfold plainE; rw [if_neg h1, if_neg h2])
    have HIS : Hid (∀ s W, Calls Tryd.prog 61 #[.agg #[.int .i64 tk, .string tx, .int .i64 tp], .string s] W fun e w' => e = .returned (.bool (t.is s)) ∧ Below W.heap.size W w') := Lib.hid (fun s W => by
      have := is_any t s W
      rw [ht] at this ⊢
      exact this)
    rw [← ht]
    clear ht h1 h2
    obtain ⟨tt, fr, hg1⟩ := hP
    have hD := Duo.new w 49 tE #[.int .i64 tk, .string tx, .int .i64 tp] #[.int .i64 0, .int .i64 0, .string ⟨#[]⟩, .slice none 0 0]
    have hg2 := (hD.below.block _ (heap_lt hg1)).trans hg1
    have HD := Lib.hid hD
    obtain ⟨W0, hW0⟩ : ∃ W0, W0 = (w.alloc (.cells #[.int .i64 tk, .string tx, .int .i64 tp] 49)).alloc (.cells #[.int .i64 0, .int .i64 0, .string ⟨#[]⟩, .slice none 0 0] tE) := ⟨_, rfl⟩
    rw [← hW0] at HD hg2
    obtain ⟨q0, q1, q2⟩ := row3 HD.out.b0
    clear hg1 hD
    go_enter Tryd.func78, Tryd.ntmps78
    go_upto_region 7 with fail
    rw [← hW0]
    clear hW0
    go_wp2_with (refine wpList_load_row rfl 95 _ rfl 1 rfl tt _ fr _ hg2 Tryd.underlying95 rfl (by kernel_rfl) ?_)
    go_loopw [27] (fun i wr => ∃ k' : Nat, k' ≤ 3 ∧ i = .int .i64 k' ∧ Hid (Duo w #[.int .i64 tk, .string tx, .int .i64 tp] 49 #[.int .i64 0, .int .i64 0, .string ⟨#[]⟩, .slice none 0 0] tE wr) ∧ Hid (∀ j : Nat, j < k' → t.is (plW j) = false)) (fun i _ => 3 - (intOf i).toNat)
    case atStart => exact ⟨0, by omega, rfl, HD, Lib.hid (fun j h => by omega)⟩
    case round =>
      clear q0 q1 q2 hg2
      obtain ⟨k', hk', rfl, hD, hf⟩ := hrel
      have hsz := hD.out.below.size
      have hl1 := heap_lt hD.out.b1
      have HD := hD
      clear hD
      by_cases hlt : k' < 3
      · have hix := index90 k' hlt
        obtain ⟨pw, hpw⟩ : ∃ pw, pw = plW k' := ⟨_, rfl⟩
        rw [← hpw] at hix
        have HPW := Lib.hid hpw
        clear hpw
        have hb2 := boxed wr (.cells #[.string pw, .int .i64 ((k' : Int) + 3)] 94)
        have hn2 := heap_new wr (.cells #[.string pw, .int .i64 ((k' : Int) + 3)] 94)
        have HD2 := Lib.hid (HD.out.step hb2)
        have HN2 := Lib.hid hn2
        obtain ⟨q0, q1, q2⟩ := row3 HD2.out.b0
        obtain ⟨v0, v1, v2⟩ := row3 HD.out.b0
        obtain ⟨p0, p1⟩ := row2 hn2
        clear hb2 hn2
        go_wp2_with fail
        refine (HIS.out _ _).mono ?_
        rintro e w3 ⟨rfl, hb3⟩
        have HD3 := Lib.hid (HD2.out.step hb3)
        have hn3 := (hb3.block _ (heap_lt HN2.out)).trans HN2.out
        obtain ⟨p0, p1⟩ := row2 hn3
        have hne : ¬ wr.heap.size = w.heap.size + 1 := by omega
        clear q0 q1 q2 v0 v1 v2
        obtain ⟨x0, x1, x2, x3⟩ := row4 HD3.out.b1
        have f0 := frozen_of HD3.out.b1 0
        have f1 := frozen_of HD3.out.b1 1
        have f2 := frozen_of HD3.out.b1 2
        have f3 := frozen_of HD3.out.b1 3
        clear hn3
        cases his : t.is pw with
        | true =>
          have HY : Hid (plainE t = some ((k' : Int) + 3, 0, ⟨#[]⟩)) := Lib.hid (by
            have hpw := HPW.out
            subst hpw
            have h : k' = 0 ∨ k' = 1 ∨ k' = 2 := by omega
            rw [HE.out]
            rcases h with rfl | rfl | rfl
            · rw [if_pos his]; rfl
            · rw [if_neg (by rw [hf.out 0 (by omega)]; exact Bool.false_ne_true), if_pos his]; rfl
            · rw [if_neg (by rw [hf.out 0 (by omega)]; exact Bool.false_ne_true), if_neg (by rw [hf.out 1 (by omega)]; exact Bool.false_ne_true), if_pos his]; rfl)
          clear his
          go_wp2_with fail
          have hs := set4 HD3.out.b1 (.int .i64 ((k' : Int) + 3)) (.int .i64 0) (.string ⟨#[]⟩) (.slice none 0 0)
          have hbf := below4 HD3.out.below (g := w.heap.size + 1) (by omega) (.int .i64 ((k' : Int) + 3)) (.int .i64 0) (.string ⟨#[]⟩) (.slice none 0 0)
          obtain ⟨Wf, hWf⟩ : ∃ Wf, Wf = (((w3.setCell ⟨w.heap.size + 1, 0, none⟩ (.int .i64 ((k' : Int) + 3))).setCell ⟨w.heap.size + 1, 1, none⟩ (.int .i64 0)).setCell ⟨w.heap.size + 1, 2, none⟩ (.string ⟨#[]⟩)).setCell ⟨w.heap.size + 1, 3, none⟩ (.slice none 0 0) := ⟨_, rfl⟩
          rw [← hWf] at hs hbf ⊢
          obtain ⟨r0, r1, r2, r3⟩ := row4 hs
          exact bodyPost_ret (v := .tuple #[.agg #[.int .i64 ((k' : Int) + 3), .int .i64 0, .string ⟨#[]⟩, .slice none 0 0], .bool true]) (by simp [results, Tryd.results78, go_sem, r0, r1, r2, r3]) rfl ⟨⟨(k' : Int) + 3, 0, ⟨#[]⟩, by rw [HY.out]; rfl, fun y hy => by rw [HY.out] at hy; cases hy; rfl⟩, hbf⟩
        | false =>
          have HN : Hid (∀ j : Nat, j < k' + 1 → t.is (plW j) = false) := Lib.hid (fun j hj => by
            by_cases h : j < k'
            · exact hf.out j h
            · have : j = k' := by omega
              rw [this, ← HPW.out]; exact his)
          clear his
          go_wp2_with fail
          go_roundw
          case rel => exact ⟨k' + 1, by omega, by go_num, HD3, HN⟩
          case measure => simp [intOf]; omega
      · have HY : Hid (plainE t = none) := Lib.hid (by
          rw [HE.out, if_neg (by rw [hf.out 0 (by omega)]; exact Bool.false_ne_true), if_neg (by rw [hf.out 1 (by omega)]; exact Bool.false_ne_true), if_neg (by rw [hf.out 2 (by omega)]; exact Bool.false_ne_true)])
        obtain ⟨x0, x1, x2, x3⟩ := row4 HD.out.b1
        have f0 := frozen_of HD.out.b1 0
        have f1 := frozen_of HD.out.b1 1
        have f2 := frozen_of HD.out.b1 2
        have f3 := frozen_of HD.out.b1 3
        go_wp2_with fail
        have hs := set4 HD.out.b1 (.int .i64 0) (.int .i64 0) (.string ⟨#[]⟩) (.slice none 0 0)
        have hbf := below4 HD.out.below (g := w.heap.size + 1) (by omega) (.int .i64 0) (.int .i64 0) (.string ⟨#[]⟩) (.slice none 0 0)
        obtain ⟨Wf, hWf⟩ : ∃ Wf, Wf = (((wr.setCell ⟨w.heap.size + 1, 0, none⟩ (.int .i64 0)).setCell ⟨w.heap.size + 1, 1, none⟩ (.int .i64 0)).setCell ⟨w.heap.size + 1, 2, none⟩ (.string ⟨#[]⟩)).setCell ⟨w.heap.size + 1, 3, none⟩ (.slice none 0 0) := ⟨_, rfl⟩
        rw [← hWf] at hs hbf ⊢
        obtain ⟨r0, r1, r2, r3⟩ := row4 hs
        exact bodyPost_ret (v := .tuple #[.agg #[.int .i64 0, .int .i64 0, .string ⟨#[]⟩, .slice none 0 0], .bool false]) (by simp [results, Tryd.results78, go_sem, r0, r1, r2, r3]) rfl ⟨⟨0, 0, ⟨#[]⟩, by rw [HY.out]; rfl, fun y hy => by rw [HY.out] at hy; cases hy⟩, hbf⟩
end Go.Proofs.YtdehpgdffafebaaDoor
namespace Go.Proofs.YtdehpgdffafebaaDoor
open Go.RowKit
set_option linter.unusedVariables false

/-- What was read: an expression, how deep it is, the place behind it; or what is wrong, and where. -/
inductive Pr where
  | ok (e : E) (d a : Nat)
  | err (x p : Int)

mutual
/-- A value that reads as an expression, through blocks of a kind. -/
def InP (P : Nat → Prop) (W : World) : E → Value → Prop
  | .mk k n s l, v => ∃ (A : Option Addr) (c : Nat), v = .agg #[.int .i64 k, .int .i64 n, .string s, .slice A l.length c] ∧ (-9223372036854775808 ≤ n ∧ n ≤ 9223372036854775807) ∧ l.length ≤ c ∧ c ≤ maxLen ∧
      (0 < l.length → ∃ b o, A = some ⟨b, o, none⟩ ∧ P b ∧ InQ P W b o l)
def InQ (P : Nat → Prop) (W : World) (b : Nat) : Nat → List E → Prop
  | _, [] => True
  | o, e :: r => (∃ c0 c1 c2 c3, W.cell? ⟨b, o, none⟩ = some c0 ∧ W.cell? ⟨b, o + 1, none⟩ = some c1 ∧ W.cell? ⟨b, o + 2, none⟩ = some c2 ∧ W.cell? ⟨b, o + 3, none⟩ = some c3 ∧ InP P W e (.agg #[c0, c1, c2, c3])) ∧ InQ P W b (o + 4) r
end
mutual
/-- Where those blocks stay, it stays; and there may be more of them. -/
theorem InP.imp {P P' : Nat → Prop} {W W' : World} (hP : ∀ b, P b → P' b) (hW : ∀ b, P b → W'.heap[b]? = W.heap[b]?) : ∀ {e : E} {v : Value}, InP P W e v → InP P' W' e v
  | .mk k n s l, v, h => by
    rw [InP] at h ⊢
    obtain ⟨A, c, h1, h2, h3, h4, h5⟩ := h
    refine ⟨A, c, h1, h2, h3, h4, fun hl => ?_⟩
    obtain ⟨b, o, e, hb, ha⟩ := h5 hl
    exact ⟨b, o, e, hP b hb, InQ.imp hP hW hb ha⟩
theorem InQ.imp {P P' : Nat → Prop} {W W' : World} (hP : ∀ b, P b → P' b) (hW : ∀ b, P b → W'.heap[b]? = W.heap[b]?) : ∀ {l : List E} {b o : Nat}, P b → InQ P W b o l → InQ P' W' b o l
  | [], _, _, _, _ => by rw [InQ]; trivial
  | e :: r, b, o, hb, h => by
    rw [InQ] at h ⊢
    obtain ⟨⟨c0, c1, c2, c3, h0, h1, h2, h3, hv⟩, hr⟩ := h
    have hc : ∀ q, W'.cell? ⟨b, q, none⟩ = W.cell? ⟨b, q, none⟩ := fun q => World.cell?_of_block (hW b hb)
    exact ⟨⟨c0, c1, c2, c3, (hc _).trans h0, (hc _).trans h1, (hc _).trans h2, (hc _).trans h3, InP.imp hP hW hv⟩, InQ.imp hP hW hb hr⟩
end
mutual
theorem InP.inV {P : Nat → Prop} {B : Nat} {W : World} (hP : ∀ b, P b → b < B) : ∀ {e : E} {v : Value}, InP P W e v → InV B W e v
  | .mk k n s l, v, h => by
    rw [InP] at h
    rw [InV]
    obtain ⟨A, c, h1, h2, h3, h4, h5⟩ := h
    refine ⟨A, c, h1, h2, h3, h4, fun hl => ?_⟩
    obtain ⟨b, o, e, hb, ha⟩ := h5 hl
    exact ⟨b, o, e, hP b hb, InQ.inA hP ha⟩
theorem InQ.inA {P : Nat → Prop} {B : Nat} {W : World} (hP : ∀ b, P b → b < B) : ∀ {l : List E} {b o : Nat}, InQ P W b o l → InA B W b o l
  | [], _, _, _ => by rw [InA]; trivial
  | e :: r, b, o, h => by
    rw [InQ] at h
    rw [InA]
    obtain ⟨⟨c0, c1, c2, c3, h0, h1, h2, h3, hv⟩, hr⟩ := h
    exact ⟨⟨c0, c1, c2, c3, h0, h1, h2, h3, InP.inV hP hv⟩, InQ.inA hP hr⟩
end
theorem inP_leaf (P : Nat → Prop) (W : World) (k n : Int) (s : ByteArray) (A : Option Addr) (c : Nat) (h : -9223372036854775808 ≤ n ∧ n ≤ 9223372036854775807) (hc : c ≤ maxLen) : InP P W (.mk k n s []) (.agg #[.int .i64 k, .int .i64 n, .string s, .slice A 0 c]) := by
  rw [InP]
  exact ⟨A, c, rfl, h, Nat.zero_le _, hc, fun h => by simp at h⟩
/-- Blocks that are new between two worlds. -/
def Fresh (w w' : World) (b : Nat) : Prop := w.heap.size ≤ b ∧ b < w'.heap.size

abbrev pt0 : Obj := .cells #[.int .i64 0, .int .i64 0, .string ⟨#[]⟩, .slice none 0 0, .int .i64 0] 59
theorem row5 {W : World} {g : Nat} {a b c d e : Value} {t : TypeId} (h : W.heap[g]? = some (.cells #[a, b, c, d, e] t (0, 0))) :
    W.cell? ⟨g, 0, none⟩ = some a ∧ W.cell? ⟨g, 1, none⟩ = some b ∧ W.cell? ⟨g, 2, none⟩ = some c ∧ W.cell? ⟨g, 3, none⟩ = some d ∧ W.cell? ⟨g, 4, none⟩ = some e :=
  ⟨cell_of_row W _ 0 _ _ (0, 0) h, cell_of_row W _ 1 _ _ (0, 0) h, cell_of_row W _ 2 _ _ (0, 0) h, cell_of_row W _ 3 _ _ (0, 0) h, cell_of_row W _ 4 _ _ (0, 0) h⟩
theorem set5 {W : World} {g : Nat} {a b c d e : Value} {t : TypeId} (h : W.heap[g]? = some (.cells #[a, b, c, d, e] t (0, 0))) (x0 x1 x2 x3 x4 : Value) :
    (((((W.setCell ⟨g, 0, none⟩ x0).setCell ⟨g, 1, none⟩ x1).setCell ⟨g, 2, none⟩ x2).setCell ⟨g, 3, none⟩ x3).setCell ⟨g, 4, none⟩ x4).heap[g]? = some (.cells #[x0, x1, x2, x3, x4] t (0, 0)) := by
  have h0 : (W.setCell ⟨g, 0, none⟩ x0).heap[g]? = some (.cells #[x0, b, c, d, e] t (0, 0)) := heap_setCell_same _ _ 0 _ _ _ h
  have h1 : ((W.setCell ⟨g, 0, none⟩ x0).setCell ⟨g, 1, none⟩ x1).heap[g]? = some (.cells #[x0, x1, c, d, e] t (0, 0)) := heap_setCell_same _ _ 1 _ _ _ h0
  have h2 : (((W.setCell ⟨g, 0, none⟩ x0).setCell ⟨g, 1, none⟩ x1).setCell ⟨g, 2, none⟩ x2).heap[g]? = some (.cells #[x0, x1, x2, d, e] t (0, 0)) := heap_setCell_same _ _ 2 _ _ _ h1
  have h3 : ((((W.setCell ⟨g, 0, none⟩ x0).setCell ⟨g, 1, none⟩ x1).setCell ⟨g, 2, none⟩ x2).setCell ⟨g, 3, none⟩ x3).heap[g]? = some (.cells #[x0, x1, x2, x3, e] t (0, 0)) := heap_setCell_same _ _ 3 _ _ _ h2
  exact heap_setCell_same _ _ 4 _ _ _ h3
theorem set5_other (W : World) (g k : Nat) (hk : k ≠ g) (x0 x1 x2 x3 x4 : Value) : (((((W.setCell ⟨g, 0, none⟩ x0).setCell ⟨g, 1, none⟩ x1).setCell ⟨g, 2, none⟩ x2).setCell ⟨g, 3, none⟩ x3).setCell ⟨g, 4, none⟩ x4).heap[k]? = W.heap[k]? :=
  (heap_setCell_other _ ⟨g, 4, none⟩ k x4 hk).trans ((heap_setCell_other _ ⟨g, 3, none⟩ k x3 hk).trans ((heap_setCell_other _ ⟨g, 2, none⟩ k x2 hk).trans ((heap_setCell_other _ ⟨g, 1, none⟩ k x1 hk).trans (heap_setCell_other _ ⟨g, 0, none⟩ k x0 hk))))
theorem gb_set5 (W : World) (g : Nat) (x0 x1 x2 x3 x4 : Value) : W.grownBy (((((W.setCell ⟨g, 0, none⟩ x0).setCell ⟨g, 1, none⟩ x1).setCell ⟨g, 2, none⟩ x2).setCell ⟨g, 3, none⟩ x3).setCell ⟨g, 4, none⟩ x4) (some g) :=
  ((((gb_set W g 0 x0).trans (gb_set _ g 1 x1)).trans (gb_set _ g 2 x2)).trans (gb_set _ g 3 x3)).trans (gb_set _ g 4 x4)

/-- A function of the reader is under way: its two results' cells lie behind what was there, and nothing else there has changed but the reader's block. -/
structure Rs (R B : Nat) (l : List Gt) (A : Option Addr) (c a r : Nat) (w : World) (p0 p1 p2 p3 p4 f0 f1 : Value) (W : World) : Prop where
  b0 : W.heap[w.heap.size]? = some (.cells #[p0, p1, p2, p3, p4] 59 (0, 0))
  b1 : W.heap[w.heap.size + 1]? = some (.cells #[f0, f1] 35 (0, 0))
  rd : Rd R B l A c a r W
  gb : w.grownBy W (some R)
  hR : R < w.heap.size
abbrev Rs0 (R B : Nat) (l : List Gt) (A : Option Addr) (c a r : Nat) (w W : World) : Prop := Rs R B l A c a r w (.int .i64 0) (.int .i64 0) (.string ⟨#[]⟩) (.slice none 0 0) (.int .i64 0) (.int .i64 0) (.int .i64 0) W
theorem Rs.new {R B : Nat} {l : List Gt} {A : Option Addr} {c a r : Nat} {w : World} (h : Rd R B l A c a r w) : Rs0 R B l A c a r w ((w.alloc pt0).alloc flt0) := by
  obtain ⟨h1, h2⟩ := two_at w pt0 #[.int .i64 0, .int .i64 0] 35
  refine ⟨?_, h1, h.below h2, gb_below h2 _, heap_lt h.row⟩
  exact (Below.heap_alloc _ _ _ (by simp)).trans (heap_new w pt0)
theorem Rs.below {R B : Nat} {l : List Gt} {A : Option Addr} {c a r : Nat} {w : World} {p0 p1 p2 p3 p4 f0 f1 : Value} {W W' : World} (h : Rs R B l A c a r w p0 p1 p2 p3 p4 f0 f1 W) (hb : Below W.heap.size W W') : Rs R B l A c a r w p0 p1 p2 p3 p4 f0 f1 W' :=
  ⟨(hb.block _ (heap_lt h.b0)).trans h.b0, (hb.block _ (heap_lt h.b1)).trans h.b1, h.rd.below hb, h.gb.trans (gb_below hb _), h.hR⟩
theorem Rs.step {R B : Nat} {l : List Gt} {A : Option Addr} {c a r a' r' : Nat} {w : World} {p0 p1 p2 p3 p4 f0 f1 : Value} {W W' : World} (h : Rs R B l A c a r w p0 p1 p2 p3 p4 f0 f1 W) (hr : Rd R B l A c a' r' W') (hg : W.grownBy W' (some R)) : Rs R B l A c a' r' w p0 p1 p2 p3 p4 f0 f1 W' :=
  ⟨(hg.block _ (heap_lt h.b0) (fun e => by cases e; exact absurd h.hR (Nat.lt_irrefl _))).trans h.b0, (hg.block _ (heap_lt h.b1) (fun e => by have := h.hR; cases e; omega)).trans h.b1, hr, h.gb.trans hg, h.hR⟩
/-- Both results are stored. -/
theorem Rs.set {R B : Nat} {l : List Gt} {A : Option Addr} {c a r : Nat} {w : World} {p0 p1 p2 p3 p4 f0 f1 : Value} {W : World} (h : Rs R B l A c a r w p0 p1 p2 p3 p4 f0 f1 W) (x0 x1 x2 x3 x4 y0 y1 : Value) :
    Rs R B l A c a r w x0 x1 x2 x3 x4 y0 y1 (((((((W.setCell ⟨w.heap.size, 0, none⟩ x0).setCell ⟨w.heap.size, 1, none⟩ x1).setCell ⟨w.heap.size, 2, none⟩ x2).setCell ⟨w.heap.size, 3, none⟩ x3).setCell ⟨w.heap.size, 4, none⟩ x4).setCell ⟨w.heap.size + 1, 0, none⟩ y0).setCell ⟨w.heap.size + 1, 1, none⟩ y1) := by
  have hne : R ≠ w.heap.size := fun e => by have := h.hR; omega
  have hne1 : R ≠ w.heap.size + 1 := fun e => by have := h.hR; omega
  have g1 := gb_set5 W w.heap.size x0 x1 x2 x3 x4
  have r1 := set5 h.b0 x0 x1 x2 x3 x4
  have f1 := (set5_other W w.heap.size (w.heap.size + 1) (by omega) x0 x1 x2 x3 x4).trans h.b1
  have q1 := (set5_other W w.heap.size R hne x0 x1 x2 x3 x4).trans h.rd.row
  obtain ⟨W1, hW1⟩ : ∃ W1, W1 = ((((W.setCell ⟨w.heap.size, 0, none⟩ x0).setCell ⟨w.heap.size, 1, none⟩ x1).setCell ⟨w.heap.size, 2, none⟩ x2).setCell ⟨w.heap.size, 3, none⟩ x3).setCell ⟨w.heap.size, 4, none⟩ x4 := ⟨_, rfl⟩
  rw [← hW1] at g1 r1 f1 q1 ⊢
  have g2 := gb_set2 W1 (w.heap.size + 1) y0 y1
  have r2 := (set2_other W1 (w.heap.size + 1) w.heap.size (by omega) y0 y1).trans r1
  have f2 := set2 f1 y0 y1
  have q2 := (set2_other W1 (w.heap.size + 1) R hne1 y0 y1).trans q1
  have hg : w.grownBy _ (some R) := (h.gb.andThen g1 (fun j e => by cases e; exact .inl (Nat.le_refl _))).andThen g2 (fun j e => by cases e; exact .inl (by omega))
  have hbB : Below B W ((W1.setCell ⟨w.heap.size + 1, 0, none⟩ y0).setCell ⟨w.heap.size + 1, 1, none⟩ y1) := by
    have hB := h.rd.hB
    have hR := h.hR
    have hs := h.gb.size
    exact ((Below.refl B W).grown g1 (by omega) (fun k e => by cases e; omega)).trans ((Below.refl B W1).grown g2 (by have := g1.size; omega) (fun k e => by cases e; omega))
  exact ⟨r2, f2, ⟨q2, h.rd.toks.below hbB, h.rd.hB, h.rd.len, h.rd.cap⟩, hg, h.hR⟩
/-- Both results are stored in the cells from g on. -/
def stPF (g : Nat) (W : World) (x0 x1 x2 x3 x4 y0 y1 : Value) : World :=
  ((((((W.setCell ⟨g, 0, none⟩ x0).setCell ⟨g, 1, none⟩ x1).setCell ⟨g, 2, none⟩ x2).setCell ⟨g, 3, none⟩ x3).setCell ⟨g, 4, none⟩ x4).setCell ⟨g + 1, 0, none⟩ y0).setCell ⟨g + 1, 1, none⟩ y1
theorem Rs.put {R B : Nat} {l : List Gt} {A : Option Addr} {c a r : Nat} {w : World} {p0 p1 p2 p3 p4 f0 f1 : Value} {W : World} (h : Rs R B l A c a r w p0 p1 p2 p3 p4 f0 f1 W) (x0 x1 x2 x3 x4 y0 y1 : Value) :
    Rs R B l A c a r w x0 x1 x2 x3 x4 y0 y1 (stPF w.heap.size W x0 x1 x2 x3 x4 y0 y1) := h.set x0 x1 x2 x3 x4 y0 y1
theorem stPF_gb {R : Nat} (g : Nat) (W : World) (x0 x1 x2 x3 x4 y0 y1 : Value) : Below g W (stPF g W x0 x1 x2 x3 x4 y0 y1) :=
  below2 (((((((Below.refl g W).setCell (p := ⟨g, 0, none⟩) (Nat.le_refl _) x0).setCell (p := ⟨g, 1, none⟩) (Nat.le_refl _) x1).setCell (p := ⟨g, 2, none⟩) (Nat.le_refl _) x2).setCell (p := ⟨g, 3, none⟩) (Nat.le_refl _) x3).setCell (p := ⟨g, 4, none⟩) (Nat.le_refl _) x4)) (Nat.le_succ _) y0 y1
end Go.Proofs.YtdehpgdffafebaaDoor
namespace Go.Proofs.YtdehpgdffafebaaDoor
open Go.RowKit
set_option linter.unusedVariables false

/-- What a function of the reader hands back. -/
def PtP (R B : Nat) (l : List Gt) (A : Option Addr) (c r : Nat) (w : World) (pr : Pr) (x : Ending) (w' : World) : Prop :=
  w.grownBy w' (some R) ∧ match pr with
  | .ok e d a => ∃ k n s A' L' c', x = .returned (.tuple #[.agg #[.int .i64 k, .int .i64 n, .string s, .slice A' L' c', .int .i64 (d : Int)], fV 0 0]) ∧ InP (Fresh w w') w' e (.agg #[.int .i64 k, .int .i64 n, .string s, .slice A' L' c']) ∧ Rd R B l A c a r w'
  | .err e p => x = .returned (.tuple #[.agg #[.int .i64 0, .int .i64 0, .string ⟨#[]⟩, .slice none 0 0, .int .i64 0], fV e p]) ∧ e ≠ 0 ∧ ∃ a, Rd R B l A c a r w'

/-- What is read where one token has to be an expression. -/
def plainP (l : List Gt) (a : Nat) : Pr := match plainE (tokN l a) with
  | some (k, n, s) => .ok (.mk k n s []) 1 (a + 1)
  | none => .err 3 (tokN l a).pos

theorem plainE_num {t : Gt} {k n : Int} {s : ByteArray} (h : plainE t = some (k, n, s)) : -9223372036854775808 ≤ n ∧ n ≤ 9223372036854775807 := by
  unfold plainE at h
  split at h
  · cases h; omega
  · split at h
    · cases hn : Wd.number t.text with
      | none => rw [hn] at h; cases h
      | some m =>
        rw [hn] at h
        cases h
        have := Wd.num_bound _ m hn
        omega
    · split at h
      · cases h; omega
      · split at h
        · cases h; omega
        · split at h
          · cases h; omega
          · cases h
set_option maxRecDepth 100000 in
set_option maxHeartbeats 4000000 in
theorem plain_any (R B : Nat) (l : List Gt) (A : Option Addr) (c a r : Nat) (w : World) (h : Rd R B l A c a r w) (ha : a ≤ 4611686018427387903) (hP : PlainsIn w) (hBR : 1 ≠ R) :
    Calls Tryd.prog 65 #[pR R] w (PtP R B l A c r w (plainP l a)) := by
  have hS := Rs.new h
  have hb0 := two_at w pt0 #[.int .i64 0, .int .i64 0] 35
  obtain ⟨W0, hW0⟩ : ∃ W0, W0 = (w.alloc pt0).alloc flt0 := ⟨_, rfl⟩
  rw [← hW0] at hS hb0
  have hTK := Lib.hid (rd_take R B l A c a r W0 hS.rd (by omega))
  obtain ⟨t, ht⟩ : ∃ t, t = tokN l a := ⟨_, rfl⟩
  rw [← ht] at hTK
  have HPP : Hid (plainP l a = match plainE t with
    | some (k, n, s) => .ok (.mk k n s []) 1 (a + 1)
    | none => .err 3 t.pos) := Lib.hid (by rw [ht]; rfl)
  have HS := Lib.hid hS
  have HPL : Hid (∀ W, w.grownBy W (some R) → PlainsIn W) := Lib.hid (fun W hg => by
    obtain ⟨tt, fr, h0⟩ := hP
    exact ⟨tt, fr, (hg.block _ (heap_lt h0) (fun e => hBR (by cases e; rfl))).trans h0⟩)
  have HPO : Hid (∀ W, PlainsIn W → Calls Tryd.prog 78 #[t.val] W (PlP t W)) := Lib.hid (fun W hp => plainOf_any t W hp)
  have HWR : Hid (∀ W, Calls Tryd.prog 79 #[.int .i64 3, t.val] W fun x w' => x = .returned (fV 3 t.pos) ∧ Below W.heap.size W w') := Lib.hid (fun W => wrong_any 3 t W)
  obtain ⟨tk, tx, tp⟩ := t
  have hv : Gt.val ⟨tk, tx, tp⟩ = .agg #[.int .i64 tk, .string tx, .int .i64 tp] := rfl
  rw [hv] at hTK HPO HWR
  clear ht hv h hS hb0
  go_enter Tryd.func65, Tryd.ntmps65
  go_wp2_with fail
  rw [← hW0]
  clear hW0
  refine hTK.out.mono ?_
  rintro e w1 ⟨rfl, hrd1, hg1⟩
  have hS1 := HS.out.step hrd1 hg1
  have hb2 := boxed w1 (.cells #[.int .i64 tk, .string tx, .int .i64 tp] 49)
  have hn2 := heap_new w1 (.cells #[.int .i64 tk, .string tx, .int .i64 tp] 49)
  have HS2 := Lib.hid (hS1.below hb2)
  obtain ⟨W2, hW2⟩ : ∃ W2, W2 = w1.alloc (.cells #[.int .i64 tk, .string tx, .int .i64 tp] 49) := ⟨_, rfl⟩
  rw [← hW2] at hn2 HS2
  obtain ⟨q0, q1, q2⟩ := row3 hn2
  have HN2 := Lib.hid hn2
  clear hb2 hn2 hS1 hrd1
  go_wp2_with fail
  rw [← hW2]
  clear hW2
  go_wp2_with fail
  refine (HPO.out W2 (HPL.out _ HS2.out.gb)).mono ?_
  rintro e w3 ⟨⟨k, n, s, rfl, hy⟩, hb3⟩
  have HS3 := Lib.hid (HS2.out.below hb3)
  have HN3 := Lib.hid ((hb3.block _ (heap_lt HN2.out)).trans HN2.out)
  have hb4 := boxed w3 (.cells #[.int .i64 k, .int .i64 n, .string s, .slice none 0 0] tE)
  have hn4 := heap_new w3 (.cells #[.int .i64 k, .int .i64 n, .string s, .slice none 0 0] tE)
  have HS4 := Lib.hid (HS3.out.below hb4)
  have HN4 := Lib.hid ((hb4.block _ (heap_lt HN3.out)).trans HN3.out)
  obtain ⟨W4, hW4⟩ : ∃ W4, W4 = w3.alloc (.cells #[.int .i64 k, .int .i64 n, .string s, .slice none 0 0] tE) := ⟨_, rfl⟩
  rw [← hW4] at hn4 HS4 HN4
  have HY := Lib.hid hy
  clear q0 q1 q2 hb4 hy
  obtain ⟨b, hb⟩ : ∃ b, b = (plainE ⟨tk, tx, tp⟩).isSome := ⟨_, rfl⟩
  rw [← hb]
  have HBB := Lib.hid hb
  clear hb
  have hw1W : w1.heap.size < W4.heap.size := heap_lt HN4.out
  have hneA : ¬ w.heap.size = w.heap.size + 1 := by omega
  obtain ⟨q0, q1, q2⟩ := row3 HN4.out
  obtain ⟨z0, z1, z2, z3⟩ := row4 hn4
  have HNN4 := Lib.hid hn4
  clear hn4
  cases b with
  | false =>
    have HRES : Hid (plainP l a = .err 3 tp) := Lib.hid (by
      rw [HPP.out]
      have := HBB.out
      cases hp : plainE ⟨tk, tx, tp⟩ with
      | none => rfl
      | some y => rw [hp] at this; cases this)
    go_upto_if 17 with fail
    rw [← hW4]
    clear hW4
    go_wp2_with fail
    refine (HWR.out W4).mono ?_
    rintro e w5 ⟨rfl, hb5⟩
    have HS5 := Lib.hid (HS4.out.below hb5)
    obtain ⟨x0, x1, x2, x3, x4⟩ := row5 HS5.out.b0
    obtain ⟨y0, y1⟩ := row2 HS5.out.b1
    have f0 := frozen_of HS5.out.b0 0
    have f1 := frozen_of HS5.out.b0 1
    have f2 := frozen_of HS5.out.b0 2
    have f3 := frozen_of HS5.out.b0 3
    have f4 := frozen_of HS5.out.b0 4
    have g0 := frozen_of HS5.out.b1 0
    have g1 := frozen_of HS5.out.b1 1
    clear q0 q1 q2 z0 z1 z2 z3
    go_wp2_with fail
    have hF := HS5.out.put (.int .i64 0) (.int .i64 0) (.string ⟨#[]⟩) (.slice none 0 0) (.int .i64 0) (.int .i64 3) (.int .i64 tp)
    change bodyPost _ _ _ _ _ (stPF w.heap.size w5 (.int .i64 0) (.int .i64 0) (.string ⟨#[]⟩) (.slice none 0 0) (.int .i64 0) (.int .i64 3) (.int .i64 tp))
    generalize stPF w.heap.size w5 (.int .i64 0) (.int .i64 0) (.string ⟨#[]⟩) (.slice none 0 0) (.int .i64 0) (.int .i64 3) (.int .i64 tp) = Wf at hF ⊢
    obtain ⟨r0, r1, r2, r3, r4⟩ := row5 hF.b0
    obtain ⟨s0, s1⟩ := row2 hF.b1
    exact bodyPost_ret (v := .tuple #[.agg #[.int .i64 0, .int .i64 0, .string ⟨#[]⟩, .slice none 0 0, .int .i64 0], fV 3 tp]) (by simp [results, Tryd.results65, go_sem, r0, r1, r2, r3, r4, s0, s1]) rfl ⟨hF.gb, by rw [HRES.out]; exact ⟨rfl, by decide, _, hF.rd⟩⟩
  | true =>
    have HRES : Hid (plainP l a = .ok (.mk k n s []) 1 (a + 1) ∧ -9223372036854775808 ≤ n ∧ n ≤ 9223372036854775807) := Lib.hid (by
      have hb := HBB.out
      cases hp : plainE ⟨tk, tx, tp⟩ with
      | none => rw [hp] at hb; cases hb
      | some y =>
        have he := HY.out y hp
        subst he
        refine ⟨by rw [HPP.out, hp], ?_⟩
        exact plainE_num hp)
    obtain ⟨x0, x1, x2, x3, x4⟩ := row5 HS4.out.b0
    obtain ⟨y0, y1⟩ := row2 HS4.out.b1
    have f0 := frozen_of HS4.out.b0 0
    have f1 := frozen_of HS4.out.b0 1
    have f2 := frozen_of HS4.out.b0 2
    have f3 := frozen_of HS4.out.b0 3
    have f4 := frozen_of HS4.out.b0 4
    have g0 := frozen_of HS4.out.b1 0
    have g1 := frozen_of HS4.out.b1 1
    go_upto_if 17 with fail
    rw [← hW4]
    clear hW4 q0 q1 q2
    go_wp2_with fail
    have hF := HS4.out.put (.int .i64 k) (.int .i64 n) (.string s) (.slice none 0 0) (.int .i64 1) (.int .i64 0) (.int .i64 0)
    change bodyPost _ _ _ _ _ (stPF w.heap.size W4 (.int .i64 k) (.int .i64 n) (.string s) (.slice none 0 0) (.int .i64 1) (.int .i64 0) (.int .i64 0))
    generalize stPF w.heap.size W4 (.int .i64 k) (.int .i64 n) (.string s) (.slice none 0 0) (.int .i64 1) (.int .i64 0) (.int .i64 0) = Wf at hF ⊢
    obtain ⟨r0, r1, r2, r3, r4⟩ := row5 hF.b0
    obtain ⟨s0, s1⟩ := row2 hF.b1
    exact bodyPost_ret (v := .tuple #[.agg #[.int .i64 k, .int .i64 n, .string s, .slice none 0 0, .int .i64 1], fV 0 0]) (by simp [results, Tryd.results65, go_sem, r0, r1, r2, r3, r4, s0, s1]) rfl ⟨hF.gb, by rw [HRES.out.1]; exact ⟨k, n, s, none, 0, 0, rfl, inP_leaf _ _ _ _ _ _ _ HRES.out.2 (Nat.zero_le _), hF.rd⟩⟩
end Go.Proofs.YtdehpgdffafebaaDoor
namespace Go.Proofs.YtdehpgdffafebaaDoor
open Go.RowKit
set_option linter.unusedVariables false

def signAt (t : Gt) (b : Int) : Option Sg := sgL.find? fun x => decide (x.bind = b) && t.is x.text
abbrev sgz : Array Value := #[.string ⟨#[]⟩, .int .i64 0, .int .i64 0, .bool false]

set_option maxRecDepth 100000 in
set_option maxHeartbeats 4000000 in
theorem signAt_any (t : Gt) (b : Int) (w : World) (hS : SignsIn w) : Calls Tryd.prog 50 #[t.val, .int .i64 b] w fun x w' => x = .returned (.tuple #[((signAt t b).getD sg0).val, .bool (signAt t b).isSome]) ∧ Below w.heap.size w w' := by
  obtain ⟨tk, tx, tp⟩ := t
  have hv : Gt.val ⟨tk, tx, tp⟩ = .agg #[.int .i64 tk, .string tx, .int .i64 tp] := rfl
  rw [hv]
  clear hv
  obtain ⟨t, ht⟩ : ∃ t : Gt, t = ⟨tk, tx, tp⟩ := ⟨_, rfl⟩
  have HIS : Hid (∀ s W, Calls Tryd.prog 61 #[.agg #[.int .i64 tk, .string tx, .int .i64 tp], .string s] W fun e w' => e = .returned (.bool (t.is s)) ∧ Below W.heap.size W w') := Lib.hid (fun s W => by
    have := is_any t s W
    rw [ht] at this ⊢
    exact this)
  rw [← ht]
  clear ht
  obtain ⟨tt, fr, hg1⟩ := hS
  have hD := Duo.new w 49 70 #[.int .i64 tk, .string tx, .int .i64 tp] sgz
  have hg2 := (hD.below.block _ (heap_lt hg1)).trans hg1
  have HD := Lib.hid hD
  obtain ⟨W0, hW0⟩ : ∃ W0, W0 = (w.alloc (.cells #[.int .i64 tk, .string tx, .int .i64 tp] 49)).alloc (.cells sgz 70) := ⟨_, rfl⟩
  rw [← hW0] at HD hg2
  clear hg1 hD
  go_enter Tryd.func50, Tryd.ntmps50
  go_upto_region 1 with fail
  rw [← hW0]
  clear hW0
  go_wp2_with (refine wpList_load_row rfl 83 _ rfl 0 rfl tt _ fr _ hg2 Tryd.underlying83 rfl (by kernel_rfl) ?_)
  go_loopw [9] (fun i wr => ∃ k' : Nat, k' ≤ 6 ∧ i = .int .i64 k' ∧ Hid (Duo w #[.int .i64 tk, .string tx, .int .i64 tp] 49 sgz 70 wr) ∧ Hid ((sgL.drop k').find? (fun x => decide (x.bind = b) && t.is x.text) = signAt t b)) (fun i _ => 6 - (intOf i).toNat)
  case atStart => exact ⟨0, by omega, rfl, HD, Lib.hid rfl⟩
  case round =>
    clear hg2
    obtain ⟨k', hk', rfl, hD, hf⟩ := hrel
    have hsz := hD.out.below.size
    have hl1 := heap_lt hD.out.b1
    have HD := hD
    clear hD
    by_cases hlt : k' < 6
    · have hix := index78 k' hlt
      have hd : sgL.drop k' = sgAt k' :: sgL.drop (k' + 1) := by
        have h : k' = 0 ∨ k' = 1 ∨ k' = 2 ∨ k' = 3 ∨ k' = 4 ∨ k' = 5 := by omega
        rcases h with rfl | rfl | rfl | rfl | rfl | rfl <;> rfl
      obtain ⟨y, hy⟩ : ∃ y, y = sgAt k' := ⟨_, rfl⟩
      rw [← hy] at hix hd
      obtain ⟨yt, yk, yb, yc⟩ := y
      replace hix : ∀ W, (Instr.index 83 (.agg sgVals) (.int .i64 (k' : Int))).run Tryd.prog W = .ok (.agg #[.string yt, .int .i64 yk, .int .i64 yb, .bool yc]) W := hix
      have hb2 := boxed wr (.cells #[.string yt, .int .i64 yk, .int .i64 yb, .bool yc] 70)
      have hn2 := heap_new wr (.cells #[.string yt, .int .i64 yk, .int .i64 yb, .bool yc] 70)
      have HD2 := Lib.hid (HD.out.step hb2)
      have HN2 := Lib.hid hn2
      obtain ⟨v0, v1, v2⟩ := row3 HD.out.b0
      obtain ⟨u0, u1, u2⟩ := row3 HD2.out.b0
      obtain ⟨p0, p1, p2, p3⟩ := row4 hn2
      have hww : w.heap.size < wr.heap.size := by omega
      clear hb2 hn2 hy
      by_cases he : yb = b
      · subst he
        go_wp2_with fail
        refine (HIS.out _ _).mono ?_
        rintro e w3 ⟨rfl, hb3⟩
        have HD3 := Lib.hid (HD2.out.step hb3)
        have hn3 := (hb3.block _ (heap_lt HN2.out)).trans HN2.out
        clear p0 p1 p2 p3 u0 u1 u2 v0 v1 v2
        obtain ⟨p0, p1, p2, p3⟩ := row4 hn3
        obtain ⟨x0, x1, x2, x3⟩ := row4 HD3.out.b1
        have f0 := frozen_of HD3.out.b1 0
        have f1 := frozen_of HD3.out.b1 1
        have f2 := frozen_of HD3.out.b1 2
        have f3 := frozen_of HD3.out.b1 3
        have hne : ¬ wr.heap.size = w.heap.size + 1 := by omega
        clear hn3
        cases his : t.is yt with
        | true =>
          have HF : Hid (signAt t yb = some ⟨yt, yk, yb, yc⟩) := Lib.hid (by rw [← hf.out, hd]; simp [List.find?, his])
          clear his hd
          go_wp2_with fail
          have hs := set4 HD3.out.b1 (.string yt) (.int .i64 yk) (.int .i64 yb) (.bool yc)
          have hbf := below4 HD3.out.below (g := w.heap.size + 1) (by omega) (.string yt) (.int .i64 yk) (.int .i64 yb) (.bool yc)
          obtain ⟨Wf, hWf⟩ : ∃ Wf, Wf = (((w3.setCell ⟨w.heap.size + 1, 0, none⟩ (.string yt)).setCell ⟨w.heap.size + 1, 1, none⟩ (.int .i64 yk)).setCell ⟨w.heap.size + 1, 2, none⟩ (.int .i64 yb)).setCell ⟨w.heap.size + 1, 3, none⟩ (.bool yc) := ⟨_, rfl⟩
          rw [← hWf] at hs hbf ⊢
          obtain ⟨r0, r1, r2, r3⟩ := row4 hs
          exact bodyPost_ret (v := .tuple #[.agg #[.string yt, .int .i64 yk, .int .i64 yb, .bool yc], .bool true]) (by simp [results, Tryd.results50, go_sem, r0, r1, r2, r3]) rfl ⟨by rw [HF.out]; rfl, hbf⟩
        | false =>
          have HF : Hid ((sgL.drop (k' + 1)).find? (fun x => decide (x.bind = yb) && t.is x.text) = signAt t yb) := Lib.hid (by rw [← hf.out, hd]; simp [List.find?, his])
          clear his hd
          go_wp2_with fail
          go_roundw
          case rel => exact ⟨k' + 1, by omega, by go_num, HD3, HF⟩
          case measure => simp [intOf]; omega
      · have HF : Hid ((sgL.drop (k' + 1)).find? (fun x => decide (x.bind = b) && t.is x.text) = signAt t b) := Lib.hid (by rw [← hf.out, hd]; simp [List.find?, he])
        have hne : (yb == b) = false := by simpa using he
        clear hd he
        go_wp2_with fail
        go_roundw
        case rel => exact ⟨k' + 1, by omega, by go_num, HD2, HF⟩
        case measure => simp [intOf]; omega
    · have HF : Hid (signAt t b = none) := Lib.hid (by rw [← hf.out, List.drop_eq_nil_of_le (by show 6 ≤ k'; omega)]; rfl)
      obtain ⟨x0, x1, x2, x3⟩ := row4 HD.out.b1
      have f0 := frozen_of HD.out.b1 0
      have f1 := frozen_of HD.out.b1 1
      have f2 := frozen_of HD.out.b1 2
      have f3 := frozen_of HD.out.b1 3
      go_wp2_with fail
      have hs := set4 HD.out.b1 (.string ⟨#[]⟩) (.int .i64 0) (.int .i64 0) (.bool false)
      have hbf := below4 HD.out.below (g := w.heap.size + 1) (by omega) (.string ⟨#[]⟩) (.int .i64 0) (.int .i64 0) (.bool false)
      obtain ⟨Wf, hWf⟩ : ∃ Wf, Wf = (((wr.setCell ⟨w.heap.size + 1, 0, none⟩ (.string ⟨#[]⟩)).setCell ⟨w.heap.size + 1, 1, none⟩ (.int .i64 0)).setCell ⟨w.heap.size + 1, 2, none⟩ (.int .i64 0)).setCell ⟨w.heap.size + 1, 3, none⟩ (.bool false) := ⟨_, rfl⟩
      rw [← hWf] at hs hbf ⊢
      obtain ⟨r0, r1, r2, r3⟩ := row4 hs
      exact bodyPost_ret (v := .tuple #[.agg #[.string ⟨#[]⟩, .int .i64 0, .int .i64 0, .bool false], .bool false]) (by simp [results, Tryd.results50, go_sem, r0, r1, r2, r3]) rfl ⟨by rw [HF.out]; rfl, hbf⟩
end Go.Proofs.YtdehpgdffafebaaDoor
