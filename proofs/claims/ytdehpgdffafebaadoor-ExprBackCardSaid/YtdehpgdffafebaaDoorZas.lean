/- The reader: what stands between ( and ), where the reading within is told. Conditions: the place is at most 4611686018427387903.
What over hands back reads as an expression over its Kids. No function is walked here. Conditions: none.
The reader: a ! and its Kid, where the reading within is told. Conditions: the place is at most 4611686018427387904.
The tokens as the reader meets them, and the chapter's example's. Conditions: none.
The plain function that the reader follows, by fuel, and the chapter's example read by it. No function is walked here. Conditions: none. -/
import Derived.Test.YtdehpgdffafebaaDoorZar
namespace Go.Proofs.YtdehpgdffafebaaDoor
open Go.RowKit
set_option linter.unusedVariables false

/-- A block of its own, behind the results' cells, has changed. -/
theorem Rs.later {R B : Nat} {l : List Gt} {A : Option Addr} {c a r : Nat} {w : World} {p0 p1 p2 p3 p4 f0 f1 : Value} {W W' : World} (h : Rs R B l A c a r w p0 p1 p2 p3 p4 f0 f1 W) {g : Nat} (hg : w.heap.size + 2 ≤ g) (hgl : g < W.heap.size) (hb : W.grownBy W' (some g)) : Rs R B l A c a r w p0 p1 p2 p3 p4 f0 f1 W' := by
  have hR := h.hR
  have hst : ∀ q ob, q < w.heap.size + 2 → W.heap[q]? = some ob → W'.heap[q]? = some ob := fun q ob hq ho => (hb.block q (heap_lt ho) (fun e => by cases e; omega)).trans ho
  refine ⟨hst _ _ (by omega) h.b0, hst _ _ (by omega) h.b1, ⟨hst _ _ (by omega) h.rd.row, h.rd.toks.below ((Below.refl B W).grown hb (by have := h.rd.hB; omega) (fun k e => by have := h.rd.hB; cases e; omega)), h.rd.hB, h.rd.len, h.rd.cap⟩, h.gb.andThen hb (fun j e => by cases e; exact .inl (by omega)), hR⟩
/-- What is read between ( and ). -/
def bracketP (l : List Gt) : Pr → Pr
  | .ok e d a => if (tokN l a).is ⟨#[41]⟩ = true then .ok e d (a + 1) else .err 3 (tokN l a).pos
  | .err e p => .err e p

set_option maxRecDepth 100000 in
set_option maxHeartbeats 4000000 in
theorem bracket_any (pr : Pr) (R B : Nat) (l : List Gt) (A : Option Addr) (c a r : Nat) (w : World) (h : Rd R B l A c a r w) (hpa : ∀ e d a', pr = .ok e d a' → a' ≤ 4611686018427387904)
    (hB : ∀ W, w.grownBy W (some R) → Rd R B l A c a r W → Calls Tryd.prog 75 #[pR R, .int .i64 1] W (PtP R B l A c r W pr)) :
    Calls Tryd.prog 63 #[pR R] w (PtP R B l A c r w (bracketP l pr)) := by
  have hS := Rs.new h
  obtain ⟨W0, hW0⟩ : ∃ W0, W0 = (w.alloc pt0).alloc flt0 := ⟨_, rfl⟩
  rw [← hW0] at hS
  have HS := Lib.hid hS
  have HB := Lib.hid (hB W0 hS.gb hS.rd)
  have HPA := Lib.hid hpa
  clear h hS hB hpa
  go_enter Tryd.func63, Tryd.ntmps63
  go_wp2_with fail
  rw [← hW0]
  clear hW0
  refine HB.out.mono ?_
  rintro e w3 hpt
  cases pr with
  | err er po =>
    obtain ⟨hg3, rfl, he0, a', hrd3⟩ := hpt
    have HE0 := Lib.hid he0
    have hne0 : (er != 0) = true := by simpa using he0
    have HS3 := Lib.hid (HS.out.step hrd3 hg3)
    clear hrd3 hg3 he0
    obtain ⟨hf1, hb4⟩ := two_at w3 pt0 #[.int .i64 er, .int .i64 po] 35
    have HS4 := Lib.hid (HS3.out.below hb4)
    obtain ⟨W4, hW4⟩ : ∃ W4, W4 = (w3.alloc pt0).alloc (.cells #[.int .i64 er, .int .i64 po] 35) := ⟨_, rfl⟩
    rw [← hW4] at hf1 HS4
    have hRw := HS4.out.hR
    have hl3 := heap_lt HS3.out.b1
    obtain ⟨q0, q1⟩ := row2 hf1
    obtain ⟨x0, x1, x2, x3, x4⟩ := row5 HS4.out.b0
    obtain ⟨y0, y1⟩ := row2 HS4.out.b1
    have f0 := frozen_of HS4.out.b0 0
    have f1 := frozen_of HS4.out.b0 1
    have f2 := frozen_of HS4.out.b0 2
    have f3 := frozen_of HS4.out.b0 3
    have f4 := frozen_of HS4.out.b0 4
    have g0 := frozen_of HS4.out.b1 0
    have g1 := frozen_of HS4.out.b1 1
    have n1 : ¬ w.heap.size = w3.heap.size + 1 := by omega
    have n5 : ¬ w3.heap.size + 1 = w.heap.size := by omega
    have n7 : ¬ w3.heap.size + 1 = w.heap.size + 1 := by omega
    clear hb4 hf1
    go_upto_region 2 with fail
    rw [← hW4]
    clear hW4
    go_wp2_with fail
    go_region
    go_wp2_with fail
    have hF := (HS4.out.put (.int .i64 0) (.int .i64 0) (.string ⟨#[]⟩) (.slice none 0 0) (.int .i64 0) (.int .i64 er) (.int .i64 po)).below (drew_below _)
    change bodyPost _ _ _ _ _ (World.drew (stPF w.heap.size W4 (.int .i64 0) (.int .i64 0) (.string ⟨#[]⟩) (.slice none 0 0) (.int .i64 0) (.int .i64 er) (.int .i64 po)))
    generalize World.drew (stPF w.heap.size W4 (.int .i64 0) (.int .i64 0) (.string ⟨#[]⟩) (.slice none 0 0) (.int .i64 0) (.int .i64 er) (.int .i64 po)) = Wf at hF ⊢
    obtain ⟨r0, r1, r2, r3, r4⟩ := row5 hF.b0
    obtain ⟨s0, s1⟩ := row2 hF.b1
    exact bodyPost_ret (v := .tuple #[.agg #[.int .i64 0, .int .i64 0, .string ⟨#[]⟩, .slice none 0 0, .int .i64 0], fV er po]) (by simp [results, Tryd.results63, go_sem, r0, r1, r2, r3, r4, s0, s1]) rfl ⟨hF.gb, rfl, HE0.out, _, hF.rd⟩
  | ok e d a' =>
    obtain ⟨hg3, K, N, S, A', L', C', rfl, hi3, hrd3⟩ := hpt
    have HI3 := Lib.hid hi3
    have HS3 := Lib.hid (HS.out.step hrd3 hg3)
    clear hrd3 hi3
    obtain ⟨hf1, hb4⟩ := two_at w3 (.cells #[.int .i64 K, .int .i64 N, .string S, .slice A' L' C', .int .i64 (d : Int)] 59) #[.int .i64 0, .int .i64 0] 35
    have hp1 := (Below.heap_alloc (w3.alloc (.cells #[.int .i64 K, .int .i64 N, .string S, .slice A' L' C', .int .i64 (d : Int)] 59)) (.cells #[.int .i64 0, .int .i64 0] 35) _ (by simp)).trans (heap_new w3 (.cells #[.int .i64 K, .int .i64 N, .string S, .slice A' L' C', .int .i64 (d : Int)] 59))
    have HS4 := Lib.hid (HS3.out.below hb4)
    have HB4 := Lib.hid hb4
    obtain ⟨W4, hW4⟩ : ∃ W4, W4 = (w3.alloc (.cells #[.int .i64 K, .int .i64 N, .string S, .slice A' L' C', .int .i64 (d : Int)] 59)).alloc (.cells #[.int .i64 0, .int .i64 0] 35) := ⟨_, rfl⟩
    rw [← hW4] at hf1 hp1 HS4 HB4
    have HP1 := Lib.hid hp1
    have HF1 := Lib.hid hf1
    have HW := Lib.hid (rd_want R B l A c a' r ⟨#[41]⟩ W4 HS4.out.rd (HPA.out e d a' rfl))
    have hRw := HS4.out.hR
    have hl3 := heap_lt HS3.out.b1
    have hl0 := heap_lt HS.out.b1
    have h03 := hg3.size
    obtain ⟨q0, q1⟩ := row2 hf1
    clear hb4 hf1 hp1
    obtain ⟨tp, htp⟩ : ∃ tp, tp = (tokN l a').pos := ⟨_, rfl⟩
    obtain ⟨b, hb⟩ : ∃ b, b = (tokN l a').is ⟨#[41]⟩ := ⟨_, rfl⟩
    have HRES : Hid (bracketP l (.ok e d a') = if b = true then .ok e d (a' + 1) else .err 3 tp) := Lib.hid (by rw [hb, htp]; rfl)
    rw [← hb, ← htp] at HW
    clear hb htp
    have hnR : ¬ w3.heap.size + 1 = R := by omega
    have hnR' : ¬ w3.heap.size = R := by omega
    cases b with
    | false =>
      have HW : Hid (Calls Tryd.prog 76 #[pR R, .string ⟨#[41]⟩] W4 (RdP R B l A c W4 (fV 3 tp) a' r)) := HW
      go_upto_region 2 with fail
      rw [← hW4]
      clear hW4
      go_wp2_with fail
      refine HW.out.mono ?_
      rintro x w5 ⟨rfl, hrd5, hg5⟩
      have HS5 := Lib.hid (HS4.out.step hrd5 hg5)
      have k1 := (hg5.block _ (heap_lt HP1.out) (fun e => hnR' (by cases e; rfl))).trans HP1.out
      have k2 := (hg5.block _ (heap_lt HF1.out) (fun e => hnR (by cases e; rfl))).trans HF1.out
      have HG5 := Lib.hid hg5
      have fk0 := frozen_of k2 0
      have fk1 := frozen_of k2 1
      obtain ⟨q0, q1⟩ := row2 k2
      have hs6 := set2 k2 (.int .i64 3) (.int .i64 tp)
      have hp6 := (set2_other w5 (w3.heap.size + 1) w3.heap.size (by omega) (.int .i64 3) (.int .i64 tp)).trans k1
      have HG6 := Lib.hid (gb_set2 w5 (w3.heap.size + 1) (.int .i64 3) (.int .i64 tp))
      have HS6 := Lib.hid (HS5.out.later (by omega : w.heap.size + 2 ≤ w3.heap.size + 1) (heap_lt k2) HG6.out)
      clear hrd5 hg5 k1 k2
      go_upto_region 5 with fail
      obtain ⟨W6, hW6⟩ : ∃ W6, W6 = (w5.setCell ⟨w3.heap.size + 1, 0, none⟩ (.int .i64 3)).setCell ⟨w3.heap.size + 1, 1, none⟩ (.int .i64 tp) := ⟨_, rfl⟩
      rw [← hW6] at hs6 hp6 HG6 HS6 ⊢
      clear hW6 fk0 fk1 q0 q1
      obtain ⟨q0, q1⟩ := row2 hs6
      obtain ⟨p0, p1, p2, p3, p4⟩ := row5 hp6
      obtain ⟨x0, x1, x2, x3, x4⟩ := row5 HS6.out.b0
      obtain ⟨y0, y1⟩ := row2 HS6.out.b1
      have f0 := frozen_of HS6.out.b0 0
      have f1 := frozen_of HS6.out.b0 1
      have f2 := frozen_of HS6.out.b0 2
      have f3 := frozen_of HS6.out.b0 3
      have f4 := frozen_of HS6.out.b0 4
      have g0 := frozen_of HS6.out.b1 0
      have g1 := frozen_of HS6.out.b1 1
      have n0 : ¬ w.heap.size = w3.heap.size := by omega
      have n1 : ¬ w.heap.size = w3.heap.size + 1 := by omega
      have n2 : ¬ w.heap.size + 1 = w3.heap.size := by omega
      have n4 : ¬ w3.heap.size = w.heap.size := by omega
      have n5 : ¬ w3.heap.size + 1 = w.heap.size := by omega
      have n6 : ¬ w3.heap.size = w.heap.size + 1 := by omega
      have n7 : ¬ w3.heap.size + 1 = w.heap.size + 1 := by omega
      clear hs6 hp6
      go_wp2_with fail
      go_region
      go_wp2_with fail
      have hF := (HS6.out.put (.int .i64 0) (.int .i64 0) (.string ⟨#[]⟩) (.slice none 0 0) (.int .i64 0) (.int .i64 3) (.int .i64 tp)).below (drew_below _)
      change bodyPost _ _ _ _ _ (World.drew (stPF w.heap.size W6 (.int .i64 0) (.int .i64 0) (.string ⟨#[]⟩) (.slice none 0 0) (.int .i64 0) (.int .i64 3) (.int .i64 tp)))
      generalize World.drew (stPF w.heap.size W6 (.int .i64 0) (.int .i64 0) (.string ⟨#[]⟩) (.slice none 0 0) (.int .i64 0) (.int .i64 3) (.int .i64 tp)) = Wf at hF ⊢
      obtain ⟨r0, r1, r2, r3, r4⟩ := row5 hF.b0
      obtain ⟨s0, s1⟩ := row2 hF.b1
      exact bodyPost_ret (v := .tuple #[.agg #[.int .i64 0, .int .i64 0, .string ⟨#[]⟩, .slice none 0 0, .int .i64 0], fV 3 tp]) (by simp [results, Tryd.results63, go_sem, r0, r1, r2, r3, r4, s0, s1]) rfl ⟨hF.gb, by rw [HRES.out]; exact ⟨rfl, by decide, _, hF.rd⟩⟩
    | true =>
      have HW : Hid (Calls Tryd.prog 76 #[pR R, .string ⟨#[41]⟩] W4 (RdP R B l A c W4 (fV 0 0) (a' + 1) r)) := HW
      go_upto_region 2 with fail
      rw [← hW4]
      clear hW4
      go_wp2_with fail
      refine HW.out.mono ?_
      rintro x w5 ⟨rfl, hrd5, hg5⟩
      have HS5 := Lib.hid (HS4.out.step hrd5 hg5)
      have k1 := (hg5.block _ (heap_lt HP1.out) (fun e => hnR' (by cases e; rfl))).trans HP1.out
      have k2 := (hg5.block _ (heap_lt HF1.out) (fun e => hnR (by cases e; rfl))).trans HF1.out
      have HG5 := Lib.hid hg5
      have fk0 := frozen_of k2 0
      have fk1 := frozen_of k2 1
      obtain ⟨q0, q1⟩ := row2 k2
      have hs6 := set2 k2 (.int .i64 0) (.int .i64 0)
      have hp6 := (set2_other w5 (w3.heap.size + 1) w3.heap.size (by omega) (.int .i64 0) (.int .i64 0)).trans k1
      have HG6 := Lib.hid (gb_set2 w5 (w3.heap.size + 1) (.int .i64 0) (.int .i64 0))
      have HS6 := Lib.hid (HS5.out.later (by omega : w.heap.size + 2 ≤ w3.heap.size + 1) (heap_lt k2) HG6.out)
      clear hrd5 hg5 k1 k2
      go_upto_region 5 with fail
      obtain ⟨W6, hW6⟩ : ∃ W6, W6 = (w5.setCell ⟨w3.heap.size + 1, 0, none⟩ (.int .i64 0)).setCell ⟨w3.heap.size + 1, 1, none⟩ (.int .i64 0) := ⟨_, rfl⟩
      rw [← hW6] at hs6 hp6 HG6 HS6 ⊢
      clear hW6 fk0 fk1 q0 q1
      obtain ⟨q0, q1⟩ := row2 hs6
      obtain ⟨p0, p1, p2, p3, p4⟩ := row5 hp6
      obtain ⟨x0, x1, x2, x3, x4⟩ := row5 HS6.out.b0
      obtain ⟨y0, y1⟩ := row2 HS6.out.b1
      have f0 := frozen_of HS6.out.b0 0
      have f1 := frozen_of HS6.out.b0 1
      have f2 := frozen_of HS6.out.b0 2
      have f3 := frozen_of HS6.out.b0 3
      have f4 := frozen_of HS6.out.b0 4
      have g0 := frozen_of HS6.out.b1 0
      have g1 := frozen_of HS6.out.b1 1
      have n0 : ¬ w.heap.size = w3.heap.size := by omega
      have n1 : ¬ w.heap.size = w3.heap.size + 1 := by omega
      have n2 : ¬ w.heap.size + 1 = w3.heap.size := by omega
      have n4 : ¬ w3.heap.size = w.heap.size := by omega
      have n5 : ¬ w3.heap.size + 1 = w.heap.size := by omega
      have n6 : ¬ w3.heap.size = w.heap.size + 1 := by omega
      have n7 : ¬ w3.heap.size + 1 = w.heap.size + 1 := by omega
      clear hs6 hp6
      go_wp2_with fail
      have hF := HS6.out.put (.int .i64 K) (.int .i64 N) (.string S) (.slice A' L' C') (.int .i64 (d : Int)) (.int .i64 0) (.int .i64 0)
      have hk := stPF_keep w.heap.size W6 (.int .i64 K) (.int .i64 N) (.string S) (.slice A' L' C') (.int .i64 (d : Int)) (.int .i64 0) (.int .i64 0)
      have hsz := (stPF_gb (R := 0) w.heap.size W6 (.int .i64 K) (.int .i64 N) (.string S) (.slice A' L' C') (.int .i64 (d : Int)) (.int .i64 0) (.int .i64 0)).size
      change bodyPost _ _ _ _ _ (stPF w.heap.size W6 (.int .i64 K) (.int .i64 N) (.string S) (.slice A' L' C') (.int .i64 (d : Int)) (.int .i64 0) (.int .i64 0))
      generalize stPF w.heap.size W6 (.int .i64 K) (.int .i64 N) (.string S) (.slice A' L' C') (.int .i64 (d : Int)) (.int .i64 0) (.int .i64 0) = Wf at hF hk hsz ⊢
      obtain ⟨r0, r1, r2, r3, r4⟩ := row5 hF.b0
      obtain ⟨s0, s1⟩ := row2 hF.b1
      refine bodyPost_ret (v := .tuple #[.agg #[.int .i64 K, .int .i64 N, .string S, .slice A' L' C', .int .i64 (d : Int)], fV 0 0]) (by simp [results, Tryd.results63, go_sem, r0, r1, r2, r3, r4, s0, s1]) rfl ⟨hF.gb, ?_⟩
      have hres : bracketP l (.ok e d a') = .ok e d (a' + 1) := by rw [HRES.out]; simp
      rw [hres]
      refine ⟨K, N, S, A', L', C', rfl, HI3.out.imp (fun b hb => ⟨by have := hb.1; omega, by have := hb.2; have := HB4.out.size; have := HG5.out.size; have := HG6.out.size; omega⟩) (fun b hb => ?_), hF.rd⟩
      have hb1 := hb.1
      have hb2 := hb.2
      have hbR : b ≠ R := by omega
      rw [hk b (by omega) (by omega), HG6.out.block b (by have := HB4.out.size; have := HG5.out.size; omega) (fun e => by cases e; omega), HG5.out.block b (by have := HB4.out.size; omega) (fun e => hbR (by cases e; rfl)), HB4.out.block b hb2]
end Go.Proofs.YtdehpgdffafebaaDoor
namespace Go.Proofs.YtdehpgdffafebaaDoor
open Go.RowKit
set_option linter.unusedVariables false

def Pk.val (p : Pk) : Value := .agg #[.int .i64 p.k, .int .i64 p.n, .string p.s, .slice p.A p.L p.c]
theorem inQ_of {Q : Nat → Prop} {W : World} {g : Nat} : ∀ (l : List Pk) (o : Nat), (∀ (j : Nat) (u : Value), (pcells l)[j]? = some u → W.cell? ⟨g, o + j, none⟩ = some u) → (∀ p ∈ l, InP Q W p.e p.val) → InQ Q W g o (l.map Pk.e)
  | [], _, _, _ => by rw [List.map_nil, InQ]; trivial
  | p :: r, o, h, hp => by
    rw [List.map_cons, InQ]
    have hc : pcells (p :: r) = p.cells ++ pcells r := rfl
    have hcl : p.cells.length = 4 := rfl
    refine ⟨⟨.int .i64 p.k, .int .i64 p.n, .string p.s, .slice p.A p.L p.c, ?_, ?_, ?_, ?_, hp p (List.mem_cons_self ..)⟩, inQ_of r (o + 4) (fun j u hu => ?_) (fun q hq => hp q (List.mem_cons_of_mem _ hq))⟩
    · exact h 0 _ (by rw [hc]; rfl)
    · exact h 1 _ (by rw [hc]; rfl)
    · exact h 2 _ (by rw [hc]; rfl)
    · exact h 3 _ (by rw [hc]; rfl)
    · have := h (4 + j) u (by rw [hc, List.getElem?_append_right (by rw [hcl]; omega), hcl, Nat.add_sub_cancel_left]; exact hu)
      rwa [← Nat.add_assoc] at this
theorem ov_inP {w w' : World} {l : List Pk} {k : Int} {v : Value} {base : Nat} {Q : Nat → Prop} (ho : w'.ownsRow base tE 4 v l.length (pcells l)) (hp : ∀ p ∈ l, InP Q w' p.e p.val) (hQ : ∀ g, base ≤ g → g < w'.heap.size → Q g) :
    InP Q w' (.mk k 0 ⟨#[]⟩ (l.map Pk.e)) (.agg #[.int .i64 k, .int .i64 0, .string ⟨#[]⟩, v]) := by
  have hcells := fun g h => World.ownsRow.cells ho (g := g) h
  rcases ho.2 with ⟨rfl, h0⟩ | ⟨g, cap, cur, rfl, hg, hh, hc, hcm, _, _⟩
  · have : l = [] := List.eq_nil_of_length_eq_zero h0
    subst this
    exact inP_leaf _ _ _ _ _ _ _ (by omega) (Nat.zero_le _)
  · rw [InP]
    refine ⟨some ⟨g, 0, none⟩, cap, by rw [List.length_map], by omega, by rw [List.length_map]; exact hc, ?_, fun _ => ⟨g, 0, rfl, hQ g hg (heap_lt hh), inQ_of l 0 (fun j u hu => ?_) hp⟩⟩
    · exact hcm
    · have := hcells g rfl j u hu
      have ha : (⟨g, 0, none⟩ : Addr).add j = ⟨g, 0 + j, none⟩ := by unfold Addr.add; split <;> simp_all
      rwa [ha] at this
end Go.Proofs.YtdehpgdffafebaaDoor
namespace Go.Proofs.YtdehpgdffafebaaDoor
open Go.RowKit
set_option linter.unusedVariables false

/-- What is read at a !. -/
def notQ (t : Gt) : Pr → Pr
  | .ok e d a' => if 20 < d + 1 then .err 5 t.pos else .ok (.mk 12 0 ⟨#[]⟩ [e]) (d + 1) a'
  | .err e p => .err e p
def notP (l : List Gt) (a : Nat) (pr : Pr) : Pr := notQ (tokN l a) pr

set_option maxRecDepth 100000 in
set_option maxHeartbeats 4000000 in
theorem not_any (pr : Pr) (R B : Nat) (l : List Gt) (A : Option Addr) (c a r : Nat) (w : World) (h : Rd R B l A c a r w) (ha : a ≤ 4611686018427387904) (hpd : ∀ e d a', pr = .ok e d a' → d ≤ 1000)
    (hB : ∀ W, w.grownBy W (some R) → Rd R B l A c a r W → Calls Tryd.prog 75 #[pR R, .int .i64 5] W (PtP R B l A c r W pr)) :
    Calls Tryd.prog 62 #[pR R] w (PtP R B l A c r w (notP l a pr)) := by
  have hS := Rs.new h
  obtain ⟨W0, hW0⟩ : ∃ W0, W0 = (w.alloc pt0).alloc flt0 := ⟨_, rfl⟩
  rw [← hW0] at hS
  have hTK := Lib.hid (rd_token R B l A c a r W0 hS.rd ha)
  obtain ⟨t, ht⟩ : ∃ t, t = tokN l a := ⟨_, rfl⟩
  rw [← ht] at hTK
  have HPP : Hid (notP l a pr = notQ t pr) := Lib.hid (by rw [ht]; rfl)
  have HS := Lib.hid hS
  have HB := Lib.hid hB
  have HPD := Lib.hid hpd
  have HOV : Hid (∀ (ps : List Pk) (b o cap : Nat) (W : World), ps.length ≤ 2 → ps.length ≤ cap → cap ≤ maxLen → PksIn W b o ps → b < W.heap.size → (∀ p ∈ ps, p.d ≤ 1000) → Calls Tryd.prog 68 #[t.val, .int .i64 12, .slice (some ⟨b, o, none⟩) ps.length cap] W (OvP W t 12 ps)) := Lib.hid (fun ps b o cap W h1 h2 h3 h4 h5 h6 => over_any t 12 ps b o cap W h1 h2 h3 h4 h5 h6)
  obtain ⟨t0, ht0⟩ : ∃ t0, t0 = t := ⟨_, rfl⟩
  obtain ⟨tk, tx, tp⟩ := t
  have hv : Gt.val ⟨tk, tx, tp⟩ = .agg #[.int .i64 tk, .string tx, .int .i64 tp] := rfl
  rw [hv] at hTK HOV
  rw [← ht0] at HOV HPP
  have HTP : Hid (t0.pos = tp) := Lib.hid (by rw [ht0])
  clear ht hv h hS hB hpd ht0
  go_enter Tryd.func62, Tryd.ntmps62
  go_wp2_with fail
  rw [← hW0]
  clear hW0
  refine hTK.out.mono ?_
  rintro e w1 ⟨rfl, hb1⟩
  have hS1 := HS.out.below hb1
  have hb2 := boxed w1 (.cells #[.int .i64 tk, .string tx, .int .i64 tp] 49)
  have hn2 := heap_new w1 (.cells #[.int .i64 tk, .string tx, .int .i64 tp] 49)
  have HS2 := Lib.hid (hS1.below hb2)
  have hl1 := heap_lt hS1.b1
  have hRw := HS.out.hR
  have hs2 : (w1.alloc (.cells #[.int .i64 tk, .string tx, .int .i64 tp] 49)).heap.size = w1.heap.size + 1 := World.size_alloc ..
  obtain ⟨W2, hW2⟩ : ∃ W2, W2 = w1.alloc (.cells #[.int .i64 tk, .string tx, .int .i64 tp] 49) := ⟨_, rfl⟩
  rw [← hW2] at hn2 HS2 hs2
  have HN2 := Lib.hid hn2
  have hneT : ¬ w1.heap.size = R := by omega
  clear hb2 hn2 hS1
  go_wp2_with fail
  rw [← hW2]
  clear hW2
  refine (HB.out W2 HS2.out.gb HS2.out.rd).mono ?_
  rintro e w3 hpt
  cases pr with
  | err er po =>
    obtain ⟨hg3, rfl, he0, a', hrd3⟩ := hpt
    have HE0 := Lib.hid he0
    have hne0 : (er != 0) = true := by simpa using he0
    have HS3 := Lib.hid (HS2.out.step hrd3 hg3)
    clear hrd3 hg3 he0
    obtain ⟨hf1, hb4⟩ := two_at w3 pt0 #[.int .i64 er, .int .i64 po] 35
    have HS4 := Lib.hid (HS3.out.below hb4)
    obtain ⟨W4, hW4⟩ : ∃ W4, W4 = (w3.alloc pt0).alloc (.cells #[.int .i64 er, .int .i64 po] 35) := ⟨_, rfl⟩
    rw [← hW4] at hf1 HS4
    have hl3 := heap_lt HS3.out.b1
    obtain ⟨q0, q1⟩ := row2 hf1
    obtain ⟨x0, x1, x2, x3, x4⟩ := row5 HS4.out.b0
    obtain ⟨y0, y1⟩ := row2 HS4.out.b1
    have f0 := frozen_of HS4.out.b0 0
    have f1 := frozen_of HS4.out.b0 1
    have f2 := frozen_of HS4.out.b0 2
    have f3 := frozen_of HS4.out.b0 3
    have f4 := frozen_of HS4.out.b0 4
    have g0 := frozen_of HS4.out.b1 0
    have g1 := frozen_of HS4.out.b1 1
    have n1 : ¬ w.heap.size = w3.heap.size + 1 := by omega
    have n5 : ¬ w3.heap.size + 1 = w.heap.size := by omega
    have n7 : ¬ w3.heap.size + 1 = w.heap.size + 1 := by omega
    clear hb4 hf1
    go_upto_region 3 with fail
    rw [← hW4]
    clear hW4
    go_wp2_with fail
    go_region
    go_wp2_with fail
    have hF := (HS4.out.put (.int .i64 0) (.int .i64 0) (.string ⟨#[]⟩) (.slice none 0 0) (.int .i64 0) (.int .i64 er) (.int .i64 po)).below (drew_below _)
    change bodyPost _ _ _ _ _ (World.drew (stPF w.heap.size W4 (.int .i64 0) (.int .i64 0) (.string ⟨#[]⟩) (.slice none 0 0) (.int .i64 0) (.int .i64 er) (.int .i64 po)))
    generalize World.drew (stPF w.heap.size W4 (.int .i64 0) (.int .i64 0) (.string ⟨#[]⟩) (.slice none 0 0) (.int .i64 0) (.int .i64 er) (.int .i64 po)) = Wf at hF ⊢
    obtain ⟨r0, r1, r2, r3, r4⟩ := row5 hF.b0
    obtain ⟨s0, s1⟩ := row2 hF.b1
    exact bodyPost_ret (v := .tuple #[.agg #[.int .i64 0, .int .i64 0, .string ⟨#[]⟩, .slice none 0 0, .int .i64 0], fV er po]) (by simp [results, Tryd.results62, go_sem, r0, r1, r2, r3, r4, s0, s1]) rfl ⟨hF.gb, rfl, HE0.out, _, hF.rd⟩
  | ok e d a' =>
    obtain ⟨hg3, K, N, S, A', L', C', rfl, hi3, hrd3⟩ := hpt
    have HI3 := Lib.hid hi3
    have HS3 := Lib.hid (HS2.out.step hrd3 hg3)
    have HN3 := Lib.hid ((hg3.block _ (heap_lt HN2.out) (fun e => hneT (by cases e; rfl))).trans HN2.out)
    have h23 := hg3.size
    clear hrd3 hi3
    obtain ⟨hf1, hb4⟩ := two_at w3 (.cells #[.int .i64 K, .int .i64 N, .string S, .slice A' L' C', .int .i64 (d : Int)] 59) #[.int .i64 0, .int .i64 0] 35
    have hp1 := (Below.heap_alloc (w3.alloc (.cells #[.int .i64 K, .int .i64 N, .string S, .slice A' L' C', .int .i64 (d : Int)] 59)) (.cells #[.int .i64 0, .int .i64 0] 35) _ (by simp)).trans (heap_new w3 (.cells #[.int .i64 K, .int .i64 N, .string S, .slice A' L' C', .int .i64 (d : Int)] 59))
    have HS4 := Lib.hid (HS3.out.below hb4)
    have HB4 := Lib.hid hb4
    have HN4 := Lib.hid ((hb4.block _ (heap_lt HN3.out)).trans HN3.out)
    obtain ⟨W4, hW4⟩ : ∃ W4, W4 = (w3.alloc (.cells #[.int .i64 K, .int .i64 N, .string S, .slice A' L' C', .int .i64 (d : Int)] 59)).alloc (.cells #[.int .i64 0, .int .i64 0] 35) := ⟨_, rfl⟩
    rw [← hW4] at hf1 hp1 HS4 HB4 HN4
    have hl3 := heap_lt HS3.out.b1
    obtain ⟨q0, q1⟩ := row2 hf1
    obtain ⟨p0, p1, p2, p3, p4⟩ := row5 hp1
    obtain ⟨v0, v1, v2⟩ := row3 HN4.out
    have hb5 := boxed W4 (.cells #[.int .i64 K, .int .i64 N, .string S, .slice A' L' C', .int .i64 (d : Int)] 59)
    have hn5 := heap_new W4 (.cells #[.int .i64 K, .int .i64 N, .string S, .slice A' L' C', .int .i64 (d : Int)] 59)
    have HS5 := Lib.hid (HS4.out.below hb5)
    have HB5 := Lib.hid hb5
    clear hb4 hf1 hp1 hb5
    go_upto_region 3 with fail
    rw [← hW4]
    clear hW4
    go_wp2_with fail
    have hps : PksIn (W4.alloc (.cells #[.int .i64 K, .int .i64 N, .string S, .slice A' L' C', .int .i64 (d : Int)] 59)) W4.heap.size 0 [⟨e, K, N, S, A', L', C', d⟩] := by
      intro i p hp
      have hi : i = 0 := by
        have := (List.getElem?_eq_some_iff.1 hp).1
        simp at this; omega
      subst hi
      simp at hp
      subst hp
      obtain ⟨u0, u1, u2, u3, u4⟩ := row5 hn5
      exact ⟨u0, u1, u2, u3, u4⟩
    have hd1 : pdeep [⟨e, K, N, S, A', L', C', d⟩] = d + 1 := by show max 0 (d + 1) = d + 1; omega
    have HD1 := Lib.hid hd1
    have HC := Lib.hid (HOV.out [⟨e, K, N, S, A', L', C', d⟩] W4.heap.size 0 1 (W4.alloc (.cells #[.int .i64 K, .int .i64 N, .string S, .slice A' L' C', .int .i64 (d : Int)] 59)) (by simp) (by simp) (by unfold maxLen; omega) hps (by simp) (fun p hp => by
      simp at hp
      subst hp
      exact HPD.out e d a' rfl))
    have hs5 : (W4.alloc (.cells #[.int .i64 K, .int .i64 N, .string S, .slice A' L' C', .int .i64 (d : Int)] 59)).heap.size = W4.heap.size + 1 := World.size_alloc ..
    obtain ⟨W5, hW5⟩ : ∃ W5, W5 = W4.alloc (.cells #[.int .i64 K, .int .i64 N, .string S, .slice A' L' C', .int .i64 (d : Int)] 59) := ⟨_, rfl⟩
    rw [← hW5] at HS5 HB5 HC hs5 ⊢
    clear hW5 hps hd1 q0 q1 p0 p1 p2 p3 p4 v0 v1 v2 hn5
    refine HC.out.mono ?_
    rintro x w6 ⟨hb6, hov⟩
    rw [HD1.out] at hov
    have HS6 := Lib.hid (HS5.out.below hb6)
    have HB6 := Lib.hid hb6
    obtain ⟨x0, x1, x2, x3, x4⟩ := row5 HS6.out.b0
    obtain ⟨y0, y1⟩ := row2 HS6.out.b1
    have f0 := frozen_of HS6.out.b0 0
    have f1 := frozen_of HS6.out.b0 1
    have f2 := frozen_of HS6.out.b0 2
    have f3 := frozen_of HS6.out.b0 3
    have f4 := frozen_of HS6.out.b0 4
    have g0 := frozen_of HS6.out.b1 0
    have g1 := frozen_of HS6.out.b1 1
    by_cases h20 : 20 < d + 1
    · rw [if_pos h20, HTP.out] at hov
      subst hov
      have HRES : Hid (notP l a (.ok e d a') = .err 5 tp) := Lib.hid (by
        rw [HPP.out]
        show (if 20 < d + 1 then Pr.err 5 t0.pos else _) = _
        rw [if_pos h20, HTP.out])
      clear h20
      go_wp2_with fail
      have hF := HS6.out.put (.int .i64 0) (.int .i64 0) (.string ⟨#[]⟩) (.slice none 0 0) (.int .i64 0) (.int .i64 5) (.int .i64 tp)
      change bodyPost _ _ _ _ _ (stPF w.heap.size w6 (.int .i64 0) (.int .i64 0) (.string ⟨#[]⟩) (.slice none 0 0) (.int .i64 0) (.int .i64 5) (.int .i64 tp))
      generalize stPF w.heap.size w6 (.int .i64 0) (.int .i64 0) (.string ⟨#[]⟩) (.slice none 0 0) (.int .i64 0) (.int .i64 5) (.int .i64 tp) = Wf at hF ⊢
      obtain ⟨r0, r1, r2, r3, r4⟩ := row5 hF.b0
      obtain ⟨s0, s1⟩ := row2 hF.b1
      exact bodyPost_ret (v := .tuple #[.agg #[.int .i64 0, .int .i64 0, .string ⟨#[]⟩, .slice none 0 0, .int .i64 0], fV 5 tp]) (by simp [results, Tryd.results62, go_sem, r0, r1, r2, r3, r4, s0, s1]) rfl ⟨hF.gb, by rw [HRES.out]; exact ⟨rfl, by decide, _, hF.rd⟩⟩
    · rw [if_neg h20] at hov
      obtain ⟨v, A6, c6, rfl, rfl, ho6⟩ := hov
      have HO6 := Lib.hid ho6
      have HRES : Hid (notP l a (.ok e d a') = .ok (.mk 12 0 ⟨#[]⟩ [e]) (d + 1) a') := Lib.hid (by
        rw [HPP.out]
        show (if 20 < d + 1 then _ else Pr.ok (.mk 12 0 ⟨#[]⟩ [e]) (d + 1) a') = _
        rw [if_neg h20])
      clear h20 ho6
      go_wp2_with fail
      have hF := HS6.out.put (.int .i64 12) (.int .i64 0) (.string ⟨#[]⟩) (.slice A6 1 c6) (.int .i64 ((d : Int) + 1)) (.int .i64 0) (.int .i64 0)
      have hk := stPF_keep w.heap.size w6 (.int .i64 12) (.int .i64 0) (.string ⟨#[]⟩) (.slice A6 1 c6) (.int .i64 ((d : Int) + 1)) (.int .i64 0) (.int .i64 0)
      have hsz := (stPF_gb (R := 0) w.heap.size w6 (.int .i64 12) (.int .i64 0) (.string ⟨#[]⟩) (.slice A6 1 c6) (.int .i64 ((d : Int) + 1)) (.int .i64 0) (.int .i64 0)).size
      change bodyPost _ _ _ _ _ (stPF w.heap.size w6 (.int .i64 12) (.int .i64 0) (.string ⟨#[]⟩) (.slice A6 1 c6) (.int .i64 ((d : Int) + 1)) (.int .i64 0) (.int .i64 0))
      generalize stPF w.heap.size w6 (.int .i64 12) (.int .i64 0) (.string ⟨#[]⟩) (.slice A6 1 c6) (.int .i64 ((d : Int) + 1)) (.int .i64 0) (.int .i64 0) = Wf at hF hk hsz ⊢
      obtain ⟨r0, r1, r2, r3, r4⟩ := row5 hF.b0
      obtain ⟨s0, s1⟩ := row2 hF.b1
      refine bodyPost_ret (v := .tuple #[.agg #[.int .i64 12, .int .i64 0, .string ⟨#[]⟩, .slice A6 1 c6, .int .i64 ((d : Int) + 1)], fV 0 0]) (by simp [results, Tryd.results62, go_sem, r0, r1, r2, r3, r4, s0, s1]) rfl ⟨hF.gb, ?_⟩
      rw [HRES.out]
      have hB4 := HB4.out.size
      have hB5 := HB5.out.size
      have hB6 := HB6.out.size
      have hin := ov_inP (w := w) (k := 12) (Q := fun b => w.heap.size + 2 ≤ b ∧ b < w6.heap.size ∧ b ≠ R) HO6.out (fun p hp => by
        simp at hp
        subst hp
        refine HI3.out.imp (fun b hb => ?_) (fun b hb => ?_)
        · have h1 := hb.1
          have h2 := hb.2
          exact ⟨by omega, by omega, by omega⟩
        · have h1 := hb.1
          have h2 := hb.2
          rw [HB6.out.block b (by omega), HB5.out.block b (by omega), HB4.out.block b h2]) (fun g h1 h2 => ⟨by omega, h2, by omega⟩)
      refine ⟨12, 0, ⟨#[]⟩, A6, 1, c6, by rw [show ((d + 1 : Nat) : Int) = (d : Int) + 1 by omega], hin.imp (fun b hb => ⟨by have := hb.1; omega, by have := hb.2.1; omega⟩) (fun b hb => hk b (by have := hb.1; omega) (by have := hb.1; omega)), hF.rd⟩
end Go.Proofs.YtdehpgdffafebaaDoor
namespace Go.Proofs.YtdehpgdffafebaaDoor
open Go.RowKit
set_option linter.unusedVariables false

theorem of_ok {l : List UInt8} {w w' : World} {e : Ending} {r : List Tk.Tok} (h : OfPost l w e w') (hr : Tk.ofL l = .ok r) : ∃ (g c : Nat), e = .returned (.tuple #[.slice (some ⟨g, 0, none⟩) r.length c, .agg #[.int .i64 0, .int .i64 0]]) ∧
    w.heap.size ≤ g ∧ g < w'.heap.size ∧ r.length ≤ c ∧ c ≤ maxLen ∧ (∀ (j : Nat) (u : Value), (tcells r)[j]? = some u → w'.cell? ⟨g, j, none⟩ = some u) ∧ Below w.heap.size w w' := by
  obtain ⟨hb, h⟩ := h
  rw [hr] at h
  obtain ⟨v, rfl, ho⟩ := h
  have hne : r ≠ [] := Tk.toks_ne (Tk.ofL_toks hr).2
  rcases ho.2 with ⟨_, h0⟩ | ⟨g, cap, cur, rfl, hg, hh, hc, hcm, _, _⟩
  · exact absurd (List.eq_nil_of_length_eq_zero h0) hne
  · refine ⟨g, cap, rfl, hg, heap_lt hh, hc, hcm, fun j u hu => ?_, hb⟩
    have := ho.cells (g := g) rfl j u hu
    have ha : (⟨g, 0, none⟩ : Addr).add j = ⟨g, j, none⟩ := by unfold Addr.add; split <;> simp_all
    rw [← ha]; exact this
theorem of_err {l : List UInt8} {w w' : World} {e : Ending} {x a : Nat} (h : OfPost l w e w') (hr : Tk.ofL l = .err x a) : e = .returned (.tuple #[.slice none 0 0, .agg #[.int .i64 (x : Int), .int .i64 (a : Int)]]) ∧ Below w.heap.size w w' := by
  obtain ⟨hb, h⟩ := h
  rw [hr] at h
  exact ⟨h, hb⟩

/-- The example's text, and its tokens. -/
def exB : ByteArray := ⟨#[97, 32, 43, 32, 98, 32, 42, 32, 40, 99, 32, 45, 32, 100, 41, 32, 45, 32, 49, 59]⟩
def exL : List Tk.Tok := [⟨1, ⟨#[97]⟩, 0⟩, ⟨4, ⟨#[43]⟩, 2⟩, ⟨1, ⟨#[98]⟩, 4⟩, ⟨4, ⟨#[42]⟩, 6⟩, ⟨4, ⟨#[40]⟩, 8⟩, ⟨1, ⟨#[99]⟩, 9⟩, ⟨4, ⟨#[45]⟩, 11⟩, ⟨1, ⟨#[100]⟩, 13⟩, ⟨4, ⟨#[41]⟩, 14⟩, ⟨4, ⟨#[45]⟩, 16⟩, ⟨2, ⟨#[49]⟩, 18⟩, ⟨4, ⟨#[59]⟩, 19⟩, ⟨0, ⟨#[]⟩, 20⟩]
theorem ex_ok : Tk.ofL exB.data.toList = .ok exL := by kernel_rfl

/-- The tokens of a text lie as the reader reads them. -/
theorem rt_of {W : World} {g : Nat} {r : List Tk.Tok} (h : ∀ (j : Nat) (u : Value), (tcells r)[j]? = some u → W.cell? ⟨g, j, none⟩ = some u) (hg : g < W.heap.size) : RT W W.heap.size (some ⟨g, 0, none⟩) (r.map Gt.ofTok) := by
  intro hl
  refine ⟨g, 0, rfl, hg, fun i hi => ?_⟩
  have key : ∀ (r : List Tk.Tok) (i : Nat) (t : Tk.Tok), r[i]? = some t → (tcells r)[i * 3]? = some (.int .i64 (t.kind : Int)) ∧ (tcells r)[i * 3 + 1]? = some (.string t.text) ∧ (tcells r)[i * 3 + 2]? = some (.int .i64 (t.pos : Int)) := by
    intro r
    induction r with
    | nil => intro i t h; simp at h
    | cons a q ih =>
      intro i t ht
      have hc : tcells (a :: q) = [.int .i64 (a.kind : Int), .string a.text, .int .i64 (a.pos : Int)] ++ tcells q := rfl
      cases i with
      | zero =>
        simp at ht
        subst ht
        rw [hc]
        exact ⟨rfl, rfl, rfl⟩
      | succ i =>
        have h3 := ih i t (by simpa using ht)
        rw [hc, List.getElem?_append_right (by simp; omega), List.getElem?_append_right (by simp; omega), List.getElem?_append_right (by simp; omega)]
        simp only [List.length_cons, List.length_nil]
        rw [show (i + 1) * 3 - (0 + 1 + 1 + 1) = i * 3 by omega, show (i + 1) * 3 + 1 - (0 + 1 + 1 + 1) = i * 3 + 1 by omega, show (i + 1) * 3 + 2 - (0 + 1 + 1 + 1) = i * 3 + 2 by omega]
        exact h3
  have hi' : i < r.length := by simpa using hi
  obtain ⟨h0, h1, h2⟩ := key r i r[i] (List.getElem?_eq_getElem hi')
  rw [Nat.zero_add]
  simp only [List.getElem_map]
  exact ⟨h _ _ h0, h _ _ h1, h _ _ h2⟩
end Go.Proofs.YtdehpgdffafebaaDoor
namespace Go.Proofs.YtdehpgdffafebaaDoor
open Go.RowKit
set_option linter.unusedVariables false

/-- What is put over two Kids, where the sign t stands between them. -/
def joinQ (t : Gt) (k : Int) (e1 : E) (d1 : Nat) : Pr → Pr
  | .ok e d a => if 20 < max (d1 + 1) (d + 1) then .err 5 t.pos else .ok (.mk k 0 ⟨#[]⟩ [e1, e]) (max (d1 + 1) (d + 1)) a
  | .err e p => .err e p
/-- A sign that has to stand at a place, ahead of what is read behind it. -/
def wantP (l : List Gt) (a : Nat) (s : ByteArray) (next : Nat → Pr) : Pr := if (tokN l a).is s = true then next (a + 1) else .err 3 (tokN l a).pos
def thenP (pr : Pr) (next : E → Nat → Nat → Pr) : Pr := match pr with
  | .ok e d a => next e d a
  | .err e p => .err e p
/-- What is read at nil, at same. -/
def nilP (l : List Gt) (a : Nat) : Pr :=
  wantP l (a + 1) ⟨#[40]⟩ fun a1 => thenP (bareP 13 l a1) fun e d a2 => wantP l a2 ⟨#[41]⟩ fun a3 => .ok (.mk 13 0 ⟨#[]⟩ [e]) (d + 1) a3
def sameP (l : List Gt) (a : Nat) : Pr :=
  wantP l (a + 1) ⟨#[40]⟩ fun a1 => thenP (bareP 14 l a1) fun e d a2 => wantP l a2 ⟨#[44]⟩ fun a3 => thenP (bareP 14 l a3) fun e2 d2 a4 => wantP l a4 ⟨#[41]⟩ fun a5 => .ok (.mk 14 0 ⟨#[]⟩ [e, e2]) (max (d + 1) (d2 + 1)) a5
mutual
/-- What is read from a place on that binds at least so tightly, with so many ( and ! around. -/
def boundP (l : List Gt) : Nat → Int → Nat → Nat → Pr
  | 0, _, _, _ => .err 0 0
  | f + 1, b, a, r => if 5 ≤ b then tightP l f a r else loopP l f b r (boundP l f (b + 1) a r)
def tightP (l : List Gt) : Nat → Nat → Nat → Pr
  | 0, _, _ => .err 0 0
  | f + 1, a, r =>
    if (tokN l a).is ⟨#[33]⟩ = true then notP l a (withinP l a r (boundP l f 5 (a + 1) (r + 1)))
    else if (tokN l a).is ⟨#[40]⟩ = true then bracketP l (withinP l a r (boundP l f 1 (a + 1) (r + 1)))
    else if (tokN l a).is ⟨#[110, 105, 108]⟩ = true then nilP l a
    else if (tokN l a).is ⟨#[115, 97, 109, 101]⟩ = true then sameP l a
    else plainP l a
def loopP (l : List Gt) : Nat → Int → Nat → Pr → Pr
  | 0, _, _, _ => .err 0 0
  | f + 1, b, r, .ok e d a => match signAt (tokN l a) b with
    | none => .ok e d a
    | some s => if s.chain = true then loopP l f b r (joinQ (tokN l a) s.kind e d (boundP l f (s.bind + 1) (a + 1) r)) else joinQ (tokN l a) s.kind e d (boundP l f (s.bind + 1) (a + 1) r)
  | _ + 1, _, _, .err e p => .err e p
end
/-- What Parse reads from the first token on. -/
def parseP (l : List Gt) : Pr := boundP l (12 * l.length + 12) 1 0 0

def exE : E := .mk 7 0 ⟨#[]⟩ [.mk 6 0 ⟨#[]⟩ [.mk 2 0 ⟨#[97]⟩ [], .mk 8 0 ⟨#[]⟩ [.mk 2 0 ⟨#[98]⟩ [], .mk 7 0 ⟨#[]⟩ [.mk 2 0 ⟨#[99]⟩ [], .mk 2 0 ⟨#[100]⟩ []]]], .mk 1 1 ⟨#[]⟩ []]
theorem ex_tx : tx exE = exB.data.toList.dropLast := by kernel_rfl
theorem ex_parse : parseP (exL.map Gt.ofTok) = .ok exE 5 11 := by kernel_rfl
end Go.Proofs.YtdehpgdffafebaaDoor
