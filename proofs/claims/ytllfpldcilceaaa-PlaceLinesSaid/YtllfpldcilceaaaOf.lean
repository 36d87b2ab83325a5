/- place.Of gives line and column of each place of a text. Conditions: the text is at most 1000 bytes. -/
import Derived.Test.YtllfpldcilceaaaIter
namespace Go.Proofs.Ytllfpldcilceaaa
open Go.RowKit Go.Shelf
attribute [local go_sem] Oper.semAt_some

set_option maxHeartbeats 1000000 in
theorem spans_in (F : Fence) (n : Nat) (h13 : F.fn 13) (hro : F.round = none) (s : ByteArray) (w : World) :
    CallsIn F n Try.prog 13 #[.string s] w fun e w' => e = .returned (.func (.func 14) #[] #[.pointer (some ⟨w.heap.size, 0, none⟩)]) ∧ w' = w.alloc (.cells #[.string s] 9) := by
  refine callsIn_of_wp Try.func13 rfl h13 ?_ hro
  simp only [Try.ntmps13, List.size_toArray, List.length_cons, List.length_nil, Nat.reduceAdd, Nat.reduceSub, Array.replicate_succ, Array.replicate_zero, List.push_toArray, List.append_toArray, List.nil_append, List.cons_append]
  gi_wp2
  go_ret
  exact ⟨rfl, rfl⟩

/-- The iterator's contract, in the law's own form. -/
theorem iter_stops (F : Fence) (n : Nat) (h14 : F.fn 14) (hro : F.round = none) (hn : 1 ≤ n) (B : Nat) (s : ByteArray) (hs : s.size ≤ 1000) (w : World) (hB : Boxed w B 9 (.string s)) :
    SeqStopsK F n Try.prog 14 #[.pointer (some ⟨B, 0, none⟩)] (encL s.data.toList) (KpB B) (fun xs => xs.map (sp s.data.toList) = Pl.spans s.data.toList)
      (fun pre => ∃ k, k ≤ s.size ∧ pre.map (sp s.data.toList) = Pl.spansTo s.data.toList k ++ [Pl.span s.data.toList k]) (s.size + 1) w := fun l J Jx W hW _ _ hY h0 =>
  iter1_in F n h14 hro hn l B s hs J Jx hY W ((hW.block B hB.lt).trans hB) h0

theorem kpB_t {B : Nat} {X Y Z : World} (h : KpB B X Y) (k : KpB B Y Z) : KpB B X Z := Eq.trans k h
theorem kpB_b {B : Nat} {w : World} (hn : B < w.heap.size) (W : World) (l : Nat) (o o' : Obj) (hl : w.heap.size ≤ l) (_ : W.heap[l]? = some o) (_ : o.isCells = false) (_ : o.isWalk = false) : KpB B W (W.putObj l o') :=
  World.putObj_heap_other (by omega)

/-- What a round of 'Of' knows of its frame. -/
def OfAx (s : ByteArray) (w : World) (x : Ln s.data.toList) (a' : Act) (W : World) : Prop :=
  ∃ Bx u0 u1 u2 u4 u5 u10 u11 u12 u13 u14 u15 u16 u17 u18 u19 u20 u21 u22 u23 u24 u25 u26 u27 u28 u29 u30, w.heap.size + 3 < Bx ∧ W.heap[Bx]? = some (.cells #[.int .i64 (Pl.frm s.data.toList x.1), .int .i64 x.1] 38 (0, 0)) ∧ a' = { tmps := #[u0, u1, u2, .pointer (some ⟨w.heap.size, 0, none⟩), u4, u5, .pointer (some ⟨w.heap.size + 1, 0, none⟩), .pointer (some ⟨w.heap.size + 2, 0, none⟩), .int .i64 (Pl.pos s.data.toList x.1).1, .pointer (some ⟨Bx, 0, none⟩), u10, u11, u12, u13, u14, u15, u16, u17, u18, u19, u20, u21, u22, u23, u24, u25, u26, u27, u28, u29, u30], defers := [] }

theorem ofAx_own (s : ByteArray) (w : World) (B : Nat) (x : Ln s.data.toList) (a' : Act) : OwnFrom B (fun (_ : Unit) W => OfAx s w x a' W) := by
  intro _ X Y row hs hg hr
  obtain ⟨Bx, u0, u1, u2, u4, u5, u10, u11, u12, u13, u14, u15, u16, u17, u18, u19, u20, u21, u22, u23, u24, u25, u26, u27, u28, u29, u30, h1, h2, h3⟩ := hs
  refine ⟨Bx, u0, u1, u2, u4, u5, u10, u11, u12, u13, u14, u15, u16, u17, u18, u19, u20, u21, u22, u23, u24, u25, u26, u27, u28, u29, u30, h1, ?_, h3⟩
  refine (hg.block Bx (Array.getElem?_eq_some_iff.1 h2).1 ?_).trans h2
  intro e
  obtain ⟨_, o, ho, hc⟩ := hr Bx e.symm
  rw [h2] at ho
  cases ho
  cases hc

/-- The world where the loop of 'Of' begins, under a name. -/
theorem of_name {Φ : World → Prop} (w : World) (v : Int) (k : Nat) (s : ByteArray) (hv : v = k)
    (h : ∀ W0 : World, W0.heap.size = w.heap.size + 4 → Below w.heap.size w W0 → Boxed W0 w.heap.size 3 (.int .i64 k) → Boxed W0 (w.heap.size + 1) 3 (.int .i64 0) → Boxed W0 (w.heap.size + 2) 3 (.int .i64 0) → Boxed W0 (w.heap.size + 3) 9 (.string s) → Φ W0) :
    Φ ((((w.alloc (.cells #[.int .i64 v] 3)).alloc (.cells #[.int .i64 0] 3)).alloc (.cells #[.int .i64 0] 3)).alloc (.cells #[.string s] 9)) := by
  subst hv
  have b0 := (((Boxed.new w 3 (.int .i64 k)).alloc (.cells #[.int .i64 0] 3)).alloc (.cells #[.int .i64 0] 3)).alloc (.cells #[.string s] 9)
  have b1 := ((Boxed.new (w.alloc (.cells #[.int .i64 k] 3)) 3 (.int .i64 0)).alloc (.cells #[.int .i64 0] 3)).alloc (.cells #[.string s] 9)
  have b2 := (Boxed.new ((w.alloc (.cells #[.int .i64 k] 3)).alloc (.cells #[.int .i64 0] 3)) 3 (.int .i64 0)).alloc (.cells #[.string s] 9)
  have b3 := Boxed.new (((w.alloc (.cells #[.int .i64 k] 3)).alloc (.cells #[.int .i64 0] 3)).alloc (.cells #[.int .i64 0] 3)) 9 (.string s)
  simp only [World.size_alloc, Nat.add_assoc, Nat.reduceAdd] at b1 b2 b3
  exact h _ (by simp [Nat.add_assoc]) ((((((Below.refl _ w).alloc (Nat.le_refl _) _).alloc (by simp) _).alloc (by simp; omega) _)).alloc (by simp; omega) _) b0 b1 b2 b3

/-- What stands between two rounds of 'Of'. -/
def OfI (s : ByteArray) (k : Nat) (w : World) (pre : List (Ln s.data.toList)) (W : World) : Prop :=
  ((Boxed W (w.heap.size + 1) 3 (.int .i64 (Pl.last k (pre.map (sp s.data.toList))).1) ∧ Boxed W (w.heap.size + 2) 3 (.int .i64 (Pl.last k (pre.map (sp s.data.toList))).2)) ∧ (Boxed W w.heap.size 3 (.int .i64 k) ∧ Boxed W (w.heap.size + 1 + 1 + 1) 9 (.string s))) ∧ (Below w.heap.size w W ∧ ∀ x ∈ pre.map (sp s.data.toList), x.2.1 ≤ k)

theorem of_go (s : ByteArray) (k : Nat) (w : World) (B : Nat) (pre : List (Ln s.data.toList)) (x : Ln s.data.toList) (W : World) (h : OfI s k w pre W) (hc : ¬ k < Pl.frm s.data.toList x.1) :
    (KeepsFrom B W (((W.setCell ⟨w.heap.size + 1, 0, none⟩ (.int .i64 (Pl.pos s.data.toList x.1).1)).setCell ⟨w.heap.size + 2, 0, none⟩ (.int .i64 ((k : Int) - Pl.frm s.data.toList x.1 + 1))).drew) ∧
     KpB (w.heap.size + 1 + 1 + 1) W (((W.setCell ⟨w.heap.size + 1, 0, none⟩ (.int .i64 (Pl.pos s.data.toList x.1).1)).setCell ⟨w.heap.size + 2, 0, none⟩ (.int .i64 ((k : Int) - Pl.frm s.data.toList x.1 + 1))).drew) ∧
     OfI s k w (pre ++ [x]) (((W.setCell ⟨w.heap.size + 1, 0, none⟩ (.int .i64 (Pl.pos s.data.toList x.1).1)).setCell ⟨w.heap.size + 2, 0, none⟩ (.int .i64 ((k : Int) - Pl.frm s.data.toList x.1 + 1))).drew)) ∧
    (KeepsFrom B W (((W.setCell ⟨w.heap.size + 2, 0, none⟩ (.int .i64 ((k : Int) - Pl.frm s.data.toList x.1 + 1))).setCell ⟨w.heap.size + 1, 0, none⟩ (.int .i64 (Pl.pos s.data.toList x.1).1)).drew) ∧
     KpB (w.heap.size + 1 + 1 + 1) W (((W.setCell ⟨w.heap.size + 2, 0, none⟩ (.int .i64 ((k : Int) - Pl.frm s.data.toList x.1 + 1))).setCell ⟨w.heap.size + 1, 0, none⟩ (.int .i64 (Pl.pos s.data.toList x.1).1)).drew) ∧
     OfI s k w (pre ++ [x]) (((W.setCell ⟨w.heap.size + 2, 0, none⟩ (.int .i64 ((k : Int) - Pl.frm s.data.toList x.1 + 1))).setCell ⟨w.heap.size + 1, 0, none⟩ (.int .i64 (Pl.pos s.data.toList x.1).1)).drew)) := by
  obtain ⟨⟨⟨bL, bC⟩, bA, bT⟩, hB, hp⟩ := h
  have e1 : Pl.last k ((pre ++ [x]).map (sp s.data.toList)) = ((Pl.pos s.data.toList x.1).1, k - Pl.frm s.data.toList x.1 + 1) := by rw [List.map_append]; exact Pl.last_snoc _ _ _
  have e2 : (k : Int) - Pl.frm s.data.toList x.1 + 1 = ((k - Pl.frm s.data.toList x.1 + 1 : Nat) : Int) := by omega
  have hp' : ∀ y ∈ (pre ++ [x]).map (sp s.data.toList), y.2.1 ≤ k := by
    rw [List.map_append]
    intro y hy
    rcases List.mem_append.1 hy with h | h
    · exact hp y h
    · simp [sp, Pl.span] at h; subst h; simp; omega
  rw [e2]
  unfold OfI
  rw [e1]
  refine ⟨⟨(((KeepsOthers.setCell _ _ _).trans (KeepsOthers.setCell _ _ _)).trans (KeepsOthers.drew _)).from _, ?_, ⟨⟨⟨?_, ?_⟩, ?_, ?_⟩, ?_, hp'⟩⟩, ⟨(((KeepsOthers.setCell _ _ _).trans (KeepsOthers.setCell _ _ _)).trans (KeepsOthers.drew _)).from _, ?_, ⟨⟨⟨?_, ?_⟩, ?_, ?_⟩, ?_, hp'⟩⟩⟩
  · exact (Below.heap_setCell _ _ _ _ (by simp <;> omega)).trans (Below.heap_setCell _ _ _ _ (by simp <;> omega))
  · exact (bL.set _).other (by omega) _
  · exact (bC.other (by omega) _).set _
  · exact (bA.other (by omega) _).other (by omega) _
  · exact (bT.other (by omega) _).other (by omega) _
  · exact ((hB.setCell (p := ⟨w.heap.size + 1, 0, none⟩) (by simp) _).setCell (p := ⟨w.heap.size + 2, 0, none⟩) (by simp) _).drew
  · exact (Below.heap_setCell _ _ _ _ (by simp <;> omega)).trans (Below.heap_setCell _ _ _ _ (by simp <;> omega))
  · exact (bL.other (by omega) _).set _
  · exact (bC.set _).other (by omega) _
  · exact (bA.other (by omega) _).other (by omega) _
  · exact (bT.other (by omega) _).other (by omega) _
  · exact ((hB.setCell (p := ⟨w.heap.size + 2, 0, none⟩) (by simp) _).setCell (p := ⟨w.heap.size + 1, 0, none⟩) (by simp) _).drew

theorem below_drewN {B : Nat} {w W : World} (h : Below B w W) (n : Nat) : Below B w (W.drewN n) := ⟨h.os, h.tape, h.output, h.size, h.block⟩

theorem ofI_own (s : ByteArray) (k : Nat) (w : World) (B : Nat) (hB : w.heap.size ≤ B) : OwnFrom B (OfI s k w) :=
  OwnFrom.and (OwnFrom.and (OwnFrom.and (Own.from (boxed_own _ _ _) _) (Own.from (boxed_own _ _ _) _)) (OwnFrom.and (Own.from (boxed_own _ _ _) _) (Own.from (boxed_own _ _ _) _))) (OwnFrom.and (ownFrom_below (Nat.le_refl _) hB) (ownFrom_pure _ _))

/-- How the loop of 'Of' is left. -/
def OfX (s : ByteArray) (k : Nat) (w : World) (c : Code) (pre' : List (Ln s.data.toList)) (W : World) : Prop :=
  ∃ pre x, pre' = pre ++ [x] ∧ OfI s k w pre W ∧ k < Pl.frm s.data.toList x.1 ∧ c = .exit 0

theorem ofX_own (s : ByteArray) (k : Nat) (w : World) (B : Nat) (hB : w.heap.size ≤ B) (c : Code) : OwnFrom B (OfX s k w c) := by
  rintro pre' X Y row ⟨pre, x, e, h, h1, h2⟩ hg hr
  exact ⟨pre, x, e, ofI_own s k w B hB pre X Y row h hg hr, h1, h2⟩

theorem ofX_pos (s : ByteArray) (k : Nat) (w : World) (c : Code) (pre' : List (Ln s.data.toList)) (W : World) (h : OfX s k w c pre' W)
    (hs : ∃ j, j ≤ s.size ∧ pre'.map (sp s.data.toList) = Pl.spansTo s.data.toList j ++ [Pl.span s.data.toList j]) :
    c = .exit 0 ∧ Boxed W (w.heap.size + 1) 3 (.int .i64 (Pl.pos s.data.toList k).1) ∧ Boxed W (w.heap.size + 2) 3 (.int .i64 (Pl.pos s.data.toList k).2) ∧ Below w.heap.size w W := by
  obtain ⟨pre, x, rfl, ⟨⟨⟨bL, bC⟩, _⟩, hB, hp⟩, hx, rfl⟩ := h
  obtain ⟨j, hj, e⟩ := hs
  rw [List.map_append] at e
  obtain ⟨e1, e2⟩ := List.append_inj' e rfl
  simp only [List.map_cons, List.map_nil, List.cons.injEq, and_true, sp, Pl.span, Prod.mk.injEq] at e2
  rw [e1] at bL bC hp
  have := Pl.last_stop s.data.toList k j hj (by rw [← e2.2.1]; exact hx) hp
  rw [this] at bL bC
  exact ⟨rfl, bL, bC, hB⟩

theorem ofI_done (s : ByteArray) (k : Nat) (hk : k ≤ s.size) (w : World) (xs : List (Ln s.data.toList)) (W : World) (h : OfI s k w xs W) (hs : xs.map (sp s.data.toList) = Pl.spans s.data.toList) :
    Boxed W (w.heap.size + 1) 3 (.int .i64 (Pl.pos s.data.toList k).1) ∧ Boxed W (w.heap.size + 2) 3 (.int .i64 (Pl.pos s.data.toList k).2) ∧ Below w.heap.size w W := by
  obtain ⟨⟨⟨bL, bC⟩, _⟩, hB, hp⟩ := h
  rw [hs] at bL bC hp
  have := Pl.last_done s.data.toList k hk (hp (Pl.span s.data.toList s.data.toList.length) (by simp [Pl.spans]))
  rw [this] at bL bC
  exact ⟨bL, bC, hB⟩

set_option maxRecDepth 100000 in
set_option maxHeartbeats 4000000 in
theorem of_in (F : Fence) (n : Nat) (h7 : F.fn 7) (h13 : F.fn 13) (h14 : F.fn 14) (hro : F.round = none) (hn : 3 ≤ n) (s : ByteArray) (hs : s.size ≤ 1000) (a : Int) (w : World) :
    CallsIn F n Try.prog 7 #[.string s, .int .i64 a] w fun e w' =>
      e = .returned (.tuple #[.int .i64 (Pl.pos s.data.toList (min s.size a.toNat)).1, .int .i64 (Pl.pos s.data.toList (min s.size a.toNat)).2]) ∧ Below w.heap.size w w' := by
  have h1 : 1 ≤ n := by omega
  obtain ⟨k, hk⟩ : ∃ k : Nat, k = min s.size a.toNat := ⟨_, rfl⟩
  rw [← hk]
  have hks : k ≤ s.size := by omega
  obtain ⟨m1, hm1⟩ : ∃ m1 : Int, (if a < 0 then 0 else a) = m1 := ⟨_, rfl⟩
  have hm2 : (if (s.size : Int) < m1 then (s.size : Int) else m1) = k := by rw [← hm1]; split <;> split at * <;> omega
  clear hk
  refine callsIn_of_wp_marks Try.func7 rfl h7 ?_ hro
  simp only [Try.ntmps7, List.size_toArray, List.length_cons, List.length_nil, Nat.reduceAdd, Nat.reduceSub, Array.replicate_succ, Array.replicate_zero, List.push_toArray, List.append_toArray, List.nil_append, List.cons_append]
  gi_wp2_with (gi_at_call 13; refine (spans_in F (n - 1) h13 hro _ _).mono ?_; rintro e w' ⟨rfl, rfl⟩)
  have HM1 := Lib.hid hm1
  have HM2 := Lib.hid hm2
  clear hm1 hm2
  refine of_name w _ k s rfl ?_
  intro W0 hsz hB0 bA bL bC bT
  have HSZ := Lib.hid hsz
  clear hsz
  refine wpIn_rangeFunc_ownH hro h1 (gf := 14) (lb := #[.pointer (some ⟨w.heap.size + 1 + 1 + 1, 0, none⟩)]) rfl h14 (enters_of Try.func14 (by kernel_rfl) rfl)
    (iter_stops F (n - 1) h14 hro (by omega) (w.heap.size + 1 + 1 + 1) s hs W0 bT) kpB_t (kpB_b (by have := HSZ.out; omega)) (Below.refl _ _) (fun _ => rfl)
    (OfI s k w)
    (OfX s k w)
    ?hI ?hIx ?h0 (OfAx s w) (ofAx_own s w _) ?assign ?body ?done ?stop
  case hI => exact ofI_own s k w _ (by have := HSZ.out; omega)
  case hIx => exact ofX_own s k w _ (by have := HSZ.out; omega)
  case h0 => exact ⟨⟨⟨bL, bC⟩, bA, bT⟩, hB0, by simp⟩
  case assign =>
    rintro l pre x W K ⟨⟨⟨bL1, bC1⟩, bA1, bT1⟩, hB1, hp⟩ hK
    have HP := Lib.hid hp
    clear hp
    gi_wp2
    refine hK _ _ ((KeepsOthers.alloc _ _).from _) (Below.heap_alloc W _ _ bT1.lt) ⟨⟨⟨bL1.alloc _, bC1.alloc _⟩, bA1.alloc _, bT1.alloc _⟩, hB1.alloc hB1.size _, HP.out⟩ ?_
    exact ⟨W.heap.size, _, _, _, _, _, _, _, _, _, _, _, _, _, _, _, _, _, _, _, _, _, _, _, _, _, _, bT1.lt, World.alloc_heap_new W _, rfl⟩
  case body =>
    rintro l pre x a' W hl hr ⟨⟨⟨bL1, bC1⟩, bA1, bT1⟩, hB1, hp⟩ ⟨Bx, u0, u1, u2, u4, u5, u10, u11, u12, u13, u14, u15, u16, u17, u18, u19, u20, u21, u22, u23, u24, u25, u26, u27, u28, u29, u30, hBx, bX, rfl⟩ hlt
    have HP := Lib.hid hp
    have hmx : Try.prog.follows .mixedOrders = true := by kernel_rfl
    have cA := bA1.cell
    have cL := bL1.cell
    have fL := bL1.frozen
    have cC := bC1.cell
    have fC := bC1.frozen
    have cX : W.cell? ⟨Bx, 0, none⟩ = some (.int .i64 (Pl.frm s.data.toList x.1)) := by simp [World.cell?, bX]
    have HX := Lib.hid bX
    clear hp bX
    by_cases hc : k < Pl.frm s.data.toList x.1
    · gi_wp2
      exact ⟨KeepsFrom.refl _ _, pre, x, rfl, ⟨⟨⟨bL1, bC1⟩, bA1, bT1⟩, hB1, HP.out⟩, hc, rfl⟩
    · have HG := Lib.hid (of_go s k w W0.heap.size pre x W ⟨⟨⟨bL1, bC1⟩, bA1, bT1⟩, hB1, HP.out⟩ hc)
      have hf := Pl.frm_le s.data.toList x.1 x.2.1
      have hx2 : x.1 ≤ s.size := x.2.1
      gi_wp2
      gi_region_o
      all_goals gi_wp2
      all_goals (try go_bits)
      all_goals first | exact HG.out.1 | exact HG.out.2
  case done =>
    rintro D ys W hD hS hI hK
    obtain ⟨bL1, bC1, hB1⟩ := ofI_done s k hks w ys W hI hS
    have cL := bL1.cell
    have cC := bC1.cell
    gi_wp2
    refine wpIn_region_quiet_lit hro (by kernel_rfl) (by kernel_rfl) ?_
    repeat (gi_big_quiet_step (fail))
    refine wpQuietIn_nil ?_
    rintro _ ⟨nq, rfl⟩
    gi_wp2
    have hK' : (W.drewN nq).heap[D]? = some (.deferred (some [])) := hK
    refine ⟨by simp, .inl ⟨_, _, rfl, run_takeDeferred hK', ?_⟩⟩
    refine ⟨.tuple #[.int .i64 (Pl.pos s.data.toList k).1, .int .i64 (Pl.pos s.data.toList k).2], ?_, rfl, (below_drewN hB1 nq).trans (belowK_b (w := w) (Nat.le_refl _) (W.drewN nq) D _ _ (by have := HSZ.out; omega) hK' rfl rfl)⟩
    simp [results, Try.f7, go_sem]
  case stop =>
    rintro D c pre W hD hS hI hK
    obtain ⟨rfl, bL1, bC1, hB1⟩ := ofX_pos s k w c pre W hI hS
    have cL := bL1.cell
    have cC := bC1.cell
    gi_wp2
    refine wpIn_region_quiet_lit hro (by kernel_rfl) (by kernel_rfl) ?_
    repeat (gi_big_quiet_step (fail))
    refine wpQuietIn_nil ?_
    rintro _ ⟨nq, rfl⟩
    gi_wp2
    have hK' : (W.drewN nq).heap[D]? = some (.deferred (some [])) := hK
    refine ⟨by simp, .inl ⟨_, _, rfl, run_takeDeferred hK', ?_⟩⟩
    refine ⟨.tuple #[.int .i64 (Pl.pos s.data.toList k).1, .int .i64 (Pl.pos s.data.toList k).2], ?_, rfl, (below_drewN hB1 nq).trans (belowK_b (w := w) (Nat.le_refl _) (W.drewN nq) D _ _ (by have := HSZ.out; omega) hK' rfl rfl)⟩
    simp [results, Try.f7, go_sem]

theorem of_any (s : ByteArray) (hs : s.size ≤ 1000) (a : Int) (w : World) :
    Calls Try.prog 7 #[.string s, .int .i64 a] w fun e w' =>
      e = .returned (.tuple #[.int .i64 (Pl.pos s.data.toList (min s.size a.toNat)).1, .int .i64 (Pl.pos s.data.toList (min s.size a.toNat)).2]) ∧ Below w.heap.size w w' :=
  callsIn_wide.1 (of_in Fence.wide 3 trivial trivial trivial rfl (by omega) s hs a w)
end Go.Proofs.Ytllfpldcilceaaa
