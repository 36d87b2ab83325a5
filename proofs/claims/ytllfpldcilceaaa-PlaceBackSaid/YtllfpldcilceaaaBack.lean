/- place.Back tells which byte stands at a place, place.Lines how many lines there are, place.Line the n-th one. Conditions: the text is at most 1000 bytes. -/
import Derived.Test.YtllfpldcilceaaaOf
namespace Go.Proofs.Ytllfpldcilceaaa
open Go.RowKit Go.Shelf
attribute [local go_sem] Oper.semAt_some

/-- What a round of 'Back' knows of its frame. -/
def BkAx (s : ByteArray) (w : World) (x : Ln s.data.toList) (a' : Act) (W : World) : Prop :=
  ∃ Bx u0 u1 u2 u3 u10 u11 u12 u13 u14 u15 u16 u17 u18 u19 u20 u21 u22 u23 u24 u25 u26 u27 u28 u29 u30 u31 u32 u33, w.heap.size + 4 < Bx ∧ W.heap[Bx]? = some (.cells #[.int .i64 (Pl.frm s.data.toList x.1), .int .i64 x.1] 38 (0, 0)) ∧ a' = { tmps := #[u0, u1, u2, u3, .pointer (some ⟨w.heap.size, 0, none⟩), .pointer (some ⟨w.heap.size + 1, 0, none⟩), .pointer (some ⟨w.heap.size + 2, 0, none⟩), .pointer (some ⟨w.heap.size + 3, 0, none⟩), .int .i64 (Pl.pos s.data.toList x.1).1, .pointer (some ⟨Bx, 0, none⟩), u10, u11, u12, u13, u14, u15, u16, u17, u18, u19, u20, u21, u22, u23, u24, u25, u26, u27, u28, u29, u30, u31, u32, u33], defers := [] }

theorem bkAx_own (s : ByteArray) (w : World) (B : Nat) (x : Ln s.data.toList) (a' : Act) : OwnFrom B (fun (_ : Unit) W => BkAx s w x a' W) := by
  intro _ X Y row hs hg hr
  obtain ⟨Bx, u0, u1, u2, u3, u10, u11, u12, u13, u14, u15, u16, u17, u18, u19, u20, u21, u22, u23, u24, u25, u26, u27, u28, u29, u30, u31, u32, u33, h1, h2, h3⟩ := hs
  refine ⟨Bx, u0, u1, u2, u3, u10, u11, u12, u13, u14, u15, u16, u17, u18, u19, u20, u21, u22, u23, u24, u25, u26, u27, u28, u29, u30, u31, u32, u33, h1, ?_, h3⟩
  refine (hg.block Bx (Array.getElem?_eq_some_iff.1 h2).1 ?_).trans h2
  intro e
  obtain ⟨_, o, ho, hc⟩ := hr Bx e.symm
  rw [h2] at ho
  cases ho
  cases hc

/-- What stands between two rounds of 'Back'. -/
def BkI (s : ByteArray) (l c : Int) (w : World) (pre : List (Ln s.data.toList)) (W : World) : Prop :=
  ((Boxed W w.heap.size 3 (.int .i64 l) ∧ Boxed W (w.heap.size + 1) 3 (.int .i64 c)) ∧ (Boxed W (w.heap.size + 2) 3 (.int .i64 0) ∧ Boxed W (w.heap.size + 3) 4 (.bool false)) ∧ Boxed W (w.heap.size + 1 + 1 + 1 + 1) 9 (.string s)) ∧ (Below w.heap.size w W ∧ ∀ x ∈ pre.map (sp s.data.toList), (x.1 : Int) ≠ l)
theorem bkI_own (s : ByteArray) (l c : Int) (w : World) (B : Nat) (hB : w.heap.size ≤ B) : OwnFrom B (BkI s l c w) :=
  OwnFrom.and (OwnFrom.and (OwnFrom.and (Own.from (boxed_own _ _ _) _) (Own.from (boxed_own _ _ _) _)) (OwnFrom.and (OwnFrom.and (Own.from (boxed_own _ _ _) _) (Own.from (boxed_own _ _ _) _)) (Own.from (boxed_own _ _ _) _))) (OwnFrom.and (ownFrom_below (Nat.le_refl _) hB) (ownFrom_pure _ _))
/-- How the loop of 'Back' is left. -/
def BkX (s : ByteArray) (l c : Int) (w : World) (j : Code) (_ : List (Ln s.data.toList)) (W : World) : Prop :=
  ((Boxed W (w.heap.size + 2) 3 (.int .i64 ((Pl.back s.data.toList l c).getD 0 : Nat)) ∧ Boxed W (w.heap.size + 3) 4 (.bool (Pl.back s.data.toList l c).isSome)) ∧ Below w.heap.size w W) ∧ j = .ret
theorem bkX_own (s : ByteArray) (l c : Int) (w : World) (B : Nat) (hB : w.heap.size ≤ B) (j : Code) : OwnFrom B (BkX s l c w j) :=
  OwnFrom.and (OwnFrom.and (OwnFrom.and (Own.from (boxed_own _ _ _) _) (Own.from (boxed_own _ _ _) _)) (ownFrom_below (Nat.le_refl _) hB)) (ownFrom_pure _ _)

/-- The world where the loop of 'Back' begins, under a name. -/
theorem bk_name {Φ : World → Prop} (w : World) (l c : Int) (s : ByteArray)
    (h : ∀ W0 : World, W0.heap.size = w.heap.size + 5 → BkI s l c w [] W0 → Φ W0) :
    Φ (((((w.alloc (.cells #[.int .i64 l] 3)).alloc (.cells #[.int .i64 c] 3)).alloc (.cells #[.int .i64 0] 3)).alloc (.cells #[.bool false] 4)).alloc (.cells #[.string s] 9)) := by
  have b0 := ((((Boxed.new w 3 (.int .i64 l)).alloc (.cells #[.int .i64 c] 3)).alloc (.cells #[.int .i64 0] 3)).alloc (.cells #[.bool false] 4)).alloc (.cells #[.string s] 9)
  have b1 := (((Boxed.new (w.alloc (.cells #[.int .i64 l] 3)) 3 (.int .i64 c)).alloc (.cells #[.int .i64 0] 3)).alloc (.cells #[.bool false] 4)).alloc (.cells #[.string s] 9)
  have b2 := ((Boxed.new ((w.alloc (.cells #[.int .i64 l] 3)).alloc (.cells #[.int .i64 c] 3)) 3 (.int .i64 0)).alloc (.cells #[.bool false] 4)).alloc (.cells #[.string s] 9)
  have b3 := (Boxed.new (((w.alloc (.cells #[.int .i64 l] 3)).alloc (.cells #[.int .i64 c] 3)).alloc (.cells #[.int .i64 0] 3)) 4 (.bool false)).alloc (.cells #[.string s] 9)
  have b4 := Boxed.new ((((w.alloc (.cells #[.int .i64 l] 3)).alloc (.cells #[.int .i64 c] 3)).alloc (.cells #[.int .i64 0] 3)).alloc (.cells #[.bool false] 4)) 9 (.string s)
  simp only [World.size_alloc, Nat.add_assoc, Nat.reduceAdd] at b1 b2 b3 b4
  exact h _ (by simp [Nat.add_assoc]) ⟨⟨⟨b0, b1⟩, ⟨b2, b3⟩, b4⟩, (((((((Below.refl _ w).alloc (Nat.le_refl _) _).alloc (by simp) _).alloc (by simp; omega) _)).alloc (by simp; omega) _).alloc (by simp; omega) _), by simp⟩

theorem bk_ret (s : ByteArray) (l c : Int) (w : World) (B : Nat) (pre pre' : List (Ln s.data.toList)) (W : World) (v : Int) (b : Bool) (h : BkI s l c w pre W) (ev : v = ((Pl.back s.data.toList l c).getD 0 : Nat)) (eb : b = (Pl.back s.data.toList l c).isSome) :
    KeepsFrom B W ((W.setCell ⟨w.heap.size + 2, 0, none⟩ (.int .i64 v)).setCell ⟨w.heap.size + 3, 0, none⟩ (.bool b)) ∧ BkX s l c w .ret pre' ((W.setCell ⟨w.heap.size + 2, 0, none⟩ (.int .i64 v)).setCell ⟨w.heap.size + 3, 0, none⟩ (.bool b)) := by
  obtain ⟨⟨_, ⟨b2, b3⟩, _⟩, hB, _⟩ := h
  subst ev
  subst eb
  exact ⟨((KeepsOthers.setCell _ _ _).trans (KeepsOthers.setCell _ _ _)).from _, ⟨⟨(b2.set _).other (by omega) _, (b3.other (by omega) _).set _⟩, (hB.setCell (p := ⟨w.heap.size + 2, 0, none⟩) (by simp) _).setCell (p := ⟨w.heap.size + 3, 0, none⟩) (by simp) _⟩, rfl⟩

set_option maxRecDepth 100000 in
set_option maxHeartbeats 4000000 in
theorem back_in (F : Fence) (n : Nat) (h9 : F.fn 9) (h13 : F.fn 13) (h14 : F.fn 14) (hro : F.round = none) (hn : 3 ≤ n) (s : ByteArray) (hs : s.size ≤ 1000) (l c : Int) (w : World) :
    CallsIn F n Try.prog 9 #[.string s, .int .i64 l, .int .i64 c] w fun e w' => e = .returned (backV s.data.toList l c) ∧ Below w.heap.size w w' := by
  have h1 : 1 ≤ n := by omega
  refine callsIn_of_wp_marks Try.func9 rfl h9 ?_ hro
  simp only [Try.ntmps9, List.size_toArray, List.length_cons, List.length_nil, Nat.reduceAdd, Nat.reduceSub, Array.replicate_succ, Array.replicate_zero, List.push_toArray, List.append_toArray, List.nil_append, List.cons_append]
  gi_wp2_with (gi_at_call 13; refine (spans_in F (n - 1) h13 hro _ _).mono ?_; rintro e w' ⟨rfl, rfl⟩)
  refine bk_name w l c s ?_
  intro W0 hsz hI0
  have HSZ := Lib.hid hsz
  clear hsz
  refine wpIn_rangeFunc_ownH hro h1 (gf := 14) (lb := #[.pointer (some ⟨w.heap.size + 1 + 1 + 1 + 1, 0, none⟩)]) rfl h14 (enters_of Try.func14 (by kernel_rfl) rfl)
    (iter_stops F (n - 1) h14 hro (by omega) (w.heap.size + 1 + 1 + 1 + 1) s hs W0 hI0.1.2.2) kpB_t (kpB_b (by have := HSZ.out; omega)) (Below.refl _ _) (fun _ => rfl)
    (BkI s l c w) (BkX s l c w) ?hI ?hIx hI0 (BkAx s w) (bkAx_own s w _) ?assign ?body ?done ?stop
  case hI => exact bkI_own s l c w _ (by have := HSZ.out; omega)
  case hIx => exact bkX_own s l c w _ (by have := HSZ.out; omega)
  case assign =>
    rintro lo pre x W K ⟨⟨⟨b0, b1⟩, ⟨b2, b3⟩, b4⟩, hB1, hp⟩ hK
    have HP := Lib.hid hp
    clear hp
    gi_wp2
    refine hK _ _ ((KeepsOthers.alloc _ _).from _) (Below.heap_alloc W _ _ b4.lt) ⟨⟨⟨b0.alloc _, b1.alloc _⟩, ⟨b2.alloc _, b3.alloc _⟩, b4.alloc _⟩, hB1.alloc hB1.size _, HP.out⟩ ?_
    exact ⟨W.heap.size, _, _, _, _, _, _, _, _, _, _, _, _, _, _, _, _, _, _, _, _, _, _, _, _, _, _, _, _, b4.lt, World.alloc_heap_new W _, rfl⟩
  case body =>
    rintro lo pre x a' W hl hr ⟨⟨⟨b0, b1⟩, ⟨b2, b3⟩, b4⟩, hB1, hp⟩ ⟨Bx, u0, u1, u2, u3, u10, u11, u12, u13, u14, u15, u16, u17, u18, u19, u20, u21, u22, u23, u24, u25, u26, u27, u28, u29, u30, u31, u32, u33, hBx, bX, rfl⟩ hlt
    have HP := Lib.hid hp
    have c0 := b0.cell
    have c1 := b1.cell
    have c2 := b2.cell
    have f2 := b2.frozen
    have c3 := b3.cell
    have f3 := b3.frozen
    have cX0 : W.cell? ⟨Bx, 0, none⟩ = some (.int .i64 (Pl.frm s.data.toList x.1)) := by simp [World.cell?, bX]
    have cX1 : W.cell? ⟨Bx, 1, none⟩ = some (.int .i64 x.1) := by simp [World.cell?, bX]
    have HX := Lib.hid bX
    clear hp bX
    have hf := Pl.frm_le s.data.toList x.1 x.2.1
    have hx2 : x.1 ≤ s.size := x.2.1
    by_cases he : ((Pl.pos s.data.toList x.1).1 : Int) = l
    · have hne : (((Pl.pos s.data.toList x.1).1 : Int) != l) = false := by simp [he]
      have HE := Lib.hid he
      clear he
      by_cases hc1 : c < 1
      · have HO := Lib.hid (Pl.back_out s.data.toList x.1 x.2.1 x.2.2 c (.inl hc1))
        gi_wp2
        exact bk_ret s l c w _ pre _ W 0 false ⟨⟨⟨b0, b1⟩, ⟨b2, b3⟩, b4⟩, hB1, HP.out⟩ (by rw [← HE.out, HO.out]; rfl) (by rw [← HE.out, HO.out]; rfl)
      · by_cases hc2 : (x.1 : Int) - Pl.frm s.data.toList x.1 + 1 < c
        · have HO := Lib.hid (Pl.back_out s.data.toList x.1 x.2.1 x.2.2 c (.inr hc2))
          gi_wp2
          exact bk_ret s l c w _ pre _ W 0 false ⟨⟨⟨b0, b1⟩, ⟨b2, b3⟩, b4⟩, hB1, HP.out⟩ (by rw [← HE.out, HO.out]; rfl) (by rw [← HE.out, HO.out]; rfl)
        · have HO := Lib.hid (Pl.back_hit s.data.toList x.1 x.2.1 c (by omega) (by omega))
          gi_wp2
          exact bk_ret s l c w _ pre _ W _ true ⟨⟨⟨b0, b1⟩, ⟨b2, b3⟩, b4⟩, hB1, HP.out⟩ (by rw [← HE.out, HO.out]; simp only [Option.getD_some]; omega) (by rw [← HE.out, HO.out]; rfl)
    · have hne : (((Pl.pos s.data.toList x.1).1 : Int) != l) = true := by simp [he]
      have HE := Lib.hid he
      clear he
      gi_wp2
      refine ⟨KeepsFrom.refl _ _, rfl, ⟨⟨⟨b0, b1⟩, ⟨b2, b3⟩, b4⟩, hB1, ?_⟩⟩
      rw [List.map_append]
      intro y hy
      rcases List.mem_append.1 hy with h | h
      · exact HP.out y h
      · simp [sp, Pl.span] at h; subst h; exact HE.out
  case done =>
    rintro D ys W hD hS ⟨⟨⟨b0, b1⟩, ⟨b2, b3⟩, b4⟩, hB1, hp⟩ hK
    have HP := Lib.hid hp
    rw [hS] at hp
    have HO := Lib.hid (Pl.back_miss s.data.toList l c hp)
    have c2 := b2.cell
    have f2 := b2.frozen
    have c3 := b3.cell
    have f3 := b3.frozen
    clear hp hS
    gi_wp2
    have hK' := ((KeepsOthers.setCell W ⟨w.heap.size + 2, 0, none⟩ (.int .i64 0)).trans (KeepsOthers.setCell _ ⟨w.heap.size + 3, 0, none⟩ (.bool false))).same D _ hK rfl
    obtain ⟨⟨⟨e2, e3⟩, hB2⟩, _⟩ := (bk_ret s l c w 0 ys ys W 0 false ⟨⟨⟨b0, b1⟩, ⟨b2, b3⟩, b4⟩, hB1, HP.out⟩ (by rw [HO.out]; rfl) (by rw [HO.out]; rfl)).2
    refine ⟨by simp, .inl ⟨_, _, rfl, run_takeDeferred hK', ?_⟩⟩
    have g2 := cell_kept e2.cell (grownBy_putObj' _ D (.deferred none)) (fun r e => by cases e; exact ⟨_, hK', rfl⟩)
    have g3 := cell_kept e3.cell (grownBy_putObj' _ D (.deferred none)) (fun r e => by cases e; exact ⟨_, hK', rfl⟩)
    refine ⟨backV s.data.toList l c, ?_, rfl, hB2.trans (belowK_b (w := w) (Nat.le_refl _) _ D _ _ (by have := HSZ.out; omega) hK' rfl rfl)⟩
    unfold backV
    simp [results, Try.f9, go_sem, g2, g3]
  case stop =>
    rintro D j pre W hD hS ⟨⟨⟨e2, e3⟩, hB2⟩, rfl⟩ hK'
    gi_wp2
    refine ⟨by simp, .inl ⟨_, _, rfl, run_takeDeferred hK', ?_⟩⟩
    have g2 := cell_kept e2.cell (grownBy_putObj' _ D (.deferred none)) (fun r e => by cases e; exact ⟨_, hK', rfl⟩)
    have g3 := cell_kept e3.cell (grownBy_putObj' _ D (.deferred none)) (fun r e => by cases e; exact ⟨_, hK', rfl⟩)
    refine ⟨backV s.data.toList l c, ?_, rfl, hB2.trans (belowK_b (w := w) (Nat.le_refl _) _ D _ _ (by have := HSZ.out; omega) hK' rfl rfl)⟩
    unfold backV
    simp [results, Try.f9, go_sem, g2, g3]

theorem back_any (s : ByteArray) (hs : s.size ≤ 1000) (l c : Int) (w : World) :
    Calls Try.prog 9 #[.string s, .int .i64 l, .int .i64 c] w fun e w' => e = .returned (backV s.data.toList l c) ∧ Below w.heap.size w w' :=
  callsIn_wide.1 (back_in Fence.wide 3 trivial trivial trivial rfl (by omega) s hs l c w)
end Go.Proofs.Ytllfpldcilceaaa
