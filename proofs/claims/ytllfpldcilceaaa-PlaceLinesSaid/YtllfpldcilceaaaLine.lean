/- place.Lines tells how many lines a text has, place.Line the n-th one. Conditions: the text is at most 1000 bytes. -/
import Derived.Test.YtllfpldcilceaaaBack
namespace Go.Proofs.Ytllfpldcilceaaa
open Go.RowKit Go.Shelf
attribute [local go_sem] Oper.semAt_some

namespace Pl
theorem mem_spans (bs : List UInt8) (x : Nat × Nat × Nat) (h : x ∈ spans bs) : ∃ j, j ≤ bs.length ∧ isEnd bs j ∧ x = span bs j := by
  rcases List.mem_append.1 h with h | h
  · obtain ⟨j, h1, h2, h3⟩ := spansTo_mem bs bs.length x h
    exact ⟨j, by omega, .inr h3, h2⟩
  · simp at h; exact ⟨bs.length, Nat.le_refl _, .inl rfl, h⟩
theorem end_uniq (bs : List UInt8) (j k : Nat) (hj : j ≤ bs.length) (hk : k ≤ bs.length) (ej : isEnd bs j) (ek : isEnd bs k) (h : (pos bs j).1 = (pos bs k).1) : j = k := by
  have h1 := in_of_line bs k hk ek j hj h
  have h2 := in_of_line bs j hj ej k hk h.symm
  omega
/-- The n-th line, if there is one. -/
def lineOf (bs : List UInt8) (n : Int) : Option (List UInt8) := ((spans bs).find? fun x => (x.1 : Int) == n).map fun x => (bs.drop x.2.1).take (x.2.2 - x.2.1)
theorem lineOf_hit (bs : List UInt8) (n : Int) (k : Nat) (hk : k ≤ bs.length) (he : isEnd bs k) (h : ((pos bs k).1 : Int) = n) : lineOf bs n = some (lineAt bs k) := by
  have hb := pos_bd bs k hk
  have hm : (pos bs k).1 ≤ (pos bs bs.length).1 := line_mono bs k bs.length hk (Nat.le_refl _)
  obtain ⟨k', h1, h2, h3, h4⟩ := line_end bs (pos bs k).1 hb.1 hm
  obtain rfl := end_uniq bs k' k h1 hk h2 he h3
  unfold lineOf
  cases e : (spans bs).find? fun x => (x.1 : Int) == n with
  | none =>
    rw [List.find?_eq_none] at e
    have := e _ h4
    simp [span, h] at this
  | some y =>
    have hp := List.find?_some e
    obtain ⟨j, j1, j2, rfl⟩ := mem_spans bs y (List.mem_of_find?_eq_some e)
    simp [span] at hp
    obtain rfl := end_uniq bs j k' j1 hk j2 he (by omega)
    rfl
theorem lineOf_miss (bs : List UInt8) (n : Int) (h : ∀ x ∈ spans bs, (x.1 : Int) ≠ n) : lineOf bs n = none := by
  unfold lineOf
  have : (spans bs).find? (fun x => (x.1 : Int) == n) = none := by
    rw [List.find?_eq_none]; intro x hx; simpa using h x hx
  rw [this]; rfl
theorem lineOf_none (bs : List UInt8) (n : Int) (h : n < 1 ∨ ((pos bs bs.length).1 : Int) < n) : lineOf bs n = none := by
  refine lineOf_miss bs n fun x hx e => ?_
  obtain ⟨j, h1, h2, rfl⟩ := mem_spans bs x hx
  have hb := pos_bd bs j h1
  have hm := line_mono bs j bs.length h1 (Nat.le_refl _)
  simp only [span] at e
  omega
/-- The number of what was told last. -/
def cnt (xs : List (Nat × Nat × Nat)) : Nat := xs.foldl (fun _ x => x.1) 0
theorem cnt_snoc (xs : List (Nat × Nat × Nat)) (x : Nat × Nat × Nat) : cnt (xs ++ [x]) = x.1 := by simp [cnt]
theorem cnt_spans (bs : List UInt8) : cnt (spans bs) = (pos bs bs.length).1 := by rw [spans, cnt_snoc]; rfl
end Pl

def LsI (s : ByteArray) (w : World) (pre : List (Ln s.data.toList)) (W : World) : Prop :=
  (Boxed W w.heap.size 3 (.int .i64 (Pl.cnt (pre.map (sp s.data.toList)))) ∧ Boxed W (w.heap.size + 1) 9 (.string s)) ∧ Below w.heap.size w W
theorem lsI_own (s : ByteArray) (w : World) (B : Nat) (hB : w.heap.size ≤ B) : OwnFrom B (LsI s w) :=
  OwnFrom.and (OwnFrom.and (Own.from (boxed_own _ _ _) _) (Own.from (boxed_own _ _ _) _)) (ownFrom_below (Nat.le_refl _) hB)
def LsAx (s : ByteArray) (w : World) (x : Ln s.data.toList) (a' : Act) (_ : World) : Prop :=
  ∃ u0 u1 u2 u5 u6 u7 u8 u9 u10, a' = { tmps := #[u0, u1, u2, .pointer (some ⟨w.heap.size, 0, none⟩), .int .i64 (Pl.pos s.data.toList x.1).1, u5, u6, u7, u8, u9, u10], defers := [] }

set_option maxRecDepth 100000 in
set_option maxHeartbeats 4000000 in
theorem lines_in (F : Fence) (n : Nat) (h11 : F.fn 11) (h13 : F.fn 13) (h14 : F.fn 14) (hro : F.round = none) (hn : 3 ≤ n) (s : ByteArray) (hs : s.size ≤ 1000) (w : World) :
    CallsIn F n Try.prog 11 #[.string s] w fun e w' => e = .returned (.int .i64 (Pl.pos s.data.toList s.size).1) ∧ Below w.heap.size w w' := by
  have h1 : 1 ≤ n := by omega
  refine callsIn_of_wp_marks Try.func11 rfl h11 ?_ hro
  simp only [Try.ntmps11, List.size_toArray, List.length_cons, List.length_nil, Nat.reduceAdd, Nat.reduceSub, Array.replicate_succ, Array.replicate_zero, List.push_toArray, List.append_toArray, List.nil_append, List.cons_append]
  gi_wp2_with (gi_at_call 13; refine (spans_in F (n - 1) h13 hro _ _).mono ?_; rintro e w' ⟨rfl, rfl⟩)
  have b0 := (Boxed.new w 3 (.int .i64 0)).alloc (.cells #[.string s] 9)
  have b1 := Boxed.new (w.alloc (.cells #[.int .i64 0] 3)) 9 (.string s)
  have hB0 : Below w.heap.size w ((w.alloc (.cells #[.int .i64 0] 3)).alloc (.cells #[.string s] 9)) := ((Below.refl _ w).alloc (Nat.le_refl _) _).alloc (by simp) _
  have hsz : ((w.alloc (.cells #[.int .i64 0] 3)).alloc (.cells #[.string s] 9)).heap.size = w.heap.size + 2 := by simp
  simp only [World.size_alloc] at b1
  obtain ⟨W0, hW0⟩ : ∃ W0, (w.alloc (.cells #[.int .i64 0] 3)).alloc (.cells #[.string s] 9) = W0 := ⟨_, rfl⟩
  rw [hW0] at b0 b1 hB0 hsz ⊢
  clear hW0
  have HSZ := Lib.hid hsz
  clear hsz
  refine wpIn_rangeFunc_ownH hro h1 (gf := 14) (lb := #[.pointer (some ⟨w.heap.size + 1, 0, none⟩)]) rfl h14 (enters_of Try.func14 (by kernel_rfl) rfl)
    (iter_stops F (n - 1) h14 hro (by omega) (w.heap.size + 1) s hs W0 b1) kpB_t (kpB_b (by have := HSZ.out; omega)) (Below.refl _ _) (fun _ => rfl)
    (LsI s w) (fun _ _ _ => False) ?hI (fun _ _ _ _ _ hs _ _ => hs) ⟨⟨b0, b1⟩, hB0⟩ (LsAx s w) (fun _ _ _ _ _ _ hs _ _ => hs) ?assign ?body ?done ?stop
  case hI => exact lsI_own s w _ (by have := HSZ.out; omega)
  case assign =>
    rintro lo pre x W K hI hK
    gi_wp2
    exact hK _ _ (KeepsFrom.refl _ _) rfl hI ⟨_, _, _, _, _, _, _, _, _, rfl⟩
  case body =>
    rintro lo pre x a' W hl hr ⟨⟨b0, b1⟩, hB1⟩ ⟨u0, u1, u2, u5, u6, u7, u8, u9, u10, rfl⟩ hlt
    have c0 := b0.cell
    have f0 := b0.frozen
    gi_wp2
    exact ⟨(KeepsOthers.setCell _ _ _).from _, Below.heap_setCell _ _ _ _ (by simp), ⟨⟨by rw [List.map_append]; exact (Pl.cnt_snoc (pre.map (sp s.data.toList)) (sp s.data.toList x)) ▸ b0.set _, b1.other (by omega) _⟩, hB1.setCell (p := ⟨w.heap.size, 0, none⟩) (by simp) _⟩⟩
  case done =>
    rintro D ys W hD hS ⟨⟨b0, b1⟩, hB1⟩ hK
    rw [hS, Pl.cnt_spans] at b0
    have c0 := b0.cell
    clear hS
    gi_wp2
    refine ⟨by simp, .inl ⟨_, _, rfl, run_takeDeferred hK, ?_⟩⟩
    exact ⟨_, results_tmp rfl _ _ _, rfl, hB1.trans (belowK_b (w := w) (Nat.le_refl _) W D _ _ (by have := HSZ.out; omega) hK rfl rfl)⟩
  case stop =>
    rintro D c pre W _ _ h _
    exact h.elim

theorem lines_any (s : ByteArray) (hs : s.size ≤ 1000) (w : World) :
    Calls Try.prog 11 #[.string s] w fun e w' => e = .returned (.int .i64 (Pl.pos s.data.toList s.size).1) ∧ Below w.heap.size w w' :=
  callsIn_wide.1 (lines_in Fence.wide 3 trivial trivial trivial rfl (by omega) s hs w)

theorem cut_eq (s : ByteArray) (f t : Nat) : s.extract f t = ⟨((s.data.toList.drop f).take (t - f)).toArray⟩ := by
  apply ByteArray.ext
  apply Array.toList_inj.1
  simp [List.extract]

/-- What 'Line' answers. -/
def lineV (bs : List UInt8) (m : Int) : Value := .tuple #[.string ⟨((Pl.lineOf bs m).getD []).toArray⟩, .bool (Pl.lineOf bs m).isSome]

def LnAx (s : ByteArray) (w : World) (x : Ln s.data.toList) (a' : Act) (W : World) : Prop :=
  ∃ Bx u0 u1 u8 u9 u10 u11 u12 u13 u14 u15 u16 u17 u18 u19 u20, w.heap.size + 4 < Bx ∧ W.heap[Bx]? = some (.cells #[.int .i64 (Pl.frm s.data.toList x.1), .int .i64 x.1] 38 (0, 0)) ∧ a' = { tmps := #[u0, u1, .pointer (some ⟨w.heap.size, 0, none⟩), .pointer (some ⟨w.heap.size + 1, 0, none⟩), .pointer (some ⟨w.heap.size + 2, 0, none⟩), .pointer (some ⟨w.heap.size + 3, 0, none⟩), .int .i64 (Pl.pos s.data.toList x.1).1, .pointer (some ⟨Bx, 0, none⟩), u8, u9, u10, u11, u12, u13, u14, u15, u16, u17, u18, u19, u20], defers := [] }
theorem lnAx_own (s : ByteArray) (w : World) (B : Nat) (x : Ln s.data.toList) (a' : Act) : OwnFrom B (fun (_ : Unit) W => LnAx s w x a' W) := by
  intro _ X Y row hs hg hr
  obtain ⟨Bx, u0, u1, u8, u9, u10, u11, u12, u13, u14, u15, u16, u17, u18, u19, u20, h1, h2, h3⟩ := hs
  refine ⟨Bx, u0, u1, u8, u9, u10, u11, u12, u13, u14, u15, u16, u17, u18, u19, u20, h1, ?_, h3⟩
  refine (hg.block Bx (Array.getElem?_eq_some_iff.1 h2).1 ?_).trans h2
  intro e
  obtain ⟨_, o, ho, hc⟩ := hr Bx e.symm
  rw [h2] at ho
  cases ho
  cases hc

def LnI (s : ByteArray) (m : Int) (w : World) (pre : List (Ln s.data.toList)) (W : World) : Prop :=
  ((Boxed W w.heap.size 9 (.string s) ∧ Boxed W (w.heap.size + 1) 3 (.int .i64 m)) ∧ (Boxed W (w.heap.size + 2) 9 (.string ⟨#[]⟩) ∧ Boxed W (w.heap.size + 3) 4 (.bool false)) ∧ Boxed W (w.heap.size + 1 + 1 + 1 + 1) 9 (.string s)) ∧ (Below w.heap.size w W ∧ ∀ x ∈ pre.map (sp s.data.toList), (x.1 : Int) ≠ m)
theorem lnI_own (s : ByteArray) (m : Int) (w : World) (B : Nat) (hB : w.heap.size ≤ B) : OwnFrom B (LnI s m w) :=
  OwnFrom.and (OwnFrom.and (OwnFrom.and (Own.from (boxed_own _ _ _) _) (Own.from (boxed_own _ _ _) _)) (OwnFrom.and (OwnFrom.and (Own.from (boxed_own _ _ _) _) (Own.from (boxed_own _ _ _) _)) (Own.from (boxed_own _ _ _) _))) (OwnFrom.and (ownFrom_below (Nat.le_refl _) hB) (ownFrom_pure _ _))
def LnX (s : ByteArray) (m : Int) (w : World) (j : Code) (_ : List (Ln s.data.toList)) (W : World) : Prop :=
  ((Boxed W (w.heap.size + 2) 9 (.string ⟨((Pl.lineOf s.data.toList m).getD []).toArray⟩) ∧ Boxed W (w.heap.size + 3) 4 (.bool (Pl.lineOf s.data.toList m).isSome)) ∧ Below w.heap.size w W) ∧ j = .ret
theorem lnX_own (s : ByteArray) (m : Int) (w : World) (B : Nat) (hB : w.heap.size ≤ B) (j : Code) : OwnFrom B (LnX s m w j) :=
  OwnFrom.and (OwnFrom.and (OwnFrom.and (Own.from (boxed_own _ _ _) _) (Own.from (boxed_own _ _ _) _)) (ownFrom_below (Nat.le_refl _) hB)) (ownFrom_pure _ _)

theorem ln_name {Φ : World → Prop} (w : World) (m : Int) (s : ByteArray)
    (h : ∀ W0 : World, W0.heap.size = w.heap.size + 5 → LnI s m w [] W0 → Φ W0) :
    Φ (((((w.alloc (.cells #[.string s] 9)).alloc (.cells #[.int .i64 m] 3)).alloc (.cells #[.string ⟨#[]⟩] 9)).alloc (.cells #[.bool false] 4)).alloc (.cells #[.string s] 9)) := by
  have b0 := ((((Boxed.new w 9 (.string s)).alloc (.cells #[.int .i64 m] 3)).alloc (.cells #[.string ⟨#[]⟩] 9)).alloc (.cells #[.bool false] 4)).alloc (.cells #[.string s] 9)
  have b1 := (((Boxed.new (w.alloc (.cells #[.string s] 9)) 3 (.int .i64 m)).alloc (.cells #[.string ⟨#[]⟩] 9)).alloc (.cells #[.bool false] 4)).alloc (.cells #[.string s] 9)
  have b2 := ((Boxed.new ((w.alloc (.cells #[.string s] 9)).alloc (.cells #[.int .i64 m] 3)) 9 (.string ⟨#[]⟩)).alloc (.cells #[.bool false] 4)).alloc (.cells #[.string s] 9)
  have b3 := (Boxed.new (((w.alloc (.cells #[.string s] 9)).alloc (.cells #[.int .i64 m] 3)).alloc (.cells #[.string ⟨#[]⟩] 9)) 4 (.bool false)).alloc (.cells #[.string s] 9)
  have b4 := Boxed.new ((((w.alloc (.cells #[.string s] 9)).alloc (.cells #[.int .i64 m] 3)).alloc (.cells #[.string ⟨#[]⟩] 9)).alloc (.cells #[.bool false] 4)) 9 (.string s)
  simp only [World.size_alloc, Nat.add_assoc, Nat.reduceAdd] at b1 b2 b3 b4
  exact h _ (by simp [Nat.add_assoc]) ⟨⟨⟨b0, b1⟩, ⟨b2, b3⟩, b4⟩, (((((((Below.refl _ w).alloc (Nat.le_refl _) _).alloc (by simp) _).alloc (by simp; omega) _)).alloc (by simp; omega) _).alloc (by simp; omega) _), by simp⟩

theorem ln_ret (s : ByteArray) (m : Int) (w : World) (B : Nat) (pre pre' : List (Ln s.data.toList)) (W : World) (v : ByteArray) (b : Bool) (h : LnI s m w pre W) (ev : v = ⟨((Pl.lineOf s.data.toList m).getD []).toArray⟩) (eb : b = (Pl.lineOf s.data.toList m).isSome) :
    KeepsFrom B W ((W.setCell ⟨w.heap.size + 2, 0, none⟩ (.string v)).setCell ⟨w.heap.size + 3, 0, none⟩ (.bool b)) ∧ LnX s m w .ret pre' ((W.setCell ⟨w.heap.size + 2, 0, none⟩ (.string v)).setCell ⟨w.heap.size + 3, 0, none⟩ (.bool b)) := by
  obtain ⟨⟨_, ⟨b2, b3⟩, _⟩, hB, _⟩ := h
  subst ev
  subst eb
  exact ⟨((KeepsOthers.setCell _ _ _).trans (KeepsOthers.setCell _ _ _)).from _, ⟨⟨(b2.set _).other (by omega) _, (b3.other (by omega) _).set _⟩, (hB.setCell (p := ⟨w.heap.size + 2, 0, none⟩) (by simp) _).setCell (p := ⟨w.heap.size + 3, 0, none⟩) (by simp) _⟩, rfl⟩

set_option maxRecDepth 100000 in
set_option maxHeartbeats 4000000 in
theorem line_in (F : Fence) (n : Nat) (h12 : F.fn 12) (h13 : F.fn 13) (h14 : F.fn 14) (hro : F.round = none) (hn : 3 ≤ n) (s : ByteArray) (hs : s.size ≤ 1000) (m : Int) (w : World) :
    CallsIn F n Try.prog 12 #[.string s, .int .i64 m] w fun e w' => e = .returned (lineV s.data.toList m) ∧ Below w.heap.size w w' := by
  have h1 : 1 ≤ n := by omega
  refine callsIn_of_wp_marks Try.func12 rfl h12 ?_ hro
  simp only [Try.ntmps12, List.size_toArray, List.length_cons, List.length_nil, Nat.reduceAdd, Nat.reduceSub, Array.replicate_succ, Array.replicate_zero, List.push_toArray, List.append_toArray, List.nil_append, List.cons_append]
  gi_wp2_with (gi_at_call 13; refine (spans_in F (n - 1) h13 hro _ _).mono ?_; rintro e w' ⟨rfl, rfl⟩)
  refine ln_name w m s ?_
  intro W0 hsz hI0
  have HSZ := Lib.hid hsz
  clear hsz
  refine wpIn_rangeFunc_ownH hro h1 (gf := 14) (lb := #[.pointer (some ⟨w.heap.size + 1 + 1 + 1 + 1, 0, none⟩)]) rfl h14 (enters_of Try.func14 (by kernel_rfl) rfl)
    (iter_stops F (n - 1) h14 hro (by omega) (w.heap.size + 1 + 1 + 1 + 1) s hs W0 hI0.1.2.2) kpB_t (kpB_b (by have := HSZ.out; omega)) (Below.refl _ _) (fun _ => rfl)
    (LnI s m w) (LnX s m w) ?hI ?hIx hI0 (LnAx s w) (lnAx_own s w _) ?assign ?body ?done ?stop
  case hI => exact lnI_own s m w _ (by have := HSZ.out; omega)
  case hIx => exact lnX_own s m w _ (by have := HSZ.out; omega)
  case assign =>
    rintro lo pre x W K ⟨⟨⟨b0, b1⟩, ⟨b2, b3⟩, b4⟩, hB1, hp⟩ hK
    have HP := Lib.hid hp
    clear hp
    gi_wp2
    refine hK _ _ ((KeepsOthers.alloc _ _).from _) (Below.heap_alloc W _ _ b4.lt) ⟨⟨⟨b0.alloc _, b1.alloc _⟩, ⟨b2.alloc _, b3.alloc _⟩, b4.alloc _⟩, hB1.alloc hB1.size _, HP.out⟩ ?_
    exact ⟨W.heap.size, _, _, _, _, _, _, _, _, _, _, _, _, _, _, _, b4.lt, World.alloc_heap_new W _, rfl⟩
  case body =>
    rintro lo pre x a' W hl hr ⟨⟨⟨b0, b1⟩, ⟨b2, b3⟩, b4⟩, hB1, hp⟩ ⟨Bx, u0, u1, u8, u9, u10, u11, u12, u13, u14, u15, u16, u17, u18, u19, u20, hBx, bX, rfl⟩ hlt
    have HP := Lib.hid hp
    have c0 := b0.cell
    have c1 := b1.cell
    have c2 := b2.cell
    have f2 := b2.frozen
    have c3 := b3.cell
    have f3 := b3.frozen
    have cX0 : W.cell? ⟨Bx, 0, none⟩ = some (.int .i64 (Pl.frm s.data.toList x.1)) := by simp [World.cell?, bX]
    have cX1 : W.cell? ⟨Bx, 1, none⟩ = some (.int .i64 x.1) := by simp [World.cell?, bX]
    have HX := Lib.hid bX
    clear hp bX
    have hf := Pl.frm_le s.data.toList x.1 x.2.1
    have hx2 : x.1 ≤ s.size := x.2.1
    by_cases he : ((Pl.pos s.data.toList x.1).1 : Int) = m
    · have hne : (((Pl.pos s.data.toList x.1).1 : Int) == m) = true := by simp [he]
      have HO := Lib.hid (Pl.lineOf_hit s.data.toList m x.1 x.2.1 x.2.2 he)
      have HE := Lib.hid he
      clear he
      gi_wp2
      exact ln_ret s m w _ pre _ W _ true ⟨⟨⟨b0, b1⟩, ⟨b2, b3⟩, b4⟩, hB1, HP.out⟩ (by rw [HO.out]; exact cut_eq s _ _) (by rw [HO.out]; rfl)
    · have hne : (((Pl.pos s.data.toList x.1).1 : Int) == m) = false := by simp [he]
      have HE := Lib.hid he
      clear he
      gi_wp2
      refine ⟨KeepsFrom.refl _ _, rfl, ⟨⟨⟨b0, b1⟩, ⟨b2, b3⟩, b4⟩, hB1, ?_⟩⟩
      rw [List.map_append]
      intro y hy
      rcases List.mem_append.1 hy with h | h
      · exact HP.out y h
      · simp [sp, Pl.span] at h; subst h; exact HE.out
  case done =>
    rintro D ys W hD hS ⟨⟨⟨b0, b1⟩, ⟨b2, b3⟩, b4⟩, hB1, hp⟩ hK
    have HP := Lib.hid hp
    rw [hS] at hp
    have HO := Lib.hid (Pl.lineOf_miss s.data.toList m hp)
    have c2 := b2.cell
    have f2 := b2.frozen
    have c3 := b3.cell
    have f3 := b3.frozen
    clear hp hS
    gi_wp2
    have hK' := ((KeepsOthers.setCell W ⟨w.heap.size + 2, 0, none⟩ (.string ⟨#[]⟩)).trans (KeepsOthers.setCell _ ⟨w.heap.size + 3, 0, none⟩ (.bool false))).same D _ hK rfl
    obtain ⟨⟨⟨e2, e3⟩, hB2⟩, _⟩ := (ln_ret s m w 0 ys ys W ⟨#[]⟩ false ⟨⟨⟨b0, b1⟩, ⟨b2, b3⟩, b4⟩, hB1, HP.out⟩ (by rw [HO.out]; rfl) (by rw [HO.out]; rfl)).2
    refine ⟨by simp, .inl ⟨_, _, rfl, run_takeDeferred hK', ?_⟩⟩
    have g2 := cell_kept e2.cell (grownBy_putObj' _ D (.deferred none)) (fun r e => by cases e; exact ⟨_, hK', rfl⟩)
    have g3 := cell_kept e3.cell (grownBy_putObj' _ D (.deferred none)) (fun r e => by cases e; exact ⟨_, hK', rfl⟩)
    refine ⟨lineV s.data.toList m, ?_, rfl, hB2.trans (belowK_b (w := w) (Nat.le_refl _) _ D _ _ (by have := HSZ.out; omega) hK' rfl rfl)⟩
    unfold lineV
    simp [results, Try.f12, go_sem, g2, g3]
  case stop =>
    rintro D j pre W hD hS ⟨⟨⟨e2, e3⟩, hB2⟩, rfl⟩ hK'
    gi_wp2
    refine ⟨by simp, .inl ⟨_, _, rfl, run_takeDeferred hK', ?_⟩⟩
    have g2 := cell_kept e2.cell (grownBy_putObj' _ D (.deferred none)) (fun r e => by cases e; exact ⟨_, hK', rfl⟩)
    have g3 := cell_kept e3.cell (grownBy_putObj' _ D (.deferred none)) (fun r e => by cases e; exact ⟨_, hK', rfl⟩)
    refine ⟨lineV s.data.toList m, ?_, rfl, hB2.trans (belowK_b (w := w) (Nat.le_refl _) _ D _ _ (by have := HSZ.out; omega) hK' rfl rfl)⟩
    unfold lineV
    simp [results, Try.f12, go_sem, g2, g3]

theorem line_any (s : ByteArray) (hs : s.size ≤ 1000) (m : Int) (w : World) :
    Calls Try.prog 12 #[.string s, .int .i64 m] w fun e w' => e = .returned (lineV s.data.toList m) ∧ Below w.heap.size w w' :=
  callsIn_wide.1 (line_in Fence.wide 3 trivial trivial trivial rfl (by omega) s hs m w)
end Go.Proofs.Ytllfpldcilceaaa
