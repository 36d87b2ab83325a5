/- The same within a round of a range over a function, at the wide fence. Conditions: no operation of the region is a defer statement.
Whether two expressions are the same, as the program tells it. Conditions: none. -/
import Derived.Test.YtdehpgdffafebaaDoorZad
import Derived.Test.YtdehpgdffafebaaDoorZag
import Derived.OrdersIn
import Derived.Test.YtdehpgdffafebaaDoorZaf
namespace Go.Proofs.YtdehpgdffafebaaDoor
open Go.RowKit

def noDefer (l : List Oper) : Bool := l.all fun o => match o.op with | .defer _ => false | _ => true
theorem noDefer_at {l : List Oper} (h : noDefer l = true) {i : Nat} {o : Oper} (hi : l.toArray[i]? = some o) (c : Call) : o.op ≠ .defer c := by
  intro e
  have hm : o ∈ l := by
    have := Array.mem_of_getElem? hi
    simpa using this
  have := List.all_eq_true.1 h o hm
  rw [e] at this
  cases this

section
variable {P : Program} {r : Option Nat} {n : Nat} {C : World → Prop}

theorem semAt_any {o : Oper} (h : ∀ c, o.op ≠ .defer c) (ρ : Operand → Value) : o.semAt r ρ = execOp ρ o := by
  cases r with
  | none => rw [Oper.semAt_none]
  | some l => exact Oper.semAt_some l ρ o h

theorem callsIn_any {f : FuncId} {args : Array Value} {w : World} {R : Ending → World → Prop} (h : Calls P f args w R) : CallsIn { Fence.wide with round := r } n P f args w R :=
  (callsIn_wide (n := n)).2 h

theorem wpIn_of_quiet {o : Oper} {a : Act} {K : Act → Prop} {K' : Act → World → Prop} {Q' : Exit → Act → World → Prop} {w : World} (hnd : ∀ c, o.op ≠ .defer c) (hw : C w) (h : ∀ a w', C w' → K a → K' a w') (hh : o.quiet P a C K) :
    o.wpIn { Fence.wide with round := r } n P a w K' Q' := by
  obtain ⟨v, h1, h2⟩ := hh
  have h3 := h1 w hw
  unfold Oper.quietAt at h3
  unfold Oper.wpIn
  refine ⟨fun _ _ => trivial, ?_⟩
  rw [semAt_any hnd]
  generalize (execOp a.eval o).run P w = q at *
  cases q with
  | ok x w' =>
    cases x <;> simp only [Oper.quietUpon] at h3 <;> simp only [Oper.uponIn]
    case value u =>
      obtain ⟨e1, e2⟩ := h3
      rw [e1, e2]
      exact h _ _ hw h2
    case skip =>
      obtain ⟨e1, e2⟩ := h3
      rw [e1, ← e2]
      exact h _ _ hw h2
    case enter f args =>
      obtain ⟨e1, hc⟩ := h3
      rw [e1]
      refine ⟨fun hd => (by cases hd), ?_⟩
      exact callsIn_any (hc.mono fun e w'' ⟨he, hw''⟩ => by subst he; exact h _ _ hw'' h2)
  | halt x w' => simp only [Oper.quietUpon] at h3

theorem wpOpIn_of_qOp {l : List Oper} {i : Nat} {a : Act} {K : Act → Prop} {K' : Act → World → Prop} {Q' : Exit → Act → World → Prop} {w : World} (hnd : noDefer l = true) (hC : C w) (h : ∀ a w', C w' → K a → K' a w')
    (hh : qOp P l.toArray C i K a) : wpOpIn { Fence.wide with round := r } n P l.toArray Q' i K' a w := by
  unfold qOp at hh
  unfold wpOpIn
  split
  · rename_i ho; simp only [ho] at hh; exact h _ _ hC hh
  · rename_i o ho
    simp only [ho] at hh
    split
    · rename_i hw; simp only [hw, if_true] at hh; exact wpIn_of_quiet (noDefer_at hnd ho) hC h hh
    · rename_i hw; simp only [hw] at hh; exact ⟨fun _ _ => trivial, h _ _ hC hh⟩

theorem wpAnyIn_of_quiet {md : Region.Mode} {l : List Oper} (hnd : noDefer l = true) {Q : Act → Prop} {Q' : Exit → Act → World → Prop} (hQ : ∀ a w, C w → Q a → Q' .normal a w) : ∀ (fuel : Nat) (listed : Array Bool) (a : Act) (w : World), C w →
    wpAnyQ P md l.toArray C Q fuel listed a → wpAnyIn { Fence.wide with round := r } n P md l.toArray Q' fuel listed a w
  | 0, _, _, _, hw, h => ⟨h.1, hQ _ _ hw h.2⟩
  | fuel + 1, _, _, _, hw, h => ⟨fun h0 => hQ _ _ hw (h.1 h0), fun i hi => wpOpIn_of_qOp hnd hw (fun a' w' hw' => wpAnyIn_of_quiet hnd hQ fuel _ a' w' hw') (h.2 i hi)⟩

theorem regionIn_quiet {id : Nat} {Q : Exit → Act → World → Prop} {a : Act} {w : World} {l : List Oper} (hm : P.follows .mixedOrders = true) (hB : Region.lexB .any l.toArray = true) (hnd : noDefer l = true) (hC : C w.drew)
    (h : wpQuiet P l.toArray C (fun a' => ∀ w', C w' → Q .normal a' w') l a) : (Code.region id l.toArray true).wpIn { Fence.wide with round := r } n P Q a w := by
  simp only [Region.lexB, Bool.and_eq_true] at hB
  refine wpIn_region_any hm (wpAnyIn_of_quiet hnd (Q := fun a' => ∀ w', C w' → Q .normal a' w') (fun _ w' hw' h => h w' hw') _ _ _ _ hC ?_)
  have := wpAnyQ_lex (C := C) (md := .any) hB.1 l 0 (Array.replicate l.toArray.size false) a (by simp) (by simpa using hB.2) h
  simpa using this
end

theorem regionIn_class {P : Program} {r : Option Nat} {n id : Nat} {Q : Exit → Act → World → Prop} {a : Act} {w : World} {l : List Oper} {Cl : World → Prop} (hm : P.follows .mixedOrders = true) (hB : Region.lexB .any l.toArray = true) (hnd : noDefer l = true) (hC : Cl w.drew)
    (h : wpQuiet P l.toArray (fun w' => ∃ n : InC Cl, w' = n.w) (fun a' => ∀ w', (∃ n : InC Cl, w' = n.w) → Q .normal a' w') l a) : (Code.region id l.toArray true).wpIn { Fence.wide with round := r } n P Q a w :=
  regionIn_quiet (C := fun w' => ∃ n : InC Cl, w' = n.w) hm hB hnd ⟨⟨_, hC⟩, rfl⟩ h
theorem round_class {P : Program} {l0 n id : Nat} {Q : Exit → Act → World → Prop} {a : Act} {w : World} {l : List Oper} {Cl : World → Prop} (hm : P.follows .mixedOrders = true) (hB : Region.lexB .any l.toArray = true) (hnd : noDefer l = true) (hC : Cl w.drew)
    (h : wpQuiet P l.toArray (fun w' => ∃ n : InC Cl, w' = n.w) (fun a' => ∀ w', (∃ n : InC Cl, w' = n.w) → Q .normal a' w') l a) : (Code.region id l.toArray true).wpIn (Fence.wide.inRound l0) n P Q a w :=
  regionIn_class (r := some l0) hm hB hnd hC h
end Go.Proofs.YtdehpgdffafebaaDoor
namespace Go.Proofs.YtdehpgdffafebaaDoor
open Go.RowKit Go.Shelf
attribute [local go_sem] Oper.semAt_some
set_option linter.unusedVariables false

theorem keeps_below {B : Nat} {W W' : World} (h : Below W.heap.size W W') : KeepsFrom B W W' := ⟨h.size, fun k o _ h0 _ => (h.block k (heap_lt h0)).trans h0⟩
theorem row_own {β : Type} {B g : Nat} {cs : Array Value} {t : TypeId} : OwnFrom B (fun (_ : β) W => W.heap[g]? = some (.cells cs t (0, 0))) := by
  intro _ X Y row hs hg hr
  refine (hg.block g (heap_lt hs) ?_).trans hs
  intro e
  obtain ⟨_, o, ho, hc⟩ := hr g e.symm
  rw [hs] at ho
  cases ho
  cases hc

/-- What lies behind a call that goes through Kids: the boxes. -/
structure Tri (w : World) (ca cb : Array Value) (x : Value) (W : World) : Prop where
  b0 : W.heap[w.heap.size]? = some (.cells ca 24 (0, 0))
  b1 : W.heap[w.heap.size + 1]? = some (.cells cb 24 (0, 0))
  b2 : W.heap[w.heap.size + 1 + 1]? = some (.cells #[x] 4 (0, 0))
  below : Below w.heap.size w W
theorem Tri.own {β : Type} {w : World} {ca cb : Array Value} {x : Value} {B : Nat} (hB : w.heap.size ≤ B) : OwnFrom B (fun (_ : β) W => Tri w ca cb x W) :=
  fun s X Y row hs hg hr => ⟨row_own s X Y row hs.b0 hg hr, row_own s X Y row hs.b1 hg hr, row_own s X Y row hs.b2 hg hr, ownFrom_below (Nat.le_refl _) hB s X Y row hs.below hg hr⟩
theorem Tri.step {w : World} {ca cb : Array Value} {x : Value} {W W' : World} (h : Tri w ca cb x W) (hb : Below W.heap.size W W') : Tri w ca cb x W' :=
  ⟨(hb.block _ (heap_lt h.b0)).trans h.b0, (hb.block _ (heap_lt h.b1)).trans h.b1, (hb.block _ (heap_lt h.b2)).trans h.b2, h.below.trans (hb.mono h.below.size)⟩

theorem Tri.set {w : World} {ca cb : Array Value} {x : Value} {W : World} (h : Tri w ca cb x W) (y : Value) : Tri w ca cb y (W.setCell ⟨w.heap.size + 1 + 1, 0, none⟩ y) :=
  ⟨(heap_setCell_other W ⟨w.heap.size + 1 + 1, 0, none⟩ _ y (by show w.heap.size ≠ w.heap.size + 1 + 1; omega)).trans h.b0,
   (heap_setCell_other W ⟨w.heap.size + 1 + 1, 0, none⟩ _ y (by show w.heap.size + 1 ≠ w.heap.size + 1 + 1; omega)).trans h.b1,
   (heap_setCell_same W _ 0 _ _ y h.b2), h.below.setCell (p := ⟨w.heap.size + 1 + 1, 0, none⟩) (by show w.heap.size ≤ w.heap.size + 1 + 1; omega) _⟩
theorem res_new (w : World) (ca cb : Array Value) : (((w.alloc (.cells ca 24)).alloc (.cells cb 24)).alloc (.cells #[.bool false] 4)).cell? ⟨w.heap.size + 1 + 1, 0, none⟩ = some (.bool false) := by
  have h2 := heap_new ((w.alloc (.cells ca 24)).alloc (.cells cb 24)) (.cells #[.bool false] 4)
  simp only [World.size_alloc] at h2
  exact cell_of_row _ _ 0 _ _ (0, 0) h2
theorem res_below (w : World) (ca cb : Array Value) : Below w.heap.size w (((w.alloc (.cells ca 24)).alloc (.cells cb 24)).alloc (.cells #[.bool false] 4)) :=
  (((Below.refl _ w).alloc (Nat.le_refl _) _).alloc (by simp only [World.size_alloc]; omega) _).alloc (by simp only [World.size_alloc]; omega) _
theorem tri_new (w : World) (ca cb : Array Value) (v : Value) : Tri w ca cb v ((((w.alloc (.cells ca 24)).alloc (.cells cb 24)).alloc (.cells #[v] 4)).alloc (.cells ca 24)) ∧
    ((((w.alloc (.cells ca 24)).alloc (.cells cb 24)).alloc (.cells #[v] 4)).alloc (.cells ca 24)).heap[w.heap.size + 1 + 1 + 1]? = some (.cells ca 24 (0, 0)) ∧
    ((((w.alloc (.cells ca 24)).alloc (.cells cb 24)).alloc (.cells #[v] 4)).alloc (.cells ca 24)).heap.size = w.heap.size + 1 + 1 + 1 + 1 := by
  have h0 := heap_new w (.cells ca 24)
  have h1 := heap_new (w.alloc (.cells ca 24)) (.cells cb 24)
  have h2 := heap_new ((w.alloc (.cells ca 24)).alloc (.cells cb 24)) (.cells #[v] 4)
  have h3 := heap_new (((w.alloc (.cells ca 24)).alloc (.cells cb 24)).alloc (.cells #[v] 4)) (.cells ca 24)
  simp only [World.size_alloc] at h1 h2 h3
  refine ⟨⟨?_, ?_, ?_, ?_⟩, h3, by simp only [World.size_alloc]⟩
  · exact (Below.heap_alloc _ _ _ (by simp only [World.size_alloc]; omega)).trans ((Below.heap_alloc _ _ _ (by simp only [World.size_alloc]; omega)).trans ((Below.heap_alloc _ _ _ (by simp only [World.size_alloc]; omega)).trans h0))
  · exact (Below.heap_alloc _ _ _ (by simp only [World.size_alloc]; omega)).trans ((Below.heap_alloc _ _ _ (by simp only [World.size_alloc]; omega)).trans h1)
  · exact (Below.heap_alloc _ _ _ (by simp only [World.size_alloc]; omega)).trans h2
  · exact ((((Below.refl _ w).alloc (Nat.le_refl _) _).alloc (by simp only [World.size_alloc]; omega) _).alloc (by simp only [World.size_alloc]; omega) _).alloc (by simp only [World.size_alloc]; omega) _

/-- All Kids that have come are the same as those of the other one. -/
def AllSame (l' : List E) {B : Nat} {W0 : World} {l : List E} (pre : List (Kd B W0 l)) : Prop := ∀ x ∈ pre, ∀ e d, l[x.1.1]? = some e → l'[x.1.1]? = some d → E.same e d = true
theorem sames_of {l l' : List E} : ∀ k, l.length = l'.length → (∀ i, k ≤ i → ∀ e d, l[i]? = some e → l'[i]? = some d → E.same e d = true) → E.sames (l.drop k) (l'.drop k) = true := by
  intro k hl
  obtain ⟨q, hq⟩ : ∃ q, q = l.length - k := ⟨_, rfl⟩
  induction q generalizing k with
  | zero => intro _; exact E.sames_end (by omega)
  | succ q ih =>
    intro h
    have h1 : k < l.length := by omega
    have h2 : k < l'.length := by omega
    rw [E.sames_at h1 h2, h k (Nat.le_refl _) _ _ (List.getElem?_eq_getElem h1) (List.getElem?_eq_getElem h2), ih (k + 1) (by omega) (fun i hi => h i (by omega))]
    rfl
theorem sames_all {l l' : List E} {B : Nat} {W0 : World} {xs : List (Kd B W0 l)} (hl : l.length = l'.length) (hx : xs.map (fun x => x.1.1) = List.range l.length) (h : AllSame l' xs) : E.sames l l' = true := by
  have := sames_of (l := l) (l' := l') 0 hl (fun i _ e d he hd => by
    have hi : i < l.length := (List.getElem?_eq_some_iff.1 he).1
    have hm : i ∈ xs.map (fun x => x.1.1) := by rw [hx]; exact List.mem_range.2 hi
    obtain ⟨x, hxm, rfl⟩ := List.mem_map.1 hm
    exact h x hxm e d he hd)
  simpa using this
theorem sames_one {l l' : List E} {i : Nat} {e d : E} (hl : l.length = l'.length) (he : l[i]? = some e) (hd : l'[i]? = some d) (h : E.same e d = false) : E.sames l l' = false := by
  cases hs : E.sames l l' with
  | false => rfl
  | true =>
    have := E.sames_eq l l' hl hs
    subst this
    rw [he] at hd
    cases hd
    rw [E.same_self] at h
    cases h

def SmAx (w : World) {B : Nat} {W0 : World} {l : List E} (x : Kd B W0 l) (a' : Act) (W : World) : Prop :=
  ∃ Bx cs u0 u1 u7 u8 u9 u10 u11 u12 u13 u14 u15 u16 u17 u18 u19 u20 u21 u22 u23 u24 u25 u26 u27 u28 u29 u30 u31 u32 u33 u34 u35 u36 u37 u38 u39 u40 u41 u42 u43 u44 u45 u46, w.heap.size + 1 + 1 + 1 < Bx ∧ x.1.2 = .agg cs ∧ W.heap[Bx]? = some (.cells cs 24 (0, 0)) ∧
    a' = { tmps := #[u0, u1, .pointer (some ⟨w.heap.size, 0, none⟩), .pointer (some ⟨w.heap.size + 1, 0, none⟩), .pointer (some ⟨w.heap.size + 1 + 1, 0, none⟩), .int .i64 x.1.1, .pointer (some ⟨Bx, 0, none⟩), u7, u8, u9, u10, u11, u12, u13, u14, u15, u16, u17, u18, u19, u20, u21, u22, u23, u24, u25, u26, u27, u28, u29, u30, u31, u32, u33, u34, u35, u36, u37, u38, u39, u40, u41, u42, u43, u44, u45, u46], defers := [] }
theorem smAx_own (w : World) {B : Nat} {W0 : World} {l : List E} (B' : Nat) (x : Kd B W0 l) (a' : Act) : OwnFrom B' (fun (_ : Unit) W => SmAx w x a' W) := by
  intro s X Y row hs hg hr
  obtain ⟨Bx, cs, u0, u1, u7, u8, u9, u10, u11, u12, u13, u14, u15, u16, u17, u18, u19, u20, u21, u22, u23, u24, u25, u26, u27, u28, u29, u30, u31, u32, u33, u34, u35, u36, u37, u38, u39, u40, u41, u42, u43, u44, u45, u46, h1, h2, h3, h4⟩ := hs
  exact ⟨Bx, cs, u0, u1, u7, u8, u9, u10, u11, u12, u13, u14, u15, u16, u17, u18, u19, u20, u21, u22, u23, u24, u25, u26, u27, u28, u29, u30, u31, u32, u33, u34, u35, u36, u37, u38, u39, u40, u41, u42, u43, u44, u45, u46, h1, h2, row_own (β := Unit) s X Y row h3 hg hr, h4⟩

set_option maxRecDepth 100000 in
set_option maxHeartbeats 4000000 in
theorem same_any : ∀ (m : Nat) (e d : E) (v v' : Value) (w : World), E.count e ≤ m → InV w.heap.size w e v → InV w.heap.size w d v' → Calls Tryd.prog 13 #[v, v'] w fun x w' => x = .returned (.bool (E.same e d)) ∧ Below w.heap.size w w' := by
  intro m
  induction m with
  | zero => intro e d v v' w h; have := E.count_pos e; omega
  | succ m ih =>
    intro e d v v' w hm hv hv'
    obtain ⟨k, n, s, l, A, c, rfl, rfl, hn, hlc, hcm, hk⟩ := hv.open
    obtain ⟨k', n', s', l', A', c', rfl, rfl, hn', hlc', hcm', hk'⟩ := hv'.open
    have hl1 : l.length ≤ 9223372036854775807 := by unfold maxLen at hcm; omega
    have hl1' : l'.length ≤ 9223372036854775807 := by unfold maxLen at hcm'; omega
    have HK : Hid (KidsIn w.heap.size w A l) := Lib.hid hk
    have HK' : Hid (KidsIn w.heap.size w A' l') := Lib.hid hk'
    have HI := Lib.hid ih
    have HM := Lib.hid hm
    obtain ⟨L, hL⟩ : ∃ L, L = l.length := ⟨_, rfl⟩
    obtain ⟨L', hL'⟩ : ∃ L', L' = l'.length := ⟨_, rfl⟩
    rw [← hL] at hlc hl1 ⊢
    rw [← hL'] at hlc' hl1' ⊢
    have HL := Lib.hid hL
    have HL' := Lib.hid hL'
    clear hL hL' hk hk' hv hv' hn hn' hm ih hcm hcm'
    have HX : Hid (Two w k n s A L c k' n' s' A' L' c' _) := Lib.hid Two.new
    obtain ⟨z0, z1, z2, z3⟩ := row4 HX.out.b0
    obtain ⟨y0, y1, y2, y3⟩ := row4 HX.out.b1
    have hbX := HX.out.below
    by_cases h1 : k = k'
    · subst h1
      by_cases h2 : n = n'
      · subst h2
        by_cases h3 : s = s'
        · subst h3
          have hss := str_self s
          by_cases h4 : L = L'
          · subst h4
            have HE : Hid (E.same (.mk k n s l) (.mk k n s l') = E.sames l l') := Lib.hid (same_all (HL.out.symm.trans HL'.out))
            have HLL : Hid (l.length = l'.length) := Lib.hid (HL.out.symm.trans HL'.out)
            refine (callsIn_wide (n := 9)).1 ?_
            refine callsIn_of_wp_marks Tryd.func13 rfl trivial ?_ rfl
            simp only [Tryd.ntmps13, List.size_toArray, List.length_cons, List.length_nil, Nat.reduceAdd, Nat.reduceSub, Array.replicate_succ, Array.replicate_zero, List.push_toArray, List.append_toArray, List.nil_append, List.cons_append]
            gi_wp2_with (refine ⟨trivial, ?_⟩; gi_at_call 23; refine (kids_in Fence.wide _ trivial rfl _ _ _ _ _).mono ?_; rintro e w' ⟨rfl, rfl⟩)
            clear z0 z1 z2 z3 y0 y1 y2 y3 hbX hss
            obtain ⟨T0, bx0, sz0⟩ := tri_new w #[.int .i64 k, .int .i64 n, .string s, .slice A L c] #[.int .i64 k, .int .i64 n, .string s, .slice A' L c'] (.bool false)
            obtain ⟨W0, hW0⟩ : ∃ W0, W0 = ((((w.alloc (.cells #[.int .i64 k, .int .i64 n, .string s, .slice A L c] 24)).alloc (.cells #[.int .i64 k, .int .i64 n, .string s, .slice A' L c'] 24)).alloc (.cells #[.bool false] 4)).alloc (.cells #[.int .i64 k, .int .i64 n, .string s, .slice A L c] 24)) := ⟨_, rfl⟩
            rw [← hW0] at T0 bx0 sz0 ⊢
            clear hW0
            have hk0 : KidsIn w.heap.size W0 A l := HK.out.below T0.below
            have hk0' : KidsIn w.heap.size W0 A' l' := HK'.out.below T0.below
            refine wpIn_rangeFunc_ownH rfl (by omega) (gf := 43) (lb := #[.pointer (some ⟨w.heap.size + 1 + 1 + 1, 0, none⟩)]) rfl trivial (enters_of Tryd.func43 (by kernel_rfl) rfl)
              (kids_stops Fence.wide _ trivial rfl (by omega) (w.heap.size + 1 + 1 + 1) k n s A c w.heap.size W0.heap.size (by omega) l L HL.out W0 (Nat.le_refl _) hl1 hlc hk0 W0 (Below.refl _ _) bx0) belowK_t (belowK_b (Nat.le_refl _)) (Below.refl _ _) (fun _ => rfl)
              (fun pre W => Tri w #[.int .i64 k, .int .i64 n, .string s, .slice A L c] #[.int .i64 k, .int .i64 n, .string s, .slice A' L c'] (.bool false) W ∧ Below W0.heap.size W0 W ∧ AllSame l' pre)
              (fun c0 pre W => Tri w #[.int .i64 k, .int .i64 n, .string s, .slice A L c] #[.int .i64 k, .int .i64 n, .string s, .slice A' L c'] (.bool false) W ∧ c0 = .ret ∧ E.sames l l' = false)
              (OwnFrom.and (Tri.own (by omega)) (OwnFrom.and (ownFrom_below (Nat.le_refl _) (Nat.le_refl _)) (ownFrom_pure _ _)))
              (fun c0 => OwnFrom.and (Tri.own (by omega)) (ownFrom_pure _ _))
              ⟨T0, Below.refl _ _, fun x hx => by cases hx⟩ (SmAx w) (fun x a' => smAx_own w _ x a') ?assign ?body ?done ?stop
            case assign =>
              rintro l0 pre ⟨⟨i, v⟩, e, he, hin⟩ W K ⟨hT, hbw, hall⟩ hK
              obtain ⟨kk, kn, ks, kq, kA, kc, rfl, rfl, _, _, _, _⟩ := hin.open
              have hsz := hbw.size
              gi_wp2
              exact hK _ _ ((KeepsOthers.alloc _ _).from _) ((Below.refl _ W).alloc hsz _) ⟨hT.step ((Below.refl _ W).alloc (Nat.le_refl _) _), hbw.alloc hsz _, hall⟩ ⟨W.heap.size, _, _, _, _, _, _, _, _, _, _, _, _, _, _, _, _, _, _, _, _, _, _, _, _, _, _, _, _, _, _, _, _, _, _, _, _, _, _, _, _, _, _, _, by omega, rfl, heap_new W _, rfl⟩
            case body =>
              rintro l0 pre x a' W hl0 hrr ⟨hT, hbw, hall⟩ ⟨Bx, cs, u0, u1, u7, u8, u9, u10, u11, u12, u13, u14, u15, u16, u17, u18, u19, u20, u21, u22, u23, u24, u25, u26, u27, u28, u29, u30, u31, u32, u33, u34, u35, u36, u37, u38, u39, u40, u41, u42, u43, u44, u45, u46, hBx, hcs, hbx, rfl⟩ hlt
              obtain ⟨e, he, hin⟩ := x.2
              obtain ⟨kk, kn, ks, kq, kA, kc, rfl, hx2, _, _, _, _⟩ := hin.open
              rw [hx2] at hcs hin
              cases hcs
              obtain ⟨i, hi⟩ : ∃ i, i = x.1.1 := ⟨_, rfl⟩
              rw [← hi] at he ⊢
              have hsz := hbw.size
              have hil : i < l.length := (List.getElem?_eq_some_iff.1 he).1
              have hil' : i < l'.length := by have := HLL.out; omega
              have hiL : i < L := by have := HL.out; omega
              have HV := Lib.hid (cls_inV ((hin.below (hbw.mono (by omega))).more (by have := hT.below.size; omega)))
              obtain ⟨b', o', kk', kn', ks', kq', kA', kc', rfl, hbB', he', r0, r1, r2, r3, hvv'⟩ := (HK'.out.below hT.below).at_ hil'
              have HV' := Lib.hid (cls_inV (hvv'.more hT.below.size))
              have HC : Hid (E.count (.mk kk kn ks kq) ≤ m) := Lib.hid (by
                have h1 := E.count_lt (k := k) (n := n) (s := s) hil
                have h2 := HM.out
                rw [(List.getElem?_eq_some_iff.1 he).2] at h1; omega)
              obtain ⟨z0, z1, z2, z3⟩ := row4 hbx
              obtain ⟨_, _, _, y3⟩ := row4 hT.b1
              have f0 := cls_cell z0
              have f1 := cls_cell z1
              have f2 := cls_cell z2
              have f3 := cls_cell z3
              have f4 := cls_cell y3
              have g0 := cls_cell r0
              have g1 := cls_cell r1
              have g2 := cls_cell r2
              have g3 := cls_cell r3
              have HE1 := Lib.hid he
              have HE2 : Hid (l'[i]? = some (.mk kk' kn' ks' kq')) := Lib.hid (by rw [List.getElem?_eq_getElem hil', he'])
              have HT := Lib.hid hT
              have HBW := Lib.hid hbw
              have HALL := Lib.hid hall
              clear he he' hvv' hin hx2 r0 r1 r2 r3 z0 z1 z2 z3 y3 hT hbw hall
              have HI1 := Lib.hid hi
              clear hi
              gi_wp2_with fail
              refine round_class (by kernel_rfl) (by kernel_rfl) (by kernel_rfl) (drew_below _) ?_
              repeat (go_big_quiet_step ((go_at_call 13; exact cls_below _ (HI.out _ _ _ _ _ HC.out (HV.out _) (HV'.out _)))))
              refine wpQuiet_nil ?_
              intro wq hw'
              obtain ⟨⟨wq2, hq⟩, hw''⟩ := hw'
              subst hw''
              have hTq := HT.out.step hq
              have hbq := HBW.out.trans (hq.mono hsz)
              have hkq := keeps_below (B := W0.heap.size) hq
              have HQ := Lib.hid hq
              clear hq f0 f1 f2 f3 f4 g0 g1 g2 g3
              cases hf : E.same (.mk kk kn ks kq) (.mk kk' kn' ks' kq') with
              | false =>
                have HN : Hid (E.sames l l' = false) := Lib.hid (sames_one HLL.out HE1.out HE2.out hf)
                obtain ⟨hc2, hf2⟩ : wq.cell? ⟨w.heap.size + 1 + 1, 0, none⟩ = some (.bool false) ∧ wq.frozen? ⟨w.heap.size + 1 + 1, 0, none⟩ = false := ⟨cell_of_row _ _ 0 _ _ (0, 0) hTq.b2, frozen_of hTq.b2 0⟩
                clear hf
                gi_wp2_with fail
                exact ⟨hkq.trans ((KeepsOthers.setCell _ _ _).from _), hTq.set _, rfl, HN.out⟩
              | true =>
                have HN : Hid (AllSame l' (pre ++ [x])) := Lib.hid (fun y hy e d he hd => by
                  rcases List.mem_append.1 hy with h | h
                  · exact HALL.out y h e d he hd
                  · simp at h
                    subst h
                    rw [← HI1.out, HE1.out] at he
                    rw [← HI1.out, HE2.out] at hd
                    cases he; cases hd
                    exact hf)
                clear hf
                gi_wp2_with fail
                exact ⟨hkq, HQ.out.mono hsz, hTq, hbq, HN.out⟩
            case done =>
              rintro D xs W hD hS ⟨hT, hbw, hall⟩ hK
              have HN : Hid (E.same (.mk k n s l) (.mk k n s l') = true) := Lib.hid (by rw [HE.out]; exact sames_all HLL.out (by rw [hS, HL.out]) hall)
              obtain ⟨hc2, hf2⟩ : W.cell? ⟨w.heap.size + 1 + 1, 0, none⟩ = some (.bool false) ∧ W.frozen? ⟨w.heap.size + 1 + 1, 0, none⟩ = false := ⟨cell_of_row _ _ 0 _ _ (0, 0) hT.b2, frozen_of hT.b2 0⟩
              have HT := Lib.hid hT
              clear hS hall hT
              gi_wp2_with fail
              have hK' := (KeepsOthers.setCell W ⟨w.heap.size + 1 + 1, 0, none⟩ (.bool true)).same D _ hK rfl
              have hT' := HT.out.set (.bool true)
              refine ⟨by simp, .inl ⟨_, _, rfl, run_takeDeferred hK', ?_⟩⟩
              have g2 := cell_kept (cell_of_row _ _ 0 _ _ (0, 0) hT'.b2) (grownBy_putObj' _ D (.deferred none)) (fun r e => by cases e; exact ⟨_, hK', rfl⟩)
              refine ⟨.bool true, ?_, by rw [HN.out], hT'.below.trans (belowK_b (w := w) (Nat.le_refl _) _ D _ _ (by omega) hK' rfl rfl)⟩
              simp [results, Tryd.results13, go_sem] at g2 ⊢
              simp [go_sem, g2]
            case stop =>
              rintro D c0 pre W hD hS ⟨hT, rfl, hN⟩ hK
              have HN : Hid (E.same (.mk k n s l) (.mk k n s l') = false) := Lib.hid (by rw [HE.out]; exact hN)
              clear hN
              have HT := Lib.hid hT
              clear hT
              gi_wp2
              refine ⟨by simp, .inl ⟨_, _, rfl, run_takeDeferred hK, ?_⟩⟩
              have g2 := cell_kept (cell_of_row _ _ 0 _ _ (0, 0) HT.out.b2) (grownBy_putObj' _ D (.deferred none)) (fun r e => by cases e; exact ⟨_, hK, rfl⟩)
              refine ⟨.bool false, ?_, by rw [HN.out], HT.out.below.trans (belowK_b (w := w) (Nat.le_refl _) _ D _ _ (by omega) hK rfl rfl)⟩
              simp [results, Tryd.results13, go_sem] at g2 ⊢
              simp [go_sem, g2]
          · have HE : Hid (E.same (.mk k n s l) (.mk k n s l') = false) := Lib.hid (same_l (by rw [← HL.out, ← HL'.out]; exact h4))
            have e4 : ((L : Int) != (L' : Int)) = true := by simp; omega
            clear h4
            go_enter Tryd.func13, Tryd.ntmps13
            go_wp2_with fail
            exact bodyPost_ret (v := .bool false) (by simp [results, Tryd.results13, go_sem, res_new]) rfl ⟨by rw [HE.out], res_below _ _ _⟩
        · have HE : Hid (E.same (.mk k n s l) (.mk k n s' l') = false) := Lib.hid (same_s h3)
          have e3 := str_ne h3
          have e3' := str_neq h3
          clear h3
          go_enter Tryd.func13, Tryd.ntmps13
          go_wp2_with fail
          exact bodyPost_ret (v := .bool false) (by simp [results, Tryd.results13, go_sem, res_new]) rfl ⟨by rw [HE.out], res_below _ _ _⟩
      · have HE : Hid (E.same (.mk k n s l) (.mk k n' s' l') = false) := Lib.hid (same_n h2)
        have e2 : (n != n') = true := by simpa using h2
        clear h2
        go_enter Tryd.func13, Tryd.ntmps13
        go_wp2_with fail
        exact bodyPost_ret (v := .bool false) (by simp [results, Tryd.results13, go_sem, res_new]) rfl ⟨by rw [HE.out], res_below _ _ _⟩
    · have HE : Hid (E.same (.mk k n s l) (.mk k' n' s' l') = false) := Lib.hid (same_k h1)
      have e1 : (k != k') = true := by simpa using h1
      clear h1
      go_enter Tryd.func13, Tryd.ntmps13
      go_wp2_with fail
      exact bodyPost_ret (v := .bool false) (by simp [results, Tryd.results13, go_sem, res_new]) rfl ⟨by rw [HE.out], res_below _ _ _⟩
end Go.Proofs.YtdehpgdffafebaaDoor
