/- Whether an expression may be, as the program tells it. Conditions: the tables lie in memory. -/
import Derived.Test.YtdehpgdffafebaaDoorZah
import Derived.Test.YtdehpgdffafebaaDoorZag
namespace Go.Proofs.YtdehpgdffafebaaDoor
open Go.RowKit Go.Shelf
attribute [local go_sem] Oper.semAt_some
set_option linter.unusedVariables false

/-- Three boxes that lie behind what was there. -/
structure Trg (w : World) (ta : TypeId) (ca : Array Value) (tb : TypeId) (cb : Array Value) (tc : TypeId) (cc : Array Value) (W : World) : Prop where
  b0 : W.heap[w.heap.size]? = some (.cells ca ta (0, 0))
  b1 : W.heap[w.heap.size + 1]? = some (.cells cb tb (0, 0))
  b2 : W.heap[w.heap.size + 1 + 1]? = some (.cells cc tc (0, 0))
  below : Below w.heap.size w W
theorem Trg.own {β : Type} {w : World} {ta tb tc : TypeId} {ca cb cc : Array Value} {B : Nat} (hB : w.heap.size ≤ B) : OwnFrom B (fun (_ : β) W => Trg w ta ca tb cb tc cc W) :=
  fun s X Y row hs hg hr => ⟨row_own s X Y row hs.b0 hg hr, row_own s X Y row hs.b1 hg hr, row_own s X Y row hs.b2 hg hr, ownFrom_below (Nat.le_refl _) hB s X Y row hs.below hg hr⟩
theorem Trg.step {w : World} {ta tb tc : TypeId} {ca cb cc : Array Value} {W W' : World} (h : Trg w ta ca tb cb tc cc W) (hb : Below W.heap.size W W') : Trg w ta ca tb cb tc cc W' :=
  ⟨(hb.block _ (heap_lt h.b0)).trans h.b0, (hb.block _ (heap_lt h.b1)).trans h.b1, (hb.block _ (heap_lt h.b2)).trans h.b2, h.below.trans (hb.mono h.below.size)⟩
theorem Trg.set {w : World} {ta tb tc : TypeId} {ca cb : Array Value} {x : Value} {W : World} (h : Trg w ta ca tb cb tc #[x] W) (y : Value) : Trg w ta ca tb cb tc #[y] (W.setCell ⟨w.heap.size + 1 + 1, 0, none⟩ y) :=
  ⟨(heap_setCell_other W ⟨w.heap.size + 1 + 1, 0, none⟩ _ y (by show w.heap.size ≠ w.heap.size + 1 + 1; omega)).trans h.b0,
   (heap_setCell_other W ⟨w.heap.size + 1 + 1, 0, none⟩ _ y (by show w.heap.size + 1 ≠ w.heap.size + 1 + 1; omega)).trans h.b1,
   (heap_setCell_same W _ 0 _ _ y h.b2), h.below.setCell (p := ⟨w.heap.size + 1 + 1, 0, none⟩) (by show w.heap.size ≤ w.heap.size + 1 + 1; omega) _⟩
theorem heap_cell {W : World} {g : Nat} {x : Value} {t : TypeId} (h : W.heap[g]? = some (.cells #[x] t (0, 0))) : W.cell? ⟨g, 0, none⟩ = some x := cell_of_row _ _ 0 _ _ (0, 0) h
theorem trg_new (w : World) (ta tb tc : TypeId) (ca cb cc : Array Value) : Trg w ta ca tb cb tc cc (((w.alloc (.cells ca ta)).alloc (.cells cb tb)).alloc (.cells cc tc)) := by
  have h0 := heap_new w (.cells ca ta)
  have h1 := heap_new (w.alloc (.cells ca ta)) (.cells cb tb)
  have h2 := heap_new ((w.alloc (.cells ca ta)).alloc (.cells cb tb)) (.cells cc tc)
  simp only [World.size_alloc] at h1 h2
  refine ⟨?_, ?_, h2, ?_⟩
  · exact (Below.heap_alloc _ _ _ (by simp only [World.size_alloc]; omega)).trans ((Below.heap_alloc _ _ _ (by simp only [World.size_alloc]; omega)).trans h0)
  · exact (Below.heap_alloc _ _ _ (by simp only [World.size_alloc]; omega)).trans h1
  · exact (((Below.refl _ w).alloc (Nat.le_refl _) _).alloc (by simp only [World.size_alloc]; omega) _).alloc (by simp only [World.size_alloc]; omega) _

/-- All Kids that have come may stand there. -/
def AllOk (k d : Int) {B : Nat} {W0 : World} {l : List E} (pre : List (Kd B W0 l)) : Prop := ∀ x ∈ pre, ∀ e, l[x.1.1]? = some e → (E.kidOk k e.kind && E.rightD e d) = true
theorem oks_of {k d : Int} {l : List E} : ∀ q, (∀ i, q ≤ i → ∀ e, l[i]? = some e → (E.kidOk k e.kind && E.rightD e d) = true) → E.rightDs k (l.drop q) d = true := by
  intro q
  obtain ⟨r, hr⟩ : ∃ r, r = l.length - q := ⟨_, rfl⟩
  induction r generalizing q with
  | zero => intro _; exact E.rightDs_end (by omega)
  | succ r ih =>
    intro h
    have h1 : q < l.length := by omega
    have h2 := h q (Nat.le_refl _) _ (List.getElem?_eq_getElem h1)
    rw [E.rightDs_at h1, ih (q + 1) (by omega) (fun i hi => h i (by omega))]
    simpa [Bool.and_assoc] using h2
theorem oks_all {k d : Int} {l : List E} {B : Nat} {W0 : World} {xs : List (Kd B W0 l)} (hx : xs.map (fun x => x.1.1) = List.range l.length) (h : AllOk k d xs) : E.rightDs k l d = true := by
  have := oks_of (k := k) (d := d) (l := l) 0 (fun i _ e he => by
    have hi : i < l.length := (List.getElem?_eq_some_iff.1 he).1
    have hm : i ∈ xs.map (fun x => x.1.1) := by rw [hx]; exact List.mem_range.2 hi
    obtain ⟨x, hxm, rfl⟩ := List.mem_map.1 hm
    exact h x hxm e he)
  simpa using this
theorem oks_one {k d : Int} {l : List E} : ∀ {i : Nat} {e : E}, l[i]? = some e → (E.kidOk k e.kind && E.rightD e d) = false → E.rightDs k l d = false := by
  induction l with
  | nil => intro i e he; simp at he
  | cons a r ih =>
    intro i e he h
    rw [E.rightDs]
    cases i with
    | zero =>
      simp at he
      subst he
      rw [← Bool.and_assoc, h]; rfl
    | succ i =>
      simp at he
      rw [ih he h]; simp

def RtAx (w : World) {B : Nat} {W0 : World} {l : List E} (x : Kd B W0 l) (a' : Act) (W : World) : Prop :=
  ∃ Bx cs u0 u1 u5 u6 u7 u9 u10 u11 u12 u13 u14 u15 u16 u17 u18 u19 u20 u21 u22 u23 u24 u25 u26 u27 u28 u29 u30 u31 u32 u33 u34 u35 u36 u37 u38 u39 u40 u41 u42 u43 u44 u45 u46 u47 u48 u49, w.heap.size + 1 + 1 + 1 < Bx ∧ x.1.2 = .agg cs ∧ W.heap[Bx]? = some (.cells cs 24 (0, 0)) ∧
    a' = { tmps := #[u0, u1, .pointer (some ⟨w.heap.size, 0, none⟩), .pointer (some ⟨w.heap.size + 1, 0, none⟩), .pointer (some ⟨w.heap.size + 1 + 1, 0, none⟩), u5, u6, u7, .pointer (some ⟨Bx, 0, none⟩), u9, u10, u11, u12, u13, u14, u15, u16, u17, u18, u19, u20, u21, u22, u23, u24, u25, u26, u27, u28, u29, u30, u31, u32, u33, u34, u35, u36, u37, u38, u39, u40, u41, u42, u43, u44, u45, u46, u47, u48, u49], defers := [] }
theorem rtAx_own (w : World) {B : Nat} {W0 : World} {l : List E} (B' : Nat) (x : Kd B W0 l) (a' : Act) : OwnFrom B' (fun (_ : Unit) W => RtAx w x a' W) := by
  intro s X Y row hs hg hr
  obtain ⟨Bx, cs, u0, u1, u5, u6, u7, u9, u10, u11, u12, u13, u14, u15, u16, u17, u18, u19, u20, u21, u22, u23, u24, u25, u26, u27, u28, u29, u30, u31, u32, u33, u34, u35, u36, u37, u38, u39, u40, u41, u42, u43, u44, u45, u46, u47, u48, u49, h1, h2, h3, h4⟩ := hs
  exact ⟨Bx, cs, u0, u1, u5, u6, u7, u9, u10, u11, u12, u13, u14, u15, u16, u17, u18, u19, u20, u21, u22, u23, u24, u25, u26, u27, u28, u29, u30, u31, u32, u33, u34, u35, u36, u37, u38, u39, u40, u41, u42, u43, u44, u45, u46, u47, u48, u49, h1, h2, row_own (β := Unit) s X Y row h3 hg hr, h4⟩

abbrev cE (k n : Int) (s : ByteArray) (A : Option Addr) (L c : Nat) : Array Value := #[.int .i64 k, .int .i64 n, .string s, .slice A L c]
abbrev tE : TypeId := 24

set_option maxRecDepth 100000 in
set_option maxHeartbeats 4000000 in
theorem rightD_any : ∀ (m : Nat) (e : E) (v : Value) (d : Int) (w : World), E.count e ≤ m → InV w.heap.size w e v → 0 ≤ d → d ≤ 20 → Laid w → Calls Tryd.prog 18 #[v, .int .i64 d] w fun x w' => x = .returned (.bool (E.rightD e d)) ∧ Below w.heap.size w w' := by
  intro m
  induction m with
  | zero => intro e v d w h; have := E.count_pos e; omega
  | succ m ih =>
    intro e v d w hm hv hd0 hd1 hlaid
    obtain ⟨k, n, s, l, A, c, rfl, rfl, hn, hlc, hcm, hk⟩ := hv.open
    have hl1 : l.length ≤ 9223372036854775807 := by unfold maxLen at hcm; omega
    have HK : Hid (KidsIn w.heap.size w A l) := Lib.hid hk
    have HI := Lib.hid ih
    have HM := Lib.hid hm
    have HLD := Lib.hid hlaid
    have HNN := Lib.hid hn
    obtain ⟨L, hL⟩ : ∃ L, L = l.length := ⟨_, rfl⟩
    rw [← hL] at hlc hl1 ⊢
    have HL := Lib.hid hL
    clear hL hk hv hn hm ih hcm hlaid
    have HX := Lib.hid (trg_new w tE 3 4 (cE k n s A L c) #[.int .i64 d] #[.bool false])
    obtain ⟨W0, hW0⟩ : ∃ W0, W0 = (((w.alloc (.cells (cE k n s A L c) tE)).alloc (.cells #[.int .i64 d] 3)).alloc (.cells #[.bool false] 4)) := ⟨_, rfl⟩
    rw [← hW0] at HX
    obtain ⟨z0, z1, z2, z3⟩ := row4 HX.out.b0
    have y0 : W0.cell? ⟨w.heap.size + 1, 0, none⟩ = some (.int .i64 d) := cell_of_row _ _ 0 _ _ (0, 0) HX.out.b1
    obtain ⟨x0, x1⟩ : W0.cell? ⟨w.heap.size + 1 + 1, 0, none⟩ = some (.bool false) ∧ W0.frozen? ⟨w.heap.size + 1 + 1, 0, none⟩ = false := ⟨cell_of_row _ _ 0 _ _ (0, 0) HX.out.b2, frozen_of HX.out.b2 0⟩
    have HLD0 := Lib.hid (HLD.out.below HX.out.below)
    have HKO := Lib.hid (kidsOf_any k W0)
    have HRD : Hid (E.rightD (.mk k n s l) d = (E.isKind k && (decide (1 ≤ d) && (decide ((L : Int) = E.kidsN k) && (E.selfR k n s && E.rightDs k l (d - 1)))))) := Lib.hid (by rw [E.rightD, ← HL.out])
    have HRES : Hid (∀ W, Trg w tE (cE k n s A L c) 3 #[.int .i64 d] 4 #[.bool false] W → W.cell? ⟨w.heap.size + 1 + 1, 0, none⟩ = some (.bool false) ∧ W.frozen? ⟨w.heap.size + 1 + 1, 0, none⟩ = false) := Lib.hid (fun W h => ⟨cell_of_row _ _ 0 _ _ (0, 0) h.b2, frozen_of h.b2 0⟩)
    cases hki : E.isKind k with
    | false =>
      rw [hki] at HKO
      have HE : Hid (E.rightD (.mk k n s l) d = false) := Lib.hid (by rw [HRD.out, hki]; rfl)
      clear hki
      go_enter Tryd.func18, Tryd.ntmps18
      go_wp2_with fail
      rw [← hW0]
      clear hW0
      refine HKO.out.mono ?_
      rintro e w1 ⟨rfl, rfl⟩
      go_wp2_with fail
      exact bodyPost_ret (v := .bool false) (by simp [results, Tryd.results18, go_sem, (heap_cell (HX.out.set (.bool false)).b2)]) rfl ⟨by rw [HE.out], (HX.out.set (.bool false)).below⟩
    | true =>
      rw [hki] at HKO HRD
      clear hki
      by_cases hd : d < 1
      · have HE : Hid (E.rightD (.mk k n s l) d = false) := Lib.hid (by rw [HRD.out, decide_eq_false (by omega : ¬ 1 ≤ d)]; rfl)
        go_enter Tryd.func18, Tryd.ntmps18
        go_wp2_with fail
        rw [← hW0]
        clear hW0
        refine HKO.out.mono ?_
        rintro e w1 ⟨rfl, rfl⟩
        go_wp2_with fail
        exact bodyPost_ret (v := .bool false) (by simp [results, Tryd.results18, go_sem, (heap_cell (HX.out.set (.bool false)).b2)]) rfl ⟨by rw [HE.out], (HX.out.set (.bool false)).below⟩
      · have hd' : decide (d < 1) = false := by simpa using hd
        rw [decide_eq_true (by omega : 1 ≤ d)] at HRD
        by_cases hln : (L : Int) = E.kidsN k
        · have eln : ((L : Int) != E.kidsN k) = false := by simp [hln]
          rw [decide_eq_true hln] at HRD
          have HSF := Lib.hid (selfRight_any k n s A L c W0 HNN.out HLD0.out)
          cases hsf : E.selfR k n s with
          | false =>
            rw [hsf] at HSF
            have HE : Hid (E.rightD (.mk k n s l) d = false) := Lib.hid (by rw [HRD.out, hsf]; rfl)
            clear hsf hln
            go_enter Tryd.func18, Tryd.ntmps18
            go_wp2_with fail
            rw [← hW0]
            clear hW0
            refine HKO.out.mono ?_
            rintro e w1 ⟨rfl, rfl⟩
            go_wp2_with fail
            refine HSF.out.mono ?_
            rintro e w1 ⟨rfl, hb1⟩
            have HX1 := Lib.hid (HX.out.step hb1)
            obtain ⟨x0', x1'⟩ := HRES.out _ HX1.out
            clear z0 z1 z2 z3 y0 x0 x1
            go_wp2_with fail
            exact bodyPost_ret (v := .bool false) (by simp [results, Tryd.results18, go_sem, (heap_cell (HX1.out.set (.bool false)).b2)]) rfl ⟨by rw [HE.out], (HX1.out.set (.bool false)).below⟩
          | true =>
            rw [hsf] at HSF
            have HE : Hid (E.rightD (.mk k n s l) d = E.rightDs k l (d - 1)) := Lib.hid (by rw [HRD.out, hsf]; rfl)
            clear hsf hln
            have HE0 : Hid (E.rightD (.mk k n s l) d = E.rightDs k l (d - 1)) := HE
            refine (callsIn_wide (n := 9)).1 ?_
            refine callsIn_of_wp_marks Tryd.func18 rfl trivial ?_ rfl
            simp only [Tryd.ntmps18, List.size_toArray, List.length_cons, List.length_nil, Nat.reduceAdd, Nat.reduceSub, Array.replicate_succ, Array.replicate_zero, List.push_toArray, List.append_toArray, List.nil_append, List.cons_append]
            gi_wp2_with fail
            refine ⟨trivial, ?_⟩
            rw [← hW0]
            clear hW0
            refine (callsIn_wide.2 HKO.out).mono ?_
            rintro e w1 ⟨rfl, rfl⟩
            gi_wp2_with fail
            refine ⟨trivial, ?_⟩
            refine (callsIn_wide.2 HSF.out).mono ?_
            rintro e w2 ⟨rfl, hb1⟩
            have HX1 := Lib.hid (HX.out.step hb1)
            have HLD1 := Lib.hid (HLD0.out.below hb1)
            clear z0 z1 z2 z3 y0 x0 x1 HX HKO HSF HLD0
            obtain ⟨z0, z1, z2, z3⟩ := row4 HX1.out.b0
            gi_wp2_with fail
            refine ⟨trivial, ?_⟩
            refine (kids_in Fence.wide _ trivial rfl _ _ _ _ _).mono ?_
            rintro e w' ⟨rfl, rfl⟩
            gi_wp2_with fail
            have hw2 := HX1.out.below.size
            have hg2 := heap_lt HX1.out.b2
            have T0 := HX1.out.step ((Below.refl _ w2).alloc (Nat.le_refl _) (.cells (cE k n s A L c) tE))
            have hLD0 := HLD1.out.below ((Below.refl _ w2).alloc (Nat.le_refl _) (.cells (cE k n s A L c) tE))
            have bx0 := heap_new w2 (.cells (cE k n s A L c) tE)
            have sz0 : (w2.alloc (.cells (cE k n s A L c) tE)).heap.size = w2.heap.size + 1 := by simp
            obtain ⟨W0, hW0⟩ : ∃ W0, W0 = w2.alloc (.cells (cE k n s A L c) tE) := ⟨_, rfl⟩
            rw [← hW0] at T0 bx0 sz0 hLD0 ⊢
            clear hW0 z0 z1 z2 z3
            have hk0 : KidsIn w.heap.size W0 A l := HK.out.below T0.below
            refine wpIn_rangeFunc_ownH rfl (by omega) (gf := 43) (lb := #[.pointer (some ⟨w2.heap.size, 0, none⟩)]) rfl trivial (enters_of Tryd.func43 (by kernel_rfl) rfl)
              (kids_stops Fence.wide _ trivial rfl (by omega) w2.heap.size k n s A c w.heap.size W0.heap.size (by omega) l L HL.out W0 (Nat.le_refl _) hl1 hlc hk0 W0 (Below.refl _ _) bx0) belowK_t (belowK_b (Nat.le_refl _)) (Below.refl _ _) (fun _ => rfl)
              (fun pre W => Trg w tE (cE k n s A L c) 3 #[.int .i64 d] 4 #[.bool false] W ∧ Below W0.heap.size W0 W ∧ AllOk k (d - 1) pre)
              (fun c0 pre W => Trg w tE (cE k n s A L c) 3 #[.int .i64 d] 4 #[.bool false] W ∧ c0 = .ret ∧ E.rightDs k l (d - 1) = false)
              (OwnFrom.and (Trg.own (by omega)) (OwnFrom.and (ownFrom_below (Nat.le_refl _) (Nat.le_refl _)) (ownFrom_pure _ _)))
              (fun c0 => OwnFrom.and (Trg.own (by omega)) (ownFrom_pure _ _))
              ⟨T0, Below.refl _ _, fun x hx => by cases hx⟩ (RtAx w) (fun x a' => rtAx_own w _ x a') ?assign ?body ?done ?stop
            case assign =>
              rintro l0 pre ⟨⟨i, v⟩, e, he, hin⟩ W K ⟨hT, hbw, hall⟩ hK
              obtain ⟨kk, kn, ks, kq, kA, kc, rfl, rfl, _, _, _, _⟩ := hin.open
              have hsz := hbw.size
              gi_wp2
              exact hK _ _ ((KeepsOthers.alloc _ _).from _) ((Below.refl _ W).alloc hsz _) ⟨hT.step ((Below.refl _ W).alloc (Nat.le_refl _) _), hbw.alloc hsz _, hall⟩ ⟨W.heap.size, _, _, _, _, _, _, _, _, _, _, _, _, _, _, _, _, _, _, _, _, _, _, _, _, _, _, _, _, _, _, _, _, _, _, _, _, _, _, _, _, _, _, _, _, _, _, _, by omega, rfl, heap_new W _, rfl⟩
            case body =>
              rintro l0 pre x a' W hl0 hrr ⟨hT, hbw, hall⟩ ⟨Bx, cs, u0, u1, u5, u6, u7, u9, u10, u11, u12, u13, u14, u15, u16, u17, u18, u19, u20, u21, u22, u23, u24, u25, u26, u27, u28, u29, u30, u31, u32, u33, u34, u35, u36, u37, u38, u39, u40, u41, u42, u43, u44, u45, u46, u47, u48, u49, hBx, hcs, hbx, rfl⟩ hlt
              obtain ⟨e, he, hin⟩ := x.2
              obtain ⟨kk, kn, ks, kq, kA, kc, rfl, hx2, _, _, _, _⟩ := hin.open
              rw [hx2] at hcs hin
              cases hcs
              obtain ⟨i, hi⟩ : ∃ i, i = x.1.1 := ⟨_, rfl⟩
              rw [← hi] at he
              have hsz := hbw.size
              have hil : i < l.length := (List.getElem?_eq_some_iff.1 he).1
              have HV : Hid (InV W.heap.size W (.mk kk kn ks kq) (.agg #[.int .i64 kk, .int .i64 kn, .string ks, .slice kA kq.length kc])) := Lib.hid ((hin.below (hbw.mono (by omega))).more (by have := hT.below.size; omega))
              have HC : Hid (E.count (.mk kk kn ks kq) ≤ m) := Lib.hid (by
                have h1 := E.count_lt (k := k) (n := n) (s := s) hil
                have h2 := HM.out
                rw [(List.getElem?_eq_some_iff.1 he).2] at h1; omega)
              have HLW := Lib.hid (hLD0.below hbw)
              obtain ⟨z0, z1, z2, z3⟩ := row4 hbx
              obtain ⟨y0, _, _, _⟩ := row4 hT.b0
              have yd : W.cell? ⟨w.heap.size + 1, 0, none⟩ = some (.int .i64 d) := heap_cell hT.b1
              obtain ⟨hc2, hf2⟩ := HRES.out _ hT
              have HE1 := Lib.hid he
              have HI1 := Lib.hid hi
              have HT := Lib.hid hT
              have HBW := Lib.hid hbw
              have HALL := Lib.hid hall
              have HOK := Lib.hid (mayHold_any k kk W)
              clear he hin hx2 hT hbw hall hi
              gi_wp2_with fail
              refine ⟨trivial, ?_⟩
              refine (callsIn_wide.2 HOK.out).mono ?_
              rintro e w3 ⟨rfl, rfl⟩
              cases hok : E.kidOk k kk with
              | false =>
                have HN : Hid (E.rightDs k l (d - 1) = false) := Lib.hid (oks_one HE1.out (by show (E.kidOk k kk && _) = false; rw [hok]; rfl))
                clear hok
                gi_wp2_with fail
                refine ⟨trivial, ?_⟩
                gi_wp2_with fail
                exact ⟨(KeepsOthers.setCell _ _ _).from _, HT.out.set _, rfl, HN.out⟩
              | true =>
                gi_wp2_with fail
                refine ⟨trivial, ?_⟩
                refine (callsIn_wide.2 (HI.out _ _ (d - 1) _ HC.out HV.out (by omega) (by omega) HLW.out)).mono ?_
                rintro e w4 ⟨rfl, hb4⟩
                have hT4 := HT.out.step hb4
                obtain ⟨hc4, hf4⟩ := HRES.out _ hT4
                have hk4 := keeps_below (B := W0.heap.size) hb4
                cases hrd : E.rightD (.mk kk kn ks kq) (d - 1) with
                | false =>
                  have HN : Hid (E.rightDs k l (d - 1) = false) := Lib.hid (oks_one HE1.out (by show (E.kidOk k kk && _) = false; rw [hok, hrd]; rfl))
                  clear hok hrd
                  gi_wp2_with fail
                  exact ⟨hk4.trans ((KeepsOthers.setCell _ _ _).from _), hT4.set _, rfl, HN.out⟩
                | true =>
                  have HN : Hid (AllOk k (d - 1) (pre ++ [x])) := Lib.hid (fun y hy e he => by
                    rcases List.mem_append.1 hy with h | h
                    · exact HALL.out y h e he
                    · simp at h
                      subst h
                      rw [← HI1.out, HE1.out] at he
                      cases he
                      show (E.kidOk k kk && _) = true
                      rw [hok, hrd]; rfl)
                  clear hok hrd
                  gi_wp2_with fail
                  exact ⟨hk4, hb4.mono hsz, hT4, HBW.out.trans (hb4.mono hsz), HN.out⟩
            case done =>
              rintro D xs W hD hS ⟨hT, hbw, hall⟩ hK
              have HN : Hid (E.rightD (.mk k n s l) d = true) := Lib.hid (by rw [HE0.out]; exact oks_all (by rw [hS, HL.out]) hall)
              obtain ⟨hc2, hf2⟩ := HRES.out _ hT
              have HT := Lib.hid hT
              clear hS hall hT
              gi_wp2_with fail
              have hK' := (KeepsOthers.setCell W ⟨w.heap.size + 1 + 1, 0, none⟩ (.bool true)).same D _ hK rfl
              have hT' := HT.out.set (.bool true)
              refine ⟨by simp, .inl ⟨_, _, rfl, run_takeDeferred hK', ?_⟩⟩
              have g2 := cell_kept (heap_cell hT'.b2) (grownBy_putObj' _ D (.deferred none)) (fun r e => by cases e; exact ⟨_, hK', rfl⟩)
              refine ⟨.bool true, ?_, by rw [HN.out], hT'.below.trans (belowK_b (w := w) (Nat.le_refl _) _ D _ _ (by omega) hK' rfl rfl)⟩
              simp [results, Tryd.results18, go_sem] at g2 ⊢
              simp [go_sem, g2]
            case stop =>
              rintro D c0 pre W hD hS ⟨hT, rfl, hN⟩ hK
              have HN : Hid (E.rightD (.mk k n s l) d = false) := Lib.hid (by rw [HE0.out]; exact hN)
              clear hN
              have HT := Lib.hid hT
              clear hT
              gi_wp2
              refine ⟨by simp, .inl ⟨_, _, rfl, run_takeDeferred hK, ?_⟩⟩
              have g2 := cell_kept (heap_cell HT.out.b2) (grownBy_putObj' _ D (.deferred none)) (fun r e => by cases e; exact ⟨_, hK, rfl⟩)
              refine ⟨.bool false, ?_, by rw [HN.out], HT.out.below.trans (belowK_b (w := w) (Nat.le_refl _) _ D _ _ (by omega) hK rfl rfl)⟩
              simp [results, Tryd.results18, go_sem] at g2 ⊢
              simp [go_sem, g2]
        · have eln : ((L : Int) != E.kidsN k) = true := by simpa using hln
          have HE : Hid (E.rightD (.mk k n s l) d = false) := Lib.hid (by rw [HRD.out, decide_eq_false hln]; rfl)
          clear hln
          go_enter Tryd.func18, Tryd.ntmps18
          go_wp2_with fail
          rw [← hW0]
          clear hW0
          refine HKO.out.mono ?_
          rintro e w1 ⟨rfl, rfl⟩
          go_wp2_with fail
          exact bodyPost_ret (v := .bool false) (by simp [results, Tryd.results18, go_sem, (heap_cell (HX.out.set (.bool false)).b2)]) rfl ⟨by rw [HE.out], (HX.out.set (.bool false)).below⟩

theorem right_any (e : E) (v : Value) (w : World) (hc : E.count e ≤ 4611686018427387904) (hv : InV w.heap.size w e v) (hL : Laid w) : Calls Tryd.prog 9 #[v] w fun x w' => x = .returned (.bool (E.right e)) ∧ Below w.heap.size w w' := by
  have HE := Lib.hid (E.right_eq e)
  obtain ⟨k, n, s, l, A, c, -, rfl, -, -, -, -⟩ := hv.open
  have hbx : Below w.heap.size w (w.alloc (.cells (cE k n s A l.length c) tE)) := (Below.refl _ _).alloc (Nat.le_refl _) _
  have HR := Lib.hid (rightD_any _ e _ 20 _ (Nat.le_refl _) ((hv.below hbx).more hbx.size) (by omega) (by omega) (hL.below hbx))
  clear hv
  go_enter Tryd.func9, Tryd.ntmps9
  go_wp2_with fail
  refine HR.out.mono ?_
  rintro e' w1 ⟨rfl, hb1⟩
  go_wp2_with fail
  go_ret
  exact ⟨by rw [← HE.out]; rfl, hbx.trans (hb1.mono hbx.size)⟩

theorem dec20 (x : Nat) : decide ((x : Int) ≤ 20) = decide (x ≤ 20) := by rw [decide_eq_decide]; omega
theorem refRight_any (e : E) (v : Value) (w : World) (hc : E.count e ≤ 4611686018427387904) (hv : InV w.heap.size w e v) : Calls Tryd.prog 10 #[v] w fun x w' => x = .returned (.bool (E.right e)) ∧ Below w.heap.size w w' := by
  obtain ⟨k, n, s, l, A, c, -, rfl, -, -, -, -⟩ := hv.open
  have hbx : Below w.heap.size w (w.alloc (.cells (cE k n s A l.length c) tE)) := (Below.refl _ _).alloc (Nat.le_refl _) _
  have hbox := heap_new w (.cells (cE k n s A l.length c) tE)
  have HV : Hid (∀ W, Below (w.alloc (.cells (cE k n s A l.length c) tE)).heap.size (w.alloc (.cells (cE k n s A l.length c) tE)) W → InV W.heap.size W e (.agg #[.int .i64 k, .int .i64 n, .string s, .slice A l.length c])) :=
    Lib.hid (fun W hb => (((hv.below hbx).more hbx.size).below hb).more hb.size)
  have HF := Lib.hid (form_any _ e _ _ (Nat.le_refl _) (HV.out _ (Below.refl _ _)))
  clear hv
  go_enter Tryd.func10, Tryd.ntmps10
  go_wp2_with fail
  refine HF.out.mono ?_
  rintro e' w1 ⟨rfl, hb1⟩
  have hbe := hbx.trans (hb1.mono hbx.size)
  cases hf : E.form e with
  | false =>
    have HE : Hid (E.right e = false) := Lib.hid (by unfold E.right; rw [hf]; rfl)
    clear hf
    go_wp2_with fail
    go_ret
    exact ⟨by rw [HE.out]; rfl, hbe⟩
  | true =>
    have HE : Hid (E.right e = decide (E.deep e ≤ 20)) := Lib.hid (by unfold E.right; rw [hf]; rfl)
    clear hf
    obtain ⟨z0, z1, z2, z3⟩ := row4 ((hb1.block _ (heap_lt hbox)).trans hbox)
    have HD := Lib.hid (deep_any _ e _ _ (Nat.le_refl _) hc (HV.out _ hb1))
    go_wp2_with fail
    refine HD.out.mono ?_
    rintro e' w2 ⟨rfl, hb2⟩
    go_wp2_with fail
    go_ret
    exact ⟨by rw [HE.out, ← dec20]; rfl, hbe.trans (hb2.mono hbe.size)⟩
end Go.Proofs.YtdehpgdffafebaaDoor
