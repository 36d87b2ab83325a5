/- How an expression is written, as the program tells it: the range over its Kids. Conditions: the tables lie in memory; there are at most 1048576 expressions in it. -/
import Derived.Test.YtdehpgdffafebaaDoorZal
import Derived.Test.YtdehpgdffafebaaDoorZam
namespace Go.Proofs.YtdehpgdffafebaaDoor
open Go.RowKit Go.Shelf
open Go.Lib (decDigits itoa)
attribute [local go_sem] Oper.semAt_some
set_option linter.unusedVariables false

/-- How a Kid that has come is written. -/
def tbOf (k : Int) {B : Nat} {W0 : World} {l : List E} (x : Kd B W0 l) : ByteArray := match l[x.1.1]? with | some e => ktB e (leastI k x.1.1) | none => ⟨#[]⟩
/-- How the Kids are written, from a place on. -/
def tbs (k : Int) : Nat → List E → List ByteArray
  | _, [] => []
  | i, e :: r => ktB e (leastI k i) :: tbs k (i + 1) r
theorem tbs_len (k : Int) : ∀ (i : Nat) (l : List E), (tbs k i l).length = l.length
  | _, [] => by rw [tbs]; rfl
  | i, e :: r => by rw [tbs, List.length_cons, List.length_cons, tbs_len k (i + 1) r]
theorem tbs_of (k : Int) (l : List E) : ∀ q, (List.range' q (l.length - q)).map (fun i => match l[i]? with | some e => ktB e (leastI k i) | none => ⟨#[]⟩) = tbs k q (l.drop q) := by
  intro q
  obtain ⟨r, hr⟩ : ∃ r, r = l.length - q := ⟨_, rfl⟩
  induction r generalizing q with
  | zero => rw [← hr, List.drop_eq_nil_of_le (by omega), tbs]; rfl
  | succ r ih =>
    have h1 : q < l.length := by omega
    rw [← hr, List.range'_succ, List.map_cons, List.drop_eq_getElem_cons h1, tbs, ← ih (q + 1) (by omega), List.getElem?_eq_getElem h1, show l.length - (q + 1) = r by omega]
theorem tbs_all {k : Int} {l : List E} {B : Nat} {W0 : World} {xs : List (Kd B W0 l)} (hx : xs.map (fun x => x.1.1) = List.range l.length) : xs.map (tbOf k) = tbs k 0 l := by
  have h := tbs_of k l 0
  rw [List.drop_zero, Nat.sub_zero, ← List.range_eq_range', ← hx, List.map_map] at h
  exact h

theorem txB_plain {k : Int} (h : k = 3 ∨ k = 4 ∨ k = 5) (n : Int) (s : ByteArray) : txB (.mk k n s []) = plT k := by
  rcases h with rfl | rfl | rfl
  · exact (txB_3 n s []).trans rfl
  · exact (txB_4 n s []).trans rfl
  · exact (txB_5 n s []).trans rfl
theorem txB_join (k n : Int) (s : ByteArray) (x y : E) (h : isSign k = true) : (ByteArray.mk (Lib.join ([ktB x (leastI k 0), ktB y (leastI k 1)].map (·.data.toList)) (ByteArray.mk #[32] ++ sgT k ++ ByteArray.mk #[32]).data.toList).toArray) = txB (.mk k n s [x, y]) := by
  rw [txB_sign _ _ _ _ _ h]
  apply ba_ext
  rw [ba_app, ba_app, ba_app, ba_app, ba_app, ba_app]
  simp [Lib.join_cons, Lib.joinTail]

/-- Between two rounds. -/
def TxI (w : World) (ce : Array Value) (k : Int) {B : Nat} {W0 : World} {l : List E} (pre : List (Kd B W0 l)) (W : World) : Prop :=
  (∃ v, W.heap[w.heap.size + 1]? = some (.cells #[v] 27 (0, 0)) ∧ OwnT W (w.heap.size + 2) v (pre.map (tbOf k))) ∧ W.heap[w.heap.size]? = some (.cells ce tE (0, 0)) ∧ Below w.heap.size w W
theorem txI_own {w : World} {ce : Array Value} {k : Int} {B : Nat} {W0 : World} {l : List E} {B' : Nat} (hw : w.heap.size ≤ B') : OwnFrom B' (fun (pre : List (Kd B W0 l)) W => TxI w ce k pre W) := by
  rintro pre X Y row ⟨⟨v, hb, ho⟩, hx, hbw⟩ hg hr
  exact ⟨⟨v, row_own pre X Y row hb hg hr, ownT_row ho hg (fun r e => (hr r e).2)⟩, row_own pre X Y row hx hg hr, hbw.grown hg hbw.size (fun r e => Nat.le_trans hw (hr r e).1)⟩

def TxAx (w : World) {B : Nat} {W0 : World} {l : List E} (x : Kd B W0 l) (a' : Act) (W : World) : Prop :=
  ∃ Bx cs u0 u2 u6 u7 u8 u9 u10 u11 u12 u13 u14 u15 u16 u17 u18 u19 u20 u21 u22 u23 u24 u25 u26 u27 u28 u29 u30 u31 u32 u33 u34 u35 u36 u37 u38 u39 u40 u41 u42 u43 u44 u45 u46 u47 u48 u49 u50 u51 u52 u53 u54 u55 u56 u57 u58 u59 u60 u61 u62 u63 u64 u65 u66 u67 u68 u69 u70 u71 u72, w.heap.size + 1 < Bx ∧ x.1.2 = .agg cs ∧ W.heap[Bx]? = some (.cells cs 24 (0, 0)) ∧
    a' = { tmps := #[u0, .pointer (some ⟨w.heap.size, 0, none⟩), u2, .pointer (some ⟨w.heap.size + 1, 0, none⟩), .int .i64 x.1.1, .pointer (some ⟨Bx, 0, none⟩), u6, u7, u8, u9, u10, u11, u12, u13, u14, u15, u16, u17, u18, u19, u20, u21, u22, u23, u24, u25, u26, u27, u28, u29, u30, u31, u32, u33, u34, u35, u36, u37, u38, u39, u40, u41, u42, u43, u44, u45, u46, u47, u48, u49, u50, u51, u52, u53, u54, u55, u56, u57, u58, u59, u60, u61, u62, u63, u64, u65, u66, u67, u68, u69, u70, u71, u72], defers := [] }
theorem txAx_own (w : World) {B : Nat} {W0 : World} {l : List E} (B' : Nat) (x : Kd B W0 l) (a' : Act) : OwnFrom B' (fun (_ : Unit) W => TxAx w x a' W) := by
  intro s X Y row hs hg hr
  obtain ⟨Bx, cs, u0, u2, u6, u7, u8, u9, u10, u11, u12, u13, u14, u15, u16, u17, u18, u19, u20, u21, u22, u23, u24, u25, u26, u27, u28, u29, u30, u31, u32, u33, u34, u35, u36, u37, u38, u39, u40, u41, u42, u43, u44, u45, u46, u47, u48, u49, u50, u51, u52, u53, u54, u55, u56, u57, u58, u59, u60, u61, u62, u63, u64, u65, u66, u67, u68, u69, u70, u71, u72, h1, h2, h3, h4⟩ := hs
  exact ⟨Bx, cs, u0, u2, u6, u7, u8, u9, u10, u11, u12, u13, u14, u15, u16, u17, u18, u19, u20, u21, u22, u23, u24, u25, u26, u27, u28, u29, u30, u31, u32, u33, u34, u35, u36, u37, u38, u39, u40, u41, u42, u43, u44, u45, u46, u47, u48, u49, u50, u51, u52, u53, u54, u55, u56, u57, u58, u59, u60, u61, u62, u63, u64, u65, u66, u67, u68, u69, u70, u71, u72, h1, h2, row_own (β := Unit) s X Y row h3 hg hr, h4⟩

theorem cells1 {W : World} {g : Nat} {x : Value} (h : W.cell? ⟨g, 0, none⟩ = some x) : ∀ (j : Nat) (u : Value), [x][j]? = some u → W.cell? ((⟨g, 0, none⟩ : Addr).add j) = some u := by
  intro j u hu
  have hj : j < 1 := by
    have := (List.getElem?_eq_some_iff.1 hu).1
    simpa using this
  obtain rfl : j = 0 := by omega
  simp at hu
  subst hu
  exact h
theorem rep_getD (m d : Nat) : (Array.replicate m false).getD d false = false := by
  cases h : (Array.replicate m false).getD d false with
  | false => rfl
  | true =>
    exfalso
    simp only [Array.getD_eq_getD_getElem?, Array.getElem?_replicate] at h
    split at h <;> simp at h
theorem set_self {d : Array Bool} {i : Nat} (h : d.getD i true = false) : (d.setIfInBounds i true).getD i false = true := by
  have : i < d.size := by
    rcases Nat.lt_or_ge i d.size with g | g
    · exact g
    · unfold Array.getD at h
      rw [dif_neg (by omega)] at h
      cases h
  simp only [Array.getD_eq_getD_getElem?]
  rw [Array.getElem?_setIfInBounds_self_of_lt this]; rfl
theorem st {p : Prop} {d : Array Bool} {x j : Nat} {v : Bool} (hd : x ≠ j) (h : d.getD x false = v → p) : (d.setIfInBounds j true).getD x false = v → p := fun g => h (by rwa [getD_set hd] at g)
theorem no_rep {p : Prop} {m x : Nat} : (Array.replicate m false).getD x false = true → p := fun h => by rw [rep_getD] at h; cases h
theorem no_self {p : Prop} {d : Array Bool} {i : Nat} (h : d.getD i true = false) : (d.setIfInBounds i true).getD i false = false → p := fun g => by rw [set_self h] at g; cases g

/-- What holds between the operations of the region: what each that has run has given, and how far the memory is. -/
def TxR (w W : World) (V2 : Value) (base : Nat) (acc : List ByteArray) (k i b : Int) (X : ByteArray) (kid : Value) (fr : Value → Value → Value → Value → Value → Value → Value → Value → Value → Act) (d : Array Bool) (a : Act) (W' : World) : Prop :=
  ∃ s12 s13 s14 s15 s16 s17 s18 s19 s20, a = fr s12 s13 s14 s15 s16 s17 s18 s19 s20 ∧ (d.getD 0 false = true → s12 = V2) ∧ (d.getD 1 false = true → s13 = kid) ∧ (d.getD 2 false = true → s14 = .pointer (some ⟨w.heap.size, 0, none⟩)) ∧ (d.getD 3 false = true → s15 = .int .i64 k) ∧
    (d.getD 4 false = true → s16 = .int .i64 i) ∧ (d.getD 5 false = true → s17 = .int .i64 b) ∧ (d.getD 6 false = true → s18 = .string X) ∧
    (d.getD 8 false = false → Below W.heap.size W W') ∧
    (d.getD 8 false = false → d.getD 7 false = true → ∃ g, s19 = .slice (some ⟨g, 0, none⟩) 1 1 ∧ g < W'.heap.size ∧ W'.cell? ⟨g, 0, none⟩ = some (.string X)) ∧
    (d.getD 8 false = true → d.getD 9 false = false → OwnT W' base s20 (acc ++ [X]) ∧ ∃ W1, Below W.heap.size W W1 ∧ W1.grownBy W' V2.ownBlock) ∧
    (d.getD 9 false = true → ∃ W1 W2 v, Below W.heap.size W W1 ∧ OwnT W2 base v (acc ++ [X]) ∧ W1.grownBy W2 V2.ownBlock ∧ W' = W2.setCell ⟨w.heap.size + 1, 0, none⟩ v)

set_option maxRecDepth 100000 in
set_option maxHeartbeats 8000000 in
theorem text_step (m : Nat) (hm : m ≤ 1048576) (ih : TxC m) (k n : Int) (s : ByteArray) (l : List E) (A : Option Addr) (c : Nat) (w : World) (hkids : ∀ (i : Nat) (x : E), l[i]? = some x → E.count x ≤ m ∧ E.form x = true) (hform : E.form (.mk k n s l) = true) (hll : l.length ≤ 2) (hnn : -9223372036854775808 ≤ n ∧ n ≤ 9223372036854775807) (hlc : l.length ≤ c) (hk : KidsIn w.heap.size w A l) (hlaid : Laid w) :
    Calls Tryd.prog 21 #[.agg (cE k n s A l.length c)] w fun x w' => x = .returned (.string (txB (.mk k n s l))) ∧ Below w.heap.size w w' := by
  obtain ⟨i0, hi, hz0, hz1, hz2⟩ := info_parts str_info
  have hmx : Tryd.prog.follows .mixedOrders = true := by kernel_rfl
  have HK : Hid (KidsIn w.heap.size w A l) := Lib.hid hk
  have HKS := Lib.hid hkids
  have HLD := Lib.hid hlaid
  have HKT : Hid (∀ (e : E) (v : Value) (q : Int) (W : World), E.count e ≤ m → E.form e = true → InV W.heap.size W e v → Laid W → Calls Tryd.prog 35 #[v, .int .i64 q] W fun x w' => x = .returned (.string (ktB e q)) ∧ Below W.heap.size W w') := Lib.hid (fun e v q W h1 h2 h3 h4 => kidText_any m hm ih e v q W h1 h2 h3 h4)
  have hl1 : l.length ≤ 9223372036854775807 := by omega
  obtain ⟨L, hL⟩ : ∃ L, L = l.length := ⟨_, rfl⟩
  rw [← hL] at hlc hl1 hll ⊢
  have HL := Lib.hid hL
  have HFORM := Lib.hid hform
  clear hk hkids hlaid hform hL
  have hb0 : (((w.alloc (.cells (cE k n s A L c) tE)).alloc (.cells #[.slice none 0 0] 27)).alloc (.cells (cE k n s A L c) tE)).heap[w.heap.size]? = some (.cells (cE k n s A L c) tE (0, 0)) :=
    (Below.heap_alloc _ _ _ (by simp only [World.size_alloc]; omega)).trans ((Below.heap_alloc _ _ _ (by simp only [World.size_alloc]; omega)).trans (heap_new w (.cells (cE k n s A L c) tE)))
  have hb1 : (((w.alloc (.cells (cE k n s A L c) tE)).alloc (.cells #[.slice none 0 0] 27)).alloc (.cells (cE k n s A L c) tE)).heap[w.heap.size + 1]? = some (.cells #[.slice none 0 0] 27 (0, 0)) := by
    refine (Below.heap_alloc _ _ _ (by simp only [World.size_alloc]; omega)).trans ?_
    have := heap_new (w.alloc (.cells (cE k n s A L c) tE)) (.cells #[.slice none 0 0] 27)
    rwa [World.size_alloc] at this
  have hb2 : (((w.alloc (.cells (cE k n s A L c) tE)).alloc (.cells #[.slice none 0 0] 27)).alloc (.cells (cE k n s A L c) tE)).heap[w.heap.size + 1 + 1]? = some (.cells (cE k n s A L c) tE (0, 0)) := by
    have := heap_new ((w.alloc (.cells (cE k n s A L c) tE)).alloc (.cells #[.slice none 0 0] 27)) (.cells (cE k n s A L c) tE)
    rwa [World.size_alloc, World.size_alloc] at this
  have hbel : Below w.heap.size w (((w.alloc (.cells (cE k n s A L c) tE)).alloc (.cells #[.slice none 0 0] 27)).alloc (.cells (cE k n s A L c) tE)) := (((Below.refl _ w).alloc (Nat.le_refl _) _).alloc (by simp only [World.size_alloc]; omega) _).alloc (by simp only [World.size_alloc]; omega) _
  refine (callsIn_wide (n := 9)).1 ?_
  refine callsIn_of_wp_marks Tryd.func21 rfl trivial ?_ rfl
  simp only [Tryd.ntmps21, List.size_toArray, List.length_cons, List.length_nil, Nat.reduceAdd, Nat.reduceSub, Array.replicate_succ, Array.replicate_zero, List.push_toArray, List.append_toArray, List.nil_append, List.cons_append]
  have hW1 : (w.alloc (.cells (cE k n s A L c) tE)).cell? ⟨w.heap.size, 0, none⟩ = some (.int .i64 k) := cell_of_row _ _ 0 _ _ (0, 0) (heap_new w _)
  gi_wp2_with fail
  refine ⟨trivial, ?_⟩
  refine (kids_in Fence.wide _ trivial rfl _ _ _ _ _).mono ?_
  rintro e w' ⟨rfl, rfl⟩
  gi_wp2_with fail
  obtain ⟨W0, hW0⟩ : ∃ W0, W0 = (((w.alloc (.cells (cE k n s A L c) tE)).alloc (.cells #[.slice none 0 0] 27)).alloc (.cells (cE k n s A L c) tE)) := ⟨_, rfl⟩
  have hsz0 : W0.heap.size = w.heap.size + 1 + 1 + 1 := by rw [hW0]; simp
  rw [← hW0] at hb0 hb1 hb2 hbel ⊢
  clear hW0 hW1
  have hT0 : TxI w (cE k n s A L c) k ([] : List (Kd w.heap.size w l)) W0 := ⟨⟨_, hb1, World.ownsRow_nil _ _ _ _⟩, hb0, hbel⟩
  refine wpIn_rangeFunc_ownH rfl (by omega) (gf := 43) (lb := #[.pointer (some ⟨w.heap.size + 1 + 1, 0, none⟩)]) rfl trivial (enters_of Tryd.func43 (by kernel_rfl) rfl)
    (kids_stops Fence.wide _ trivial rfl (by omega) (w.heap.size + 1 + 1) k n s A c w.heap.size w.heap.size (Nat.le_refl _) l L HL.out w (Nat.le_refl _) hl1 hlc HK.out W0 hbel hb2) belowK_t (belowK_b (by omega)) (Below.refl _ _) (fun _ => rfl)
    (TxI w (cE k n s A L c) k) (fun _ _ _ => False) (txI_own (by omega)) (fun _ _ _ _ _ hs _ _ => hs)
    hT0 (TxAx w) (fun x a' => txAx_own w _ x a') ?assign ?body ?done ?stop
  case assign =>
    rintro l0 pre ⟨⟨i, v⟩, e, he, hin⟩ W K ⟨⟨u2, hb, ho⟩, hx, hbw⟩ hK
    obtain ⟨kk, kn, ks, kq, kA, kc, rfl, rfl, _, _, _, _⟩ := hin.open
    have hlt := heap_lt hb
    gi_wp2
    exact hK _ _ ((KeepsOthers.alloc _ _).from _) ((Below.refl _ W).alloc hbw.size _) ⟨⟨u2, (Below.heap_alloc W _ _ hlt).trans hb, ho.alloc _⟩, (Below.heap_alloc W _ _ (heap_lt hx)).trans hx, hbw.alloc hbw.size _⟩ ⟨W.heap.size, _, _, _, _, _, _, _, _, _, _, _, _, _, _, _, _, _, _, _, _, _, _, _, _, _, _, _, _, _, _, _, _, _, _, _, _, _, _, _, _, _, _, _, _, _, _, _, _, _, _, _, _, _, _, _, _, _, _, _, _, _, _, _, _, _, _, _, _, _, _, by omega, rfl, heap_new W _, rfl⟩
  case body =>
    rintro l0 pre x a' W hl0 hrr ⟨⟨u2, hb, ho⟩, hx, hbw⟩ ⟨Bx, cs, u0, u2, u6, u7, u8, u9, u10, u11, u12, u13, u14, u15, u16, u17, u18, u19, u20, u21, u22, u23, u24, u25, u26, u27, u28, u29, u30, u31, u32, u33, u34, u35, u36, u37, u38, u39, u40, u41, u42, u43, u44, u45, u46, u47, u48, u49, u50, u51, u52, u53, u54, u55, u56, u57, u58, u59, u60, u61, u62, u63, u64, u65, u66, u67, u68, u69, u70, u71, u72, hBx, hcs, hbx, rfl⟩ hlt
    obtain ⟨e, he, hin⟩ := x.2
    obtain ⟨kk, kn, ks, kq, kA, kc, rfl, hx2, _, _, _, _⟩ := hin.open
    rw [hx2] at hcs hin
    cases hcs
    have HTB : Hid (tbOf k x = ktB (.mk kk kn ks kq) (leastI k x.1.1)) := Lib.hid (by unfold tbOf; rw [he])
    obtain ⟨hc1, hf1⟩ := HKS.out _ _ he
    have HC1 := Lib.hid hc1
    have HF1 := Lib.hid hf1
    obtain ⟨X, hX⟩ : ∃ X, X = ktB (.mk kk kn ks kq) (leastI k x.1.1) := ⟨_, rfl⟩
    rw [← hX] at HTB
    have hplen : (pre.map (tbOf k)).length ≤ 2 := by rw [List.length_map]; omega
    obtain ⟨i, hi'⟩ : ∃ i, i = x.1.1 := ⟨_, rfl⟩
    rw [← hi'] at hX ⊢
    obtain ⟨b, hbb⟩ : ∃ b, b = leastI k i := ⟨_, rfl⟩
    rw [← hbb] at hX
    have HV : Hid (InV w.heap.size W (.mk kk kn ks kq) (.agg #[.int .i64 kk, .int .i64 kn, .string ks, .slice kA kq.length kc])) := Lib.hid (hin.below hbw)
    obtain ⟨kL, hkL⟩ : ∃ kL, kL = kq.length := ⟨_, rfl⟩
    rw [← hkL] at HV hbx
    have HLS : Hid (∀ p : InC (Below W.heap.size W), Calls Tryd.prog 36 #[.int .i64 k, .int .i64 (i : Int)] p.w fun x w' => x = .returned (.int .i64 b) ∧ ∃ q : InC (Below W.heap.size W), w' = q.w) := Lib.hid (fun p => by
      rw [hbb]; exact cls_below p (least_any k i p.w ((HLD.out.below (hbw.trans (p.ok.mono hbw.size))).signs)))
    have HKT' : Hid (∀ p : InC (Below W.heap.size W), Calls Tryd.prog 35 #[.agg #[.int .i64 kk, .int .i64 kn, .string ks, .slice kA kL kc], .int .i64 b] p.w fun x w' => x = .returned (.string X) ∧ ∃ q : InC (Below W.heap.size W), w' = q.w) := Lib.hid (fun p => by
      rw [hX]; exact cls_below p (HKT.out _ _ b p.w HC1.out HF1.out ((HV.out.more hbw.size).below p.ok |>.more p.ok.size) (HLD.out.below (hbw.trans (p.ok.mono hbw.size)))))
    have HBW := Lib.hid hbw
    have HB := Lib.hid hb
    have HX := Lib.hid hx
    have HO := Lib.hid ho
    have HBX := Lib.hid hbx
    obtain ⟨A2, n2, c2, rfl⟩ := ownT_slice ho
    have hsW := hbw.size
    have hgW := heap_lt hb
    have hXX := Lib.hid hX
    obtain ⟨acc, hacc⟩ : ∃ acc, acc = pre.map (tbOf k) := ⟨_, rfl⟩
    rw [← hacc] at HO hplen
    have HACC := Lib.hid hacc
    clear hX hbb hi' hb ho hx hbw hc1 hf1 he hin hx2 hbx hacc hkL
    gi_wp2_with fail
    refine regionIn_inv hmx (TxR w W (.slice A2 n2 c2) (w.heap.size + 2) acc k i b X (.agg #[.int .i64 kk, .int .i64 kn, .string ks, .slice kA kL kc]) (fun s12 s13 s14 s15 s16 s17 s18 s19 s20 => { tmps := #[u0, .pointer (some ⟨w.heap.size, 0, none⟩), u2, .pointer (some ⟨w.heap.size + 1, 0, none⟩), .int .i64 i, .pointer (some ⟨Bx, 0, none⟩), u6, u7, u8, u9, u10, u11, s12, s13, s14, s15, s16, s17, s18, s19, s20, u21, u22, u23, u24, u25, u26, u27, u28, u29, u30, u31, u32, u33, u34, u35, u36, u37, u38, u39, u40, u41, u42, u43, u44, u45, u46, u47, u48, u49, u50, u51, u52, u53, u54, u55, u56, u57, u58, u59, u60, u61, u62, u63, u64, u65, u66, u67, u68, u69, u70, u71, u72], defers := [] })) (by kernel_rfl) ?step ?fin ?ini
    case ini => exact ⟨_, _, _, _, _, _, _, _, _, rfl, no_rep, no_rep, no_rep, no_rep, no_rep, no_rep, no_rep, fun _ => drew_below W, fun _ => no_rep, no_rep, no_rep⟩
    case fin =>
      rintro d a W' ⟨s12, s13, s14, s15, s16, s17, s18, s19, s20, rfl, h0, h1, h2, h3, h4, h5, h6, hA, hG, hP, hF⟩ hall
      obtain ⟨W1, W2, v, hb1, ho2, hg2, rfl⟩ := hF (hall 9 (by decide))
      have ho1 := own_below HO.out hb1
      have hfr := Fr.grown ho1 hg2
      have hbox1 := (hb1.block _ (heap_lt HB.out)).trans HB.out
      have hbox2 := hfr.same _ _ hbox1 (fun cs fr e => by cases e)
      have hxx2 := hfr.same _ _ ((hb1.block _ (heap_lt HX.out)).trans HX.out) (fun cs fr e => by cases e)
      have hbb1 : Below w.heap.size W W2 := (hb1.mono hsW).grown hg2 (Nat.le_trans hsW hb1.size) (fun q hq => by have := (ho1.lt q hq).1; omega)
      have HQ : Hid (KeepsFrom W0.heap.size W (W2.setCell ⟨w.heap.size + 1, 0, none⟩ v) ∧ Below w.heap.size W (W2.setCell ⟨w.heap.size + 1, 0, none⟩ v) ∧ TxI w (cE k n s A L c) k (pre ++ [x]) (W2.setCell ⟨w.heap.size + 1, 0, none⟩ v)) := Lib.hid (by
        refine ⟨(((Fr.below hb1).trans hfr).keeps).trans ((KeepsOthers.setCell _ _ _).from _), hbb1.setCell (p := ⟨w.heap.size + 1, 0, none⟩) (by show w.heap.size ≤ w.heap.size + 1; omega) _, ⟨v, heap_setCell_same _ _ 0 _ _ _ hbox2, ?_⟩, (heap_setCell_other W2 ⟨w.heap.size + 1, 0, none⟩ _ v (by show w.heap.size ≠ w.heap.size + 1; omega)).trans hxx2, (HBW.out.trans hbb1).setCell (p := ⟨w.heap.size + 1, 0, none⟩) (by show w.heap.size ≤ w.heap.size + 1; omega) _⟩
        have := ownT_set (u' := v) ho2 hbox2
        rw [List.map_append, List.map_cons, List.map_nil, HTB.out, ← HACC.out]
        exact this)
      clear h0 h1 h2 h3 h4 h5 h6 hA hG hP hF hall ho1 hfr hbox1 hbox2 hxx2 hbb1 ho2 hg2 hb1
      gi_wp2_with fail
      exact HQ.out
    case step =>
      rintro d a W' j hD ⟨s12, s13, s14, s15, s16, s17, s18, s19, s20, rfl, h0, h1, h2, h3, h4, h5, h6, hA, hG, hP, hF⟩ hj
      have hj10 : j < 10 := (ready_open hj).1
      have ho' := (ready_open hj).2
      have hn := open_not ho'
      have c98 := fun h => hD 9 _ rfl h 8 (by kernel_rfl)
      have c80 := fun h => hD 8 _ rfl h 0 (by kernel_rfl)
      have c87 := fun h => hD 8 _ rfl h 7 (by kernel_rfl)
      have c76 := fun h => hD 7 _ rfl h 6 (by kernel_rfl)
      have c65 := fun h => hD 6 _ rfl h 5 (by kernel_rfl)
      have c61 := fun h => hD 6 _ rfl h 1 (by kernel_rfl)
      have c53 := fun h => hD 5 _ rfl h 3 (by kernel_rfl)
      have c54 := fun h => hD 5 _ rfl h 4 (by kernel_rfl)
      have c32 := fun h => hD 3 _ rfl h 2 (by kernel_rfl)
      have n98 : d.getD 8 false = false → d.getD 9 false = false := fun h => by
        cases h9 : d.getD 9 false with
        | false => rfl
        | true => rw [c98 h9] at h; cases h
      clear hD
      have hjc : j = 0 ∨ j = 1 ∨ j = 2 ∨ j = 3 ∨ j = 4 ∨ j = 5 ∨ j = 6 ∨ j = 7 ∨ j = 8 ∨ j = 9 := by omega
      rcases hjc with rfl | rfl | rfl | rfl | rfl | rfl | rfl | rfl | rfl | rfl
      · refine wpOpIn_step rfl (fun K hK => ?_)
        have n8 : d.getD 8 false = false := by
          cases h : d.getD 8 false with
          | false => rfl
          | true => rw [(c80 h)] at hn; cases hn
        have n9 := n98 n8
        have hBel := hA n8
        have y0 := heap_cell ((hBel.block _ (heap_lt HB.out)).trans HB.out)
        have HS := Lib.hid (And.intro h0 (And.intro h1 (And.intro h2 (And.intro h3 (And.intro h4 (And.intro h5 (And.intro h6 (And.intro hA (And.intro hG (And.intro hP hF))))))))))
        have HN := Lib.hid (And.intro n8 n9)
        clear h0 h1 h2 h3 h4 h5 h6 hA hG hP hF hj n8 n9 c98 c80 c87 c61 c53 c54 c32 n98
        have CC := Lib.hid (And.intro c65 c76)
        clear c65 c76
        go_simp
        refine hK _ _ ?_
        obtain ⟨h0, h1, h2, h3, h4, h5, h6, hA, hG, hP, hF⟩ := HS.out
        obtain ⟨n8, n9⟩ := HN.out
        exact ⟨_, _, _, _, _, _, _, _, _, rfl, (fun _ => rfl), st (by decide) h1, st (by decide) h2, st (by decide) h3, st (by decide) h4, st (by decide) h5, st (by decide) h6, st (by decide) hA, st (by decide) (fun g => st (by decide) (hG g)), st (by decide) (fun g => st (by decide) (hP g)), st (by decide) hF⟩
      · refine wpOpIn_step rfl (fun K hK => ?_)
        have n8 : d.getD 8 false = false := by
          cases h : d.getD 8 false with
          | false => rfl
          | true => rw [(c61 (c76 (c87 h)))] at hn; cases hn
        have n9 := n98 n8
        have hBel := hA n8
        obtain ⟨z0, z1, z2, z3⟩ := row4 ((hBel.block _ (heap_lt HBX.out)).trans HBX.out)
        have HS := Lib.hid (And.intro h0 (And.intro h1 (And.intro h2 (And.intro h3 (And.intro h4 (And.intro h5 (And.intro h6 (And.intro hA (And.intro hG (And.intro hP hF))))))))))
        have HN := Lib.hid (And.intro n8 n9)
        clear h0 h1 h2 h3 h4 h5 h6 hA hG hP hF hj n8 n9 c98 c80 c87 c61 c53 c54 c32 n98
        have CC := Lib.hid (And.intro c65 c76)
        clear c65 c76
        go_simp
        refine hK _ _ ?_
        obtain ⟨h0, h1, h2, h3, h4, h5, h6, hA, hG, hP, hF⟩ := HS.out
        obtain ⟨n8, n9⟩ := HN.out
        exact ⟨_, _, _, _, _, _, _, _, _, rfl, st (by decide) h0, (fun _ => rfl), st (by decide) h2, st (by decide) h3, st (by decide) h4, st (by decide) h5, st (by decide) h6, st (by decide) hA, st (by decide) (fun g => st (by decide) (hG g)), st (by decide) (fun g => st (by decide) (hP g)), st (by decide) hF⟩
      · refine wpOpIn_step rfl (fun K hK => ?_)
        have n8 : d.getD 8 false = false := by
          cases h : d.getD 8 false with
          | false => rfl
          | true => rw [(c32 (c53 (c65 (c76 (c87 h)))))] at hn; cases hn
        have n9 := n98 n8
        have hBel := hA n8
        have HS := Lib.hid (And.intro h0 (And.intro h1 (And.intro h2 (And.intro h3 (And.intro h4 (And.intro h5 (And.intro h6 (And.intro hA (And.intro hG (And.intro hP hF))))))))))
        have HN := Lib.hid (And.intro n8 n9)
        clear h0 h1 h2 h3 h4 h5 h6 hA hG hP hF hj n8 n9 c98 c80 c87 c61 c53 c54 c32 n98
        have CC := Lib.hid (And.intro c65 c76)
        clear c65 c76
        go_simp
        refine hK _ _ ?_
        obtain ⟨h0, h1, h2, h3, h4, h5, h6, hA, hG, hP, hF⟩ := HS.out
        obtain ⟨n8, n9⟩ := HN.out
        exact ⟨_, _, _, _, _, _, _, _, _, rfl, st (by decide) h0, st (by decide) h1, (fun _ => rfl), st (by decide) h3, st (by decide) h4, st (by decide) h5, st (by decide) h6, st (by decide) hA, st (by decide) (fun g => st (by decide) (hG g)), st (by decide) (fun g => st (by decide) (hP g)), st (by decide) hF⟩
      · refine wpOpIn_step rfl (fun K hK => ?_)
        have n8 : d.getD 8 false = false := by
          cases h : d.getD 8 false with
          | false => rfl
          | true => rw [(c53 (c65 (c76 (c87 h))))] at hn; cases hn
        have n9 := n98 n8
        have hBel := hA n8
        obtain rfl := h2 (ready_dep hj rfl 2 (by kernel_rfl))
        obtain ⟨z0, z1, z2, z3⟩ := row4 ((hBel.block _ (heap_lt HX.out)).trans HX.out)
        have HS := Lib.hid (And.intro h0 (And.intro h1 (And.intro h2 (And.intro h3 (And.intro h4 (And.intro h5 (And.intro h6 (And.intro hA (And.intro hG (And.intro hP hF))))))))))
        have HN := Lib.hid (And.intro n8 n9)
        clear h0 h1 h2 h3 h4 h5 h6 hA hG hP hF hj n8 n9 c98 c80 c87 c61 c53 c54 c32 n98
        have CC := Lib.hid (And.intro c65 c76)
        clear c65 c76
        go_simp
        refine hK _ _ ?_
        obtain ⟨h0, h1, h2, h3, h4, h5, h6, hA, hG, hP, hF⟩ := HS.out
        obtain ⟨n8, n9⟩ := HN.out
        exact ⟨_, _, _, _, _, _, _, _, _, rfl, st (by decide) h0, st (by decide) h1, st (by decide) h2, (fun _ => rfl), st (by decide) h4, st (by decide) h5, st (by decide) h6, st (by decide) hA, st (by decide) (fun g => st (by decide) (hG g)), st (by decide) (fun g => st (by decide) (hP g)), st (by decide) hF⟩
      · refine wpOpIn_step rfl (fun K hK => ?_)
        have n8 : d.getD 8 false = false := by
          cases h : d.getD 8 false with
          | false => rfl
          | true => rw [(c54 (c65 (c76 (c87 h))))] at hn; cases hn
        have n9 := n98 n8
        have hBel := hA n8
        have HS := Lib.hid (And.intro h0 (And.intro h1 (And.intro h2 (And.intro h3 (And.intro h4 (And.intro h5 (And.intro h6 (And.intro hA (And.intro hG (And.intro hP hF))))))))))
        have HN := Lib.hid (And.intro n8 n9)
        clear h0 h1 h2 h3 h4 h5 h6 hA hG hP hF hj n8 n9 c98 c80 c87 c61 c53 c54 c32 n98
        have CC := Lib.hid (And.intro c65 c76)
        clear c65 c76
        go_simp
        refine hK _ _ ?_
        obtain ⟨h0, h1, h2, h3, h4, h5, h6, hA, hG, hP, hF⟩ := HS.out
        obtain ⟨n8, n9⟩ := HN.out
        exact ⟨_, _, _, _, _, _, _, _, _, rfl, st (by decide) h0, st (by decide) h1, st (by decide) h2, st (by decide) h3, (fun _ => rfl), st (by decide) h5, st (by decide) h6, st (by decide) hA, st (by decide) (fun g => st (by decide) (hG g)), st (by decide) (fun g => st (by decide) (hP g)), st (by decide) hF⟩
      · refine wpOpIn_step rfl (fun K hK => ?_)
        have n8 : d.getD 8 false = false := by
          cases h : d.getD 8 false with
          | false => rfl
          | true => rw [(c65 (c76 (c87 h)))] at hn; cases hn
        have n9 := n98 n8
        have hBel := hA n8
        obtain rfl := h3 (ready_dep hj rfl 3 (by kernel_rfl))
        obtain rfl := h4 (ready_dep hj rfl 4 (by kernel_rfl))
        have HC5 := Lib.hid (HLS.out ⟨W', hBel⟩)
        have HS := Lib.hid (And.intro h0 (And.intro h1 (And.intro h2 (And.intro h3 (And.intro h4 (And.intro h5 (And.intro h6 (And.intro hA (And.intro hG (And.intro hP hF))))))))))
        have HN := Lib.hid (And.intro n8 n9)
        clear h0 h1 h2 h3 h4 h5 h6 hA hG hP hF hj n8 n9 c98 c80 c87 c61 c53 c54 c32 n98
        have CC := Lib.hid (And.intro c65 c76)
        clear c65 c76
        go_simp
        refine ⟨trivial, ?_⟩
        refine (callsIn_any (r := some l0) HC5.out).mono ?_
        rintro e w3 ⟨rfl, ⟨p, rfl⟩⟩
        obtain ⟨c65, c76⟩ := CC.out
        refine hK _ _ ?_
        obtain ⟨h0, h1, h2, h3, h4, h5, h6, hA, hG, hP, hF⟩ := HS.out
        obtain ⟨n8, n9⟩ := HN.out
        exact ⟨_, _, _, _, _, _, _, _, _, rfl, st (by decide) h0, st (by decide) h1, st (by decide) h2, st (by decide) h3, st (by decide) h4, (fun _ => rfl), st (by decide) h6, fun _ => p.ok, fun _ => st (by decide) (fun g => by exact absurd (c65 (c76 g)) (by rw [hn]; exact Bool.false_ne_true)), (fun g => by rw [getD_set (by decide), n8] at g; cases g), (fun g => by rw [getD_set (by decide), n9] at g; cases g)⟩
      · refine wpOpIn_step rfl (fun K hK => ?_)
        have n8 : d.getD 8 false = false := by
          cases h : d.getD 8 false with
          | false => rfl
          | true => rw [(c76 (c87 h))] at hn; cases hn
        have n9 := n98 n8
        have hBel := hA n8
        obtain rfl := h1 (ready_dep hj rfl 1 (by kernel_rfl))
        obtain rfl := h5 (ready_dep hj rfl 5 (by kernel_rfl))
        have HC6 := Lib.hid (HKT'.out ⟨W', hBel⟩)
        have HS := Lib.hid (And.intro h0 (And.intro h1 (And.intro h2 (And.intro h3 (And.intro h4 (And.intro h5 (And.intro h6 (And.intro hA (And.intro hG (And.intro hP hF))))))))))
        have HN := Lib.hid (And.intro n8 n9)
        clear h0 h1 h2 h3 h4 h5 h6 hA hG hP hF hj n8 n9 c98 c80 c87 c61 c53 c54 c32 n98
        have CC := Lib.hid (And.intro c65 c76)
        clear c65 c76
        go_simp
        refine ⟨trivial, ?_⟩
        refine (callsIn_any (r := some l0) HC6.out).mono ?_
        rintro e w3 ⟨rfl, ⟨p, rfl⟩⟩
        obtain ⟨c65, c76⟩ := CC.out
        refine hK _ _ ?_
        obtain ⟨h0, h1, h2, h3, h4, h5, h6, hA, hG, hP, hF⟩ := HS.out
        obtain ⟨n8, n9⟩ := HN.out
        exact ⟨_, _, _, _, _, _, _, _, _, rfl, st (by decide) h0, st (by decide) h1, st (by decide) h2, st (by decide) h3, st (by decide) h4, st (by decide) h5, (fun _ => rfl), fun _ => p.ok, fun _ => st (by decide) (fun g => by exact absurd (c76 g) (by rw [hn]; exact Bool.false_ne_true)), (fun g => by rw [getD_set (by decide), n8] at g; cases g), (fun g => by rw [getD_set (by decide), n9] at g; cases g)⟩
      · refine wpOpIn_step rfl (fun K hK => ?_)
        have n8 : d.getD 8 false = false := by
          cases h : d.getD 8 false with
          | false => rfl
          | true => rw [(c87 h)] at hn; cases hn
        have n9 := n98 n8
        have hBel := hA n8
        obtain rfl := h6 (ready_dep hj rfl 6 (by kernel_rfl))
        have HS := Lib.hid (And.intro h0 (And.intro h1 (And.intro h2 (And.intro h3 (And.intro h4 (And.intro h5 (And.intro h6 (And.intro hA (And.intro hG (And.intro hP hF))))))))))
        have HN := Lib.hid (And.intro n8 n9)
        clear h0 h1 h2 h3 h4 h5 h6 hA hG hP hF hj n8 n9 c98 c80 c87 c61 c53 c54 c32 n98
        have CC := Lib.hid (And.intro c65 c76)
        clear c65 c76
        go_simp
        refine hK _ _ ?_
        obtain ⟨h0, h1, h2, h3, h4, h5, h6, hA, hG, hP, hF⟩ := HS.out
        obtain ⟨n8, n9⟩ := HN.out
        exact ⟨_, _, _, _, _, _, _, _, _, rfl, st (by decide) h0, st (by decide) h1, st (by decide) h2, st (by decide) h3, st (by decide) h4, st (by decide) h5, st (by decide) h6, fun _ => hBel.alloc hBel.size _, fun _ _ => ⟨W'.heap.size, rfl, by simp, heap_cell (heap_new W' _)⟩, (fun g => by rw [getD_set (by decide), n8] at g; cases g), (fun g => by rw [getD_set (by decide), n9] at g; cases g)⟩
      · have h8f := hn
        have d0 := ready_dep hj rfl 0 (by kernel_rfl)
        have d7 := ready_dep hj rfl 7 (by kernel_rfl)
        obtain rfl := h0 d0
        obtain ⟨g, rfl, hgl, hgc⟩ := hG h8f d7
        have hBel := hA h8f
        have n9 := n98 h8f
        have hacc2 := hplen
        have HOA := Lib.hid (own_below HO.out hBel)
        refine wpOpIn_append rfl rfl (.tmp 12) (.tmp 19) 27 rfl (w.heap.size + 2) 9 i0 (.string ⟨#[]⟩) 1 16 Tryd.underlying27 hi hz0 hz1 hz2 rfl (by decide) _ _ _ rfl HOA.out ⟨g, 0, none⟩ 1 1 [.string X] rfl rfl (cells1 hgc) (ones1 _) (by unfold maxLen; omega) (by omega) (by have := hBel.size; have := heap_lt HB.out; omega) ?_
        intro v' w' hown' hgrow'
        exact ⟨_, _, _, _, _, _, _, _, _, rfl, st (by decide) h0, st (by decide) h1, st (by decide) h2, st (by decide) h3, st (by decide) h4, st (by decide) h5, st (by decide) h6, no_self ho', no_self ho', fun _ _ => ⟨by rw [OwnT, List.length_append, List.map_append]; exact hown', W', hBel, hgrow'⟩, (fun g9 => by rw [getD_set (by decide), n9] at g9; cases g9)⟩
      · have d8 := ready_dep hj rfl 8 (by kernel_rfl)
        obtain ⟨hoP, W1, hb1, hgr⟩ := hP d8 hn
        have ho1 := own_below HO.out hb1
        have hfr := Fr.grown ho1 hgr
        have hbox2 := hfr.same _ _ ((hb1.block _ (heap_lt HB.out)).trans HB.out) (fun cs fr e => by cases e)
        obtain ⟨A5, n5, c5, rfl⟩ := ownT_slice hoP
        refine wpOpIn_step rfl (fun K hK => ?_)
        have y0 := heap_cell hbox2
        have f0 := frozen_of hbox2 0
        have HS := Lib.hid (And.intro h0 (And.intro h1 (And.intro h2 (And.intro h3 (And.intro h4 (And.intro h5 h6))))))
        have HZ := Lib.hid (And.intro hoP (And.intro hb1 (And.intro hgr (And.intro d8 ho'))))
        clear h0 h1 h2 h3 h4 h5 h6 hA hG hP hF hj hn c98 c80 c87 c76 c65 c61 c53 c54 c32 n98 ho' d8 hoP hb1 hgr ho1 hfr hbox2
        go_simp
        refine hK _ _ ?_
        obtain ⟨h0, h1, h2, h3, h4, h5, h6⟩ := HS.out
        obtain ⟨hoP, hb1, hgr, d8, ho'⟩ := HZ.out
        exact ⟨_, _, _, _, _, _, _, _, _, rfl, st (by decide) h0, st (by decide) h1, st (by decide) h2, st (by decide) h3, st (by decide) h4, st (by decide) h5, st (by decide) h6, (fun g8 => by rw [getD_set (by decide), d8] at g8; cases g8), (fun g8 => by rw [getD_set (by decide), d8] at g8; cases g8), (fun _ => no_self ho'), fun _ => ⟨W1, W', _, hb1, hoP, hgr, rfl⟩⟩
  case done =>
    rintro D ys W hD hS ⟨⟨u2, hb, ho⟩, hx, hbw⟩ hK
    rw [tbs_all (by rw [hS, HL.out])] at ho
    obtain ⟨z0, z1, z2, z3⟩ := row4 hx
    have y0 := heap_cell hb
    have hWs := hbw.size
    have HX := Lib.hid hx
    have HB := Lib.hid hb
    have HLW := Lib.hid (HLD.out.below hbw)
    have HKK : Hid (∀ w', Below W.heap.size W w' → w'.heap[D]? = W.heap[D]?) := Lib.hid (fun w' h => h.block _ (heap_lt hK))
    have HTS : Hid ((txB (.mk k n s l)).size ≤ 150994944) := Lib.hid (by
      have h1 := txB_size (.mk k n s l) HFORM.out
      have h2 : E.count (.mk k n s l) ≤ 2 * m + 1 := by
        rw [E.count]
        have h3 := HKS.out
        have h4 : l.length ≤ 2 := by rw [← HL.out]; exact hll
        match l, h3, h4 with
        | [], _, _ => rw [E.counts]; omega
        | [a], h3, _ => have := (h3 0 a rfl).1; rw [E.counts, E.counts]; omega
        | [a, b], h3, _ => have := (h3 0 a rfl).1; have := (h3 1 b rfl).1; rw [E.counts, E.counts, E.counts]; omega
      omega)
    clear hS hb hx
    rcases form_ways HFORM.out with ⟨rfl, rfl, h0, h1, rfl⟩ | ⟨rfl, rfl, rfl, h0⟩ | ⟨h, rfl, rfl, rfl⟩ | ⟨x, y, h, rfl, fx, fy, -, -, rfl, rfl⟩ | ⟨x, h, rfl, fx, -, rfl, rfl⟩
    · obtain rfl : L = 0 := HL.out
      have HC := Lib.hid (digits_any n hnn.1 hnn.2 W HLW.out.pow)
      have HE := Lib.hid (txB_1 n ⟨#[]⟩ [])
      obtain ⟨T, hT⟩ : ∃ T : ByteArray, T = ⟨(itoa n).toArray⟩ := ⟨_, rfl⟩
      rw [← hT] at HC HE
      obtain ⟨A2, n2, c2, rfl⟩ := ownT_slice ho
      clear h0 h1 hT ho
      gi_wp2_with fail
      refine ⟨trivial, ?_⟩
      refine (callsIn_wide.2 HC.out).mono ?_
      rintro e w3 ⟨rfl, hb3⟩
      have hK3 := (HKK.out _ hb3).trans hK
      gi_wp2_with fail
      refine ⟨by simp, .inl ⟨_, _, rfl, run_takeDeferred hK3, ?_⟩⟩
      exact ⟨_, results_tmp rfl _ _ _, by rw [HE.out]; rfl, (hbw.trans (hb3.mono hWs)).trans (belowK_b (w := w) (Nat.le_refl _) w3 D _ _ (by omega) hK3 rfl rfl)⟩
    · obtain rfl : L = 0 := HL.out
      have HE := Lib.hid (txB_2 0 s [])
      obtain ⟨A2, n2, c2, rfl⟩ := ownT_slice ho
      clear h0 ho
      gi_wp2_with fail
      refine ⟨by simp, .inl ⟨_, _, rfl, run_takeDeferred hK, ?_⟩⟩
      exact ⟨_, results_tmp rfl _ _ _, by rw [HE.out]; rfl, (hbw).trans (belowK_b (w := w) (Nat.le_refl _) W D _ _ (by omega) hK rfl rfl)⟩
    · obtain rfl : L = 0 := HL.out
      obtain ⟨A2, n2, c2, rfl⟩ := ownT_slice ho
      have HE : Hid (txB (.mk k 0 ⟨#[]⟩ []) = plT k) := Lib.hid (txB_plain h 0 _)
      have e1 : (k == 1) = false := by simp; omega
      have e2 : (k == 2) = false := by simp; omega
      have e3 : (k == 12) = false := by simp; omega
      have e4 : (k == 13) = false := by simp; omega
      have e5 : (k == 14) = false := by simp; omega
      have HSG : Hid (Calls Tryd.prog 38 #[.int .i64 k] W fun x w' => x = .returned (.tuple #[.agg #[.string ⟨#[]⟩, .int .i64 0, .int .i64 0, .bool false], .bool false]) ∧ Below W.heap.size W w') := Lib.hid (by
        have hs : signOf k = none := by rcases h with rfl | rfl | rfl <;> rfl
        have := signOf_any k W HLW.out.signs
        rw [hs] at this
        exact this)
      have HPT : Hid (∀ w', Below W.heap.size W w' → Calls Tryd.prog 40 #[.int .i64 k] w' fun x w'' => x = .returned (.string (plT k)) ∧ Below w'.heap.size w' w'') := Lib.hid (fun w' hb => plainText_any k w' (HLW.out.below hb).plains)
      obtain ⟨T, hT⟩ : ∃ T : ByteArray, T = plT k := ⟨_, rfl⟩
      rw [← hT] at HE HPT
      clear hT ho h
      gi_wp2_with fail
      refine ⟨trivial, ?_⟩
      refine (callsIn_wide.2 HSG.out).mono ?_
      rintro e w3 ⟨rfl, hb3⟩
      have hb3s := hb3.size
      have hx3 := (Below.heap_alloc w3 (.cells #[.string ⟨#[]⟩, .int .i64 0, .int .i64 0, .bool false] 70) _ (heap_lt ((hb3.block _ (heap_lt HX.out)).trans HX.out))).trans ((hb3.block _ (heap_lt HX.out)).trans HX.out)
      have hb4 := hb3.alloc hb3.size (.cells #[.string ⟨#[]⟩, .int .i64 0, .int .i64 0, .bool false] 70)
      have HX3 := Lib.hid hx3
      have HB4 := Lib.hid hb4
      clear z0 z1 z2 z3
      obtain ⟨z0, z1, z2, z3⟩ := row4 hx3
      clear hx3 hb4
      gi_wp2_with fail
      refine ⟨trivial, ?_⟩
      refine (callsIn_wide.2 (HPT.out _ HB4.out)).mono ?_
      rintro e w4 ⟨rfl, hb5⟩
      have hb6 := HB4.out.trans (hb5.mono HB4.out.size)
      have hK4 := (HKK.out _ hb6).trans hK
      gi_wp2_with fail
      refine ⟨by simp, .inl ⟨_, _, rfl, run_takeDeferred hK4, ?_⟩⟩
      exact ⟨_, results_tmp rfl _ _ _, by rw [HE.out]; rfl, (hbw.trans (hb6.mono hWs)).trans (belowK_b (w := w) (Nat.le_refl _) w4 D _ _ (by omega) hK4 rfl rfl)⟩
    · obtain rfl : L = 2 := HL.out
      rw [tbs, tbs, tbs] at ho
      have hcc : k = 14 ∨ (6 ≤ k ∧ k ≤ 11) := by omega
      clear fx fy
      rcases hcc with rfl | hk6
      · have HE := Lib.hid (txB_14 0 ⟨#[]⟩ x y)
        rw [show leastI 14 0 = 5 from rfl, show leastI 14 (0 + 1) = 5 from rfl] at ho
        obtain ⟨X, hX⟩ : ∃ X, X = ktB x 5 := ⟨_, rfl⟩
        obtain ⟨Y, hY⟩ : ∃ Y, Y = ktB y 5 := ⟨_, rfl⟩
        rw [← hX, ← hY] at ho HE
        rcases ownT_ways ho with ⟨-, e⟩ | ⟨g, cap, rfl, hcap, -, hgl, -, hcells⟩
        · cases e
        have q0 : W.cell? ⟨g, 0, none⟩ = some (.string X) := hcells 0 (.string X) rfl
        have q1 : W.cell? ⟨g, 1, none⟩ = some (.string Y) := hcells 1 (.string Y) rfl
        have hsum : 5 + X.size + 2 + Y.size + 1 ≤ 150994944 := by
          have h1 := HTS.out
          rw [HE.out, ByteArray.size_append, ByteArray.size_append, ByteArray.size_append, ByteArray.size_append] at h1
          exact h1
        have t1 : ¬ 9223372036854775807 < (ByteArray.mk #[115, 97, 109, 101, 40]).size + X.size := by show ¬ 9223372036854775807 < 5 + X.size; omega
        have t2 : ¬ 9223372036854775807 < (ByteArray.mk #[115, 97, 109, 101, 40] ++ X).size + (ByteArray.mk #[44, 32]).size := by rw [ByteArray.size_append]; show ¬ 9223372036854775807 < 5 + X.size + 2; omega
        have t3 : ¬ 9223372036854775807 < (ByteArray.mk #[115, 97, 109, 101, 40] ++ X ++ ByteArray.mk #[44, 32]).size + Y.size := by rw [ByteArray.size_append, ByteArray.size_append]; show ¬ 9223372036854775807 < 5 + X.size + 2 + Y.size; omega
        have t4 : ¬ 9223372036854775807 < (ByteArray.mk #[115, 97, 109, 101, 40] ++ X ++ ByteArray.mk #[44, 32] ++ Y).size + (ByteArray.mk #[41]).size := by rw [ByteArray.size_append, ByteArray.size_append, ByteArray.size_append]; show ¬ 9223372036854775807 < 5 + X.size + 2 + Y.size + 1; omega
        have gy := fun p : InC (Below W.heap.size W) => cls_cell y0 p
        have gq0 := fun p : InC (Below W.heap.size W) => cls_cell q0 p
        have gq1 := fun p : InC (Below W.heap.size W) => cls_cell q1 p
        clear hX hY ho hcells hsum h
        gi_wp2_with fail
        refine regionIn_class (r := none) (Cl := Below W.heap.size W) (by kernel_rfl) (by kernel_rfl) (by kernel_rfl) (drew_below _) ?_
        clear y0 q0 q1
        repeat (go_big_quiet_step (fail))
        refine wpQuiet_nil ?_
        intro w4 hw'
        obtain ⟨nq, hw''⟩ := hw'
        have hb6 : Below W.heap.size W w4 := by rw [hw'']; exact nq.ok
        clear hw'' nq gy gq0 gq1
        have hK4 := (HKK.out _ hb6).trans hK
        gi_wp2_with fail
        refine ⟨by simp, .inl ⟨_, _, rfl, run_takeDeferred hK4, ?_⟩⟩
        exact ⟨_, results_tmp rfl _ _ _, by rw [HE.out]; rfl, (hbw.trans (hb6.mono hWs)).trans (belowK_b (w := w) (Nat.le_refl _) w4 D _ _ (by omega) hK4 rfl rfl)⟩
      · have e1 : (k == 1) = false := by simp; omega
        have e2 : (k == 2) = false := by simp; omega
        have e3 : (k == 12) = false := by simp; omega
        have e4 : (k == 13) = false := by simp; omega
        have e5 : (k == 14) = false := by simp; omega
        have his : isSign k = true := by unfold isSign; simp; omega
        have HE := Lib.hid (txB_join k 0 ⟨#[]⟩ x y his)
        obtain ⟨X, hX⟩ : ∃ X, X = ktB x (leastI k 0) := ⟨_, rfl⟩
        obtain ⟨Y, hY⟩ : ∃ Y, Y = ktB y (leastI k 1) := ⟨_, rfl⟩
        rw [show (0 + 1 : Nat) = 1 from rfl] at ho
        rw [← hX, ← hY] at ho HE
        obtain ⟨sg, hsg⟩ : ∃ sg, sg = sgT k := ⟨_, rfl⟩
        have HSZ : Hid (sg.size ≤ 2) := Lib.hid (by rw [hsg]; unfold sgT; repeat' split
                                                    all_goals decide)
        rw [← hsg] at HE
        have HSG : Hid (∃ b c, Calls Tryd.prog 38 #[.int .i64 k] W fun x w' => x = .returned (.tuple #[.agg #[.string sg, .int .i64 k, .int .i64 b, .bool c], .bool true]) ∧ Below W.heap.size W w') := Lib.hid (by
          have hs : signOf k = some ⟨sgT k, k, bindI k, chainB k⟩ := by
            rcases signOf_ways k with ⟨-, h2, -, -⟩ | ⟨h1, -, -⟩
            · exact h2
            · rw [his] at h1; cases h1
          have := signOf_any k W HLW.out.signs
          rw [hs] at this
          rw [hsg]
          exact ⟨_, _, this⟩)
        obtain ⟨sb, sc, hsc⟩ := HSG.out
        have HSC := Lib.hid hsc
        rcases ownT_ways ho with ⟨-, e⟩ | ⟨g, cap, rfl, hcap, -, hgl, -, hcells⟩
        · cases e
        have hcap : 2 ≤ cap := hcap
        have HJ : Hid (∀ w', Below W.heap.size W w' → Calls Tryd.prog 39 #[.slice (some ⟨g, 0, none⟩) 2 cap, .string (ByteArray.mk #[32] ++ sg ++ ByteArray.mk #[32])] w' fun e w'' => e = .returned (.string (txB (.mk k 0 ⟨#[]⟩ [x, y]))) ∧ Below w'.heap.size w' w'') := Lib.hid (fun w' hb => by
          have hlen : (Lib.join ([X, Y].map (·.data.toList)) (ByteArray.mk #[32] ++ sg ++ ByteArray.mk #[32]).data.toList).length ≤ 140737488355328 := by
            have h1 := HTS.out
            rw [← HE.out] at h1
            have h2 : (ByteArray.mk (Lib.join ([X, Y].map (·.data.toList)) (ByteArray.mk #[32] ++ sg ++ ByteArray.mk #[32]).data.toList).toArray).size = (Lib.join ([X, Y].map (·.data.toList)) (ByteArray.mk #[32] ++ sg ++ ByteArray.mk #[32]).data.toList).length := by show (List.toArray _).size = _; simp
            omega
          have := Tryd.strings_Join g 0 cap [X, Y] (ByteArray.mk #[32] ++ sg ++ ByteArray.mk #[32]) w' (fun j x hx => by
            have hj : j < 2 := (List.getElem?_eq_some_iff.1 hx).1
            have h0 : ([X, Y].map Value.string)[j]? = some (.string x) := by rw [List.getElem?_map, hx]; rfl
            have h1 := hcells j (.string x) h0
            have ha : (⟨g, 0, none⟩ : Addr).add j = ⟨g, 0 + j, none⟩ := by
              unfold Addr.add; split <;> simp_all
            rw [ha] at h1
            exact (hb.cell (p := ⟨g, 0 + j, none⟩) hgl).trans h1) (by have := hb.size; omega) (by simp) hcap hlen
          rw [HE.out] at this
          exact this)
        have t1 : ¬ 9223372036854775807 < (ByteArray.mk #[32]).size + sg.size := by show ¬ 9223372036854775807 < 1 + sg.size; have := HSZ.out; omega
        have t2 : ¬ 9223372036854775807 < (ByteArray.mk #[32] ++ sg).size + (ByteArray.mk #[32]).size := by rw [ByteArray.size_append]; show ¬ 9223372036854775807 < 1 + sg.size + 1; have := HSZ.out; omega
        have HY0 := Lib.hid y0
        clear hX hY ho hcells h hk6 his hsg hsc
        gi_wp2_with fail
        refine ⟨trivial, ?_⟩
        refine (callsIn_wide.2 HSC.out).mono ?_
        rintro e w3 ⟨rfl, hb3⟩
        have hb3s := hb3.size
        have hb4 := hb3.alloc hb3.size (.cells #[.string sg, .int .i64 k, .int .i64 sb, .bool sc] 70)
        have hs0 := heap_new w3 (.cells #[.string sg, .int .i64 k, .int .i64 sb, .bool sc] 70)
        obtain ⟨r0, r1, r2, r3⟩ := row4 hs0
        have y1 := (hb4.cell (p := ⟨w.heap.size + 1, 0, none⟩) (cell_lt HY0.out)).trans HY0.out
        have HB4 := Lib.hid hb4
        clear z0 z1 z2 z3 y0 hs0 hb4
        gi_wp2_with fail
        refine ⟨trivial, ?_⟩
        refine (callsIn_wide.2 (HJ.out _ HB4.out)).mono ?_
        rintro e w4 ⟨rfl, hb5⟩
        have hb6 := HB4.out.trans (hb5.mono HB4.out.size)
        have hK4 := (HKK.out _ hb6).trans hK
        gi_wp2_with fail
        refine ⟨by simp, .inl ⟨_, _, rfl, run_takeDeferred hK4, ?_⟩⟩
        exact ⟨_, results_tmp rfl _ _ _, rfl, (hbw.trans (hb6.mono hWs)).trans (belowK_b (w := w) (Nat.le_refl _) w4 D _ _ (by omega) hK4 rfl rfl)⟩
    · obtain rfl : L = 1 := HL.out
      rw [tbs, tbs] at ho
      have hlst : leastI k 0 = 5 := by rcases h with rfl | rfl <;> rfl
      rw [hlst] at ho
      have HE12 := Lib.hid (txB_12 0 ⟨#[]⟩ x)
      have HE13 := Lib.hid (txB_13 0 ⟨#[]⟩ x)
      have HXS : Hid ((ktB x 5).size ≤ 50331648) := Lib.hid (by
        have h1 := ktB_size x 5 fx
        have h2 := (HKS.out 0 x rfl).1
        omega)
      obtain ⟨X, hX⟩ : ∃ X, X = ktB x 5 := ⟨_, rfl⟩
      rw [← hX] at ho HE12 HE13 HXS
      rcases ownT_ways ho with ⟨-, e⟩ | ⟨g, cap, rfl, hcap, -, hgl, -, hcells⟩
      · cases e
      have q0 : W.cell? ⟨g, 0, none⟩ = some (.string X) := hcells 0 (.string X) rfl
      clear hX ho hcells fx hlst
      rcases h with rfl | rfl
      · have t1 : ¬ 9223372036854775807 < (ByteArray.mk #[33]).size + X.size := by show ¬ 9223372036854775807 < 1 + X.size; have := HXS.out; omega
        gi_wp2_with fail
        refine ⟨by simp, .inl ⟨_, _, rfl, run_takeDeferred hK, ?_⟩⟩
        exact ⟨_, results_tmp rfl _ _ _, by rw [HE12.out]; rfl, (hbw).trans (belowK_b (w := w) (Nat.le_refl _) W D _ _ (by omega) hK rfl rfl)⟩
      · have t1 : ¬ 9223372036854775807 < (ByteArray.mk #[110, 105, 108, 40]).size + X.size := by show ¬ 9223372036854775807 < 4 + X.size; have := HXS.out; omega
        have t2 : ¬ 9223372036854775807 < (ByteArray.mk #[110, 105, 108, 40] ++ X).size + (ByteArray.mk #[41]).size := by rw [ByteArray.size_append]; show ¬ 9223372036854775807 < 4 + X.size + 1; have := HXS.out; omega
        gi_wp2_with fail
        refine ⟨by simp, .inl ⟨_, _, rfl, run_takeDeferred hK, ?_⟩⟩
        exact ⟨_, results_tmp rfl _ _ _, by rw [HE13.out]; rfl, (hbw).trans (belowK_b (w := w) (Nat.le_refl _) W D _ _ (by omega) hK rfl rfl)⟩
  case stop =>
    rintro D c0 pre W hD hS h hK
    exact h.elim
end Go.Proofs.YtdehpgdffafebaaDoor
