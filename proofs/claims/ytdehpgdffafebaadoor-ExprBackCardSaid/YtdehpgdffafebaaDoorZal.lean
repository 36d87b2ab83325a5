/- The names of all variables in an expression, by the document's answer. Condition: there are at most 1099511627776 expressions in it.
The names of all variables in an expression, as the program tells them. Condition: there are at most 1048576 expressions in it.
How a Kid is written, as the program tells it, where the text of its expression is told. Conditions: the tables lie in memory. -/
import Derived.Test.YtdehpgdffafebaaDoorZae
import Derived.Test.YtdehpgdffafebaaDoorZaf
import Derived.Laws.AppendOwn
import Derived.Laws.AppendOwnNone
import Derived.OwnWalk
import Derived.Test.YtdehpgdffafebaaDoorZai
import Derived.Test.YtdehpgdffafebaaDoorZak
namespace Go.Proofs.YtdehpgdffafebaaDoor
open Go.RowKit
set_option linter.unusedVariables false

theorem str_info : (Tryd.prog.info? 9).map (fun i => (i.zero, i.size, i.bytes)) = some (some (.string ⟨#[]⟩), 1, 16) := by kernel_rfl
theorem new1 (W : World) (x : Value) (t : TypeId) (g : Nat) (hg : g = W.heap.size) : ∀ (j : Nat) (u : Value), [x][j]? = some u → (W.alloc (.cells #[x] t)).cell? ((⟨g, 0, none⟩ : Addr).add j) = some u := by
  intro j u h
  subst hg
  have hn : (W.alloc (.cells #[x] t)).heap[W.heap.size]? = some (.cells #[x] t (0, 0)) := heap_new W _
  have ha : (⟨W.heap.size, 0, none⟩ : Addr).add j = ⟨W.heap.size, j, none⟩ := by unfold Addr.add; split <;> simp_all
  rw [ha, cell_of_row _ _ j _ t (0, 0) hn]
  rw [← h]; simp
theorem ones1 (t : ByteArray) : ∀ u ∈ [Value.string t], u.oneCell' = true := by
  intro u hu
  simp at hu
  subst hu
  rfl
theorem onesL (l : List ByteArray) : ∀ u ∈ l.map Value.string, u.oneCell' = true := by
  intro u hu
  obtain ⟨x, _, rfl⟩ := List.mem_map.1 hu
  rfl

/-- A slice of the call's own that reads as texts. -/
abbrev OwnT (w : World) (base : Nat) (v : Value) (l : List ByteArray) : Prop := w.ownsRow base 9 1 v l.length (l.map Value.string)
/-- Such a slice is nil, or an address. -/
theorem ownT_ways {w : World} {base : Nat} {v : Value} {l : List ByteArray} (h : OwnT w base v l) : (v = .slice none 0 0 ∧ l = []) ∨ (∃ g cap, v = .slice (some ⟨g, 0, none⟩) l.length cap ∧ l.length ≤ cap ∧ base ≤ g ∧ g < w.heap.size ∧ (∃ cur, w.heap[g]? = some (.cells cur 9 (0, 0))) ∧ ∀ (j : Nat) (u : Value), (l.map Value.string)[j]? = some u → w.cell? ((⟨g, 0, none⟩ : Addr).add j) = some u) := by
  rcases h.2 with ⟨rfl, h0⟩ | ⟨g, cap, cur, rfl, hg, hh, hc, hcm, _, _⟩
  · exact .inl ⟨rfl, List.eq_nil_of_length_eq_zero h0⟩
  · exact .inr ⟨g, cap, rfl, hc, hg, heap_lt hh, ⟨cur, hh⟩, h.cells (g := g) rfl⟩

theorem BoxE.grown {w : World} {k n : Int} {s : ByteArray} {A : Option Addr} {L c : Nat} {W W' : World} {row : Option Nat} (h : BoxE w k n s A L c W) (hg : W.grownBy W' row) (hr : ∀ q, row = some q → w.heap.size + 1 ≤ q) : BoxE w k n s A L c W' :=
  ⟨(hg.block _ (heap_lt h.1) (fun e => by have := hr _ e.symm; omega)).trans h.1, h.2.grown hg h.2.size (fun q e => by have := hr q e; omega)⟩

def RnPost (e : E) (w : World) (x : Ending) (w' : World) : Prop := ∃ v, x = .returned v ∧ OwnT w' w.heap.size v (E.names e) ∧ Below w.heap.size w w'

def RnAt (w : World) (k n : Int) (s : ByteArray) (A : Option Addr) (L c : Nat) (e : E) (l : List E) (k' : Nat) (v : Value) (wr : World) : Prop :=
  ∃ acc : List ByteArray, acc ++ E.namess (l.drop k') = E.names e ∧ OwnT wr (w.heap.size + 1) v acc ∧ BoxE w k n s A L c wr

theorem ownT_mono {w : World} {b b' : Nat} {v : Value} {l : List ByteArray} (h : OwnT w b v l) (hb : b' ≤ b) : OwnT w b' v l := by
  refine ⟨h.1, ?_⟩
  rcases h.2 with h | ⟨g, cap, cur, h1, h2, h3⟩
  · exact .inl h
  · exact .inr ⟨g, cap, cur, h1, by omega, h3⟩

set_option maxRecDepth 100000 in
set_option maxHeartbeats 2000000 in
theorem refNames_any : ∀ (m : Nat) (e : E) (v : Value) (w : World), E.count e ≤ m → m ≤ 1099511627776 → InV w.heap.size w e v → Calls Tryd.prog 8 #[v] w (RnPost e w) := by
  obtain ⟨i0, hi, hz0, hz1, hz2⟩ := info_parts str_info
  intro m
  induction m with
  | zero => intro e v w h; have := E.count_pos e; omega
  | succ m ih =>
    intro e v w hm hmm hv
    obtain ⟨k, n, s, l, A, c, rfl, rfl, hn, hlc, hcm, hk⟩ := hv.open
    have hl1 : l.length ≤ 9223372036854775807 := by unfold maxLen at hcm; omega
    have HK : Hid (KidsIn w.heap.size w A l) := Lib.hid hk
    have HI := Lib.hid ih
    have HM := Lib.hid hm
    have HMM := Lib.hid hmm
    have HNL : Hid ((E.names (.mk k n s l)).length ≤ 1099511627776) := Lib.hid (by have := E.names_le (.mk k n s l); omega)
    obtain ⟨L, hL⟩ : ∃ L, L = l.length := ⟨_, rfl⟩
    rw [← hL] at hlc hl1 ⊢
    have HL := Lib.hid hL
    obtain ⟨ee, hee⟩ : ∃ ee, ee = E.mk k n s l := ⟨_, rfl⟩
    have HEE := Lib.hid hee
    rw [← hee] at HNL ⊢
    clear hL hk hv hn hm ih hcm hmm hee
    have HX := Lib.hid (BoxE.new (w := w) (k := k) (n := n) (s := s) (A := A) (L := L) (c := c))
    obtain ⟨z0, z1, z2, z3⟩ := HX.out.cells
    go_enter Tryd.func8, Tryd.ntmps8
    go_upto_if 7 with fail
    go_cut [3] (fun v wx => Hid (RnAt w k n s A L c ee l 0 v wx))
    case first =>
      by_cases h2 : k = 2
      · have e2 : (k == 2) = true := by simp [h2]
        have HA : Hid (E.names ee = [s] ++ E.namess l) := Lib.hid (by rw [HEE.out, E.names, if_pos h2])
        clear h2
        have hown := World.ownsRow_nil ((w.alloc (.cells #[.int .i64 k, .int .i64 n, .string s, .slice A L c] 24)).alloc (.cells #[.string s] 9)) (w.heap.size + 1) 9 1
        have HOWN := Lib.hid hown
        clear hown
        go_wp2_with (at_builtin; refine wpList_append_own _ rfl (.tmp 8) (.tmp 11) 27 rfl (w.heap.size + 1) 9 i0 (.string ⟨#[]⟩) 1 16 Tryd.underlying27 hi hz0 hz1 hz2 rfl (by decide) _ _ _ rfl HOWN.out ⟨w.heap.size + 1, 0, none⟩ 1 1 [.string s] rfl rfl (new1 _ _ _ _ (by simp)) (ones1 _) (by unfold maxLen; omega) (by omega) (by simp) ?_; intro v' w' hown' hgrow' hiff; clear hiff; have HO' := Lib.hid hown'; have HG' := Lib.hid hgrow'; clear hown' hgrow')
        go_meet
        exact Lib.hid ⟨[s], by rw [HA.out, List.drop_zero], HO'.out, (HX.out.step ((Below.refl _ _).alloc (Nat.le_refl _) _)).grown HG'.out (fun q hq => by cases hq)⟩
      · have e2 : (k == 2) = false := by simpa using h2
        have HA : Hid (E.names ee = E.namess l) := Lib.hid (by rw [HEE.out, E.names, if_neg h2]; rfl)
        clear h2
        go_wp2_with fail
        go_meet
        exact Lib.hid ⟨[], by rw [HA.out, List.drop_zero]; rfl, World.ownsRow_nil _ _ _ _, HX.out⟩
    case rest =>
      have HR := hcut
      obtain ⟨W1, hW1⟩ : ∃ W1, W1 = wc := ⟨_, rfl⟩
      subst hW1
      clear z0 z1 z2 z3
      go_wp2_with fail
      go_loopw [3, 4] (fun v i wr => ∃ k' : Nat, k' ≤ L ∧ i = .int .i64 k' ∧ Hid (RnAt w k n s A L c ee l k' v wr)) (fun _ i _ => L - (intOf i).toNat)
      case atStart => exact ⟨0, by omega, rfl, HR⟩
      case round =>
        obtain ⟨k', hk', rfl, hat⟩ := hrel
        obtain ⟨acc, hacc, hown, hbox⟩ := hat.out
        have hbw := hbox.2
        have hsz := hbw.size
        have hbl := heap_lt hbox.1
        obtain ⟨_, _, _, c3⟩ := hbox.cells
        have HB := Lib.hid hbox
        have HA := Lib.hid hacc
        have HO := Lib.hid hown
        clear hbox hacc hown
        by_cases hlt : k' < L
        · have hlt' : k' < l.length := by rw [← HL.out]; exact hlt
          obtain ⟨b, o, kk, kn, ks, kq, kA, kc, rfl, hbB, he, q0, q1, q2, q3, hvv⟩ := (HK.out.below hbw).at_ hlt'
          have HV := Lib.hid (hvv.more hsz)
          have HC : Hid (E.count (.mk kk kn ks kq) ≤ m) := Lib.hid (by
            have h1 := E.count_lt (k := k) (n := n) (s := s) hlt'
            have h2 := HM.out
            rw [he] at h1; omega)
          have HMM' : Hid (m ≤ 1099511627776) := Lib.hid (by have := HMM.out; omega)
          have HZ : Hid (E.namess (l.drop k') = E.names (.mk kk kn ks kq) ++ E.namess (l.drop (k' + 1))) := Lib.hid (by rw [E.namess_at hlt', he])
          clear he hvv
          go_wp2_with fail
          refine (HI.out _ _ _ HC.out HMM'.out HV.out).mono ?_
          rintro e w1 ⟨vk, rfl, hok, hb1⟩
          obtain ⟨ns, hns⟩ : ∃ ns, ns = E.names (.mk kk kn ks kq) := ⟨_, rfl⟩
          rw [← hns] at hok
          have HN : Hid ((acc ++ ns) ++ E.namess (l.drop (k' + 1)) = E.names ee) := Lib.hid (by rw [hns, List.append_assoc, ← HZ.out, HA.out])
          have hlen : acc.length + ns.length ≤ 1099511627776 := by
            have h1 := HNL.out
            rw [← HN.out] at h1
            simp only [List.length_append] at h1; omega
          have HOWN := Lib.hid (own_below HO.out hb1)
          have HB1 := Lib.hid (HB.out.step hb1)
          clear hns
          rcases ownT_ways hok with ⟨rfl, hnil⟩ | ⟨g, cap, rfl, hgc, hgb, hgl, _, hcells⟩
          · have HNIL := Lib.hid hnil
            clear hnil hok
            go_wp2_with (at_builtin; refine wpList_append_own_none rfl (.tmp 20) (.tmp 26) 27 rfl (w.heap.size + 1) 9 i0 1 Tryd.underlying27 hi _ _ _ rfl HOWN.out rfl ?_)
            go_roundw
            case rel => exact ⟨k' + 1, by omega, by go_num, Lib.hid ⟨acc ++ ns, HN.out, by rw [HNIL.out, List.append_nil]; exact HOWN.out, HB1.out⟩⟩
            case measure => simp [intOf]; omega
          · have HCELLS := Lib.hid hcells
            have hs1 := hb1.size
            clear hcells hok
            go_wp2_with (at_builtin; refine wpList_append_own _ rfl (.tmp 20) (.tmp 26) 27 rfl (w.heap.size + 1) 9 i0 (.string ⟨#[]⟩) 1 16 Tryd.underlying27 hi hz0 hz1 hz2 rfl (by decide) _ _ _ rfl HOWN.out ⟨g, 0, none⟩ ns.length cap (ns.map Value.string) rfl (by simp) HCELLS.out (onesL _) (by unfold maxLen; omega) (by omega) (by omega) ?_; intro v' w' hown' hgrow' hiff; clear hiff; have HO' := Lib.hid hown'; have HG' := Lib.hid hgrow'; clear hown' hgrow')
            go_roundw
            case rel => exact ⟨k' + 1, by omega, by go_num, Lib.hid ⟨acc ++ ns, HN.out, by rw [OwnT, List.length_append, List.map_append]; exact HO'.out, HB1.out.grown HG'.out (fun q hq => (HOWN.out.lt q hq).1)⟩⟩
            case measure => simp [intOf]; omega
        · have HE : Hid (acc = E.names ee) := Lib.hid (by rw [← HA.out, E.namess_end (by rw [← HL.out]; exact hlt), List.append_nil])
          go_wp2_with fail
          go_ret
          exact ⟨_, rfl, ownT_mono (HE.out ▸ HO.out) (by omega), hbw⟩
end Go.Proofs.YtdehpgdffafebaaDoor
namespace Go.Proofs.YtdehpgdffafebaaDoor
open Go.RowKit Go.Shelf
attribute [local go_sem] Oper.semAt_some
set_option linter.unusedVariables false

/-- What is no row of texts stays. -/
structure Fr (w W : World) : Prop where
  size : w.heap.size ≤ W.heap.size
  same : ∀ (k : Nat) (o : Obj), w.heap[k]? = some o → (∀ cs fr, o ≠ .cells cs 9 fr) → W.heap[k]? = some o
theorem Fr.refl (w : World) : Fr w w := ⟨Nat.le_refl _, fun _ _ h _ => h⟩
theorem Fr.trans {a b c : World} (h : Fr a b) (h' : Fr b c) : Fr a c := ⟨Nat.le_trans h.size h'.size, fun k o hk ho => h'.same k o (h.same k o hk ho) ho⟩
theorem Fr.below {w W : World} (h : Below w.heap.size w W) : Fr w W := ⟨h.size, fun k o hk _ => (h.block k (heap_lt hk)).trans hk⟩
theorem Fr.grown {w W : World} {base : Nat} {v : Value} {l : List ByteArray} (ho : OwnT w base v l) (hg : w.grownBy W v.ownBlock) : Fr w W :=
  ⟨hg.size, fun k o hk hn => (hg.block k (heap_lt hk) (fun e => by
    rcases ownT_ways ho with ⟨rfl, _⟩ | ⟨g, cap, rfl, _, _, _, ⟨cur, hcur⟩, _⟩
    · cases e
    · simp [Value.ownBlock] at e
      subst e
      rw [hk] at hcur
      cases hcur
      exact hn _ _ rfl)).trans hk⟩
theorem Fr.set {w W : World} (h : Fr w W) {g : Nat} (hg : w.heap.size ≤ g) (o : Nat) (v : Value) : Fr w (W.setCell ⟨g, o, none⟩ v) :=
  ⟨by rw [(rfl : (W.setCell ⟨g, o, none⟩ v).heap.size = (W.setCell ⟨g, o, none⟩ v).heap.size)]; exact Nat.le_trans h.size (KeepsWalks.setCell W _ v).size, fun k ob hk hn => (heap_setCell_other W ⟨g, o, none⟩ k v (by have := heap_lt hk; show k ≠ g; omega)).trans (h.same k ob hk hn)⟩
theorem Fr.row {w W W' : World} {row : Option Nat} (h : Fr w W) (hg : W.grownBy W' row) (hr : ∀ r, row = some r → w.heap.size ≤ r) : Fr w W' :=
  ⟨Nat.le_trans h.size hg.size, fun k o hk hn => (hg.block k (Nat.lt_of_lt_of_le (heap_lt hk) h.size) (fun e => by have := hr k e.symm; have := heap_lt hk; omega)).trans (h.same k o hk hn)⟩
theorem Fr.keeps {w W : World} {B : Nat} (h : Fr w W) : KeepsFrom B w W := ⟨h.size, fun k o _ hk hc => h.same k o hk (fun cs fr e => by rw [e] at hc; cases hc)⟩

theorem ownT_slice {w : World} {base : Nat} {v : Value} {l : List ByteArray} (h : OwnT w base v l) : ∃ A n cap, v = .slice A n cap := by
  rcases ownT_ways h with ⟨rfl, rfl⟩ | ⟨g, cap, rfl, _⟩
  · exact ⟨none, 0, 0, rfl⟩
  · exact ⟨_, _, cap, rfl⟩
theorem ownT_row {w W : World} {base : Nat} {v : Value} {l : List ByteArray} {row : Option Nat} (h : OwnT w base v l) (hg : w.grownBy W row) (hr : ∀ r, row = some r → ∃ o : Obj, w.heap[r]? = some o ∧ o.isCells = false) : OwnT W base v l := by
  refine h.kept hg ?_
  rcases ownT_ways h with ⟨rfl, _⟩ | ⟨g, cap, rfl, _, _, _, ⟨cur, hcur⟩, _⟩
  · exact .inl rfl
  · refine .inr (fun e => ?_)
    obtain ⟨o, ho, hc⟩ := hr g e.symm
    rw [hcur] at ho
    cases ho
    cases hc
theorem ownT_set {w : World} {base g : Nat} {v u u' : Value} {l : List ByteArray} (h : OwnT w base v l) (hb : w.heap[g]? = some (.cells #[u] 27 (0, 0))) : OwnT (w.setCell ⟨g, 0, none⟩ u') base v l :=
  h.kept (grownBy_setCell' w g u') (.inr (fun e => Boxed.not_row (B := g) (t := 27) (e := 9) (u := u) hb (by decide) h e.symm))

/-- The names of a Kid that has come. -/
def nmOf {B : Nat} {W0 : World} {l : List E} (x : Kd B W0 l) : List ByteArray := match l[x.1.1]? with | some e => E.names e | none => []
theorem nms_of (l : List E) : ∀ q, (List.range' q (l.length - q)).flatMap (fun i => match l[i]? with | some e => E.names e | none => []) = E.namess (l.drop q) := by
  intro q
  obtain ⟨r, hr⟩ : ∃ r, r = l.length - q := ⟨_, rfl⟩
  induction r generalizing q with
  | zero => rw [← hr, E.namess_end (by omega)]; rfl
  | succ r ih =>
    have h1 : q < l.length := by omega
    rw [← hr, List.range'_succ, List.flatMap_cons, E.namess_at h1, ← ih (q + 1) (by omega), List.getElem?_eq_getElem h1, show l.length - (q + 1) = r by omega]
theorem nms_all {l : List E} {B : Nat} {W0 : World} {xs : List (Kd B W0 l)} (hx : xs.map (fun x => x.1.1) = List.range l.length) : xs.flatMap nmOf = E.namess l := by
  have h := nms_of l 0
  rw [List.drop_zero, Nat.sub_zero, ← List.range_eq_range', ← hx, List.flatMap_map] at h
  exact h

def AnPost (base : Nat) (xs : List ByteArray) (e : E) (w : World) (x : Ending) (w' : World) : Prop := ∃ v, x = .returned v ∧ OwnT w' base v (xs ++ E.names e) ∧ Below base w w' ∧ Fr w w'

/-- Between two rounds. -/
def AnI (base : Nat) (w : World) (xs : List ByteArray) {B : Nat} {W0 : World} {l : List E} (M : Nat) (pre : List (Kd B W0 l)) (W : World) : Prop :=
  (∃ v, W.heap[w.heap.size]? = some (.cells #[v] 27 (0, 0)) ∧ OwnT W base v (xs ++ pre.flatMap nmOf)) ∧ Below base w W ∧ Fr w W ∧ (pre.flatMap nmOf).length ≤ pre.length * M
theorem anI_own {base : Nat} {w : World} {xs : List ByteArray} {B : Nat} {W0 : World} {l : List E} {M B' : Nat} (hb0 : base ≤ w.heap.size) (hw : w.heap.size ≤ B') : OwnFrom B' (fun (pre : List (Kd B W0 l)) W => AnI base w xs M pre W) := by
  rintro pre X Y row ⟨⟨v, hb, ho⟩, hbw, hf, hm⟩ hg hr
  exact ⟨⟨v, row_own pre X Y row hb hg hr, ownT_row ho hg (fun r e => (hr r e).2)⟩, hbw.grown hg (Nat.le_trans hb0 hf.size) (fun r e => Nat.le_trans (Nat.le_trans hb0 hw) (hr r e).1), hf.row hg (fun r e => Nat.le_trans hw (hr r e).1), hm⟩

def AnAx (w : World) {B : Nat} {W0 : World} {l : List E} (x : Kd B W0 l) (a' : Act) (W : World) : Prop :=
  ∃ Bx cs u0 u1 u4 u5 u7 u8 u9 u10 u11 u12 u13 u14 u15 u16 u17 u18 u19 u20 u21 u22, x.1.2 = .agg cs ∧ W.heap[Bx]? = some (.cells cs 24 (0, 0)) ∧
    a' = { tmps := #[u0, u1, .pointer (some ⟨w.heap.size, 0, none⟩), .pointer (some ⟨w.heap.size + 1, 0, none⟩), u4, u5, .pointer (some ⟨Bx, 0, none⟩), u7, u8, u9, u10, u11, u12, u13, u14, u15, u16, u17, u18, u19, u20, u21, u22], defers := [] }
theorem anAx_own (w : World) {B : Nat} {W0 : World} {l : List E} (B' : Nat) (x : Kd B W0 l) (a' : Act) : OwnFrom B' (fun (_ : Unit) W => AnAx w x a' W) := by
  intro s X Y row hs hg hr
  obtain ⟨Bx, cs, u0, u1, u4, u5, u7, u8, u9, u10, u11, u12, u13, u14, u15, u16, u17, u18, u19, u20, u21, u22, h2, h3, h4⟩ := hs
  exact ⟨Bx, cs, u0, u1, u4, u5, u7, u8, u9, u10, u11, u12, u13, u14, u15, u16, u17, u18, u19, u20, u21, u22, h2, row_own (β := Unit) s X Y row h3 hg hr, h4⟩

theorem sq_room {c L ck p n : Nat} (hL : L + 1 ≤ c) (hck : ck + L ≤ c) (hp : p + 1 ≤ L) (hn : n ≤ p * c) : 1 + n + ck * ck ≤ c * c := by
  have h1 : ck * ck ≤ (c - L) * c := Nat.mul_le_mul (by omega) (by omega)
  have h2 : p * c ≤ (L - 1) * c := Nat.mul_le_mul_right c (by omega)
  have h3 : (c - L) * c + (L - 1) * c = (c - 1) * c := by rw [← Nat.add_mul]; congr 1; omega
  have h4 : (c - 1) * c + c = c * c := by
    obtain ⟨d, rfl⟩ : ∃ d, c = d + 1 := ⟨c - 1, by omega⟩
    rw [Nat.add_sub_cancel, ← Nat.succ_mul]
  omega

set_option maxRecDepth 100000 in
set_option maxHeartbeats 4000000 in
theorem addNames_any : ∀ (m : Nat) (e : E) (v u : Value) (xs : List ByteArray) (base : Nat) (w : World), E.count e ≤ m → E.count e ≤ 1048576 → base ≤ w.heap.size → InV base w e v → OwnT w base u xs → xs.length + E.count e * E.count e ≤ 4398046511104 →
    Calls Tryd.prog 17 #[u, v] w (AnPost base xs e w) := by
  obtain ⟨i0, hi, hz0, hz1, hz2⟩ := info_parts str_info
  intro m
  induction m with
  | zero => intro e v u xs base w h; have := E.count_pos e; omega
  | succ m ih =>
    intro e v u xs base w hm hc2 hbase hv hu hroom
    obtain ⟨k, n, s, l, A, c, rfl, rfl, hn, hlc, hcm, hk⟩ := hv.open
    obtain ⟨UA, X, uc, rfl⟩ := ownT_slice hu
    have hl1 : l.length ≤ 9223372036854775807 := by unfold maxLen at hcm; omega
    have HK : Hid (KidsIn base w A l) := Lib.hid hk
    have HI := Lib.hid ih
    have HM := Lib.hid hm
    have HC2 := Lib.hid hc2
    have HROOM := Lib.hid hroom
    have HCL : Hid (l.length + 1 ≤ E.count (.mk k n s l)) := Lib.hid (by have := E.counts_len l; rw [E.count]; omega)
    have hsq : 1 ≤ E.count (.mk k n s l) * E.count (.mk k n s l) := by
      have := E.count_pos (.mk k n s l)
      exact Nat.mul_pos this this
    have hX1 : xs.length + 1 ≤ 4398046511104 := by omega
    obtain ⟨L, hL⟩ : ∃ L, L = l.length := ⟨_, rfl⟩
    rw [← hL] at hlc hl1 ⊢
    have HL := Lib.hid hL
    have HU := Lib.hid hu
    obtain ⟨ee, hee⟩ : ∃ ee, ee = E.mk k n s l := ⟨_, rfl⟩
    have HEE := Lib.hid hee
    rw [← hee]
    clear hL hu hk hv hn hm hc2 ih hcm hee hroom hsq
    have hbx := heap_new w (.cells #[.slice UA X uc] 27)
    have hbx' : ((w.alloc (.cells #[.slice UA X uc] 27)).alloc (.cells (cE k n s A L c) tE)).heap[w.heap.size]? = some (.cells #[.slice UA X uc] 27 (0, 0)) := (Below.heap_alloc _ _ _ (by simp)).trans hbx
    have hby := heap_new (w.alloc (.cells #[.slice UA X uc] 27)) (.cells (cE k n s A L c) tE)
    rw [World.size_alloc] at hby
    have hbelow : Below w.heap.size w ((w.alloc (.cells #[.slice UA X uc] 27)).alloc (.cells (cE k n s A L c) tE)) := ((Below.refl _ _).alloc (Nat.le_refl _) _).alloc (by simp) _
    have HW1 : Hid (Below w.heap.size w ((w.alloc (.cells #[.slice UA X uc] 27)).alloc (.cells (cE k n s A L c) tE))) := Lib.hid hbelow
    have HUO : Hid (OwnT ((w.alloc (.cells #[.slice UA X uc] 27)).alloc (.cells (cE k n s A L c) tE)) base (.slice UA X uc) xs) := Lib.hid ((HU.out.alloc _).alloc _)
    obtain ⟨z0, z1, z2, z3⟩ := row4 hby
    have y0 : ((w.alloc (.cells #[.slice UA X uc] 27)).alloc (.cells (cE k n s A L c) tE)).cell? ⟨w.heap.size, 0, none⟩ = some (.slice UA X uc) := heap_cell hbx'
    by_cases h2 : k = 2
    · have e2 : (k == 2) = true := by simp [h2]
      have HA : Hid (E.names ee = [s] ++ E.namess l) := Lib.hid (by rw [HEE.out, E.names, if_pos h2])
      clear h2
      refine (callsIn_wide (n := 9)).1 ?_
      refine callsIn_of_wp_marks Tryd.func17 rfl trivial ?_ rfl
      simp only [Tryd.ntmps17, List.size_toArray, List.length_cons, List.length_nil, Nat.reduceAdd, Nat.reduceSub, Array.replicate_succ, Array.replicate_zero, List.push_toArray, List.append_toArray, List.nil_append, List.cons_append]
      obtain ⟨Wb, hWb⟩ : ∃ Wb, Wb = ((w.alloc (.cells #[.slice UA X uc] 27)).alloc (.cells (cE k n s A L c) tE)) := ⟨_, rfl⟩
      have HFB : Hid (Fr w (((w.alloc (.cells #[.slice UA X uc] 27)).alloc (.cells (cE k n s A L c) tE)).alloc (.cells #[.string s] 9))) := Lib.hid ((Fr.below hbelow).trans (Fr.below ((Below.refl _ _).alloc (Nat.le_refl _) _)))
      have HBB : Hid (Below base w (((w.alloc (.cells #[.slice UA X uc] 27)).alloc (.cells (cE k n s A L c) tE)).alloc (.cells #[.string s] 9))) := Lib.hid ((hbelow.mono hbase).alloc (by simp; omega) _)
      have HBX : Hid ((((w.alloc (.cells #[.slice UA X uc] 27)).alloc (.cells (cE k n s A L c) tE)).alloc (.cells #[.string s] 9)).heap[w.heap.size]? = some (.cells #[.slice UA X uc] 27 (0, 0))) := Lib.hid ((Below.heap_alloc _ _ _ (by simp; omega)).trans hbx')
      have HBY : Hid ((((w.alloc (.cells #[.slice UA X uc] 27)).alloc (.cells (cE k n s A L c) tE)).alloc (.cells #[.string s] 9)).heap[w.heap.size + 1]? = some (.cells (cE k n s A L c) tE (0, 0))) := Lib.hid ((Below.heap_alloc _ _ _ (by simp)).trans hby)
      have HOA := Lib.hid (HUO.out.alloc (.cells #[.string s] 9))
      clear hWb hbx hbx' hby hbelow
      gi_wp2_with (gi_at_builtin; refine wpListIn_append_own _ rfl (.tmp 10) (.tmp 13) 27 rfl base 9 i0 (.string ⟨#[]⟩) 1 16 Tryd.underlying27 hi hz0 hz1 hz2 rfl (by decide) _ _ _ rfl HOA.out ⟨w.heap.size + 1 + 1, 0, none⟩ 1 1 [.string s] rfl rfl (new1 _ _ _ _ (by simp)) (ones1 _) (by unfold maxLen; omega) (by omega) (by simp; omega) ?_; intro v' w1 hown' hgrow hiff; clear hiff; obtain ⟨g', cap', rfl⟩ := ownsRow_succ hown'; have hfr := Fr.grown HOA.out hgrow; have hbx1 := hfr.same _ _ HBX.out (fun cs fr e => by cases e); have hby1 := hfr.same _ _ HBY.out (fun cs fr e => by cases e); have y0' := heap_cell hbx1; have f0' := frozen_of hbx1 0; obtain ⟨z0', z1', z2', z3'⟩ := row4 hby1; have HBX1 := Lib.hid hbx1; have HFR := Lib.hid hfr; have HOW1 := Lib.hid hown'; have HGR := Lib.hid hgrow; clear hbx1 hby1 hfr hown' hgrow)
      refine ⟨trivial, ?_⟩
      refine (kids_in Fence.wide _ trivial rfl _ _ _ _ _).mono ?_
      rintro e w' ⟨rfl, rfl⟩
      gi_wp2_with fail
      have b0 : (w1.setCell ⟨w.heap.size, 0, none⟩ (.slice (some ⟨g', 0, none⟩) (xs.length + 1) cap')).heap[w.heap.size]? = some (.cells #[.slice (some ⟨g', 0, none⟩) (xs.length + 1) cap'] 27 (0, 0)) := heap_setCell_same w1 w.heap.size 0 _ _ (.slice (some ⟨g', 0, none⟩) (xs.length + 1) cap') HBX1.out
      have o1 : OwnT (w1.setCell ⟨w.heap.size, 0, none⟩ (.slice (some ⟨g', 0, none⟩) (xs.length + 1) cap')) base (.slice (some ⟨g', 0, none⟩) (xs.length + 1) cap') (xs ++ [s]) := ownT_set (by rw [OwnT, List.length_append, List.map_append]; exact HOW1.out) HBX1.out
      have bel1 := (HBB.out.grown HGR.out (Nat.le_trans hbase HFB.out.size) (fun q hq => (HOA.out.lt q hq).1)).setCell (p := ⟨w.heap.size, 0, none⟩) hbase (.slice (some ⟨g', 0, none⟩) (xs.length + 1) cap')
      have fr1 := (HFB.out.trans HFR.out).set (Nat.le_refl _) 0 (.slice (some ⟨g', 0, none⟩) (xs.length + 1) cap')
      obtain ⟨own, hown⟩ : ∃ own : List ByteArray, own = [s] := ⟨_, rfl⟩
      rw [← hown] at HA o1
      have HOW : Hid (own.length ≤ 1) := Lib.hid (by rw [hown]; simp)
      clear hown z0 z1 z2 z3 y0 z0' z1' z2' z3' y0' f0'
      obtain ⟨W1, hW1⟩ : ∃ W1, W1 = w1.setCell ⟨w.heap.size, 0, none⟩ (.slice (some ⟨g', 0, none⟩) (xs.length + 1) cap') := ⟨_, rfl⟩
      have hsz1 : w1.heap.size = W1.heap.size := by rw [hW1]; simp
      rw [hsz1]
      rw [← hW1] at b0 o1 bel1 fr1 ⊢
      clear hW1 HFB HBB HBX HBY HOA HBX1 HFR HOW1 HGR HW1 HUO
      obtain ⟨v1, hv1⟩ : ∃ v1, v1 = Value.slice (some ⟨g', 0, none⟩) (xs.length + 1) cap' := ⟨_, rfl⟩
      rw [← hv1] at b0 o1
      clear hv1
      have hW1s := bel1.size
      have b0' := (Below.heap_alloc W1 (.cells (cE k n s A L c) tE) _ (heap_lt b0)).trans b0
      have o1' : OwnT (W1.alloc (.cells (cE k n s A L c) tE)) base v1 (xs ++ own) := o1.alloc _
      have bel1' := bel1.alloc (Nat.le_trans hbase fr1.size) (.cells (cE k n s A L c) tE)
      have fr1' : Fr w (W1.alloc (.cells (cE k n s A L c) tE)) := fr1.trans (Fr.below ((Below.refl _ _).alloc (Nat.le_refl _) _))
      have bx0 := heap_new W1 (.cells (cE k n s A L c) tE)
      have sz0 : (W1.alloc (.cells (cE k n s A L c) tE)).heap.size = W1.heap.size + 1 := by simp
      obtain ⟨W0, hW0⟩ : ∃ W0, W0 = W1.alloc (.cells (cE k n s A L c) tE) := ⟨_, rfl⟩
      rw [← hW0] at b0' o1' bel1' fr1' bx0 sz0 ⊢
      clear hW0
      have hws := fr1.size
      refine wpIn_rangeFunc_ownH rfl (by omega) (gf := 43) (lb := #[.pointer (some ⟨W1.heap.size, 0, none⟩)]) rfl trivial (enters_of Tryd.func43 (by kernel_rfl) rfl)
        (kids_stops Fence.wide _ trivial rfl (by omega) W1.heap.size k n s A c base base (Nat.le_refl _) l L HL.out w hbase hl1 hlc HK.out W0 bel1' bx0) belowK_t (belowK_b (by omega)) (Below.refl _ _) (fun _ => rfl)
        (AnI base w (xs ++ own) (E.count (.mk k n s l))) (fun _ _ _ => False) (anI_own hbase (by omega)) (fun _ _ _ _ _ hs _ _ => hs)
        ⟨⟨v1, b0', by simpa using o1'⟩, bel1', fr1', by simp⟩ (AnAx w) (fun x a' => anAx_own w _ x a') ?assign ?body ?done ?stop
      case assign =>
        rintro l0 pre ⟨⟨i, v⟩, e, he, hin⟩ W K ⟨⟨u2, hb, ho⟩, hbw, hf, hm⟩ hK
        obtain ⟨kk, kn, ks, kq, kA, kc, rfl, rfl, _, _, _, _⟩ := hin.open
        gi_wp2
        exact hK _ _ ((KeepsOthers.alloc _ _).from _) ((Below.refl _ W).alloc (Nat.le_trans hbase hf.size) _) ⟨⟨u2, (Below.heap_alloc W _ _ (heap_lt hb)).trans hb, ho.alloc _⟩, hbw.alloc (Nat.le_trans hbase hf.size) _, hf.trans (Fr.below ((Below.refl _ _).alloc (Nat.le_refl _) _)), hm⟩ ⟨W.heap.size, _, _, _, _, _, _, _, _, _, _, _, _, _, _, _, _, _, _, _, _, _, rfl, heap_new W _, rfl⟩
      case body =>
        rintro l0 pre x a' W hl0 hrr ⟨⟨u2, hb, ho⟩, hbw, hf, hm⟩ ⟨Bx, cs, u0, u1, u4, u5, u7, u8, u9, u10, u11, u12, u13, u14, u15, u16, u17, u18, u19, u20, u21, u22, hcs, hbx, rfl⟩ hlt
        obtain ⟨e, he, hin⟩ := x.2
        obtain ⟨kk, kn, ks, kq, kA, kc, rfl, hx2, _, _, _, _⟩ := hin.open
        rw [hx2] at hcs hin
        cases hcs
        have hil := (List.getElem?_eq_some_iff.1 he).1
        have hkc : E.count (.mk kk kn ks kq) + L ≤ E.count (.mk k n s l) := by
          rw [HL.out, ← (List.getElem?_eq_some_iff.1 he).2]
          exact E.count_room hil
        obtain ⟨nn, hnn⟩ : ∃ nn, nn = xs ++ own ++ pre.flatMap nmOf := ⟨_, rfl⟩
        rw [← hnn] at ho
        have hroom2 : nn.length + E.count (.mk kk kn ks kq) * E.count (.mk kk kn ks kq) ≤ 4398046511104 := by
          have h1 := sq_room (c := E.count (.mk k n s l)) (L := L) (ck := E.count (.mk kk kn ks kq)) (p := pre.length) (n := (pre.flatMap nmOf).length) (by have := HCL.out; have := HL.out; omega) hkc (by omega) hm
          have h2 := HROOM.out
          have h3 := HOW.out
          rw [hnn]
          simp only [List.length_append]
          omega
        have HROOM2 := Lib.hid hroom2
        have HV : Hid (InV base W (.mk kk kn ks kq) (.agg #[.int .i64 kk, .int .i64 kn, .string ks, .slice kA kq.length kc])) := Lib.hid (hin.below hbw)
        have HC : Hid (E.count (.mk kk kn ks kq) ≤ m) := Lib.hid (by have := HM.out; have := HCL.out; have := HL.out; omega)
        have HC3 : Hid (E.count (.mk kk kn ks kq) ≤ 1048576) := Lib.hid (by have := HC2.out; omega)
        obtain ⟨A2, n2, c2, rfl⟩ := ownT_slice ho
        have hWs := Nat.le_trans hbase hf.size
        obtain ⟨z0, z1, z2, z3⟩ := row4 hbx
        have y0 := heap_cell hb
        have HO := Lib.hid ho
        have HB := Lib.hid hb
        have HF := Lib.hid hf
        have HBW := Lib.hid hbw
        have HNM : Hid (nmOf x = E.names (.mk kk kn ks kq)) := Lib.hid (by unfold nmOf; rw [he])
        have HKC := Lib.hid hkc
        have HNN := Lib.hid hnn
        have HMM := Lib.hid hm
        clear he hin hx2 ho hb hf hbw hkc hroom2 hnn hm
        gi_wp2_with fail
        refine ⟨trivial, ?_⟩
        refine (callsIn_wide.2 (HI.out _ _ _ nn base W HC.out HC3.out hWs HV.out HO.out HROOM2.out)).mono ?_
        rintro e w4 ⟨v4, rfl, ho4, hb4, hf4⟩
        obtain ⟨A4, n4, c4, rfl⟩ := ownT_slice ho4
        have hb0 := hf4.same _ _ HB.out (fun cs fr e => by cases e)
        have y4 := heap_cell hb0
        have f4 := frozen_of hb0 0
        have HO4 := Lib.hid ho4
        have HB4 := Lib.hid hb4
        have HF4 := Lib.hid hf4
        have HB0 := Lib.hid hb0
        clear ho4 hb4 hf4 hb0 z0 z1 z2 z3 y0
        gi_wp2_with fail
        refine ⟨(HF4.out.keeps).trans ((KeepsOthers.setCell _ _ _).from _), HB4.out.setCell (p := ⟨w.heap.size, 0, none⟩) hbase _, ⟨_, heap_setCell_same _ _ 0 _ _ _ HB0.out, ?_⟩, (HBW.out.trans HB4.out).setCell (p := ⟨w.heap.size, 0, none⟩) hbase _, (HF.out.trans HF4.out).set (Nat.le_refl _) _ _, ?_⟩
        · have := ownT_set (u' := .slice A4 n4 c4) HO4.out HB0.out
          rw [List.flatMap_append, ← List.append_assoc, ← HNN.out]
          simp only [List.flatMap_cons, List.flatMap_nil, List.append_nil, HNM.out]
          exact this
        · rw [List.flatMap_append]
          simp only [List.flatMap_cons, List.flatMap_nil, List.append_nil, HNM.out, List.length_append, List.length_cons, List.length_nil]
          have h1 := E.names_le (.mk kk kn ks kq)
          have h2 := HKC.out
          have h3 := HMM.out
          rw [Nat.add_mul]
          omega
      case done =>
        rintro D ys W hD hS ⟨⟨u2, hb, ho⟩, hbw, hf, hm⟩ hK
        rw [nms_all (by rw [hS, HL.out]), List.append_assoc, ← HA.out] at ho
        have y0 := heap_cell hb
        obtain ⟨A2, n2, c2, rfl⟩ := ownT_slice ho
        have HO := Lib.hid ho
        clear hS ho hm
        gi_wp2_with fail
        refine ⟨by simp, .inl ⟨_, _, rfl, run_takeDeferred hK, ?_⟩⟩
        exact ⟨_, results_tmp rfl _ _ _, _, rfl, ownsRow_putObj HO.out _ hK rfl, hbw.trans (belowK_b (w := w) hbase W D _ _ (by omega) hK rfl rfl), hf.row (grownBy_putObj' W D _) (fun r e => by cases e; omega)⟩
      case stop =>
        rintro D c0 pre W hD hS h hK
        exact h.elim
    · have e2 : (k == 2) = false := by simpa using h2
      have HA : Hid (E.names ee = E.namess l) := Lib.hid (by rw [HEE.out, E.names, if_neg h2]; rfl)
      clear h2
      refine (callsIn_wide (n := 9)).1 ?_
      refine callsIn_of_wp_marks Tryd.func17 rfl trivial ?_ rfl
      simp only [Tryd.ntmps17, List.size_toArray, List.length_cons, List.length_nil, Nat.reduceAdd, Nat.reduceSub, Array.replicate_succ, Array.replicate_zero, List.push_toArray, List.append_toArray, List.nil_append, List.cons_append]
      gi_wp2_with fail
      refine ⟨trivial, ?_⟩
      refine (kids_in Fence.wide _ trivial rfl _ _ _ _ _).mono ?_
      rintro e w' ⟨rfl, rfl⟩
      gi_wp2_with fail
      have b0 := hbx'
      have o1 : OwnT ((w.alloc (.cells #[.slice UA X uc] 27)).alloc (.cells (cE k n s A L c) tE)) base (.slice UA X uc) (xs ++ []) := by rw [List.append_nil]; exact HUO.out
      have bel1 := hbelow.mono hbase
      have fr1 := Fr.below hbelow
      rw [← List.nil_append (E.namess l)] at HA
      obtain ⟨own, hown⟩ : ∃ own : List ByteArray, own = [] := ⟨_, rfl⟩
      rw [← hown] at HA o1
      have HOW : Hid (own.length ≤ 1) := Lib.hid (by rw [hown]; simp)
      clear hown z0 z1 z2 z3 y0 hbx hbx' hby
      obtain ⟨W1, hW1⟩ : ∃ W1, W1 = ((w.alloc (.cells #[.slice UA X uc] 27)).alloc (.cells (cE k n s A L c) tE)) := ⟨_, rfl⟩
      have hsz1 : w.heap.size + 1 + 1 = W1.heap.size := by rw [hW1]; simp
      rw [hsz1]
      rw [← hW1] at b0 o1 bel1 fr1 HUO ⊢
      clear hW1 hbelow HW1 HUO
      obtain ⟨v1, hv1⟩ : ∃ v1, v1 = Value.slice UA X uc := ⟨_, rfl⟩
      rw [← hv1] at b0 o1
      clear hv1
      have hW1s := bel1.size
      have b0' := (Below.heap_alloc W1 (.cells (cE k n s A L c) tE) _ (heap_lt b0)).trans b0
      have o1' : OwnT (W1.alloc (.cells (cE k n s A L c) tE)) base v1 (xs ++ own) := o1.alloc _
      have bel1' := bel1.alloc (Nat.le_trans hbase fr1.size) (.cells (cE k n s A L c) tE)
      have fr1' : Fr w (W1.alloc (.cells (cE k n s A L c) tE)) := fr1.trans (Fr.below ((Below.refl _ _).alloc (Nat.le_refl _) _))
      have bx0 := heap_new W1 (.cells (cE k n s A L c) tE)
      have sz0 : (W1.alloc (.cells (cE k n s A L c) tE)).heap.size = W1.heap.size + 1 := by simp
      obtain ⟨W0, hW0⟩ : ∃ W0, W0 = W1.alloc (.cells (cE k n s A L c) tE) := ⟨_, rfl⟩
      rw [← hW0] at b0' o1' bel1' fr1' bx0 sz0 ⊢
      clear hW0
      have hws := fr1.size
      refine wpIn_rangeFunc_ownH rfl (by omega) (gf := 43) (lb := #[.pointer (some ⟨W1.heap.size, 0, none⟩)]) rfl trivial (enters_of Tryd.func43 (by kernel_rfl) rfl)
        (kids_stops Fence.wide _ trivial rfl (by omega) W1.heap.size k n s A c base base (Nat.le_refl _) l L HL.out w hbase hl1 hlc HK.out W0 bel1' bx0) belowK_t (belowK_b (by omega)) (Below.refl _ _) (fun _ => rfl)
        (AnI base w (xs ++ own) (E.count (.mk k n s l))) (fun _ _ _ => False) (anI_own hbase (by omega)) (fun _ _ _ _ _ hs _ _ => hs)
        ⟨⟨v1, b0', by simpa using o1'⟩, bel1', fr1', by simp⟩ (AnAx w) (fun x a' => anAx_own w _ x a') ?assign ?body ?done ?stop
      case assign =>
        rintro l0 pre ⟨⟨i, v⟩, e, he, hin⟩ W K ⟨⟨u2, hb, ho⟩, hbw, hf, hm⟩ hK
        obtain ⟨kk, kn, ks, kq, kA, kc, rfl, rfl, _, _, _, _⟩ := hin.open
        gi_wp2
        exact hK _ _ ((KeepsOthers.alloc _ _).from _) ((Below.refl _ W).alloc (Nat.le_trans hbase hf.size) _) ⟨⟨u2, (Below.heap_alloc W _ _ (heap_lt hb)).trans hb, ho.alloc _⟩, hbw.alloc (Nat.le_trans hbase hf.size) _, hf.trans (Fr.below ((Below.refl _ _).alloc (Nat.le_refl _) _)), hm⟩ ⟨W.heap.size, _, _, _, _, _, _, _, _, _, _, _, _, _, _, _, _, _, _, _, _, _, rfl, heap_new W _, rfl⟩
      case body =>
        rintro l0 pre x a' W hl0 hrr ⟨⟨u2, hb, ho⟩, hbw, hf, hm⟩ ⟨Bx, cs, u0, u1, u4, u5, u7, u8, u9, u10, u11, u12, u13, u14, u15, u16, u17, u18, u19, u20, u21, u22, hcs, hbx, rfl⟩ hlt
        obtain ⟨e, he, hin⟩ := x.2
        obtain ⟨kk, kn, ks, kq, kA, kc, rfl, hx2, _, _, _, _⟩ := hin.open
        rw [hx2] at hcs hin
        cases hcs
        have hil := (List.getElem?_eq_some_iff.1 he).1
        have hkc : E.count (.mk kk kn ks kq) + L ≤ E.count (.mk k n s l) := by
          rw [HL.out, ← (List.getElem?_eq_some_iff.1 he).2]
          exact E.count_room hil
        obtain ⟨nn, hnn⟩ : ∃ nn, nn = xs ++ own ++ pre.flatMap nmOf := ⟨_, rfl⟩
        rw [← hnn] at ho
        have hroom2 : nn.length + E.count (.mk kk kn ks kq) * E.count (.mk kk kn ks kq) ≤ 4398046511104 := by
          have h1 := sq_room (c := E.count (.mk k n s l)) (L := L) (ck := E.count (.mk kk kn ks kq)) (p := pre.length) (n := (pre.flatMap nmOf).length) (by have := HCL.out; have := HL.out; omega) hkc (by omega) hm
          have h2 := HROOM.out
          have h3 := HOW.out
          rw [hnn]
          simp only [List.length_append]
          omega
        have HROOM2 := Lib.hid hroom2
        have HV : Hid (InV base W (.mk kk kn ks kq) (.agg #[.int .i64 kk, .int .i64 kn, .string ks, .slice kA kq.length kc])) := Lib.hid (hin.below hbw)
        have HC : Hid (E.count (.mk kk kn ks kq) ≤ m) := Lib.hid (by have := HM.out; have := HCL.out; have := HL.out; omega)
        have HC3 : Hid (E.count (.mk kk kn ks kq) ≤ 1048576) := Lib.hid (by have := HC2.out; omega)
        obtain ⟨A2, n2, c2, rfl⟩ := ownT_slice ho
        have hWs := Nat.le_trans hbase hf.size
        obtain ⟨z0, z1, z2, z3⟩ := row4 hbx
        have y0 := heap_cell hb
        have HO := Lib.hid ho
        have HB := Lib.hid hb
        have HF := Lib.hid hf
        have HBW := Lib.hid hbw
        have HNM : Hid (nmOf x = E.names (.mk kk kn ks kq)) := Lib.hid (by unfold nmOf; rw [he])
        have HKC := Lib.hid hkc
        have HNN := Lib.hid hnn
        have HMM := Lib.hid hm
        clear he hin hx2 ho hb hf hbw hkc hroom2 hnn hm
        gi_wp2_with fail
        refine ⟨trivial, ?_⟩
        refine (callsIn_wide.2 (HI.out _ _ _ nn base W HC.out HC3.out hWs HV.out HO.out HROOM2.out)).mono ?_
        rintro e w4 ⟨v4, rfl, ho4, hb4, hf4⟩
        obtain ⟨A4, n4, c4, rfl⟩ := ownT_slice ho4
        have hb0 := hf4.same _ _ HB.out (fun cs fr e => by cases e)
        have y4 := heap_cell hb0
        have f4 := frozen_of hb0 0
        have HO4 := Lib.hid ho4
        have HB4 := Lib.hid hb4
        have HF4 := Lib.hid hf4
        have HB0 := Lib.hid hb0
        clear ho4 hb4 hf4 hb0 z0 z1 z2 z3 y0
        gi_wp2_with fail
        refine ⟨(HF4.out.keeps).trans ((KeepsOthers.setCell _ _ _).from _), HB4.out.setCell (p := ⟨w.heap.size, 0, none⟩) hbase _, ⟨_, heap_setCell_same _ _ 0 _ _ _ HB0.out, ?_⟩, (HBW.out.trans HB4.out).setCell (p := ⟨w.heap.size, 0, none⟩) hbase _, (HF.out.trans HF4.out).set (Nat.le_refl _) _ _, ?_⟩
        · have := ownT_set (u' := .slice A4 n4 c4) HO4.out HB0.out
          rw [List.flatMap_append, ← List.append_assoc, ← HNN.out]
          simp only [List.flatMap_cons, List.flatMap_nil, List.append_nil, HNM.out]
          exact this
        · rw [List.flatMap_append]
          simp only [List.flatMap_cons, List.flatMap_nil, List.append_nil, HNM.out, List.length_append, List.length_cons, List.length_nil]
          have h1 := E.names_le (.mk kk kn ks kq)
          have h2 := HKC.out
          have h3 := HMM.out
          rw [Nat.add_mul]
          omega
      case done =>
        rintro D ys W hD hS ⟨⟨u2, hb, ho⟩, hbw, hf, hm⟩ hK
        rw [nms_all (by rw [hS, HL.out]), List.append_assoc, ← HA.out] at ho
        have y0 := heap_cell hb
        obtain ⟨A2, n2, c2, rfl⟩ := ownT_slice ho
        have HO := Lib.hid ho
        clear hS ho hm
        gi_wp2_with fail
        refine ⟨by simp, .inl ⟨_, _, rfl, run_takeDeferred hK, ?_⟩⟩
        exact ⟨_, results_tmp rfl _ _ _, _, rfl, ownsRow_putObj HO.out _ hK rfl, hbw.trans (belowK_b (w := w) hbase W D _ _ (by omega) hK rfl rfl), hf.row (grownBy_putObj' W D _) (fun r e => by cases e; omega)⟩
      case stop =>
        rintro D c0 pre W hD hS h hK
        exact h.elim

theorem names_any (e : E) (v : Value) (w : World) (hc : E.count e ≤ 1048576) (hv : InV w.heap.size w e v) : Calls Tryd.prog 7 #[v] w (RnPost e w) := by
  obtain ⟨k, n, s, l, A, c, he, rfl, -, -, -, -⟩ := hv.open
  have hbx : Below w.heap.size w (w.alloc (.cells (cE k n s A l.length c) tE)) := (Below.refl _ _).alloc (Nat.le_refl _) _
  have HR := Lib.hid (addNames_any _ e _ (.slice none 0 0) [] (w.alloc (.cells (cE k n s A l.length c) tE)).heap.size (w.alloc (.cells (cE k n s A l.length c) tE)) (Nat.le_refl _) hc (Nat.le_refl _) ((hv.below hbx).more hbx.size) (World.ownsRow_nil _ _ _ _) (by
    have : E.count e * E.count e ≤ 1048576 * 1048576 := Nat.mul_le_mul hc hc
    simp; omega))
  clear hv he
  go_enter Tryd.func7, Tryd.ntmps7
  go_wp2_with fail
  refine HR.out.mono ?_
  rintro e' w1 ⟨v1, rfl, ho1, hb1, _⟩
  obtain ⟨A1, n1, c1, rfl⟩ := ownT_slice ho1
  have HO := Lib.hid ho1
  clear ho1
  go_wp2_with fail
  go_ret
  exact ⟨_, rfl, ownT_mono (by rw [← List.nil_append (E.names e)]; exact HO.out) hbx.size, hbx.trans (hb1.mono hbx.size)⟩
end Go.Proofs.YtdehpgdffafebaaDoor
namespace Go.Proofs.YtdehpgdffafebaaDoor
open Go.RowKit
set_option linter.unusedVariables false

def TxC (m : Nat) : Prop := ∀ (e : E) (v : Value) (w : World), E.count e ≤ m → E.form e = true → InV w.heap.size w e v → Laid w → Calls Tryd.prog 21 #[v] w fun x w' => x = .returned (.string (txB e)) ∧ Below w.heap.size w w'

set_option maxRecDepth 100000 in
set_option maxHeartbeats 2000000 in
theorem kidText_any (m : Nat) (hm : m ≤ 1048576) (ih : TxC m) (e : E) (v : Value) (q : Int) (w : World) (hc : E.count e ≤ m) (hf : E.form e = true) (hv : InV w.heap.size w e v) (hlaid : Laid w) :
    Calls Tryd.prog 35 #[v, .int .i64 q] w fun x w' => x = .returned (.string (ktB e q)) ∧ Below w.heap.size w w' := by
  have HT : Hid (∀ W, Below w.heap.size w W → Calls Tryd.prog 21 #[v] W fun x w' => x = .returned (.string (txB e)) ∧ Below W.heap.size W w') := Lib.hid (fun W hb => ih e v W hc hf ((hv.below hb).more hb.size) (hlaid.below hb))
  have HS : Hid ((txB e).size ≤ 50331648) := Lib.hid (by have := txB_size e hf; omega)
  obtain ⟨T, hT⟩ : ∃ T, T = txB e := ⟨_, rfl⟩
  rw [← hT] at HT HS
  obtain ⟨k, n, s, l, A, c, he, rfl, -, -, -, -⟩ := hv.open
  have hk : e.kind = k := by rw [he]; rfl
  obtain ⟨L, hL⟩ : ∃ L, L = l.length := ⟨_, rfl⟩
  rw [← hL] at HT ⊢
  have hbx : Below w.heap.size w (w.alloc (.cells (cE k n s A L c) tE)) := (Below.refl _ _).alloc (Nat.le_refl _) _
  have hbox := heap_new w (.cells (cE k n s A L c) tE)
  obtain ⟨W0, hW0⟩ : ∃ W0, W0 = w.alloc (.cells (cE k n s A L c) tE) := ⟨_, rfl⟩
  rw [← hW0] at hbx hbox
  have HB := Lib.hid hbx
  have HBX := Lib.hid hbox
  have HBO := Lib.hid (bindOf_any k W0 (hlaid.below hbx).signs)
  obtain ⟨b, hb⟩ : ∃ b, b = bindI k := ⟨_, rfl⟩
  rw [← hb] at HBO
  obtain ⟨z0, z1, z2, z3⟩ := row4 hbox
  by_cases hq : b < q
  · have HE : Hid (ktB e q = ⟨#[40]⟩ ++ T ++ ⟨#[41]⟩) := Lib.hid (by rw [ktB_yes (by rw [hk, ← hb]; exact hq), hT])
    clear hL hv he hk hb hbox hbx hT hf hc ih hlaid
    have s3 : ¬ 9223372036854775807 < (ByteArray.mk #[40]).size + T.size := by show ¬ 9223372036854775807 < 1 + T.size; have := HS.out; omega
    have s4 : ¬ 9223372036854775807 < (ByteArray.mk #[40] ++ T).size + (ByteArray.mk #[41]).size := by rw [ByteArray.size_append]; show ¬ 9223372036854775807 < 1 + T.size + 1; have := HS.out; omega
    go_enter Tryd.func35, Tryd.ntmps35
    go_wp2_with fail
    rw [← hW0]
    clear hW0
    go_wp2_with fail
    refine HBO.out.mono ?_
    rintro e w1 ⟨rfl, hb1⟩
    have HB1 := Lib.hid (HB.out.trans (hb1.mono HB.out.size))
    have hbx1 := (hb1.block _ (heap_lt HBX.out)).trans HBX.out
    clear z0 z1 z2 z3
    obtain ⟨z0, z1, z2, z3⟩ := row4 hbx1
    clear hbx1
    go_wp2_with fail
    refine (HT.out _ HB1.out).mono ?_
    rintro e w2 ⟨rfl, hb2⟩
    go_wp2_with fail
    go_ret
    exact ⟨by rw [HE.out]; rfl, HB1.out.trans (hb2.mono HB1.out.size)⟩
  · have hq' : decide (b < q) = false := by simpa using hq
    have HE : Hid (ktB e q = T) := Lib.hid (by rw [ktB_no (by rw [hk, ← hb]; exact hq), hT])
    clear hL hv he hk hb hbox hbx hT hf hc ih hlaid hq
    go_enter Tryd.func35, Tryd.ntmps35
    go_wp2_with fail
    rw [← hW0]
    clear hW0
    go_wp2_with fail
    refine HBO.out.mono ?_
    rintro e w1 ⟨rfl, hb1⟩
    have HB1 := Lib.hid (HB.out.trans (hb1.mono HB.out.size))
    have hbx1 := (hb1.block _ (heap_lt HBX.out)).trans HBX.out
    clear z0 z1 z2 z3
    obtain ⟨z0, z1, z2, z3⟩ := row4 hbx1
    clear hbx1
    go_wp2_with fail
    refine (HT.out _ HB1.out).mono ?_
    rintro e w2 ⟨rfl, hb2⟩
    go_wp2_with fail
    go_ret
    exact ⟨by rw [HE.out]; rfl, HB1.out.trans (hb2.mono HB1.out.size)⟩
end Go.Proofs.YtdehpgdffafebaaDoor
