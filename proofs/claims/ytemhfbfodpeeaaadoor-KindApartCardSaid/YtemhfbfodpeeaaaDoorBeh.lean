/- How the owners behind an object's class are written, as the program tells it. Conditions: an object's type of 0 to 3 owners behind the class; at most 1000 parameters, of at most 2000000 bytes each. -/
import Derived.Test.YtemhfbfodpeeaaaDoorRig
import Derived.Test.YtemhfbfodpeeaaaDoorShelf
namespace Go.Proofs.YtemhfbfodpeeaaaDoor
open Go.RowKit
set_option linter.unusedVariables false

theorem str_info : (Tryd.prog.info? 9).map (fun i => (i.zero, i.size, i.bytes)) = some (some (.string ⟨#[]⟩), 1, 16) := by kernel_rfl
theorem grown_of_below {w w' : World} (h : Below w.heap.size w w') (row : Option Nat) : w.grownBy w' row := ⟨h.os, h.tape, h.output, h.size, fun k hk _ => h.block k hk⟩
theorem own_below {base : Nat} {e : TypeId} {size n : Nat} {v : Value} {xs : List Value} {w w' : World} (h : w.ownsRow base e size v n xs) (hb : Below w.heap.size w w') : w'.ownsRow base e size v n xs :=
  h.kept (grown_of_below hb none) (by cases hv : v.ownBlock <;> simp)
theorem new1 (W : World) (x : Value) (t : TypeId) (g : Nat) (hg : g = W.heap.size) : ∀ (j : Nat) (u : Value), [x][j]? = some u → (W.alloc (.cells #[x] t)).cell? ((⟨g, 0, none⟩ : Addr).add j) = some u := by
  intro j u h
  subst hg
  have hn : (W.alloc (.cells #[x] t)).heap[W.heap.size]? = some (.cells #[x] t (0, 0)) := heap_new W _
  have ha : (⟨W.heap.size, 0, none⟩ : Addr).add j = ⟨W.heap.size, j, none⟩ := by unfold Addr.add; split <;> simp_all
  rw [ha, cell_of_row _ _ j _ t (0, 0) hn]
  rw [← h]; simp
theorem ones1 (t : ByteArray) : ∀ u ∈ [Value.string t], u.oneCell' = true := by
  intro u hu
  simp at hu
  subst hu
  rfl

/-- The texts of the owners behind the class. -/
def Ty.otexts (t : Ty) (ps : List ByteArray) : List ByteArray := t.others.map fun o => o.text ps
theorem others_len (t : Ty) : t.others.length = t.cnt := by have := t.cnt_le; unfold Ty.others; simp; omega
theorem otexts_len (t : Ty) (ps : List ByteArray) : (t.otexts ps).length = t.cnt := by unfold Ty.otexts; rw [List.length_map, others_len]
theorem others_at (t : Ty) (k : Nat) (h : k < t.cnt) : t.others[k]? = some (t.own (k + 1)) := by
  have := t.cnt_le
  unfold Ty.others
  rw [List.getElem?_take, if_pos h]
  match k, (show k < 3 by omega) with
  | 0, _ => rfl
  | 1, _ => rfl
  | 2, _ => rfl
theorem otexts_at (t : Ty) (ps : List ByteArray) (k : Nat) (h : k < t.cnt) : (t.otexts ps)[k]? = some ((t.own (k + 1)).text ps) := by
  unfold Ty.otexts; rw [List.getElem?_map, others_at t k h]; rfl

/-- What the loop has collected. -/
def Coll (W0 : World) (l : List ByteArray) (k : Nat) (v : Value) (wr : World) : Prop := wr.ownsRow W0.heap.size 9 1 v k ((l.take k).map Value.string) ∧ Below W0.heap.size W0 wr
theorem coll_next {W0 wr w1 w' : World} {l : List ByteArray} {k : Nat} {v v' : Value} {B : Obj} {y : ByteArray} (h : Coll W0 l k v wr) (hy : l[k]? = some y) (hb : Below wr.heap.size wr w1) (hg : (w1.alloc B).grownBy w' v.ownBlock)
    (ho : w'.ownsRow W0.heap.size 9 1 v' (k + 1) ((l.take k).map Value.string ++ [.string y])) : Coll W0 l (k + 1) v' w' := by
  have hs := h.2.size
  have hs1 := hb.size
  refine ⟨?_, ((h.2.trans (hb.mono hs)).alloc (by omega) _).grown hg (by simp; omega) (fun q hq => (h.1.lt q hq).1)⟩
  rw [List.take_add_one, hy, List.map_append]
  exact ho
theorem coll_end {W0 wr : World} {l : List ByteArray} {k : Nat} {v : Value} (hk : k = l.length) (hl : 0 < l.length) (h : Coll W0 l k v wr) :
    ∃ (g cap : Nat), v = .slice (some ⟨g, 0, none⟩) l.length cap ∧ l.length ≤ cap ∧ g < wr.heap.size ∧ ∀ (j : Nat) (x : ByteArray), l[j]? = some x → wr.cell? ⟨g, 0 + j, none⟩ = some (.string x) := by
  subst hk
  have ho := h.1
  rw [List.take_length] at ho
  rcases ho.2 with ⟨rfl, h0⟩ | ⟨g, cap, cur, rfl, hg, hh, hc, hcm, _, _⟩
  · omega
  · refine ⟨g, cap, rfl, hc, heap_lt hh, fun j x hx => ?_⟩
    have := ho.cells (g := g) rfl j (.string x) (by rw [List.getElem?_map, hx]; rfl)
    have ha : (⟨g, 0, none⟩ : Addr).add j = ⟨g, 0 + j, none⟩ := by unfold Addr.add; split <;> simp_all
    rw [← ha]; exact this
theorem coll_none {W0 wr : World} {l : List ByteArray} {v : Value} (h : Coll W0 l 0 v wr) : ∃ (A : Option Addr) (c : Nat), v = .slice A 0 c := by
  rcases h.1.2 with ⟨rfl, _⟩ | ⟨g, cap, cur, rfl, _⟩
  · exact ⟨_, _, rfl⟩
  · exact ⟨_, _, rfl⟩

/-- The texts behind the class, joined, are short enough. -/
theorem join_short {l : List ByteArray} {B : Nat} (hl : l.length ≤ 3) (h : ∀ b ∈ l, b.size ≤ B) : (Lib.join (l.map (·.data.toList)) [44, 32]).length ≤ 3 * B + 4 := by
  have e : ∀ b : ByteArray, b.data.toList.length = b.size := fun _ => rfl
  match l, hl with
  | [], _ => simp [Lib.join_nil]
  | [a], _ => have := h a (by simp); simp [Lib.join_one, e]; omega
  | [a, b], _ =>
    have := h a (by simp)
    have := h b (by simp)
    simp [Lib.join_cons, Lib.joinTail, e]; omega
  | [a, b, c], _ =>
    have := h a (by simp)
    have := h b (by simp)
    have := h c (by simp)
    simp [Lib.join_cons, Lib.joinTail, e]; omega
theorem otexts_short {t : Ty} {ps : List ByteArray} {B : Nat} (h6 : 6 ≤ B) (h : ∀ i, (hi : i < ps.length) → ps[i].size ≤ B) : ∀ b ∈ t.otexts ps, b.size ≤ B := by
  intro b hb
  obtain ⟨o, _, rfl⟩ := List.mem_map.1 hb
  exact Ow.text_le h6 h
theorem behind_none {t : Ty} {ps : List ByteArray} (h : t.cnt = 0) : t.behind ps = [] := by
  unfold Ty.behind; rw [if_pos (List.eq_nil_of_length_eq_zero (by rw [others_len, h]))]
theorem behind_some {t : Ty} {ps : List ByteArray} (h : 0 < t.cnt) : t.behind ps = 60 :: (Lib.join ((t.otexts ps).map (·.data.toList)) [44, 32] ++ [62]) := by
  unfold Ty.behind Ty.otexts
  rw [if_neg, List.map_map]
  · rfl
  · intro e
    have := others_len t
    rw [e] at this
    simp at this
    omega
theorem app_data (a b : ByteArray) : (a ++ b).data.toList = a.data.toList ++ b.data.toList := by
  rw [ByteArray.data_append, Array.toList_append]
theorem ba_ext {a b : ByteArray} (h : a.data.toList = b.data.toList) : a = b := by
  cases a with | mk a => cases b with | mk b => exact congrArg ByteArray.mk (Array.toList_inj.1 h)

set_option maxHeartbeats 4000000 in
theorem behind_any (t : Ty) (A : Option Addr) (c : Nat) (ps : List ByteArray) (w : World) (h2 : t.kind = 2) (h0 : 0 ≤ t.n) (h3 : t.n ≤ 3) (hr : RS w w.heap.size A ps) (hl : ps.length ≤ 1000) (hc : ps.length ≤ c)
    (hps : ∀ i, (hi : i < ps.length) → ps[i].size ≤ 2000000) :
    Calls Tryd.prog 23 #[.agg t.cells, .slice A ps.length c] w fun e w' => e = .returned (.string ⟨(t.behind ps).toArray⟩) ∧ Below w.heap.size w w' := by
  obtain ⟨i0, hi, hz0, hz1, hz2⟩ := info_parts str_info
  have HT : Hid (TyIn (w.alloc (.cells t.cells 26)) w.heap.size t) := Lib.hid (TyIn.new w t)
  have hcn := Ty.cnt_mid h0 h3
  have hc3 := t.cnt_le
  have HV := Lib.hid (cut_obj (g := w.heap.size) h2 t.cnt rfl)
  have HR := Lib.hid hr
  have HP := Lib.hid hps
  obtain ⟨m, hm⟩ : ∃ m, m = t.cnt := ⟨_, rfl⟩
  have HM := Lib.hid hm
  rw [← hm] at hc3 HV
  clear hm h2 h0 h3 hr hps hcn
  unfold Ty.cells at HT ⊢
  go_enter Tryd.func23, Tryd.ntmps23
  go_wp2_with fail
  refine (cut_any _ t _ HT.out).mono ?_
  rintro e w1 ⟨rfl, rfl⟩
  rw [HV.out]
  obtain ⟨W0, hW0⟩ : ∃ W0, W0 = w.alloc (.cells t.cells 26) := ⟨_, rfl⟩
  have HT0 : Hid (TyIn W0 w.heap.size t) := Lib.hid (by rw [hW0]; exact TyIn.new w t)
  have HB0 : Hid (Below w.heap.size w W0) := Lib.hid (by rw [hW0]; exact below1 w _)
  have HR0 : Hid (RS W0 W0.heap.size A ps) := Lib.hid ((HR.out.below HB0.out).more HB0.out.size)
  unfold Ty.cells at hW0
  rw [← hW0]
  clear hW0 HT HV HR
  obtain ⟨g, hg⟩ : ∃ g, g = w.heap.size := ⟨_, rfl⟩
  rw [← hg] at HT0 ⊢
  clear hg
  by_cases hm0 : m = 0
  · subst hm0
    have HE := Lib.hid (behind_none (ps := ps) (HM.out.symm))
    go_wp2
    go_loopw [5, 11] (fun v i wr => v = .slice none 0 0 ∧ i = .int .i64 0 ∧ wr = W0) (fun _ i _ => 0)
    case atStart => exact ⟨rfl, rfl, rfl⟩
    case round =>
      obtain ⟨rfl, rfl, rfl⟩ := hrel
      go_wp2
      go_ret
      exact ⟨by rw [HE.out]; rfl, HB0.out⟩
  · go_wp2
    go_loopw [5, 11] (fun v i wr => ∃ k : Nat, k ≤ m ∧ i = .int .i64 k ∧ Hid (Coll W0 (t.otexts ps) k v wr)) (fun _ i _ => m - (intOf i).toNat)
    case atStart => exact ⟨0, by omega, rfl, Lib.hid ⟨World.ownsRow_nil _ _ _ _, Below.refl _ _⟩⟩
    case round =>
      obtain ⟨k, hk, rfl, hs⟩ := hrel
      have hsz := hs.out.2.size
      have HTr : Hid (TyIn wr g t) := Lib.hid (HT0.out.below hs.out.2)
      have hgr := HTr.out.lt
      by_cases hlt : k < m
      · obtain ⟨q0, q1⟩ := HTr.out.own_at (i := k + 1) (off := 5 + k * 2) (by omega) (by omega)
        have HY : Hid ((t.otexts ps)[k]? = some ((t.own (k + 1)).text ps)) := Lib.hid (otexts_at t ps k (by rw [← HM.out]; exact hlt))
        obtain ⟨x, hx⟩ : ∃ x, x = t.own (k + 1) := ⟨_, rfl⟩
        rw [← hx] at q0 q1 HY
        clear hx
        have HRr : Hid (RS (wr.alloc (.cells #[.int .i64 x.kind, .int .i64 x.n] 23)) (wr.alloc (.cells #[.int .i64 x.kind, .int .i64 x.n] 23)).heap.size A ps) := Lib.hid (((HR0.out.below hs.out.2).below ((Below.refl _ _).alloc hsz _)).more (by simp; omega))
        go_wp2_with fail
        refine (otext_any x A c ps _ HRr.out hl hc).mono ?_
        rintro e w1 ⟨rfl, hb1⟩
        obtain ⟨y, hy⟩ : ∃ y, y = x.text ps := ⟨_, rfl⟩
        rw [← hy] at HY ⊢
        clear hy
        have hb2 : Below wr.heap.size wr w1 := (below1 wr _).trans (hb1.mono (by simp))
        have hown := own_below hs.out.1 hb2
        have hsz1 := hb2.size
        have HB2 := Lib.hid hb2
        clear hb1 hb2
        go_wp2_with (at_builtin; refine wpList_append_own _ rfl (.tmp 15) (.tmp 19) 27 rfl W0.heap.size 9 i0 (.string ⟨#[]⟩) 1 16 Tryd.underlying27 hi hz0 hz1 hz2 rfl (by decide) _ _ _ rfl (hown.alloc _) ⟨w1.heap.size, 0, none⟩ 1 1 [.string y] rfl rfl (new1 _ _ _ _ rfl) (ones1 _) (by unfold maxLen; omega) (by omega) (by simp; omega) ?_; intro v' w' hown' hgrow' hiff; clear hiff; have HO' := Lib.hid hown'; have HG' := Lib.hid hgrow'; clear hown' hgrow')
        go_roundw
        case rel => exact ⟨k + 1, by omega, by go_num, Lib.hid (coll_next hs.out HY.out HB2.out HG'.out HO'.out)⟩
        case measure => simp [intOf]; omega
      · obtain rfl : k = m := by omega
        clear hlt hk
        have hlen := otexts_len t ps
        rw [← HM.out] at hlen
        obtain ⟨g', cap, rfl, hcap, hg', hcells⟩ := coll_end hlen.symm (by omega) hs.out
        have HJ := Lib.hid (join_short (l := t.otexts ps) (B := 2000000) (by omega) (otexts_short (by omega) HP.out))
        have HE := Lib.hid (behind_some (t := t) (ps := ps) (by rw [← HM.out]; omega))
        have HBr := Lib.hid hs.out.2
        have HC := Lib.hid hcells
        have HL := Lib.hid hlen
        have hlen1 : (t.otexts ps).length ≤ 140737488355328 := by omega
        have hlen0 : ¬ t.otexts ps = [] := by intro e; rw [e] at hlen; simp at hlen; omega
        clear hcells
        have hcall := Tryd.strings_Join g' 0 cap (t.otexts ps) ⟨#[44, 32]⟩ wr HC.out hg' hlen1 hcap (by have := HJ.out; exact Nat.le_trans this (by omega))
        rw [HL.out] at hcall
        obtain ⟨b, hb⟩ : ∃ b : ByteArray, b = ⟨(Lib.join ((t.otexts ps).map (·.data.toList)) [44, 32]).toArray⟩ := ⟨_, rfl⟩
        have hbs : b.size ≤ 6000004 := by rw [hb]; exact HJ.out
        have HBB : Hid (b.data.toList = Lib.join ((t.otexts ps).map (·.data.toList)) [44, 32]) := Lib.hid (by rw [hb])
        have HCL : Hid (Calls Tryd.prog 37 #[.slice (some ⟨g', 0, none⟩) k cap, .string ⟨#[44, 32]⟩] wr fun e w' => e = .returned (.string b) ∧ Below wr.heap.size wr w') := Lib.hid (by rw [hb]; exact hcall)
        clear hcall hb
        go_wp2_with fail
        refine HCL.out.mono ?_
        rintro e w1 ⟨rfl, hb1⟩
        have HB1 := Lib.hid ((HB0.out.trans (HBr.out.mono HB0.out.size)).trans (hb1.mono (by have := HB0.out.size; omega)))
        have z1 : ¬ 9223372036854775807 < 1 + b.size := by omega
        have z2 : ¬ 9223372036854775807 < 1 + b.size + 1 := by omega
        clear hb1
        go_wp2
        go_ret
        exact ⟨ret_s (ba_ext (by rw [app_data, app_data, HBB.out, HE.out]; rfl)), HB1.out⟩
end Go.Proofs.YtemhfbfodpeeaaaDoor
