/- The text of any tokens, as the program and the document's answer tell it. Conditions: at most 1000 tokens, whose texts take at most 100000 bytes. -/
import Derived.Test.YtiijhlmdgbpkmaaDoorLawOf
namespace Go.Proofs.YtiijhlmdgbpkmaaDoor
open Go.RowKit
set_option linter.unusedVariables false

/-- A token, whatever its numbers are. -/
structure Gt where
  kind : Int
  text : ByteArray
  pos : Int
namespace Gt
def ofTok (t : Tk.Tok) : Gt := ⟨(t.kind : Int), t.text, (t.pos : Int)⟩
def texts (l : List Gt) : List ByteArray := (l.filter fun t => t.kind != 0).map fun t => t.text
/-- The texts of all tokens but those of the kind 0, a blank between each two. -/
def txt (l : List Gt) : List UInt8 := Lib.join ((texts l).map fun b => b.data.toList) [32]
def same : List Gt → List Gt → Bool
  | [], [] => true
  | a :: r, b :: q => decide (a.kind = b.kind) && decide (a.text = b.text) && same r q
  | _, _ => false

theorem texts_snoc_no {l : List Gt} {t : Gt} (h : t.kind = 0) : texts (l ++ [t]) = texts l := by
  unfold texts; rw [List.filter_append]; simp [h]
theorem texts_snoc_yes {l : List Gt} {t : Gt} (h : ¬ t.kind = 0) : texts (l ++ [t]) = texts l ++ [t.text] := by
  unfold texts; rw [List.filter_append]; simp [h]
theorem take_snoc {l : List Gt} {k : Nat} (h : k < l.length) : l.take (k + 1) = l.take k ++ [l[k]] := List.take_succ_eq_append_getElem h
theorem txt_tok (l : List Tk.Tok) : txt (l.map ofTok) = Tk.txt l := by
  unfold txt Tk.txt Tk.texts texts
  congr 1
  induction l with
  | nil => rfl
  | cons a r ih =>
    rw [List.map_cons, List.filter_cons, List.filter_cons]
    by_cases h : a.kind = 0
    · rw [if_neg (by simp [ofTok, h]), if_neg (by simp [h])]; exact ih
    · rw [if_pos (by simp [ofTok]; omega), if_pos (by simp [h])]
      simp only [List.map_cons]
      rw [ih]; rfl
theorem same_tok : ∀ (l m : List Tk.Tok), same (l.map ofTok) (m.map ofTok) = Tk.same l m
  | [], [] => rfl
  | [], _ :: _ => rfl
  | _ :: _, [] => rfl
  | a :: r, b :: q => by
    rw [List.map_cons, List.map_cons, same, Tk.same, same_tok r q]
    congr 2
    rw [decide_eq_decide]
    show (a.kind : Int) = b.kind ↔ _
    omega
theorem same_self : ∀ l : List Gt, same l l = true
  | [] => rfl
  | a :: r => by rw [same, same_self r]; simp
end Gt

/-- A slice that reads as a list of tokens. -/
def RT (w : World) (B : Nat) (A : Option Addr) (l : List Gt) : Prop :=
  0 < l.length → ∃ b o, A = some ⟨b, o, none⟩ ∧ b < B ∧ ∀ i, (h : i < l.length) → w.cell? ⟨b, o + i * 3, none⟩ = some (.int .i64 l[i].kind) ∧ w.cell? ⟨b, o + i * 3 + 1, none⟩ = some (.string l[i].text) ∧ w.cell? ⟨b, o + i * 3 + 2, none⟩ = some (.int .i64 l[i].pos)
theorem RT.below {w w' : World} {B : Nat} {A : Option Addr} {l : List Gt} (h : RT w B A l) (hb : Below B w w') : RT w' B A l := by
  intro hl
  obtain ⟨b, o, e, hB, hc⟩ := h hl
  exact ⟨b, o, e, hB, fun i hi => ⟨(hb.cell (p := ⟨b, _, none⟩) hB).trans (hc i hi).1, (hb.cell (p := ⟨b, _, none⟩) hB).trans (hc i hi).2.1, (hb.cell (p := ⟨b, _, none⟩) hB).trans (hc i hi).2.2⟩⟩
theorem RT.more {w : World} {B B' : Nat} {A : Option Addr} {l : List Gt} (h : RT w B A l) (hB : B ≤ B') : RT w B' A l := by
  intro hl
  obtain ⟨b, o, e, hb, hc⟩ := h hl
  exact ⟨b, o, e, by omega, hc⟩
theorem RT.at_ {w : World} {B : Nat} {A : Option Addr} {l : List Gt} (h : RT w B A l) {k : Nat} (hk : k < l.length) : ∃ b o, A = some ⟨b, o, none⟩ ∧ b < B ∧ w.cell? ⟨b, o + k * 3, none⟩ = some (.int .i64 l[k].kind) ∧ w.cell? ⟨b, o + k * 3 + 1, none⟩ = some (.string l[k].text) ∧ w.cell? ⟨b, o + k * 3 + 2, none⟩ = some (.int .i64 l[k].pos) := by
  obtain ⟨b, o, e, hB, hc⟩ := h (by omega)
  exact ⟨b, o, e, hB, hc k hk⟩

theorem str_info : (Tryd.prog.info? 9).map (fun i => (i.zero, i.size, i.bytes)) = some (some (.string ⟨#[]⟩), 1, 16) := by kernel_rfl
theorem new1 (W : World) (x : Value) (t : TypeId) (g : Nat) (hg : g = W.heap.size) : ∀ (j : Nat) (u : Value), [x][j]? = some u → (W.alloc (.cells #[x] t)).cell? ((⟨g, 0, none⟩ : Addr).add j) = some u := by
  intro j u h
  subst hg
  have hn : (W.alloc (.cells #[x] t)).heap[W.heap.size]? = some (.cells #[x] t (0, 0)) := heap_new W _
  have ha : (⟨W.heap.size, 0, none⟩ : Addr).add j = ⟨W.heap.size, j, none⟩ := by unfold Addr.add; split <;> simp_all
  rw [ha, cell_of_row _ _ j _ t (0, 0) hn]
  rw [← h]; simp
theorem ones1 (t : ByteArray) : ∀ u ∈ [Value.string t], u.oneCell' = true := by
  intro u hu
  simp at hu
  subst hu
  rfl

/-- What the loop has collected. -/
def Coll (w : World) (l : List Gt) (k : Nat) (v : Value) (wr : World) : Prop :=
  wr.ownsRow w.heap.size 9 1 v (Gt.texts (l.take k)).length ((Gt.texts (l.take k)).map Value.string) ∧ Below w.heap.size w wr
theorem coll_no {w wr w' : World} {l : List Gt} {k : Nat} {v : Value} (hk : k < l.length) (h : Coll w l k v wr) (h0 : l[k].kind = 0) (hb : Below wr.heap.size wr w') : Coll w l (k + 1) v w' := by
  unfold Coll
  rw [Gt.take_snoc hk, Gt.texts_snoc_no h0]
  exact ⟨own_below h.1 hb, h.2.trans (hb.mono h.2.size)⟩
theorem coll_yes {w wr w' : World} {l : List Gt} {k : Nat} {v v' : Value} {A B : Obj} (hk : k < l.length) (h : Coll w l k v wr) (h0 : ¬ l[k].kind = 0) (hg : ((wr.alloc A).alloc B).grownBy w' v.ownBlock)
    (ho : w'.ownsRow w.heap.size 9 1 v' ((Gt.texts (l.take k)).length + 1) ((Gt.texts (l.take k)).map Value.string ++ [.string l[k].text])) : Coll w l (k + 1) v' w' := by
  unfold Coll
  rw [Gt.take_snoc hk, Gt.texts_snoc_yes h0]
  have hs := h.2.size
  refine ⟨by rw [List.length_append, List.map_append]; exact ho, ((h.2.alloc hs _).alloc (by simp; omega) _).grown hg (by simp; omega) (fun q hq => ?_)⟩
  have := (h.1.lt q hq).1
  exact this
theorem texts_le (l : List Gt) : (Gt.texts l).length ≤ l.length := by
  unfold Gt.texts; rw [List.length_map]; exact List.length_filter_le _ _

theorem coll_end {w wr : World} {l : List Gt} {k : Nat} {v : Value} (hlt : ¬ k < l.length) (hk : k ≤ l.length) (h : Coll w l k v wr) :
    (∃ (A : Option Addr) (c : Nat), v = .slice A 0 c ∧ Gt.txt l = []) ∨ (∃ (g cap : Nat), v = .slice (some ⟨g, 0, none⟩) (Gt.texts l).length cap ∧ (Gt.texts l).length ≤ cap ∧ g < wr.heap.size ∧ ∀ (j : Nat) (x : ByteArray), (Gt.texts l)[j]? = some x → wr.cell? ⟨g, 0 + j, none⟩ = some (.string x)) := by
  obtain rfl : k = l.length := by omega
  have ho := h.1
  rw [List.take_length] at ho
  rcases ho.2 with ⟨rfl, h0⟩ | ⟨g, cap, cur, rfl, hg, hh, hc, hcm, _, _⟩
  · left
    have : Gt.texts l = [] := List.eq_nil_of_length_eq_zero h0
    exact ⟨none, 0, rfl, by unfold Gt.txt; rw [this]; rfl⟩
  · right
    refine ⟨g, cap, rfl, hc, heap_lt hh, fun j x hx => ?_⟩
    have := ho.cells (g := g) rfl j (.string x) (by rw [List.getElem?_map, hx]; rfl)
    have ha : (⟨g, 0, none⟩ : Addr).add j = ⟨g, 0 + j, none⟩ := by unfold Addr.add; split <;> simp_all
    rw [← ha]; exact this

set_option maxHeartbeats 1000000 in
theorem text_any (A : Option Addr) (c : Nat) (l : List Gt) (w : World) (hr : RT w w.heap.size A l) (hn : l.length ≤ 1000) (hlen : (Gt.txt l).length ≤ 100000) (hc : l.length ≤ c) :
    Calls Tryd.prog 9 #[.slice A l.length c] w fun e w' => e = .returned (.string ⟨(Gt.txt l).toArray⟩) ∧ Below w.heap.size w w' := by
  obtain ⟨i0, hi, hz0, hz1, hz2⟩ := info_parts str_info
  have HR := Lib.hid hr
  clear hr
  go_enter Tryd.func9, Tryd.ntmps9
  go_wp2
  go_loopw [3, 8] (fun v i wr => ∃ k : Nat, k ≤ l.length ∧ i = .int .i64 k ∧ Hid (Coll w l k v wr)) (fun _ i _ => l.length - (intOf i).toNat)
  case atStart => exact ⟨0, by omega, rfl, Lib.hid ⟨World.ownsRow_nil _ _ _ _, Below.refl _ _⟩⟩
  case round =>
    obtain ⟨k, hk, rfl, hcol⟩ := hrel
    have hbw := hcol.out.2
    have hsz := hbw.size
    by_cases hlt : k < l.length
    · obtain ⟨b, o, rfl, hB, q0, q1, q2⟩ := (HR.out.below hbw).at_ hlt
      obtain ⟨y, hy⟩ : ∃ y, y = l[k] := ⟨_, rfl⟩
      rw [← hy] at q0 q1 q2
      have HY := Lib.hid hy
      clear hy
      by_cases h0 : y.kind = 0
      · have H0 : Hid (l[k].kind = 0) := Lib.hid (by rw [← HY.out]; exact h0)
        rw [h0] at q0
        go_wp2
        go_roundw
        case rel => exact ⟨k + 1, by omega, by go_num, Lib.hid (coll_no hlt hcol.out H0.out ((Below.refl _ _).alloc (Nat.le_refl _) _))⟩
        case measure => simp [intOf]; omega
      · have H0 : Hid (¬ l[k].kind = 0) := Lib.hid (by rw [← HY.out]; exact h0)
        have e0 : (y.kind == 0) = false := by simpa using h0
        have e0' : (y.kind != 0) = true := neq_of e0
        have hle := texts_le (l.take k)
        have hle' : (Gt.texts (l.take k)).length ≤ k := by rw [List.length_take] at hle; omega
        have hown := hcol.out.1
        clear h0 hle
        go_wp2_with (at_builtin; refine wpList_append_own _ rfl (.tmp 15) (.tmp 18) 44 rfl w.heap.size 9 i0 (.string ⟨#[]⟩) 1 16 Tryd.underlying44 hi hz0 hz1 hz2 rfl (by decide) _ _ _ rfl ((hown.alloc _).alloc _) ⟨wr.heap.size + 1, 0, none⟩ 1 1 [.string y.text] rfl rfl (new1 _ _ _ _ (by simp)) (ones1 _) (by unfold maxLen; omega) (by omega) (by simp; omega) ?_; intro v' w' hown' hgrow' hiff; clear hiff; have HO' := Lib.hid hown'; have HG' := Lib.hid hgrow'; clear hown' hgrow')
        go_roundw
        case rel => exact ⟨k + 1, by omega, by go_num, Lib.hid (coll_yes hlt hcol.out H0.out HG'.out (by rw [← HY.out]; exact HO'.out))⟩
        case measure => simp [intOf]; omega
    · rcases coll_end hlt hk hcol.out with ⟨A', c', rfl, hnone⟩ | ⟨g, cap, rfl, hcap, hg, hcells⟩
      · have HN := Lib.hid hnone
        clear hnone
        go_wp2_with fail
        refine (Tryd.strings_Join_none _ _ _ _).mono ?_
        rintro e w1 ⟨rfl, rfl⟩
        go_wp2
        go_ret
        exact ⟨by rw [HN.out]; rfl, hbw⟩
      · have HL : Hid ((Lib.join ((Gt.texts l).map (·.data.toList)) (ByteArray.mk #[32]).data.toList).length ≤ 140737488355328) := Lib.hid (by
          have : Lib.join ((Gt.texts l).map (·.data.toList)) (ByteArray.mk #[32]).data.toList = Gt.txt l := rfl
          rw [this]; omega)
        have hle := texts_le l
        have HC := Lib.hid hcells
        clear hcells
        go_wp2_with fail
        refine (Tryd.strings_Join g 0 cap (Gt.texts l) _ _ HC.out hg (by omega) hcap HL.out).mono ?_
        rintro e w1 ⟨rfl, hb1⟩
        go_wp2
        go_ret
        exact ⟨rfl, hbw.trans (hb1.mono hsz)⟩
end Go.Proofs.YtiijhlmdgbpkmaaDoor
