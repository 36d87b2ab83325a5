/- How an expression is written, as the program tells it. Conditions: the tables lie in memory; there are at most 1048576 expressions in it.
Tokens, whatever their numbers are, in memory; whether one is a word or a sign. Conditions: none. -/
import Derived.Test.YtdehpgdffafebaaDoorZan
namespace Go.Proofs.YtdehpgdffafebaaDoor
open Go.RowKit
set_option linter.unusedVariables false

theorem text_any : ∀ m : Nat, m ≤ 1048577 → TxC m := by
  intro m
  induction m with
  | zero => intro _ e v w h; have := E.count_pos e; omega
  | succ m ih =>
    intro hm e v w hc hf hv hl
    have ih := ih (by omega)
    obtain ⟨k, n, s, l, A, c, rfl, rfl, hn, hlc, hcm, hk⟩ := hv.open
    refine text_step m (by omega) ih k n s l A c w (fun i x hx => ?_) hf ?_ hn hlc hk hl
    · have hil := (List.getElem?_eq_some_iff.1 hx).1
      have he := (List.getElem?_eq_some_iff.1 hx).2
      refine ⟨?_, ?_⟩
      · have := E.count_lt (k := k) (n := n) (s := s) hil
        rw [he] at this; omega
      · rw [E.form] at hf
        simp only [Bool.and_eq_true] at hf
        have : ∀ (l : List E) (i : Nat) (x : E), E.forms k l = true → l[i]? = some x → E.form x = true := by
          intro l
          induction l with
          | nil => intro i x _ hx; simp at hx
          | cons a r ihl =>
            intro i x hf hx
            rw [E.forms] at hf
            simp only [Bool.and_eq_true] at hf
            cases i with
            | zero => simp at hx; subst hx; exact hf.2.1
            | succ i => exact ihl i x hf.2.2 (by simpa using hx)
        exact this l i x hf.2.2.2 hx
    · rcases form_ways hf with ⟨_, rfl, _⟩ | ⟨_, rfl, _⟩ | ⟨_, rfl, _⟩ | ⟨x, y, _, rfl, _⟩ | ⟨x, _, rfl, _⟩ <;> simp

set_option maxRecDepth 100000 in
theorem textTells_any (e : E) (v : Value) (w : World) (hc : E.count e ≤ 1048576) (hv : InV w.heap.size w e v) (hlaid : Laid w) : Calls Tryd.prog 11 #[v] w fun x w' => x = .returned (.string (textB e)) ∧ Below w.heap.size w w' := by
  have HR : Hid (∀ W, Below w.heap.size w W → Calls Tryd.prog 9 #[v] W fun x w' => x = .returned (.bool (E.right e)) ∧ Below W.heap.size W w') := Lib.hid (fun W hb => right_any e v W (by omega) ((hv.below hb).more hb.size) (hlaid.below hb))
  have HW : Hid (E.right e = true → ∀ W, Below w.heap.size w W → Calls Tryd.prog 21 #[v] W fun x w' => x = .returned (.string (txB e)) ∧ Below W.heap.size W w') := Lib.hid (fun hr W hb => by
    have hf : E.form e = true := by
      unfold E.right at hr
      simp only [Bool.and_eq_true] at hr
      exact hr.1
    exact text_any 1048577 (Nat.le_refl _) e v W (by omega) hf ((hv.below hb).more hb.size) (hlaid.below hb))
  obtain ⟨k, n, s, l, A, c, -, rfl, -, -, -, -⟩ := hv.open
  have hbx : Below w.heap.size w (w.alloc (.cells (cE k n s A l.length c) tE)) := (Below.refl _ _).alloc (Nat.le_refl _) _
  have hbox := heap_new w (.cells (cE k n s A l.length c) tE)
  obtain ⟨W0, hW0⟩ : ∃ W0, W0 = w.alloc (.cells (cE k n s A l.length c) tE) := ⟨_, rfl⟩
  rw [← hW0] at hbx hbox
  have HR0 := Lib.hid (HR.out _ hbx)
  obtain ⟨L, hL⟩ : ∃ L, L = l.length := ⟨_, rfl⟩
  rw [← hL] at HR0 HW hbox hW0 ⊢
  clear hL hv hlaid
  obtain ⟨z0, z1, z2, z3⟩ := row4 hbox
  have HB := Lib.hid hbx
  have HBX := Lib.hid hbox
  clear hbox hbx
  cases hr : E.right e with
  | false =>
    rw [hr] at HR0
    have HT : Hid (textB e = ⟨#[]⟩) := Lib.hid (by unfold textB; rw [hr]; rfl)
    clear hr
    go_enter Tryd.func11, Tryd.ntmps11
    go_wp2_with fail
    rw [← hW0]
    clear hW0
    go_wp2_with fail
    refine HR0.out.mono ?_
    rintro e w1 ⟨rfl, hb1⟩
    go_wp2_with fail
    go_ret
    exact ⟨by rw [HT.out]; rfl, HB.out.trans (hb1.mono HB.out.size)⟩
  | true =>
    rw [hr] at HR0
    have HT : Hid (textB e = txB e) := Lib.hid (by unfold textB; rw [if_pos hr])
    have HW' := Lib.hid (HW.out hr)
    clear hr HW
    go_enter Tryd.func11, Tryd.ntmps11
    go_wp2_with fail
    rw [← hW0]
    clear hW0
    go_wp2_with fail
    refine HR0.out.mono ?_
    rintro e w1 ⟨rfl, hb1⟩
    have HB1 := Lib.hid (HB.out.trans (hb1.mono HB.out.size))
    have HBX1 := Lib.hid ((hb1.block _ (heap_lt HBX.out)).trans HBX.out)
    clear z0 z1 z2 z3
    obtain ⟨z0, z1, z2, z3⟩ := row4 HBX1.out
    go_wp2_with fail
    refine (HW'.out _ HB1.out).mono ?_
    rintro e w2 ⟨rfl, hb2⟩
    go_wp2_with fail
    go_ret
    exact ⟨by rw [HT.out]; rfl, HB1.out.trans (hb2.mono HB1.out.size)⟩
end Go.Proofs.YtdehpgdffafebaaDoor
namespace Go.Proofs.YtdehpgdffafebaaDoor
open Go.RowKit
set_option linter.unusedVariables false

theorem text_beq {a b : ByteArray} : (a.toList == b.toList) = decide (a = b) := by
  rw [Bool.eq_iff_iff, decide_eq_true_eq]
  constructor
  · exact str_yes
  · rintro rfl; simp

/-- A token, whatever its numbers are. -/
structure Gt where
  kind : Int
  text : ByteArray
  pos : Int
namespace Gt
def ofTok (t : Tk.Tok) : Gt := ⟨(t.kind : Int), t.text, (t.pos : Int)⟩
end Gt

/-- A slice that reads as a list of tokens. -/
def RT (w : World) (B : Nat) (A : Option Addr) (l : List Gt) : Prop :=
  0 < l.length → ∃ b o, A = some ⟨b, o, none⟩ ∧ b < B ∧ ∀ i, (h : i < l.length) → w.cell? ⟨b, o + i * 3, none⟩ = some (.int .i64 l[i].kind) ∧ w.cell? ⟨b, o + i * 3 + 1, none⟩ = some (.string l[i].text) ∧ w.cell? ⟨b, o + i * 3 + 2, none⟩ = some (.int .i64 l[i].pos)
theorem RT.below {w w' : World} {B : Nat} {A : Option Addr} {l : List Gt} (h : RT w B A l) (hb : Below B w w') : RT w' B A l := by
  intro hl
  obtain ⟨b, o, e, hB, hc⟩ := h hl
  exact ⟨b, o, e, hB, fun i hi => ⟨(hb.cell (p := ⟨b, _, none⟩) hB).trans (hc i hi).1, (hb.cell (p := ⟨b, _, none⟩) hB).trans (hc i hi).2.1, (hb.cell (p := ⟨b, _, none⟩) hB).trans (hc i hi).2.2⟩⟩
theorem RT.more {w : World} {B B' : Nat} {A : Option Addr} {l : List Gt} (h : RT w B A l) (hB : B ≤ B') : RT w B' A l := by
  intro hl
  obtain ⟨b, o, e, hb, hc⟩ := h hl
  exact ⟨b, o, e, by omega, hc⟩
theorem RT.at_ {w : World} {B : Nat} {A : Option Addr} {l : List Gt} (h : RT w B A l) {k : Nat} (hk : k < l.length) : ∃ b o, A = some ⟨b, o, none⟩ ∧ b < B ∧ w.cell? ⟨b, o + k * 3, none⟩ = some (.int .i64 l[k].kind) ∧ w.cell? ⟨b, o + k * 3 + 1, none⟩ = some (.string l[k].text) ∧ w.cell? ⟨b, o + k * 3 + 2, none⟩ = some (.int .i64 l[k].pos) := by
  obtain ⟨b, o, e, hB, hc⟩ := h (by omega)
  exact ⟨b, o, e, hB, hc k hk⟩

def Gt.is (t : Gt) (s : ByteArray) : Bool := (decide (t.kind = 3) || decide (t.kind = 4)) && decide (t.text = s)
def Gt.val (t : Gt) : Value := .agg #[.int .i64 t.kind, .string t.text, .int .i64 t.pos]

theorem is_any (t : Gt) (s : ByteArray) (w : World) : Calls Tryd.prog 61 #[t.val, .string s] w fun e w' => e = .returned (.bool (t.is s)) ∧ Below w.heap.size w w' := by
  obtain ⟨k, x, p⟩ := t
  have hv : Gt.val ⟨k, x, p⟩ = .agg #[.int .i64 k, .string x, .int .i64 p] := rfl
  rw [hv]
  clear hv
  cases tt : (x.toList == s.toList) with
  | true =>
    by_cases h3 : k = 3
    · have HE : Hid (Gt.is ⟨k, x, p⟩ s = true) := Lib.hid (by rw [text_beq] at tt; unfold Gt.is; simp at tt; simp [h3, tt])
      subst h3
      go_enter Tryd.func61, Tryd.ntmps61
      go_wp2
      go_ret
      exact ⟨by rw [HE.out]; rfl, (Below.refl _ _).alloc (Nat.le_refl _) _⟩
    · by_cases h4 : k = 4
      · have HE : Hid (Gt.is ⟨k, x, p⟩ s = true) := Lib.hid (by rw [text_beq] at tt; unfold Gt.is; simp at tt; simp [h4, tt])
        subst h4
        clear h3
        go_enter Tryd.func61, Tryd.ntmps61
        go_wp2
        go_ret
        exact ⟨by rw [HE.out]; rfl, (Below.refl _ _).alloc (Nat.le_refl _) _⟩
      · have HE : Hid (Gt.is ⟨k, x, p⟩ s = false) := Lib.hid (by unfold Gt.is; simp [h3, h4])
        have e3 : (k == 3) = false := by simpa using h3
        have e4 : (k == 4) = false := by simpa using h4
        clear h3 h4
        go_enter Tryd.func61, Tryd.ntmps61
        go_wp2
        go_ret
        exact ⟨by rw [HE.out]; rfl, (Below.refl _ _).alloc (Nat.le_refl _) _⟩
  | false =>
    have HE : Hid (Gt.is ⟨k, x, p⟩ s = false) := Lib.hid (by rw [text_beq] at tt; unfold Gt.is; simp at tt; simp [tt])
    by_cases h3 : k = 3
    · subst h3
      go_enter Tryd.func61, Tryd.ntmps61
      go_wp2
      go_ret
      exact ⟨by rw [HE.out]; rfl, (Below.refl _ _).alloc (Nat.le_refl _) _⟩
    · by_cases h4 : k = 4
      · subst h4
        clear h3
        go_enter Tryd.func61, Tryd.ntmps61
        go_wp2
        go_ret
        exact ⟨by rw [HE.out]; rfl, (Below.refl _ _).alloc (Nat.le_refl _) _⟩
      · have e3 : (k == 3) = false := by simpa using h3
        have e4 : (k == 4) = false := by simpa using h4
        clear h3 h4
        go_enter Tryd.func61, Tryd.ntmps61
        go_wp2
        go_ret
        exact ⟨by rw [HE.out]; rfl, (Below.refl _ _).alloc (Nat.le_refl _) _⟩


/-- The token at a place; behind the last one, an end that stands where that stands. -/
def tokN (l : List Gt) (a : Nat) : Gt := match l[a]? with
  | some t => t
  | none => ⟨0, ⟨#[]⟩, match l.getLast? with
    | some t => t.pos
    | none => 0⟩
end Go.Proofs.YtdehpgdffafebaaDoor
