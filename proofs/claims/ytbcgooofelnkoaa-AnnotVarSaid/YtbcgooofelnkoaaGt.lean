/- Tokens, whatever their numbers are, in memory; whether one is a word or a sign. Conditions: none. -/
import Derived.Test.YtbcgooofelnkoaaRefOf
namespace Go.Proofs.Ytbcgooofelnkoaa
open Go.RowKit
set_option linter.unusedVariables false

theorem heap_lt {w : World} {b : Nat} {o : Obj} (h : w.heap[b]? = some o) : b < w.heap.size := (Array.getElem?_eq_some_iff.1 h).1
theorem text_beq {a b : ByteArray} : (a.toList == b.toList) = decide (a = b) := by
  rw [Bool.eq_iff_iff, decide_eq_true_eq]
  constructor
  · exact str_yes
  · rintro rfl; simp

/-- A token, whatever its numbers are. -/
structure Gt where
  kind : Int
  text : ByteArray
  pos : Int
namespace Gt
def ofTok (t : Tk.Tok) : Gt := ⟨(t.kind : Int), t.text, (t.pos : Int)⟩
end Gt

/-- A slice that reads as a list of tokens. -/
def RT (w : World) (B : Nat) (A : Option Addr) (l : List Gt) : Prop :=
  0 < l.length → ∃ b o, A = some ⟨b, o, none⟩ ∧ b < B ∧ ∀ i, (h : i < l.length) → w.cell? ⟨b, o + i * 3, none⟩ = some (.int .i64 l[i].kind) ∧ w.cell? ⟨b, o + i * 3 + 1, none⟩ = some (.string l[i].text) ∧ w.cell? ⟨b, o + i * 3 + 2, none⟩ = some (.int .i64 l[i].pos)
theorem RT.below {w w' : World} {B : Nat} {A : Option Addr} {l : List Gt} (h : RT w B A l) (hb : Below B w w') : RT w' B A l := by
  intro hl
  obtain ⟨b, o, e, hB, hc⟩ := h hl
  exact ⟨b, o, e, hB, fun i hi => ⟨(hb.cell (p := ⟨b, _, none⟩) hB).trans (hc i hi).1, (hb.cell (p := ⟨b, _, none⟩) hB).trans (hc i hi).2.1, (hb.cell (p := ⟨b, _, none⟩) hB).trans (hc i hi).2.2⟩⟩
theorem RT.more {w : World} {B B' : Nat} {A : Option Addr} {l : List Gt} (h : RT w B A l) (hB : B ≤ B') : RT w B' A l := by
  intro hl
  obtain ⟨b, o, e, hb, hc⟩ := h hl
  exact ⟨b, o, e, by omega, hc⟩
theorem RT.at_ {w : World} {B : Nat} {A : Option Addr} {l : List Gt} (h : RT w B A l) {k : Nat} (hk : k < l.length) : ∃ b o, A = some ⟨b, o, none⟩ ∧ b < B ∧ w.cell? ⟨b, o + k * 3, none⟩ = some (.int .i64 l[k].kind) ∧ w.cell? ⟨b, o + k * 3 + 1, none⟩ = some (.string l[k].text) ∧ w.cell? ⟨b, o + k * 3 + 2, none⟩ = some (.int .i64 l[k].pos) := by
  obtain ⟨b, o, e, hB, hc⟩ := h (by omega)
  exact ⟨b, o, e, hB, hc k hk⟩

def Gt.is (t : Gt) (s : ByteArray) : Bool := (decide (t.kind = 3) || decide (t.kind = 4)) && decide (t.text = s)
def Gt.val (t : Gt) : Value := .agg #[.int .i64 t.kind, .string t.text, .int .i64 t.pos]

theorem is_any (t : Gt) (s : ByteArray) (w : World) : Calls Try.prog 33 #[t.val, .string s] w fun e w' => e = .returned (.bool (t.is s)) ∧ Below w.heap.size w w' := by
  obtain ⟨k, x, p⟩ := t
  have hv : Gt.val ⟨k, x, p⟩ = .agg #[.int .i64 k, .string x, .int .i64 p] := rfl
  rw [hv]
  clear hv
  cases tt : (x.toList == s.toList) with
  | true =>
    by_cases h3 : k = 3
    · have HE : Hid (Gt.is ⟨k, x, p⟩ s = true) := Lib.hid (by rw [text_beq] at tt; unfold Gt.is; simp at tt; simp [h3, tt])
      subst h3
      go_enter Try.func33, Try.ntmps33
      go_wp2
      go_ret
      exact ⟨by rw [HE.out]; rfl, (Below.refl _ _).alloc (Nat.le_refl _) _⟩
    · by_cases h4 : k = 4
      · have HE : Hid (Gt.is ⟨k, x, p⟩ s = true) := Lib.hid (by rw [text_beq] at tt; unfold Gt.is; simp at tt; simp [h4, tt])
        subst h4
        clear h3
        go_enter Try.func33, Try.ntmps33
        go_wp2
        go_ret
        exact ⟨by rw [HE.out]; rfl, (Below.refl _ _).alloc (Nat.le_refl _) _⟩
      · have HE : Hid (Gt.is ⟨k, x, p⟩ s = false) := Lib.hid (by unfold Gt.is; simp [h3, h4])
        have e3 : (k == 3) = false := by simpa using h3
        have e4 : (k == 4) = false := by simpa using h4
        clear h3 h4
        go_enter Try.func33, Try.ntmps33
        go_wp2
        go_ret
        exact ⟨by rw [HE.out]; rfl, (Below.refl _ _).alloc (Nat.le_refl _) _⟩
  | false =>
    have HE : Hid (Gt.is ⟨k, x, p⟩ s = false) := Lib.hid (by rw [text_beq] at tt; unfold Gt.is; simp at tt; simp [tt])
    by_cases h3 : k = 3
    · subst h3
      go_enter Try.func33, Try.ntmps33
      go_wp2
      go_ret
      exact ⟨by rw [HE.out]; rfl, (Below.refl _ _).alloc (Nat.le_refl _) _⟩
    · by_cases h4 : k = 4
      · subst h4
        clear h3
        go_enter Try.func33, Try.ntmps33
        go_wp2
        go_ret
        exact ⟨by rw [HE.out]; rfl, (Below.refl _ _).alloc (Nat.le_refl _) _⟩
      · have e3 : (k == 3) = false := by simpa using h3
        have e4 : (k == 4) = false := by simpa using h4
        clear h3 h4
        go_enter Try.func33, Try.ntmps33
        go_wp2
        go_ret
        exact ⟨by rw [HE.out]; rfl, (Below.refl _ _).alloc (Nat.le_refl _) _⟩


/-- The token at a place; behind the last one, an end that stands where that stands. -/
def tokN (l : List Gt) (a : Nat) : Gt := match l[a]? with
  | some t => t
  | none => ⟨0, ⟨#[]⟩, match l.getLast? with
    | some t => t.pos
    | none => 0⟩
theorem of_ok {l : List UInt8} {w w' : World} {e : Ending} {r : List Tk.Tok} (h : OfPost l w e w') (hr : Tk.ofL l = .ok r) : ∃ (g c : Nat), e = .returned (.tuple #[.slice (some ⟨g, 0, none⟩) r.length c, .agg #[.int .i64 0, .int .i64 0]]) ∧
    w.heap.size ≤ g ∧ g < w'.heap.size ∧ r.length ≤ c ∧ c ≤ maxLen ∧ (∀ (j : Nat) (u : Value), (tcells r)[j]? = some u → w'.cell? ⟨g, j, none⟩ = some u) ∧ Below w.heap.size w w' := by
  obtain ⟨hb, h⟩ := h
  rw [hr] at h
  obtain ⟨v, rfl, ho⟩ := h
  have hne : r ≠ [] := Tk.toks_ne (Tk.ofL_toks hr).2
  rcases ho.2 with ⟨_, h0⟩ | ⟨g, cap, cur, rfl, hg, hh, hc, hcm, _, _⟩
  · exact absurd (List.eq_nil_of_length_eq_zero h0) hne
  · refine ⟨g, cap, rfl, hg, heap_lt hh, hc, hcm, fun j u hu => ?_, hb⟩
    have := ho.cells (g := g) rfl j u hu
    have ha : (⟨g, 0, none⟩ : Addr).add j = ⟨g, j, none⟩ := by unfold Addr.add; split <;> simp_all
    rw [← ha]; exact this
theorem of_err {l : List UInt8} {w w' : World} {e : Ending} {x a : Nat} (h : OfPost l w e w') (hr : Tk.ofL l = .err x a) : e = .returned (.tuple #[.slice none 0 0, .agg #[.int .i64 (x : Int), .int .i64 (a : Int)]]) ∧ Below w.heap.size w w' := by
  obtain ⟨hb, h⟩ := h
  rw [hr] at h
  exact ⟨h, hb⟩

/-- The tokens of a text lie as the reader reads them. -/
theorem rt_of {W : World} {g : Nat} {r : List Tk.Tok} (h : ∀ (j : Nat) (u : Value), (tcells r)[j]? = some u → W.cell? ⟨g, j, none⟩ = some u) (hg : g < W.heap.size) : RT W W.heap.size (some ⟨g, 0, none⟩) (r.map Gt.ofTok) := by
  intro hl
  refine ⟨g, 0, rfl, hg, fun i hi => ?_⟩
  have key : ∀ (r : List Tk.Tok) (i : Nat) (t : Tk.Tok), r[i]? = some t → (tcells r)[i * 3]? = some (.int .i64 (t.kind : Int)) ∧ (tcells r)[i * 3 + 1]? = some (.string t.text) ∧ (tcells r)[i * 3 + 2]? = some (.int .i64 (t.pos : Int)) := by
    intro r
    induction r with
    | nil => intro i t h; simp at h
    | cons a q ih =>
      intro i t ht
      have hc : tcells (a :: q) = [.int .i64 (a.kind : Int), .string a.text, .int .i64 (a.pos : Int)] ++ tcells q := rfl
      cases i with
      | zero =>
        simp at ht
        subst ht
        rw [hc]
        exact ⟨rfl, rfl, rfl⟩
      | succ i =>
        have h3 := ih i t (by simpa using ht)
        rw [hc, List.getElem?_append_right (by simp; omega), List.getElem?_append_right (by simp; omega), List.getElem?_append_right (by simp; omega)]
        simp only [List.length_cons, List.length_nil]
        rw [show (i + 1) * 3 - (0 + 1 + 1 + 1) = i * 3 by omega, show (i + 1) * 3 + 1 - (0 + 1 + 1 + 1) = i * 3 + 1 by omega, show (i + 1) * 3 + 2 - (0 + 1 + 1 + 1) = i * 3 + 2 by omega]
        exact h3
  have hi' : i < r.length := by simpa using hi
  obtain ⟨h0, h1, h2⟩ := key r i r[i] (List.getElem?_eq_getElem hi')
  rw [Nat.zero_add]
  simp only [List.getElem_map]
  exact ⟨h _ _ h0, h _ _ h1, h _ _ h2⟩
end Go.Proofs.Ytbcgooofelnkoaa
