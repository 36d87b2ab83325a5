/- The document's answer: the tokens of a text, one behind the other in memory of its own. Conditions: the text has at most 16384 bytes.
What it means that an expression lies in memory, and how many there are in one, as the document's answer counts them. Conditions: none.
A region that draws its order, walked once in the order of the text, over a class of worlds: its callees may make memory, where the class stays. Conditions: none.
How deep an expression is, and how many Kids a kind has, by the document's answer. Conditions: none. -/
import Derived.Test.YtdehpgdffafebaaDoorZac
import Derived.Lib.IndexBytes
import Derived.OwnWalk
import Derived.Laws.AppendOwn
import Derived.Laws.OwnMore
import Derived.Test.YtdehpgdffafebaaDoorZaa
import Derived.BigQuiet
namespace Go.Proofs.YtdehpgdffafebaaDoor
open Go.RowKit
set_option linter.unusedVariables false

/-- The cells of tokens, one behind the other. -/
def tcell (t : Tk.Tok) : List Value := [.int .i64 (t.kind : Int), .string t.text, .int .i64 (t.pos : Int)]
def tcells (l : List Tk.Tok) : List Value := l.flatMap tcell
theorem tcells_len (l : List Tk.Tok) : (tcells l).length = l.length * 3 := by
  induction l with
  | nil => rfl
  | cons a r ih => unfold tcells at ih ⊢; rw [List.flatMap_cons, List.length_append, ih]; simp [tcell]; omega
theorem tcells_snoc (l : List Tk.Tok) (t : Tk.Tok) : tcells (l ++ [t]) = tcells l ++ tcell t := by
  unfold tcells; rw [List.flatMap_append]; simp
theorem tok_info : (Tryd.prog.info? 49).map (fun i => (i.zero, i.size, i.bytes)) = some (some (.agg #[.int .i64 0, .string ⟨#[]⟩, .int .i64 0]), 3, 32) := by kernel_rfl

theorem grown_of_below {w w' : World} (h : Below w.heap.size w w') (row : Option Nat) : w.grownBy w' row := ⟨h.os, h.tape, h.output, h.size, fun k hk _ => h.block k hk⟩
theorem own_below {base : Nat} {e : TypeId} {size n : Nat} {v : Value} {xs : List Value} {w w' : World} (h : w.ownsRow base e size v n xs) (hb : Below w.heap.size w w') : w'.ownsRow base e size v n xs :=
  h.kept (grown_of_below hb none) (by cases hv : v.ownBlock <;> simp)

/-- What a text's tokens are handed back as: a fault, or a slice of them in memory that is new. -/
def OfPost (l : List UInt8) (w : World) (e : Ending) (w' : World) : Prop :=
  Below w.heap.size w w' ∧ match Tk.ofL l with
  | .err x a => e = .returned (.tuple #[.slice none 0 0, .agg #[.int .i64 (x : Int), .int .i64 (a : Int)]])
  | .ok r => ∃ v, e = .returned (.tuple #[v, .agg #[.int .i64 0, .int .i64 0]]) ∧ w'.ownsRow w.heap.size 49 3 v r.length (tcells r)
theorem ofPost_err {l : List UInt8} {w w' : World} {x a : Nat} (hb : Below w.heap.size w w') (h : Tk.ofL l = .err x a) : OfPost l w (.returned (.tuple #[.slice none 0 0, .agg #[.int .i64 (x : Int), .int .i64 (a : Int)]])) w' := by
  refine ⟨hb, ?_⟩; rw [h]
theorem ofPost_ok {l : List UInt8} {w w' : World} {r : List Tk.Tok} {v : Value} (hb : Below w.heap.size w w') (h : Tk.ofL l = .ok r) (ho : w'.ownsRow w.heap.size 49 3 v r.length (tcells r)) : OfPost l w (.returned (.tuple #[v, .agg #[.int .i64 0, .int .i64 0]])) w' := by
  refine ⟨hb, ?_⟩; rw [h]; exact ⟨v, rfl, ho⟩

/-- The loop's relation: what has been read so far. -/
def OfAt (s : ByteArray) (w : World) (v : Value) (a : Nat) (wr : World) : Prop :=
  ∃ (acc : List Tk.Tok) (f : Nat), s.size - a < f ∧ acc.length ≤ a ∧ Tk.ofS s.data.toList f a acc = Tk.ofL s.data.toList ∧ wr.ownsRow (w.heap.size + 1) 49 3 v acc.length (tcells acc) ∧
    wr.heap[w.heap.size]? = some (.cells #[.int .i64 0, .int .i64 0] 35 (0, 0)) ∧ Below w.heap.size w wr

theorem ofAt_start {s : ByteArray} {w wr : World} (hs : s.size ≤ 16384) (hb : Below (w.alloc (.cells #[.int .i64 0, .int .i64 0] 35)).heap.size (w.alloc (.cells #[.int .i64 0, .int .i64 0] 35)) wr) : OfAt s w (.slice none 0 0) (Tk.sk false s.data.toList) wr := by
  have hn : (w.alloc (.cells #[.int .i64 0, .int .i64 0] 35)).heap[w.heap.size]? = some (.cells #[.int .i64 0, .int .i64 0] 35 (0, 0)) := heap_new w _
  have hz : (w.alloc (.cells #[.int .i64 0, .int .i64 0] 35)).heap.size = w.heap.size + 1 := by simp
  refine ⟨[], s.data.toList.length + 1, ?_, by simp, ?_, World.ownsRow_nil _ _ _ _, (hb.block _ (by omega)).trans hn, ((Below.refl _ w).alloc (Nat.le_refl _) _).trans (hb.mono (by omega))⟩
  · show s.size - _ < s.size + 1; omega
  · exact (Tk.ofL_small hs).symm

theorem res_facts {s : ByteArray} {w wr w1 : World} {v : Value} {a : Nat} (h : OfAt s w v a wr) (hb : Below wr.heap.size wr w1) :
    w1.cell? ⟨w.heap.size, 0, none⟩ = some (.int .i64 0) ∧ w1.cell? ⟨w.heap.size, 1, none⟩ = some (.int .i64 0) ∧ (∀ o, w1.frozen? ⟨w.heap.size, o, none⟩ = false) ∧ w.heap.size < w1.heap.size := by
  obtain ⟨_, _, _, _, _, _, hres, _⟩ := h
  have hl : w.heap.size < wr.heap.size := by
    rcases Nat.lt_or_ge w.heap.size wr.heap.size with h | h
    · exact h
    · rw [Array.getElem?_eq_none h] at hres; cases hres
  have hh := (hb.block _ hl).trans hres
  exact ⟨cell_of_row w1 _ 0 _ 35 (0, 0) hh, cell_of_row w1 _ 1 _ 35 (0, 0) hh, fun o => by simp [World.frozen?, hh], Nat.lt_of_lt_of_le hl hb.size⟩

theorem of_below {s : ByteArray} {w wr w1 : World} {v : Value} {a : Nat} (h : OfAt s w v a wr) (hb : Below wr.heap.size wr w1) : Below w.heap.size w w1 := by
  obtain ⟨_, _, _, _, _, _, _, hbw⟩ := h
  exact hbw.trans (hb.mono hbw.size)
theorem of_byte {s : ByteArray} {w wr : World} {v : Value} {a : Nat} (h : OfAt s w v a wr) (hlt : a < s.size) (hk : (Tk.oneL (s.data.toList.drop a)).1 = 0) : Tk.ofL s.data.toList = .err 1 a := by
  obtain ⟨acc, f, hf, _, he, _⟩ := h
  obtain ⟨g, rfl⟩ : ∃ g, f = g + 1 := ⟨f - 1, by omega⟩
  rw [← he, Tk.ofS_byte hlt hk]
theorem badB_tx {k : Nat} {t : ByteArray} {l : List UInt8} (ht : t = Tk.tx l (Tk.oneL l).2) : Tk.badB k (Tk.oneL l).2 l = Tk.badB k t.size l := by
  have : t.size = (Tk.oneL l).2 := by rw [ht]; exact Tk.tx_size _ _ (Tk.oneL_le l)
  rw [this]
theorem of_long {s : ByteArray} {w wr : World} {v : Value} {a k : Nat} {t : ByteArray} (h : OfAt s w v a wr) (hlt : a < s.size) (hk : k = (Tk.oneL (s.data.toList.drop a)).1) (ht : t = Tk.tx (s.data.toList.drop a) (Tk.oneL (s.data.toList.drop a)).2)
    (hk0 : ¬ k = 0) (hb : Tk.badB k t.size (s.data.toList.drop a) = true) : Tk.ofL s.data.toList = .err 2 a := by
  obtain ⟨acc, f, hf, _, he, _⟩ := h
  obtain ⟨g, rfl⟩ : ∃ g, f = g + 1 := ⟨f - 1, by omega⟩
  rw [← he]
  exact Tk.ofS_long hlt (by rw [← hk]; exact hk0) (by rw [← hk, badB_tx ht]; exact hb)
theorem bad_ways {k : Nat} {t : ByteArray} {l : List UInt8} (ht : t = Tk.tx l (Tk.oneL l).2) (h : Tk.badB k t.size l = true) : (k = 1 ∧ 20 < t.size) ∨ (k = 2 ∧ Wd.number t = none) := by
  have hsz : t.size = (Tk.oneL l).2 := by rw [ht]; exact Tk.tx_size _ _ (Tk.oneL_le l)
  unfold Tk.badB at h
  rw [hsz, ← ht] at h
  simp at h
  rcases h with ⟨h1, h2⟩ | ⟨h1, h2⟩
  · left; exact ⟨h1, by omega⟩
  · right; exact ⟨h1, h2⟩
theorem good_ways {k : Nat} {t : ByteArray} {l : List UInt8} (ht : t = Tk.tx l (Tk.oneL l).2) (h : ¬ Tk.badB k t.size l = true) (hk : ¬ k = 0) : (k = 1 ∧ ¬ 20 < t.size) ∨ (k = 2 ∧ (Wd.number t).isSome = true) ∨ 2 < k := by
  have hsz : t.size = (Tk.oneL l).2 := by rw [ht]; exact Tk.tx_size _ _ (Tk.oneL_le l)
  unfold Tk.badB at h
  rw [hsz, ← ht] at h
  simp at h
  by_cases h1 : k = 1
  · left; exact ⟨h1, by have := h.1 h1; omega⟩
  · by_cases h2 : k = 2
    · right; left
      refine ⟨h2, ?_⟩
      have := h.2 h2
      cases hn : Wd.number t with
      | none => exact absurd hn this
      | some n => rfl
    · right; right; omega
/-- The next place of the loop, and what is known there. -/
theorem good_next {s : ByteArray} {w wr : World} {v : Value} {a k : Nat} {t : ByteArray} (h : OfAt s w v a wr) (hlt : a < s.size) (hk : k = (Tk.oneL (s.data.toList.drop a)).1) (ht : t = Tk.tx (s.data.toList.drop a) (Tk.oneL (s.data.toList.drop a)).2)
    (hk0 : ¬ k = 0) (hb : ¬ Tk.badB k t.size (s.data.toList.drop a) = true) : 0 < t.size ∧ ∀ (acc : List Tk.Tok) (f : Nat), s.size - a < f → Tk.ofS s.data.toList f a acc = Tk.ofL s.data.toList →
      ∃ g, s.size - (a + t.size + Tk.sk false (s.data.toList.drop (a + t.size))) < g ∧ Tk.ofS s.data.toList g (a + t.size + Tk.sk false (s.data.toList.drop (a + t.size))) (acc ++ [⟨k, t, a⟩]) = Tk.ofL s.data.toList := by
  have hsz : t.size = (Tk.oneL (s.data.toList.drop a)).2 := by rw [ht]; exact Tk.tx_size _ _ (Tk.oneL_le _)
  have hp := Tk.oneL_pos (l := s.data.toList.drop a) (by rw [← hk]; exact hk0)
  refine ⟨by omega, fun acc f hf he => ?_⟩
  obtain ⟨g, rfl⟩ : ∃ g, f = g + 1 := ⟨f - 1, by omega⟩
  refine ⟨g, by omega, ?_⟩
  rw [Tk.ofS_more hlt (by rw [← hk]; exact hk0) (by rw [← hk, badB_tx ht]; simpa using hb)] at he
  rw [← he]
  unfold Tk.nextAt Tk.tokAt
  rw [← hk, ← ht, ← hsz]
theorem good_facts {k : Nat} {t : ByteArray} {b : Bool} (hb : b = (Wd.number t).isSome) (h : (k = 1 ∧ ¬ 20 < t.size) ∨ (k = 2 ∧ (Wd.number t).isSome = true) ∨ 2 < k) :
    (((k : Int) == 1) = true ∧ ¬ 20 < t.size ∧ ((k : Int) == 2) = false) ∨ (((k : Int) == 1) = false ∧ ((k : Int) == 2) = true ∧ b = true) ∨ (((k : Int) == 1) = false ∧ ((k : Int) == 2) = false) := by
  rcases h with ⟨rfl, h⟩ | ⟨rfl, h⟩ | h
  · exact .inl ⟨rfl, h, rfl⟩
  · exact .inr (.inl ⟨rfl, rfl, by rw [hb, h]⟩)
  · right; right
    constructor <;> (simp; omega)
/-- A block of three cells, just made. -/
theorem new3 (W : World) (x y z : Value) (t : TypeId) (g : Nat) (hg : g = W.heap.size) : ∀ (j : Nat) (u : Value), [x, y, z][j]? = some u → (W.alloc (.cells #[x, y, z] t)).cell? ((⟨g, 0, none⟩ : Addr).add j) = some u := by
  intro j u h
  subst hg
  have hn : (W.alloc (.cells #[x, y, z] t)).heap[W.heap.size]? = some (.cells #[x, y, z] t (0, 0)) := heap_new W _
  have ha : (⟨W.heap.size, 0, none⟩ : Addr).add j = ⟨W.heap.size, j, none⟩ := by unfold Addr.add; split <;> simp_all
  rw [ha, cell_of_row _ _ j _ t (0, 0) hn]
  rw [← h]; simp
theorem ones3 (x y : Int) (t : ByteArray) : ∀ u ∈ [Value.int .i64 x, .string t, .int .i64 y], u.oneCell' = true := by
  intro u hu
  simp at hu
  rcases hu with rfl | rfl | rfl <;> rfl
theorem after_append {w wr w1 w' : World} {v : Value} {n : Nat} {xs : List Value} {A B : Obj} {R : Obj} (hown : wr.ownsRow (w.heap.size + 1) 49 3 v n xs) (hres : wr.heap[w.heap.size]? = some R) (hbw : Below w.heap.size w wr)
    (hb1 : Below wr.heap.size wr w1) (hg : ((w1.alloc A).alloc B).grownBy w' v.ownBlock) : w'.heap[w1.heap.size]? = some A ∧ w'.heap[w.heap.size]? = some R ∧ Below w.heap.size w w' ∧ w1.heap.size < w'.heap.size := by
  have h1 := hb1.size
  have h2 := hbw.size
  have hs1 : (w1.alloc A).heap.size = w1.heap.size + 1 := by simp
  have hs2 : ((w1.alloc A).alloc B).heap.size = w1.heap.size + 2 := by simp
  have hl : w.heap.size < wr.heap.size := by
    rcases Nat.lt_or_ge w.heap.size wr.heap.size with h | h
    · exact h
    · rw [Array.getElem?_eq_none h] at hres; cases hres
  have hn : ((w1.alloc A).alloc B).heap[w1.heap.size]? = some A := (Below.heap_alloc _ _ _ (by omega)).trans (heap_new w1 A)
  have hr : ((w1.alloc A).alloc B).heap[w.heap.size]? = some R := (Below.heap_alloc _ _ _ (by omega)).trans ((Below.heap_alloc _ _ _ (by omega)).trans ((hb1.block _ hl).trans hres))
  have hsz := hg.size
  refine ⟨(hg.block _ (by omega) (fun e => ?_)).trans hn, (hg.block _ (by omega) (fun e => ?_)).trans hr, ?_, by omega⟩
  · have := hown.lt _ e.symm; omega
  · have := hown.lt _ e.symm; omega
  · refine (((hbw.trans (hb1.mono h2)).alloc (by omega) _).alloc (by omega) _).grown hg (by omega) (fun q hq => ?_)
    have := hown.lt _ hq; omega
theorem next_le {s : ByteArray} {b : Nat} (h : b ≤ s.size) : b + Tk.sk false (s.data.toList.drop b) ≤ s.size := by
  have h1 := Tk.sk_le false (s.data.toList.drop b)
  rw [List.length_drop] at h1
  have h3 : s.data.toList.length = s.size := rfl
  omega
theorem of_end {s : ByteArray} {a f : Nat} {acc : List Tk.Tok} (hf : s.size - a < f) (hlt : ¬ a < s.size) (he : Tk.ofS s.data.toList f a acc = Tk.ofL s.data.toList) : Tk.ofL s.data.toList = .ok (acc ++ [Tk.endTok s.data.toList]) := by
  obtain ⟨g, rfl⟩ : ∃ g, f = g + 1 := ⟨f - 1, by omega⟩
  have h3 : s.data.toList.length = s.size := rfl
  rw [← he, Tk.ofS_end (by omega)]
theorem frozen_of {w : World} {g : Nat} {cs : Array Value} {t : TypeId} (h : w.heap[g]? = some (.cells cs t (0, 0))) : ∀ o, w.frozen? ⟨g, o, none⟩ = false := fun o => by simp [World.frozen?, h]
theorem after_last {w wr w' : World} {v : Value} {n : Nat} {xs : List Value} {A : Obj} {R : Obj} (hown : wr.ownsRow (w.heap.size + 1) 49 3 v n xs) (hres : wr.heap[w.heap.size]? = some R) (hbw : Below w.heap.size w wr)
    (hg : (wr.alloc A).grownBy w' v.ownBlock) : w'.heap[w.heap.size]? = some R ∧ Below w.heap.size w w' ∧ w.heap.size < w'.heap.size := by
  have h2 := hbw.size
  have hs1 : (wr.alloc A).heap.size = wr.heap.size + 1 := by simp
  have hl : w.heap.size < wr.heap.size := by
    rcases Nat.lt_or_ge w.heap.size wr.heap.size with h | h
    · exact h
    · rw [Array.getElem?_eq_none h] at hres; cases hres
  have hr : (wr.alloc A).heap[w.heap.size]? = some R := (Below.heap_alloc _ _ _ hl).trans hres
  have hsz := hg.size
  refine ⟨(hg.block _ (by omega) (fun e => ?_)).trans hr, ?_, by omega⟩
  · have := hown.lt _ e.symm; omega
  · refine (hbw.alloc (by omega) _).grown hg (by omega) (fun q hq => ?_)
    have := hown.lt _ hq; omega
theorem own_more {s : ByteArray} {B : Nat} {w' : World} {v' : Value} {acc : List Tk.Tok} (h : w'.ownsRow (B + 1) 49 3 v' (acc.length + 1) (tcells acc ++ [.int .i64 0, .string ⟨#[]⟩, .int .i64 (s.size : Int)])) :
    w'.ownsRow (B + 1) 49 3 v' (acc ++ [Tk.endTok s.data.toList]).length (tcells (acc ++ [Tk.endTok s.data.toList])) := by
  rw [tcells_snoc, List.length_append]; exact h
/-- Two stores into an older block leave a row of the call's own, and it is said of the older place. -/
theorem own_set2 {B : Nat} {w' : World} {v' : Value} {n : Nat} {xs : List Value} {x y : Value} (h : w'.ownsRow (B + 1) 49 3 v' n xs) : ((w'.setCell ⟨B, 0, none⟩ x).setCell ⟨B, 1, none⟩ y).ownsRow B 49 3 v' n xs := by
  refine ⟨h.1, ?_⟩
  rcases h.2 with h | ⟨g, cap, cur, rfl, hb, hg, rest⟩
  · exact .inl h
  · refine .inr ⟨g, cap, cur, rfl, by omega, ?_, rest⟩
    rw [Below.heap_setCell _ _ _ _ (by show g ≠ B; omega), Below.heap_setCell _ _ _ _ (by show g ≠ B; omega)]
    exact hg
theorem numV_form (t : ByteArray) : ∃ (x : Int) (b : Bool), numV t = .tuple #[.int .i64 x, .bool b] ∧ b = (Wd.number t).isSome := ⟨_, _, rfl, rfl⟩

set_option maxRecDepth 100000 in
set_option maxHeartbeats 2000000 in
theorem refOf_any (s : ByteArray) (hs : s.size ≤ 16384) (w : World) : Calls Tryd.prog 15 #[.string s] w (OfPost s.data.toList w) := by
  obtain ⟨i0, hi, hz0, hz1, hz2⟩ := info_parts tok_info
  have hsk : Tk.sk false s.data.toList ≤ s.size := Tk.sk_le _ _
  go_enter Tryd.func15, Tryd.ntmps15
  go_wp2_with fail
  refine (skip_any s hs _).mono ?_
  rintro e w1 ⟨rfl, rfl⟩
  go_wp2_with fail
  go_loopw [4, 5] (fun v i wr => ∃ a : Nat, i = .int .i64 a ∧ a ≤ s.size ∧ Hid (OfAt s w v a wr)) (fun _ i _ => s.size - (intOf i).toNat)
  case atStart => exact ⟨_, rfl, hsk, Lib.hid (ofAt_start hs (Below.refl _ _))⟩
  case round =>
    obtain ⟨a, rfl, ha, hr⟩ := hrel
    by_cases hlt : a < s.size
    · have hsz : (s.extract a s.size).size = s.size - a := by simp
      have hlist : (s.extract a s.size).data.toList = s.data.toList.drop a := Lib.extract_to_end s a
      have H0 := Lib.hid (show 0 < (s.extract a s.size).size by omega)
      have H1 := Lib.hid (show (s.extract a s.size).size ≤ 16384 by omega)
      have HL := Lib.hid hlist
      clear hsz hlist hsk
      go_wp2_with fail
      refine (one_any _ H0.out H1.out _).mono ?_
      rintro e w1 ⟨rfl, hb1⟩
      rw [HL.out]
      obtain ⟨k, hk⟩ : ∃ k, k = (Tk.oneL (s.data.toList.drop a)).1 := ⟨_, rfl⟩
      obtain ⟨t, ht⟩ : ∃ t, t = Tk.tx (s.data.toList.drop a) (Tk.oneL (s.data.toList.drop a)).2 := ⟨_, rfl⟩
      rw [← hk, ← ht]
      unfold tokV
      have HK := Lib.hid hk
      have HT := Lib.hid ht
      clear hk ht
      have hts : a + t.size ≤ s.size := by
        have h1 := Tk.oneL_le (s.data.toList.drop a)
        have h2 := Tk.tx_size _ _ h1
        rw [List.length_drop] at h1
        rw [HT.out, h2]
        have h3 : s.data.toList.length = s.size := rfl
        omega
      obtain ⟨c0, c1, hf, hz⟩ := res_facts hr.out hb1
      have hbw := of_below hr.out hb1
      by_cases hk0 : k = 0
      · have e0 : ((k : Int) == 0) = true := by rw [hk0]; rfl
        have HE := Lib.hid (of_byte hr.out hlt (HK.out.symm.trans hk0))
        clear hk0
        go_wp2
        exact bodyPost_ret (v := .tuple #[.slice none 0 0, .agg #[.int .i64 1, .int .i64 (a : Int)]]) (by simp [results, Tryd.results15, go_sem, c0, c1, hz]) rfl (ofPost_err (((hbw.setCell (Nat.le_refl _) _).setCell (Nat.le_refl _) _).alloc (by simp; omega) _) HE.out)
      · have e0 : ((k : Int) == 0) = false := by simpa using hk0
        obtain ⟨x, b, hnv, hbv⟩ := numV_form t
        have HN := Lib.hid hnv
        by_cases hbad : Tk.badB k t.size (s.data.toList.drop a) = true
        · have HE := Lib.hid (of_long hr.out hlt HK.out HT.out hk0 hbad)
          have hw := bad_ways HT.out hbad
          clear hnv hk0 hbad
          rcases hw with ⟨rfl, h20⟩ | ⟨rfl, hnone⟩
          · go_wp2_with fail
            refine (refNumber_any _ _).mono ?_
            rintro e w2 ⟨rfl, rfl⟩
            rw [HN.out]
            go_wp2
            exact bodyPost_ret (v := .tuple #[.slice none 0 0, .agg #[.int .i64 2, .int .i64 (a : Int)]]) (by simp [results, Tryd.results15, go_sem, c0, c1, hz]) rfl (ofPost_err (((hbw.setCell (Nat.le_refl _) _).setCell (Nat.le_refl _) _).alloc (by simp; omega) _) HE.out)
          · obtain rfl : b = false := by rw [hbv, hnone]; rfl
            clear hnone hbv
            go_wp2_with fail
            refine (refNumber_any _ _).mono ?_
            rintro e w2 ⟨rfl, rfl⟩
            rw [HN.out]
            go_wp2
            exact bodyPost_ret (v := .tuple #[.slice none 0 0, .agg #[.int .i64 2, .int .i64 (a : Int)]]) (by simp [results, Tryd.results15, go_sem, c0, c1, hz]) rfl (ofPost_err (((hbw.setCell (Nat.le_refl _) _).setCell (Nat.le_refl _) _).alloc (by simp; omega) _) HE.out)
        · have hw := good_ways HT.out hbad hk0
          obtain ⟨acc, f, hfu, hacc, hof, hown, hres, hbwr⟩ := hr.out
          have HO := Lib.hid hof
          have HA : Hid (OfAt s w u4 a wr) := hr
          have HRES := Lib.hid hres
          have HG := Lib.hid (good_next hr.out hlt HK.out HT.out hk0 hbad)
          clear hnv hof hres hbad
          have hw' := good_facts hbv hw
          clear hw hk0 hbv
          rcases hw' with ⟨e1, h20, e2⟩ | ⟨e1, e2, rfl⟩ | ⟨e1, e2⟩
          all_goals
            go_wp2_with fail
            refine (refNumber_any _ _).mono ?_
            rintro e w2 ⟨rfl, rfl⟩
            rw [HN.out]
            go_wp2_with (at_builtin; refine wpList_append_own _ rfl (.tmp 56) (.tmp 58) 32 rfl (w.heap.size + 1) 49 i0 (.agg #[.int .i64 0, .string ⟨#[]⟩, .int .i64 0]) 3 32 Tryd.underlying32 hi hz0 hz1 hz2 rfl (by decide) u4 acc.length (tcells acc) rfl (((own_below hown hb1).alloc _).alloc _) ⟨w1.heap.size + 1, 0, none⟩ 1 1 [.int .i64 (k : Int), .string t, .int .i64 (a : Int)] rfl rfl (new3 _ _ _ _ _ _ (by simp)) (ones3 _ _ _) (by unfold maxLen; omega) (by omega) (by simp; omega) ?_; intro v' w' hown' hgrow' hiff; clear hiff; obtain ⟨hblk, hres', hbw', hlt1⟩ := after_append hown HRES.out hbwr hb1 hgrow'; have ct : w'.cell? ⟨w1.heap.size, 1, none⟩ = some (.string t) := cell_of_row w' w1.heap.size 1 _ 49 (0, 0) hblk; have HR' := Lib.hid hres'; have HO' := Lib.hid hown'; clear hblk hres' hgrow' hown')
            have HS2 := Lib.hid (show (s.extract (a + t.size) s.size).size ≤ 16384 by simp; omega)
            refine (skip_any _ HS2.out _).mono ?_
            rintro e w4 ⟨rfl, rfl⟩
            rw [show (s.extract (a + t.size) s.size).data.toList = s.data.toList.drop (a + t.size) from Lib.extract_to_end s _]
            have hn := next_le hts
            obtain ⟨z, hz'⟩ : ∃ z, z = Tk.sk false (s.data.toList.drop (a + t.size)) := ⟨_, rfl⟩
            rw [← hz'] at hn ⊢
            have HZ := Lib.hid hz'
            clear hz'
            go_wp2
            go_roundw
            case rel =>
              refine ⟨a + t.size + z, by go_num, by omega, ?_⟩
              obtain ⟨hpos, hnext⟩ := HG.out
              obtain ⟨g, hg1, hg2⟩ := hnext acc f hfu HO.out
              rw [← HZ.out] at hg1 hg2
              refine Lib.hid ⟨acc ++ [⟨k, t, a⟩], g, hg1, by simp; omega, hg2, ?_, HR'.out, hbw'⟩
              rw [tcells_snoc, List.length_append]
              exact HO'.out
            case measure =>
              have hpos := HG.out.1
              simp [intOf]; omega
    · obtain ⟨acc, f, hfu, hacc, hof, hown, hres, hbwr⟩ := hr.out
      have HE := Lib.hid (of_end hfu hlt hof)
      have hbsz := hbwr.size
      have HRES := Lib.hid hres
      clear hof hres hsk
      go_wp2_with (at_builtin; refine wpList_append_own _ rfl (.tmp 71) (.tmp 75) 32 rfl (w.heap.size + 1) 49 i0 (.agg #[.int .i64 0, .string ⟨#[]⟩, .int .i64 0]) 3 32 Tryd.underlying32 hi hz0 hz1 hz2 rfl (by decide) u4 acc.length (tcells acc) rfl (hown.alloc _) ⟨wr.heap.size, 0, none⟩ 1 1 [.int .i64 0, .string ⟨#[]⟩, .int .i64 (s.size : Int)] rfl rfl (new3 _ _ _ _ _ _ rfl) (ones3 _ _ _) (by unfold maxLen; omega) (by omega) (by simp; omega) ?_; intro v' w' hown' hgrow' hiff; clear hiff; obtain ⟨hres', hbw', hlt1⟩ := after_last hown HRES.out hbwr hgrow'; have ct0 : w'.cell? ⟨w.heap.size, 0, none⟩ = some (.int .i64 0) := cell_of_row w' w.heap.size 0 _ 35 (0, 0) hres'; have ct1 : w'.cell? ⟨w.heap.size, 1, none⟩ = some (.int .i64 0) := cell_of_row w' w.heap.size 1 _ 35 (0, 0) hres'; have hfr : ∀ o, w'.frozen? ⟨w.heap.size, o, none⟩ = false := frozen_of hres'; have HO' := Lib.hid hown'; clear hres' hgrow' hown')
      exact bodyPost_ret (v := .tuple #[v', .agg #[.int .i64 0, .int .i64 0]]) (by simp [results, Tryd.results15, go_sem, ct0, ct1]) rfl (ofPost_ok ((hbw'.setCell (Nat.le_refl _) _).setCell (Nat.le_refl _) _) HE.out (own_set2 (own_more (s := s) HO'.out)))
end Go.Proofs.YtdehpgdffafebaaDoor
namespace Go.Proofs.YtdehpgdffafebaaDoor
open Go.RowKit
set_option linter.unusedVariables false

theorem heap_lt {w : World} {b : Nat} {o : Obj} (h : w.heap[b]? = some o) : b < w.heap.size := (Array.getElem?_eq_some_iff.1 h).1

mutual
/-- A value that reads as an expression, through blocks below B. -/
def InV (B : Nat) (W : World) : E → Value → Prop
  | .mk k n s l, v => ∃ (A : Option Addr) (c : Nat), v = .agg #[.int .i64 k, .int .i64 n, .string s, .slice A l.length c] ∧ (-9223372036854775808 ≤ n ∧ n ≤ 9223372036854775807) ∧ l.length ≤ c ∧ c ≤ maxLen ∧
      (0 < l.length → ∃ b o, A = some ⟨b, o, none⟩ ∧ b < B ∧ InA B W b o l)
/-- The cells of several, one behind the other. -/
def InA (B : Nat) (W : World) (b : Nat) : Nat → List E → Prop
  | _, [] => True
  | o, e :: r => (∃ c0 c1 c2 c3, W.cell? ⟨b, o, none⟩ = some c0 ∧ W.cell? ⟨b, o + 1, none⟩ = some c1 ∧ W.cell? ⟨b, o + 2, none⟩ = some c2 ∧ W.cell? ⟨b, o + 3, none⟩ = some c3 ∧ InV B W e (.agg #[c0, c1, c2, c3])) ∧ InA B W b (o + 4) r
end

mutual
theorem InV.below {B : Nat} {W W' : World} (hb : Below B W W') : ∀ {e : E} {v : Value}, InV B W e v → InV B W' e v
  | .mk k n s l, v, h => by
    rw [InV] at h ⊢
    obtain ⟨A, c, h1, h2, h3, h4, h5⟩ := h
    refine ⟨A, c, h1, h2, h3, h4, fun hl => ?_⟩
    obtain ⟨b, o, e, hB, ha⟩ := h5 hl
    exact ⟨b, o, e, hB, InA.below hb hB ha⟩
theorem InA.below {B : Nat} {W W' : World} (hb : Below B W W') : ∀ {l : List E} {b o : Nat}, b < B → InA B W b o l → InA B W' b o l
  | [], _, _, _, _ => by rw [InA]; trivial
  | e :: r, b, o, hB, h => by
    rw [InA] at h ⊢
    obtain ⟨⟨c0, c1, c2, c3, h0, h1, h2, h3, hv⟩, hr⟩ := h
    exact ⟨⟨c0, c1, c2, c3, (hb.cell (p := ⟨b, _, none⟩) hB).trans h0, (hb.cell (p := ⟨b, _, none⟩) hB).trans h1, (hb.cell (p := ⟨b, _, none⟩) hB).trans h2, (hb.cell (p := ⟨b, _, none⟩) hB).trans h3, InV.below hb hv⟩, InA.below hb hB hr⟩
end
mutual
theorem InV.more {B B' : Nat} {W : World} (hb : B ≤ B') : ∀ {e : E} {v : Value}, InV B W e v → InV B' W e v
  | .mk k n s l, v, h => by
    rw [InV] at h ⊢
    obtain ⟨A, c, h1, h2, h3, h4, h5⟩ := h
    refine ⟨A, c, h1, h2, h3, h4, fun hl => ?_⟩
    obtain ⟨b, o, e, hB, ha⟩ := h5 hl
    exact ⟨b, o, e, by omega, InA.more hb ha⟩
theorem InA.more {B B' : Nat} {W : World} (hb : B ≤ B') : ∀ {l : List E} {b o : Nat}, InA B W b o l → InA B' W b o l
  | [], _, _, _ => by rw [InA]; trivial
  | e :: r, b, o, h => by
    rw [InA] at h ⊢
    obtain ⟨⟨c0, c1, c2, c3, h0, h1, h2, h3, hv⟩, hr⟩ := h
    exact ⟨⟨c0, c1, c2, c3, h0, h1, h2, h3, InV.more hb hv⟩, InA.more hb hr⟩
end
/-- The i-th of several. -/
theorem InA.at_ {B : Nat} {W : World} : ∀ {l : List E} {b o : Nat}, InA B W b o l → ∀ (i : Nat) (h : i < l.length), ∃ c0 c1 c2 c3, W.cell? ⟨b, o + i * 4, none⟩ = some c0 ∧ W.cell? ⟨b, o + i * 4 + 1, none⟩ = some c1 ∧ W.cell? ⟨b, o + i * 4 + 2, none⟩ = some c2 ∧ W.cell? ⟨b, o + i * 4 + 3, none⟩ = some c3 ∧ InV B W l[i] (.agg #[c0, c1, c2, c3])
  | [], _, _, _, i, h => absurd h (by simp)
  | e :: r, b, o, ha, 0, _ => by
    rw [InA] at ha
    simpa using ha.1
  | e :: r, b, o, ha, i + 1, h => by
    rw [InA] at ha
    have := InA.at_ ha.2 i (by simpa using h)
    have e1 : o + (i + 1) * 4 = o + 4 + i * 4 := by omega
    rw [e1]
    simpa using this
/-- A value that reads as an expression, laid open. -/
theorem InV.open {B : Nat} {W : World} {e : E} {v : Value} (h : InV B W e v) : ∃ (k n : Int) (s : ByteArray) (l : List E) (A : Option Addr) (c : Nat), e = .mk k n s l ∧ v = .agg #[.int .i64 k, .int .i64 n, .string s, .slice A l.length c] ∧ (-9223372036854775808 ≤ n ∧ n ≤ 9223372036854775807) ∧ l.length ≤ c ∧ c ≤ maxLen ∧
      (0 < l.length → ∃ b o, A = some ⟨b, o, none⟩ ∧ b < B ∧ InA B W b o l) := by
  cases e with
  | mk k n s l =>
    rw [InV] at h
    obtain ⟨A, c, h1, h2, h3, h4, h5⟩ := h
    exact ⟨k, n, s, l, A, c, rfl, h1, h2, h3, h4, h5⟩
/-- The Kids of an expression in memory: the i-th one. -/
def KidsIn (B : Nat) (W : World) (A : Option Addr) (l : List E) : Prop := 0 < l.length → ∃ b o, A = some ⟨b, o, none⟩ ∧ b < B ∧ InA B W b o l
theorem KidsIn.below {B : Nat} {W W' : World} {A : Option Addr} {l : List E} (h : KidsIn B W A l) (hb : Below B W W') : KidsIn B W' A l := fun hl => by
  obtain ⟨b, o, e, hB, ha⟩ := h hl
  exact ⟨b, o, e, hB, ha.below hb hB⟩
theorem KidsIn.more {B B' : Nat} {W : World} {A : Option Addr} {l : List E} (h : KidsIn B W A l) (hb : B ≤ B') : KidsIn B' W A l := fun hl => by
  obtain ⟨b, o, e, hB, ha⟩ := h hl
  exact ⟨b, o, e, by omega, ha.more hb⟩
theorem KidsIn.at_ {B : Nat} {W : World} {A : Option Addr} {l : List E} (h : KidsIn B W A l) {i : Nat} (hi : i < l.length) : ∃ (b o : Nat) (k n : Int) (s : ByteArray) (q : List E) (A' : Option Addr) (c : Nat), A = some ⟨b, o, none⟩ ∧ b < B ∧ l[i] = .mk k n s q ∧
    W.cell? ⟨b, o + i * 4, none⟩ = some (.int .i64 k) ∧ W.cell? ⟨b, o + i * 4 + 1, none⟩ = some (.int .i64 n) ∧ W.cell? ⟨b, o + i * 4 + 2, none⟩ = some (.string s) ∧ W.cell? ⟨b, o + i * 4 + 3, none⟩ = some (.slice A' q.length c) ∧
    InV B W (.mk k n s q) (.agg #[.int .i64 k, .int .i64 n, .string s, .slice A' q.length c]) := by
  obtain ⟨b, o, e, hB, ha⟩ := h (by omega)
  obtain ⟨c0, c1, c2, c3, h0, h1, h2, h3, hv⟩ := ha.at_ i hi
  obtain ⟨k, n, s, q, A', c, e1, e2, _⟩ := hv.open
  simp at e2
  obtain ⟨rfl, rfl, rfl, rfl⟩ := e2
  rw [e1] at hv
  exact ⟨b, o, k, n, s, q, A', c, e, hB, e1, h0, h1, h2, h3, hv⟩

/-- How many expressions there are in one, as the document's answer counts them, in 64 bits. -/
def szs : Int → List Int → Int
  | n, [] => n
  | n, z :: r => if n < 1000 then szs (wrap64 (n + z)) r else n
mutual
def sz : E → Int
  | .mk _ _ _ l => szs 1 (szl l)
def szl : List E → List Int
  | [] => []
  | e :: r => sz e :: szl r
end
theorem szl_len : ∀ l : List E, (szl l).length = l.length
  | [] => by rw [szl]; rfl
  | e :: r => by rw [szl, List.length_cons, List.length_cons, szl_len r]
theorem szl_drop : ∀ (l : List E) (k : Nat), (szl l).drop k = szl (l.drop k)
  | [], k => by rw [szl]; simp [szl]
  | e :: r, 0 => by simp
  | e :: r, k + 1 => by rw [szl, List.drop_succ_cons, List.drop_succ_cons, szl_drop r k]
theorem szs_at {n : Int} {l : List E} {k : Nat} (h : k < l.length) (hn : n < 1000) : szs n (szl (l.drop k)) = szs (wrap64 (n + sz l[k])) (szl (l.drop (k + 1))) := by
  rw [E.drop_at h, szl, szs, if_pos hn]
theorem szs_end {n : Int} {l : List E} {k : Nat} (h : ¬ k < l.length) : szs n (szl (l.drop k)) = n := by
  rw [List.drop_eq_nil_of_le (by omega), szl, szs]
theorem szs_full {n : Int} {l : List Int} (hn : ¬ n < 1000) : szs n l = n := by
  cases l <;> simp [szs, hn]

theorem ret_int {a b : Int} (h : a = b) : Ending.returned (.int .i64 a) = .returned (.int .i64 b) := by rw [h]

set_option maxRecDepth 100000 in
set_option maxHeartbeats 1000000 in
theorem size_any : ∀ (m : Nat) (e : E) (v : Value) (w : World), E.count e ≤ m → InV w.heap.size w e v → Calls Tryd.prog 5 #[v] w fun x w' => x = .returned (.int .i64 (sz e)) ∧ Below w.heap.size w w' := by
  intro m
  induction m with
  | zero => intro e v w h; have := E.count_pos e; omega
  | succ m ih =>
    intro e v w hm hv
    obtain ⟨k, n, s, l, A, c, rfl, rfl, hn, hlc, hcm, hk⟩ := hv.open
    have hl1 : l.length ≤ 9223372036854775807 := by unfold maxLen at hcm; omega
    have HK : Hid (KidsIn w.heap.size w A l) := Lib.hid hk
    have HI := Lib.hid ih
    have HM := Lib.hid hm
    obtain ⟨L, hL⟩ : ∃ L, L = l.length := ⟨_, rfl⟩
    rw [← hL] at hlc hl1 ⊢
    have HL := Lib.hid hL
    clear hL hk hv hn hm ih hcm
    go_enter Tryd.func5, Tryd.ntmps5
    go_wp2_with fail
    go_loopw [3, 4] (fun z i wr => ∃ (k' : Nat) (z' : Int), k' ≤ L ∧ i = .int .i64 k' ∧ z = .int .i64 z' ∧ wr.heap[w.heap.size]? = some (.cells #[.int .i64 k, .int .i64 n, .string s, .slice A L c] 24 (0, 0)) ∧ Below w.heap.size w wr ∧ Hid (szs z' (szl (l.drop k')) = sz (.mk k n s l))) (fun _ i _ => L - (intOf i).toNat)
    case atStart => exact ⟨0, 1, by omega, rfl, rfl, heap_new w _, (Below.refl _ _).alloc (Nat.le_refl _) _, Lib.hid (by rw [List.drop_zero, sz])⟩
    case round =>
      obtain ⟨k', z', hk', rfl, rfl, hbox, hbw, hz⟩ := hrel
      have hsz := hbw.size
      have hbl : w.heap.size < wr.heap.size := heap_lt hbox
      have c3 : wr.cell? ⟨w.heap.size, 3, none⟩ = some (.slice A L c) := cell_of_row wr w.heap.size 3 _ _ (0, 0) hbox
      by_cases hlt : k' < L
      · have hlt' : k' < l.length := by rw [← HL.out]; exact hlt
        by_cases hf : z' < 1000
        · obtain ⟨b, o, kk, kn, ks, kq, kA, kc, rfl, hbB, he, q0, q1, q2, q3, hvv⟩ := (HK.out.below hbw).at_ hlt'
          have HV := Lib.hid (hvv.more hsz)
          have HC : Hid (E.count (.mk kk kn ks kq) ≤ m) := Lib.hid (by
            have h1 := E.count_lt (k := k) (n := n) (s := s) hlt'
            have h2 := HM.out
            rw [he] at h1; omega)
          have HE := Lib.hid he
          have HZ := Lib.hid (szs_at hlt' hf)
          clear he hvv
          go_wp2_with fail
          refine (HI.out _ _ _ HC.out HV.out).mono ?_
          rintro e w1 ⟨rfl, hb1⟩
          obtain ⟨y, hy⟩ : ∃ y, y = sz (.mk kk kn ks kq) := ⟨_, rfl⟩
          rw [← hy]
          have HY := Lib.hid hy
          clear hy
          go_wp2_with fail
          go_roundw
          case rel => exact ⟨k' + 1, _, by omega, by go_num, rfl, (hb1.block _ (by omega)).trans hbox, hbw.trans (hb1.mono hsz), Lib.hid (by rw [← hz.out, HZ.out, HE.out, HY.out])⟩
          case measure => simp [intOf]; omega
        · have HZ := Lib.hid (szs_full (l := szl (l.drop k')) hf)
          go_wp2_with fail
          go_ret
          exact ⟨ret_int (by rw [← hz.out, HZ.out]), hbw⟩
      · have HZ := Lib.hid (szs_end (n := z') (l := l) (k := k') (by rw [← HL.out]; exact hlt))
        go_wp2_with fail
        go_ret
        exact ⟨ret_int (by rw [← hz.out, HZ.out]), hbw⟩
end Go.Proofs.YtdehpgdffafebaaDoor
namespace Go.Proofs.YtdehpgdffafebaaDoor
open Go.RowKit

/-- A world of a class. -/
structure InC (Cl : World → Prop) where
  w : World
  ok : Cl w

theorem region_class {P : Program} {id : Nat} {Q : Exit → Act → World → Prop} {a : Act} {w : World} {l : List Oper} {Cl : World → Prop} (hm : P.follows .mixedOrders = true) (hB : Region.lexB .any l.toArray = true) (hC : Cl w.drew)
    (h : wpQuiet P l.toArray (fun w' => ∃ n : InC Cl, w' = n.w) (fun a' => ∀ w', (∃ n : InC Cl, w' = n.w) → Q .normal a' w') l a) : (Code.region id l.toArray true).wp P Q a w :=
  wp_region_quiet (C := fun w' => ∃ n : InC Cl, w' = n.w) hm hB ⟨⟨_, hC⟩, rfl⟩ (by simpa using h)

/-- A callee's contract, met in a world of the class. -/
theorem cls_call {Cl : World → Prop} (hst : ∀ W W', Cl W → Below W.heap.size W W' → Cl W') {P : Program} {f : FuncId} {args : Array Value} {v : Value} (n : InC Cl)
    (h : Calls P f args n.w fun e w' => e = .returned v ∧ Below n.w.heap.size n.w w') : Calls P f args n.w fun e w'' => e = .returned v ∧ ∃ m : InC Cl, w'' = m.w :=
  h.mono fun _ w' ⟨he, hb⟩ => ⟨he, ⟨w', hst _ _ n.ok hb⟩, rfl⟩
theorem cls_same {Cl : World → Prop} {P : Program} {f : FuncId} {args : Array Value} {v : Value} (n : InC Cl)
    (h : Calls P f args n.w fun e w' => e = .returned v ∧ w' = n.w) : Calls P f args n.w fun e w'' => e = .returned v ∧ ∃ m : InC Cl, w'' = m.w :=
  h.mono fun _ _ ⟨he, hb⟩ => ⟨he, n, hb⟩
theorem drew_below (w : World) : Below w.heap.size w w.drew := (Below.refl _ _).drew
/-! ### The class of worlds behind one -/
instance behind_some (W : World) : Nonempty (InC (Below W.heap.size W)) := ⟨⟨W, Below.refl _ _⟩⟩
theorem cell_lt {W : World} {b o : Nat} {v : Value} (h : W.cell? ⟨b, o, none⟩ = some v) : b < W.heap.size := by
  rcases Nat.lt_or_ge b W.heap.size with g | g
  · exact g
  · exfalso
    have hn : W.heap[b]? = none := Array.getElem?_eq_none g
    simp [World.cell?, hn] at h
theorem cls_cell {W : World} {b o : Nat} {v : Value} (h : W.cell? ⟨b, o, none⟩ = some v) (p : InC (Below W.heap.size W)) : p.w.cell? ⟨b, o, none⟩ = some v :=
  (p.ok.cell (p := ⟨b, o, none⟩) (cell_lt h)).trans h
theorem cls_inV {W : World} {e : E} {v : Value} (h : InV W.heap.size W e v) (p : InC (Below W.heap.size W)) : InV p.w.heap.size p.w e v := (h.below p.ok).more p.ok.size
theorem cls_below {W : World} {P : Program} {f : FuncId} {args : Array Value} {v : Value} (p : InC (Below W.heap.size W))
    (h : Calls P f args p.w fun e w' => e = .returned v ∧ Below p.w.heap.size p.w w') : Calls P f args p.w fun e w'' => e = .returned v ∧ ∃ m : InC (Below W.heap.size W), w'' = m.w :=
  cls_call (fun _ _ h hb => h.trans (hb.mono h.size)) p h
end Go.Proofs.YtdehpgdffafebaaDoor
namespace Go.Proofs.YtdehpgdffafebaaDoor
open Go.RowKit
set_option linter.unusedVariables false

theorem max_val (a b : Nat) : Value.int .i64 (if a < b then (b : Int) else (a : Int)) = Value.int .i64 ((max a b : Nat) : Int) := by
  congr 1; split <;> omega
theorem deep_pos : ∀ e : E, 1 ≤ E.deep e | .mk _ _ _ _ => by rw [E.deep]; omega

set_option maxRecDepth 100000 in
set_option maxHeartbeats 1000000 in
theorem deep_any : ∀ (m : Nat) (e : E) (v : Value) (w : World), E.count e ≤ m → m ≤ 4611686018427387904 → InV w.heap.size w e v → Calls Tryd.prog 20 #[v] w fun x w' => x = .returned (.int .i64 (E.deep e : Int)) ∧ Below w.heap.size w w' := by
  intro m
  induction m with
  | zero => intro e v w h; have := E.count_pos e; omega
  | succ m ih =>
    intro e v w hm hmm hv
    obtain ⟨k, n, s, l, A, c, rfl, rfl, hn, hlc, hcm, hk⟩ := hv.open
    have hl1 : l.length ≤ 9223372036854775807 := by unfold maxLen at hcm; omega
    have HK : Hid (KidsIn w.heap.size w A l) := Lib.hid hk
    have HI := Lib.hid ih
    have HM := Lib.hid hm
    have HMM := Lib.hid hmm
    obtain ⟨L, hL⟩ : ∃ L, L = l.length := ⟨_, rfl⟩
    rw [← hL] at hlc hl1 ⊢
    have HL := Lib.hid hL
    clear hL hk hv hn hm ih hcm hmm
    go_enter Tryd.func20, Tryd.ntmps20
    go_wp2_with fail
    go_loopw [3, 4] (fun z i wr => ∃ (k' : Nat) (z' : Nat), k' ≤ L ∧ i = .int .i64 k' ∧ z = .int .i64 z' ∧ z' ≤ 4611686018427387904 ∧ wr.heap[w.heap.size]? = some (.cells #[.int .i64 k, .int .i64 n, .string s, .slice A L c] 24 (0, 0)) ∧ Below w.heap.size w wr ∧ Hid (max z' (E.deeps (l.drop k')) = E.deeps l)) (fun _ i _ => L - (intOf i).toNat)
    case atStart => exact ⟨0, 0, by omega, rfl, rfl, by omega, heap_new w _, (Below.refl _ _).alloc (Nat.le_refl _) _, Lib.hid (by rw [List.drop_zero]; omega)⟩
    case round =>
      obtain ⟨k', z', hk', rfl, rfl, hz1, hbox, hbw, hz⟩ := hrel
      have hsz := hbw.size
      have hbl : w.heap.size < wr.heap.size := heap_lt hbox
      have c3 : wr.cell? ⟨w.heap.size, 3, none⟩ = some (.slice A L c) := cell_of_row wr w.heap.size 3 _ _ (0, 0) hbox
      by_cases hlt : k' < L
      · have hlt' : k' < l.length := by rw [← HL.out]; exact hlt
        obtain ⟨b, o, kk, kn, ks, kq, kA, kc, rfl, hbB, he, q0, q1, q2, q3, hvv⟩ := (HK.out.below hbw).at_ hlt'
        have HV := Lib.hid (hvv.more hsz)
        have hc1 : E.count (.mk kk kn ks kq) ≤ m := by
          have h1 := E.count_lt (k := k) (n := n) (s := s) hlt'
          have h2 := HM.out
          rw [he] at h1; omega
        have hmm' : m ≤ 4611686018427387904 := by have := HMM.out; omega
        have hd1 := E.deep_count (.mk kk kn ks kq)
        have HE := Lib.hid he
        have HZ := Lib.hid (E.deeps_at hlt')
        have HC := Lib.hid hc1
        have HMM' := Lib.hid hmm'
        obtain ⟨y, hy⟩ : ∃ y, y = E.deep (.mk kk kn ks kq) := ⟨_, rfl⟩
        rw [← hy] at hd1
        have hy1 : y ≤ 4611686018427387904 := by omega
        clear he hvv hc1 hmm' hd1
        go_wp2_with fail
        refine (HI.out _ _ _ HC.out HMM'.out HV.out).mono ?_
        rintro e w1 ⟨rfl, hb1⟩
        rw [← hy]
        have HY := Lib.hid hy
        clear hy
        go_wp2_with fail
        go_roundw
        case rel => exact ⟨k' + 1, max z' y, by omega, by go_num, max_val z' y, by omega, (hb1.block _ (by omega)).trans hbox, hbw.trans (hb1.mono hsz), Lib.hid (by rw [← hz.out, HZ.out, HE.out, HY.out]; omega)⟩
        case measure => simp [intOf]; omega
      · have HZ := Lib.hid (E.deeps_end (l := l) (k := k') (by rw [← HL.out]; exact hlt))
        go_wp2_with fail
        go_ret
        exact ⟨ret_int (by rw [E.deep, ← hz.out, HZ.out]; simp), hbw⟩

set_option maxHeartbeats 1000000 in
theorem refKids_any (k : Int) (w : World) : Calls Tryd.prog 33 #[.int .i64 k] w fun x w' => x = .returned (.int .i64 (E.kidsN k)) ∧ w' = w := by
  by_cases h1 : 6 ≤ k ∧ k ≤ 11
  · obtain ⟨h2, h3⟩ := h1
    have HE : Hid (E.kidsN k = 2) := Lib.hid (by unfold E.kidsN; rw [if_pos (.inl ⟨h2, h3⟩)])
    go_enter Tryd.func33, Tryd.ntmps33
    go_wp2
    go_ret
    exact ⟨ret_int HE.out.symm, rfl⟩
  · by_cases h4 : k = 14
    · subst h4
      go_enter Tryd.func33, Tryd.ntmps33
      go_wp2
      go_ret
      exact ⟨rfl, rfl⟩
    · by_cases h5 : k = 12
      · subst h5
        go_enter Tryd.func33, Tryd.ntmps33
        go_wp2
        go_ret
        exact ⟨rfl, rfl⟩
      · by_cases h6 : k = 13
        · subst h6
          go_enter Tryd.func33, Tryd.ntmps33
          go_wp2
          go_ret
          exact ⟨rfl, rfl⟩
        · have HE : Hid (E.kidsN k = 0) := Lib.hid (by unfold E.kidsN; rw [if_neg (by omega), if_neg (by omega)])
          have e1 : (k == 14) = false := by simpa using h4
          have e2 : (k == 12) = false := by simpa using h5
          have e3 : (k == 13) = false := by simpa using h6
          clear h4 h5 h6
          by_cases h7 : 6 ≤ k
          · have h8 : ¬ k ≤ 11 := by omega
            have h8' : decide (k ≤ 11) = false := by simpa using h8
            clear h1 h8
            go_enter Tryd.func33, Tryd.ntmps33
            go_wp2
            go_ret
            exact ⟨ret_int HE.out.symm, rfl⟩
          · have h7' : decide (6 ≤ k) = false := by simpa using h7
            clear h1 h7
            go_enter Tryd.func33, Tryd.ntmps33
            go_wp2
            go_ret
            exact ⟨ret_int HE.out.symm, rfl⟩
end Go.Proofs.YtdehpgdffafebaaDoor
