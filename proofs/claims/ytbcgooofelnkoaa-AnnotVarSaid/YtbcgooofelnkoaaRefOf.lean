/- The document's answer: the tokens of a text, one behind the other in memory of its own. Conditions: the text has at most 16384 bytes. -/
import Derived.Test.YtbcgooofelnkoaaOne
import Derived.Lib.IndexBytes
import Derived.OwnWalk
import Derived.Laws.AppendOwn
import Derived.Laws.OwnMore
namespace Go.Proofs.Ytbcgooofelnkoaa
open Go.RowKit
set_option linter.unusedVariables false

/-- The cells of tokens, one behind the other. -/
def tcell (t : Tk.Tok) : List Value := [.int .i64 (t.kind : Int), .string t.text, .int .i64 (t.pos : Int)]
def tcells (l : List Tk.Tok) : List Value := l.flatMap tcell
theorem tcells_len (l : List Tk.Tok) : (tcells l).length = l.length * 3 := by
  induction l with
  | nil => rfl
  | cons a r ih => unfold tcells at ih ⊢; rw [List.flatMap_cons, List.length_append, ih]; simp [tcell]; omega
theorem tcells_snoc (l : List Tk.Tok) (t : Tk.Tok) : tcells (l ++ [t]) = tcells l ++ tcell t := by
  unfold tcells; rw [List.flatMap_append]; simp
theorem tok_info : (Try.prog.info? 55).map (fun i => (i.zero, i.size, i.bytes)) = some (some (.agg #[.int .i64 0, .string ⟨#[]⟩, .int .i64 0]), 3, 32) := by kernel_rfl

theorem grown_of_below {w w' : World} (h : Below w.heap.size w w') (row : Option Nat) : w.grownBy w' row := ⟨h.os, h.tape, h.output, h.size, fun k hk _ => h.block k hk⟩
theorem own_below {base : Nat} {e : TypeId} {size n : Nat} {v : Value} {xs : List Value} {w w' : World} (h : w.ownsRow base e size v n xs) (hb : Below w.heap.size w w') : w'.ownsRow base e size v n xs :=
  h.kept (grown_of_below hb none) (by cases hv : v.ownBlock <;> simp)

/-- What a text's tokens are handed back as: a fault, or a slice of them in memory that is new. -/
def OfPost (l : List UInt8) (w : World) (e : Ending) (w' : World) : Prop :=
  Below w.heap.size w w' ∧ match Tk.ofL l with
  | .err x a => e = .returned (.tuple #[.slice none 0 0, .agg #[.int .i64 (x : Int), .int .i64 (a : Int)]])
  | .ok r => ∃ v, e = .returned (.tuple #[v, .agg #[.int .i64 0, .int .i64 0]]) ∧ w'.ownsRow w.heap.size 55 3 v r.length (tcells r)
theorem ofPost_err {l : List UInt8} {w w' : World} {x a : Nat} (hb : Below w.heap.size w w') (h : Tk.ofL l = .err x a) : OfPost l w (.returned (.tuple #[.slice none 0 0, .agg #[.int .i64 (x : Int), .int .i64 (a : Int)]])) w' := by
  refine ⟨hb, ?_⟩; rw [h]
theorem ofPost_ok {l : List UInt8} {w w' : World} {r : List Tk.Tok} {v : Value} (hb : Below w.heap.size w w') (h : Tk.ofL l = .ok r) (ho : w'.ownsRow w.heap.size 55 3 v r.length (tcells r)) : OfPost l w (.returned (.tuple #[v, .agg #[.int .i64 0, .int .i64 0]])) w' := by
  refine ⟨hb, ?_⟩; rw [h]; exact ⟨v, rfl, ho⟩

/-- The loop's relation: what has been read so far. -/
def OfAt (s : ByteArray) (w : World) (v : Value) (a : Nat) (wr : World) : Prop :=
  ∃ (acc : List Tk.Tok) (f : Nat), s.size - a < f ∧ acc.length ≤ a ∧ Tk.ofS s.data.toList f a acc = Tk.ofL s.data.toList ∧ wr.ownsRow (w.heap.size + 1) 55 3 v acc.length (tcells acc) ∧
    wr.heap[w.heap.size]? = some (.cells #[.int .i64 0, .int .i64 0] 28 (0, 0)) ∧ Below w.heap.size w wr

theorem ofAt_start {s : ByteArray} {w wr : World} (hs : s.size ≤ 16384) (hb : Below (w.alloc (.cells #[.int .i64 0, .int .i64 0] 28)).heap.size (w.alloc (.cells #[.int .i64 0, .int .i64 0] 28)) wr) : OfAt s w (.slice none 0 0) (Tk.sk false s.data.toList) wr := by
  have hn : (w.alloc (.cells #[.int .i64 0, .int .i64 0] 28)).heap[w.heap.size]? = some (.cells #[.int .i64 0, .int .i64 0] 28 (0, 0)) := heap_new w _
  have hz : (w.alloc (.cells #[.int .i64 0, .int .i64 0] 28)).heap.size = w.heap.size + 1 := by simp
  refine ⟨[], s.data.toList.length + 1, ?_, by simp, ?_, World.ownsRow_nil _ _ _ _, (hb.block _ (by omega)).trans hn, ((Below.refl _ w).alloc (Nat.le_refl _) _).trans (hb.mono (by omega))⟩
  · show s.size - _ < s.size + 1; omega
  · exact (Tk.ofL_small hs).symm

theorem res_facts {s : ByteArray} {w wr w1 : World} {v : Value} {a : Nat} (h : OfAt s w v a wr) (hb : Below wr.heap.size wr w1) :
    w1.cell? ⟨w.heap.size, 0, none⟩ = some (.int .i64 0) ∧ w1.cell? ⟨w.heap.size, 1, none⟩ = some (.int .i64 0) ∧ (∀ o, w1.frozen? ⟨w.heap.size, o, none⟩ = false) ∧ w.heap.size < w1.heap.size := by
  obtain ⟨_, _, _, _, _, _, hres, _⟩ := h
  have hl : w.heap.size < wr.heap.size := by
    rcases Nat.lt_or_ge w.heap.size wr.heap.size with h | h
    · exact h
    · rw [Array.getElem?_eq_none h] at hres; cases hres
  have hh := (hb.block _ hl).trans hres
  exact ⟨cell_of_row w1 _ 0 _ 28 (0, 0) hh, cell_of_row w1 _ 1 _ 28 (0, 0) hh, fun o => by simp [World.frozen?, hh], Nat.lt_of_lt_of_le hl hb.size⟩

theorem of_below {s : ByteArray} {w wr w1 : World} {v : Value} {a : Nat} (h : OfAt s w v a wr) (hb : Below wr.heap.size wr w1) : Below w.heap.size w w1 := by
  obtain ⟨_, _, _, _, _, _, _, hbw⟩ := h
  exact hbw.trans (hb.mono hbw.size)
theorem of_byte {s : ByteArray} {w wr : World} {v : Value} {a : Nat} (h : OfAt s w v a wr) (hlt : a < s.size) (hk : (Tk.oneL (s.data.toList.drop a)).1 = 0) : Tk.ofL s.data.toList = .err 1 a := by
  obtain ⟨acc, f, hf, _, he, _⟩ := h
  obtain ⟨g, rfl⟩ : ∃ g, f = g + 1 := ⟨f - 1, by omega⟩
  rw [← he, Tk.ofS_byte hlt hk]
theorem badB_tx {k : Nat} {t : ByteArray} {l : List UInt8} (ht : t = Tk.tx l (Tk.oneL l).2) : Tk.badB k (Tk.oneL l).2 l = Tk.badB k t.size l := by
  have : t.size = (Tk.oneL l).2 := by rw [ht]; exact Tk.tx_size _ _ (Tk.oneL_le l)
  rw [this]
theorem of_long {s : ByteArray} {w wr : World} {v : Value} {a k : Nat} {t : ByteArray} (h : OfAt s w v a wr) (hlt : a < s.size) (hk : k = (Tk.oneL (s.data.toList.drop a)).1) (ht : t = Tk.tx (s.data.toList.drop a) (Tk.oneL (s.data.toList.drop a)).2)
    (hk0 : ¬ k = 0) (hb : Tk.badB k t.size (s.data.toList.drop a) = true) : Tk.ofL s.data.toList = .err 2 a := by
  obtain ⟨acc, f, hf, _, he, _⟩ := h
  obtain ⟨g, rfl⟩ : ∃ g, f = g + 1 := ⟨f - 1, by omega⟩
  rw [← he]
  exact Tk.ofS_long hlt (by rw [← hk]; exact hk0) (by rw [← hk, badB_tx ht]; exact hb)
theorem bad_ways {k : Nat} {t : ByteArray} {l : List UInt8} (ht : t = Tk.tx l (Tk.oneL l).2) (h : Tk.badB k t.size l = true) : (k = 1 ∧ 20 < t.size) ∨ (k = 2 ∧ Wd.number t = none) := by
  have hsz : t.size = (Tk.oneL l).2 := by rw [ht]; exact Tk.tx_size _ _ (Tk.oneL_le l)
  unfold Tk.badB at h
  rw [hsz, ← ht] at h
  simp at h
  rcases h with ⟨h1, h2⟩ | ⟨h1, h2⟩
  · left; exact ⟨h1, by omega⟩
  · right; exact ⟨h1, h2⟩
theorem good_ways {k : Nat} {t : ByteArray} {l : List UInt8} (ht : t = Tk.tx l (Tk.oneL l).2) (h : ¬ Tk.badB k t.size l = true) (hk : ¬ k = 0) : (k = 1 ∧ ¬ 20 < t.size) ∨ (k = 2 ∧ (Wd.number t).isSome = true) ∨ 2 < k := by
  have hsz : t.size = (Tk.oneL l).2 := by rw [ht]; exact Tk.tx_size _ _ (Tk.oneL_le l)
  unfold Tk.badB at h
  rw [hsz, ← ht] at h
  simp at h
  by_cases h1 : k = 1
  · left; exact ⟨h1, by have := h.1 h1; omega⟩
  · by_cases h2 : k = 2
    · right; left
      refine ⟨h2, ?_⟩
      have := h.2 h2
      cases hn : Wd.number t with
      | none => exact absurd hn this
      | some n => rfl
    · right; right; omega
/-- The next place of the loop, and what is known there. -/
theorem good_next {s : ByteArray} {w wr : World} {v : Value} {a k : Nat} {t : ByteArray} (h : OfAt s w v a wr) (hlt : a < s.size) (hk : k = (Tk.oneL (s.data.toList.drop a)).1) (ht : t = Tk.tx (s.data.toList.drop a) (Tk.oneL (s.data.toList.drop a)).2)
    (hk0 : ¬ k = 0) (hb : ¬ Tk.badB k t.size (s.data.toList.drop a) = true) : 0 < t.size ∧ ∀ (acc : List Tk.Tok) (f : Nat), s.size - a < f → Tk.ofS s.data.toList f a acc = Tk.ofL s.data.toList →
      ∃ g, s.size - (a + t.size + Tk.sk false (s.data.toList.drop (a + t.size))) < g ∧ Tk.ofS s.data.toList g (a + t.size + Tk.sk false (s.data.toList.drop (a + t.size))) (acc ++ [⟨k, t, a⟩]) = Tk.ofL s.data.toList := by
  have hsz : t.size = (Tk.oneL (s.data.toList.drop a)).2 := by rw [ht]; exact Tk.tx_size _ _ (Tk.oneL_le _)
  have hp := Tk.oneL_pos (l := s.data.toList.drop a) (by rw [← hk]; exact hk0)
  refine ⟨by omega, fun acc f hf he => ?_⟩
  obtain ⟨g, rfl⟩ : ∃ g, f = g + 1 := ⟨f - 1, by omega⟩
  refine ⟨g, by omega, ?_⟩
  rw [Tk.ofS_more hlt (by rw [← hk]; exact hk0) (by rw [← hk, badB_tx ht]; simpa using hb)] at he
  rw [← he]
  unfold Tk.nextAt Tk.tokAt
  rw [← hk, ← ht, ← hsz]
theorem good_facts {k : Nat} {t : ByteArray} {b : Bool} (hb : b = (Wd.number t).isSome) (h : (k = 1 ∧ ¬ 20 < t.size) ∨ (k = 2 ∧ (Wd.number t).isSome = true) ∨ 2 < k) :
    (((k : Int) == 1) = true ∧ ¬ 20 < t.size ∧ ((k : Int) == 2) = false) ∨ (((k : Int) == 1) = false ∧ ((k : Int) == 2) = true ∧ b = true) ∨ (((k : Int) == 1) = false ∧ ((k : Int) == 2) = false) := by
  rcases h with ⟨rfl, h⟩ | ⟨rfl, h⟩ | h
  · exact .inl ⟨rfl, h, rfl⟩
  · exact .inr (.inl ⟨rfl, rfl, by rw [hb, h]⟩)
  · right; right
    constructor <;> (simp; omega)
/-- A block of three cells, just made. -/
theorem new3 (W : World) (x y z : Value) (t : TypeId) (g : Nat) (hg : g = W.heap.size) : ∀ (j : Nat) (u : Value), [x, y, z][j]? = some u → (W.alloc (.cells #[x, y, z] t)).cell? ((⟨g, 0, none⟩ : Addr).add j) = some u := by
  intro j u h
  subst hg
  have hn : (W.alloc (.cells #[x, y, z] t)).heap[W.heap.size]? = some (.cells #[x, y, z] t (0, 0)) := heap_new W _
  have ha : (⟨W.heap.size, 0, none⟩ : Addr).add j = ⟨W.heap.size, j, none⟩ := by unfold Addr.add; split <;> simp_all
  rw [ha, cell_of_row _ _ j _ t (0, 0) hn]
  rw [← h]; simp
theorem ones3 (x y : Int) (t : ByteArray) : ∀ u ∈ [Value.int .i64 x, .string t, .int .i64 y], u.oneCell' = true := by
  intro u hu
  simp at hu
  rcases hu with rfl | rfl | rfl <;> rfl
theorem after_append {w wr w1 w' : World} {v : Value} {n : Nat} {xs : List Value} {A B : Obj} {R : Obj} (hown : wr.ownsRow (w.heap.size + 1) 55 3 v n xs) (hres : wr.heap[w.heap.size]? = some R) (hbw : Below w.heap.size w wr)
    (hb1 : Below wr.heap.size wr w1) (hg : ((w1.alloc A).alloc B).grownBy w' v.ownBlock) : w'.heap[w1.heap.size]? = some A ∧ w'.heap[w.heap.size]? = some R ∧ Below w.heap.size w w' ∧ w1.heap.size < w'.heap.size := by
  have h1 := hb1.size
  have h2 := hbw.size
  have hs1 : (w1.alloc A).heap.size = w1.heap.size + 1 := by simp
  have hs2 : ((w1.alloc A).alloc B).heap.size = w1.heap.size + 2 := by simp
  have hl : w.heap.size < wr.heap.size := by
    rcases Nat.lt_or_ge w.heap.size wr.heap.size with h | h
    · exact h
    · rw [Array.getElem?_eq_none h] at hres; cases hres
  have hn : ((w1.alloc A).alloc B).heap[w1.heap.size]? = some A := (Below.heap_alloc _ _ _ (by omega)).trans (heap_new w1 A)
  have hr : ((w1.alloc A).alloc B).heap[w.heap.size]? = some R := (Below.heap_alloc _ _ _ (by omega)).trans ((Below.heap_alloc _ _ _ (by omega)).trans ((hb1.block _ hl).trans hres))
  have hsz := hg.size
  refine ⟨(hg.block _ (by omega) (fun e => ?_)).trans hn, (hg.block _ (by omega) (fun e => ?_)).trans hr, ?_, by omega⟩
  · have := hown.lt _ e.symm; omega
  · have := hown.lt _ e.symm; omega
  · refine (((hbw.trans (hb1.mono h2)).alloc (by omega) _).alloc (by omega) _).grown hg (by omega) (fun q hq => ?_)
    have := hown.lt _ hq; omega
theorem next_le {s : ByteArray} {b : Nat} (h : b ≤ s.size) : b + Tk.sk false (s.data.toList.drop b) ≤ s.size := by
  have h1 := Tk.sk_le false (s.data.toList.drop b)
  rw [List.length_drop] at h1
  have h3 : s.data.toList.length = s.size := rfl
  omega
theorem of_end {s : ByteArray} {a f : Nat} {acc : List Tk.Tok} (hf : s.size - a < f) (hlt : ¬ a < s.size) (he : Tk.ofS s.data.toList f a acc = Tk.ofL s.data.toList) : Tk.ofL s.data.toList = .ok (acc ++ [Tk.endTok s.data.toList]) := by
  obtain ⟨g, rfl⟩ : ∃ g, f = g + 1 := ⟨f - 1, by omega⟩
  have h3 : s.data.toList.length = s.size := rfl
  rw [← he, Tk.ofS_end (by omega)]
theorem frozen_of {w : World} {g : Nat} {cs : Array Value} {t : TypeId} (h : w.heap[g]? = some (.cells cs t (0, 0))) : ∀ o, w.frozen? ⟨g, o, none⟩ = false := fun o => by simp [World.frozen?, h]
theorem after_last {w wr w' : World} {v : Value} {n : Nat} {xs : List Value} {A : Obj} {R : Obj} (hown : wr.ownsRow (w.heap.size + 1) 55 3 v n xs) (hres : wr.heap[w.heap.size]? = some R) (hbw : Below w.heap.size w wr)
    (hg : (wr.alloc A).grownBy w' v.ownBlock) : w'.heap[w.heap.size]? = some R ∧ Below w.heap.size w w' ∧ w.heap.size < w'.heap.size := by
  have h2 := hbw.size
  have hs1 : (wr.alloc A).heap.size = wr.heap.size + 1 := by simp
  have hl : w.heap.size < wr.heap.size := by
    rcases Nat.lt_or_ge w.heap.size wr.heap.size with h | h
    · exact h
    · rw [Array.getElem?_eq_none h] at hres; cases hres
  have hr : (wr.alloc A).heap[w.heap.size]? = some R := (Below.heap_alloc _ _ _ hl).trans hres
  have hsz := hg.size
  refine ⟨(hg.block _ (by omega) (fun e => ?_)).trans hr, ?_, by omega⟩
  · have := hown.lt _ e.symm; omega
  · refine (hbw.alloc (by omega) _).grown hg (by omega) (fun q hq => ?_)
    have := hown.lt _ hq; omega
theorem own_more {s : ByteArray} {B : Nat} {w' : World} {v' : Value} {acc : List Tk.Tok} (h : w'.ownsRow (B + 1) 55 3 v' (acc.length + 1) (tcells acc ++ [.int .i64 0, .string ⟨#[]⟩, .int .i64 (s.size : Int)])) :
    w'.ownsRow (B + 1) 55 3 v' (acc ++ [Tk.endTok s.data.toList]).length (tcells (acc ++ [Tk.endTok s.data.toList])) := by
  rw [tcells_snoc, List.length_append]; exact h
/-- Two stores into an older block leave a row of the call's own, and it is said of the older place. -/
theorem own_set2 {B : Nat} {w' : World} {v' : Value} {n : Nat} {xs : List Value} {x y : Value} (h : w'.ownsRow (B + 1) 55 3 v' n xs) : ((w'.setCell ⟨B, 0, none⟩ x).setCell ⟨B, 1, none⟩ y).ownsRow B 55 3 v' n xs := by
  refine ⟨h.1, ?_⟩
  rcases h.2 with h | ⟨g, cap, cur, rfl, hb, hg, rest⟩
  · exact .inl h
  · refine .inr ⟨g, cap, cur, rfl, by omega, ?_, rest⟩
    rw [Below.heap_setCell _ _ _ _ (by show g ≠ B; omega), Below.heap_setCell _ _ _ _ (by show g ≠ B; omega)]
    exact hg
theorem numV_form (t : ByteArray) : ∃ (x : Int) (b : Bool), numV t = .tuple #[.int .i64 x, .bool b] ∧ b = (Wd.number t).isSome := ⟨_, _, rfl, rfl⟩

set_option maxRecDepth 100000 in
set_option maxHeartbeats 2000000 in
theorem refOf_any (s : ByteArray) (hs : s.size ≤ 16384) (w : World) : Calls Try.prog 5 #[.string s] w (OfPost s.data.toList w) := by
  obtain ⟨i0, hi, hz0, hz1, hz2⟩ := info_parts tok_info
  have hsk : Tk.sk false s.data.toList ≤ s.size := Tk.sk_le _ _
  go_enter Try.func5, Try.ntmps5
  go_wp2_with fail
  refine (skip_any s hs _).mono ?_
  rintro e w1 ⟨rfl, rfl⟩
  go_wp2_with fail
  go_loopw [4, 5] (fun v i wr => ∃ a : Nat, i = .int .i64 a ∧ a ≤ s.size ∧ Hid (OfAt s w v a wr)) (fun _ i _ => s.size - (intOf i).toNat)
  case atStart => exact ⟨_, rfl, hsk, Lib.hid (ofAt_start hs (Below.refl _ _))⟩
  case round =>
    obtain ⟨a, rfl, ha, hr⟩ := hrel
    by_cases hlt : a < s.size
    · have hsz : (s.extract a s.size).size = s.size - a := by simp
      have hlist : (s.extract a s.size).data.toList = s.data.toList.drop a := Lib.extract_to_end s a
      have H0 := Lib.hid (show 0 < (s.extract a s.size).size by omega)
      have H1 := Lib.hid (show (s.extract a s.size).size ≤ 16384 by omega)
      have HL := Lib.hid hlist
      clear hsz hlist hsk
      go_wp2_with fail
      refine (one_any _ H0.out H1.out _).mono ?_
      rintro e w1 ⟨rfl, hb1⟩
      rw [HL.out]
      obtain ⟨k, hk⟩ : ∃ k, k = (Tk.oneL (s.data.toList.drop a)).1 := ⟨_, rfl⟩
      obtain ⟨t, ht⟩ : ∃ t, t = Tk.tx (s.data.toList.drop a) (Tk.oneL (s.data.toList.drop a)).2 := ⟨_, rfl⟩
      rw [← hk, ← ht]
      unfold tokV
      have HK := Lib.hid hk
      have HT := Lib.hid ht
      clear hk ht
      have hts : a + t.size ≤ s.size := by
        have h1 := Tk.oneL_le (s.data.toList.drop a)
        have h2 := Tk.tx_size _ _ h1
        rw [List.length_drop] at h1
        rw [HT.out, h2]
        have h3 : s.data.toList.length = s.size := rfl
        omega
      obtain ⟨c0, c1, hf, hz⟩ := res_facts hr.out hb1
      have hbw := of_below hr.out hb1
      by_cases hk0 : k = 0
      · have e0 : ((k : Int) == 0) = true := by rw [hk0]; rfl
        have HE := Lib.hid (of_byte hr.out hlt (HK.out.symm.trans hk0))
        clear hk0
        go_wp2
        exact bodyPost_ret (v := .tuple #[.slice none 0 0, .agg #[.int .i64 1, .int .i64 (a : Int)]]) (by simp [results, Try.results5, go_sem, c0, c1, hz]) rfl (ofPost_err (((hbw.setCell (Nat.le_refl _) _).setCell (Nat.le_refl _) _).alloc (by simp; omega) _) HE.out)
      · have e0 : ((k : Int) == 0) = false := by simpa using hk0
        obtain ⟨x, b, hnv, hbv⟩ := numV_form t
        have HN := Lib.hid hnv
        by_cases hbad : Tk.badB k t.size (s.data.toList.drop a) = true
        · have HE := Lib.hid (of_long hr.out hlt HK.out HT.out hk0 hbad)
          have hw := bad_ways HT.out hbad
          clear hnv hk0 hbad
          rcases hw with ⟨rfl, h20⟩ | ⟨rfl, hnone⟩
          · go_wp2_with fail
            refine (refNumber_any _ _).mono ?_
            rintro e w2 ⟨rfl, rfl⟩
            rw [HN.out]
            go_wp2
            exact bodyPost_ret (v := .tuple #[.slice none 0 0, .agg #[.int .i64 2, .int .i64 (a : Int)]]) (by simp [results, Try.results5, go_sem, c0, c1, hz]) rfl (ofPost_err (((hbw.setCell (Nat.le_refl _) _).setCell (Nat.le_refl _) _).alloc (by simp; omega) _) HE.out)
          · obtain rfl : b = false := by rw [hbv, hnone]; rfl
            clear hnone hbv
            go_wp2_with fail
            refine (refNumber_any _ _).mono ?_
            rintro e w2 ⟨rfl, rfl⟩
            rw [HN.out]
            go_wp2
            exact bodyPost_ret (v := .tuple #[.slice none 0 0, .agg #[.int .i64 2, .int .i64 (a : Int)]]) (by simp [results, Try.results5, go_sem, c0, c1, hz]) rfl (ofPost_err (((hbw.setCell (Nat.le_refl _) _).setCell (Nat.le_refl _) _).alloc (by simp; omega) _) HE.out)
        · have hw := good_ways HT.out hbad hk0
          obtain ⟨acc, f, hfu, hacc, hof, hown, hres, hbwr⟩ := hr.out
          have HO := Lib.hid hof
          have HA : Hid (OfAt s w u4 a wr) := hr
          have HRES := Lib.hid hres
          have HG := Lib.hid (good_next hr.out hlt HK.out HT.out hk0 hbad)
          clear hnv hof hres hbad
          have hw' := good_facts hbv hw
          clear hw hk0 hbv
          rcases hw' with ⟨e1, h20, e2⟩ | ⟨e1, e2, rfl⟩ | ⟨e1, e2⟩
          all_goals
            go_wp2_with fail
            refine (refNumber_any _ _).mono ?_
            rintro e w2 ⟨rfl, rfl⟩
            rw [HN.out]
            go_wp2_with (at_builtin; refine wpList_append_own _ rfl (.tmp 56) (.tmp 58) 25 rfl (w.heap.size + 1) 55 i0 (.agg #[.int .i64 0, .string ⟨#[]⟩, .int .i64 0]) 3 32 Try.underlying25 hi hz0 hz1 hz2 rfl (by decide) u4 acc.length (tcells acc) rfl (((own_below hown hb1).alloc _).alloc _) ⟨w1.heap.size + 1, 0, none⟩ 1 1 [.int .i64 (k : Int), .string t, .int .i64 (a : Int)] rfl rfl (new3 _ _ _ _ _ _ (by simp)) (ones3 _ _ _) (by unfold maxLen; omega) (by omega) (by simp; omega) ?_; intro v' w' hown' hgrow' hiff; clear hiff; obtain ⟨hblk, hres', hbw', hlt1⟩ := after_append hown HRES.out hbwr hb1 hgrow'; have ct : w'.cell? ⟨w1.heap.size, 1, none⟩ = some (.string t) := cell_of_row w' w1.heap.size 1 _ 55 (0, 0) hblk; have HR' := Lib.hid hres'; have HO' := Lib.hid hown'; clear hblk hres' hgrow' hown')
            have HS2 := Lib.hid (show (s.extract (a + t.size) s.size).size ≤ 16384 by simp; omega)
            refine (skip_any _ HS2.out _).mono ?_
            rintro e w4 ⟨rfl, rfl⟩
            rw [show (s.extract (a + t.size) s.size).data.toList = s.data.toList.drop (a + t.size) from Lib.extract_to_end s _]
            have hn := next_le hts
            obtain ⟨z, hz'⟩ : ∃ z, z = Tk.sk false (s.data.toList.drop (a + t.size)) := ⟨_, rfl⟩
            rw [← hz'] at hn ⊢
            have HZ := Lib.hid hz'
            clear hz'
            go_wp2
            go_roundw
            case rel =>
              refine ⟨a + t.size + z, by go_num, by omega, ?_⟩
              obtain ⟨hpos, hnext⟩ := HG.out
              obtain ⟨g, hg1, hg2⟩ := hnext acc f hfu HO.out
              rw [← HZ.out] at hg1 hg2
              refine Lib.hid ⟨acc ++ [⟨k, t, a⟩], g, hg1, by simp; omega, hg2, ?_, HR'.out, hbw'⟩
              rw [tcells_snoc, List.length_append]
              exact HO'.out
            case measure =>
              have hpos := HG.out.1
              simp [intOf]; omega
    · obtain ⟨acc, f, hfu, hacc, hof, hown, hres, hbwr⟩ := hr.out
      have HE := Lib.hid (of_end hfu hlt hof)
      have hbsz := hbwr.size
      have HRES := Lib.hid hres
      clear hof hres hsk
      go_wp2_with (at_builtin; refine wpList_append_own _ rfl (.tmp 71) (.tmp 75) 25 rfl (w.heap.size + 1) 55 i0 (.agg #[.int .i64 0, .string ⟨#[]⟩, .int .i64 0]) 3 32 Try.underlying25 hi hz0 hz1 hz2 rfl (by decide) u4 acc.length (tcells acc) rfl (hown.alloc _) ⟨wr.heap.size, 0, none⟩ 1 1 [.int .i64 0, .string ⟨#[]⟩, .int .i64 (s.size : Int)] rfl rfl (new3 _ _ _ _ _ _ rfl) (ones3 _ _ _) (by unfold maxLen; omega) (by omega) (by simp; omega) ?_; intro v' w' hown' hgrow' hiff; clear hiff; obtain ⟨hres', hbw', hlt1⟩ := after_last hown HRES.out hbwr hgrow'; have ct0 : w'.cell? ⟨w.heap.size, 0, none⟩ = some (.int .i64 0) := cell_of_row w' w.heap.size 0 _ 28 (0, 0) hres'; have ct1 : w'.cell? ⟨w.heap.size, 1, none⟩ = some (.int .i64 0) := cell_of_row w' w.heap.size 1 _ 28 (0, 0) hres'; have hfr : ∀ o, w'.frozen? ⟨w.heap.size, o, none⟩ = false := frozen_of hres'; have HO' := Lib.hid hown'; clear hres' hgrow' hown')
      exact bodyPost_ret (v := .tuple #[v', .agg #[.int .i64 0, .int .i64 0]]) (by simp [results, Try.results5, go_sem, ct0, ct1]) rfl (ofPost_ok ((hbw'.setCell (Nat.le_refl _) _).setCell (Nat.le_refl _) _) HE.out (own_set2 (own_more (s := s) HO'.out)))
end Go.Proofs.Ytbcgooofelnkoaa
