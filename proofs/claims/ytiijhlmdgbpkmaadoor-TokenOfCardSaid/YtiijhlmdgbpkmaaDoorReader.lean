/- The program's reader of a text: one token a call. Conditions: the text has at most 16384 bytes, and the table of words lies in memory. -/
import Derived.Test.YtiijhlmdgbpkmaaDoorRefOf
import Derived.WalkMore
import Derived.ScopeJumps
import Derived.RegionTactic
import Derived.BigRegion
namespace Go.Proofs.YtiijhlmdgbpkmaaDoor
open Go.RowKit
set_option linter.unusedVariables false

/-- A scope that begins with a label, to which the run may jump back: what holds there each time. -/
theorem scope_head {P : Program} {a : Act} {w : World} {Q : Exit → Act → World → Prop} {rest : Code} (l : Nat) (J : Act → World → Prop) (μ : Act → World → Nat) (first : J a w)
    (pass : ∀ a w, J a w → rest.wp P (Exit.jump l (fun a' w' => J a' w' ∧ μ a' w' < μ a w) Q) a w) : (Code.scope ((Code.label l).seq rest)).wp P Q a w := by
  refine wp_scope_jumps (rest := .seq .skip rest) l J μ (by simp [findLabel]) ?_ (fun a' w' h => wp_seq (wp_skip (pass a' w' h)))
  refine wp_seq (wp_label ?_)
  refine Code.wp_mono (fun e a2 w2 h' => ?_) (pass a w first)
  cases e with
  | goto l' => exact ⟨h'.1, h'.2.1⟩
  | normal => exact h'
  | exit id => exact h'
  | ret => exact h'
  | panic ch => exact h'
  | outgrown => exact h'

theorem reader_any (s : ByteArray) (w : World) : Calls Tryd.prog 15 #[.string s] w fun e w' => e = .returned (.func (.func 20) #[] #[.pointer (some ⟨w.heap.size, 0, none⟩), .pointer (some ⟨w.heap.size + 1, 0, none⟩)]) ∧
    w' = (w.alloc (.cells #[.string s] 9)).alloc (.cells #[.int .i64 0] 3) := by
  go_enter Tryd.func15, Tryd.ntmps15
  go_wp2
  go_ret
  exact ⟨rfl, rfl⟩

/-- Where the reader stands when it begins anew. -/
def ReadAt (s : ByteArray) (B C a : Nat) (w : World) (b : Nat) (w' : World) : Prop :=
  b ≤ s.size ∧ b + Tk.sk false (s.data.toList.drop b) = a + Tk.sk false (s.data.toList.drop a) ∧ w.grownBy w' (some C) ∧ w'.heap[B]? = some (.cells #[.string s] 9 (0, 0)) ∧ w'.heap[C]? = some (.cells #[.int .i64 (b : Int)] 3 (0, 0)) ∧
  w'.heap[w.heap.size]? = some (.cells #[.int .i64 0, .string ⟨#[]⟩, .int .i64 0] 30 (0, 0)) ∧ w'.heap[w.heap.size + 1]? = some (.cells #[.int .i64 0, .int .i64 0] 26 (0, 0))

def cellNat (C : Nat) (w : World) : Nat := match w.cell? ⟨C, 0, none⟩ with | some v => (intOf v).toNat | none => 0

/-- What one call of the reader hands back, and where it then stands. -/
def NextPost (s : ByteArray) (C a : Nat) (w : World) (e : Ending) (w' : World) : Prop :=
  w.grownBy w' (some C) ∧ ∃ p k n x : Nat, p = a + Tk.sk false (s.data.toList.drop a) ∧ p ≤ s.size ∧ firstV (s.data.toList.drop p) = .tuple #[.int .i64 (k : Int), .int .i64 (n : Int), .int .i64 (x : Int)] ∧
  ((x ≠ 0 ∧ e = .returned (.tuple #[tokV 0 ⟨#[]⟩ 0, .agg #[.int .i64 (x : Int), .int .i64 (p : Int)]]) ∧ w'.heap[C]? = some (.cells #[.int .i64 (p : Int)] 3 (0, 0))) ∨
   (x = 0 ∧ p + n ≤ s.size ∧ e = .returned (.tuple #[tokV k (Tk.tx (s.data.toList.drop p) n) p, .agg #[.int .i64 0, .int .i64 0]]) ∧ w'.heap[C]? = some (.cells #[.int .i64 ((p + n : Nat) : Int)] 3 (0, 0))))

theorem firstV_le (l : List UInt8) : ∃ k n e : Nat, firstV l = .tuple #[.int .i64 (k : Int), .int .i64 (n : Int), .int .i64 (e : Int)] ∧ n ≤ l.length := by
  unfold firstV
  split
  · exact ⟨0, 0, 0, rfl, Nat.zero_le _⟩
  · split
    · exact ⟨0, 0, 1, rfl, Nat.zero_le _⟩
    · split
      · exact ⟨0, 0, 2, rfl, Nat.zero_le _⟩
      · exact ⟨_, _, 0, rfl, Tk.oneL_le l⟩

theorem heap_lt {w : World} {g : Nat} {o : Obj} (h : w.heap[g]? = some o) : g < w.heap.size := by
  rcases Nat.lt_or_ge g w.heap.size with h' | h'
  · exact h'
  · rw [Array.getElem?_eq_none h'] at h; cases h

theorem ne_bc {w : World} {B C : Nat} {s : ByteArray} {x : Int} (hB : w.heap[B]? = some (.cells #[.string s] 9 (0, 0))) (hC : w.heap[C]? = some (.cells #[.int .i64 x] 3 (0, 0))) : B ≠ C := by
  rintro rfl
  rw [hB] at hC
  simp at hC
theorem words_keep {w w' : World} {C : Nat} {x : Int} (h : WordsIn w) (hC : w.heap[C]? = some (.cells #[.int .i64 x] 3 (0, 0))) (hg : w.grownBy w' (some C)) : WordsIn w' := by
  obtain ⟨t, fr, h0⟩ := h
  refine ⟨t, fr, (hg.block 1 (heap_lt h0) (fun e => ?_)).trans h0⟩
  obtain rfl : 1 = C := Option.some.inj e
  rw [hC] at h0
  have := Option.some.inj h0
  injection this with h1 _ _
  have h2 := congrArg Array.size h1
  simp [wordVals, Wd.wordsL] at h2
theorem heap_lt' {w : World} {g o : Nat} {v : Value} (h : w.cell? ⟨g, o, none⟩ = some v) : g < w.heap.size := by
  rcases Nat.lt_or_ge g w.heap.size with h' | h'
  · exact h'
  · simp [World.cell?, Array.getElem?_eq_none h'] at h
theorem slice_str (s : ByteArray) (b m : Nat) (h : b + m ≤ s.size) (W : World) : (Instr.slice 9 (.string s) (some (.int .i64 (b : Int))) (some (.int .i64 ((b : Int) + (m : Int)))) none).run Tryd.prog W = .ok (.string (s.extract b (b + m))) W := by
  have := run_slice_string (P := Tryd.prog) W 9 s .i64 .i64 (b : Int) ((b : Int) + (m : Int)) Tryd.underlying9 (by omega) (by omega) (by omega)
  rw [this]
  congr 3
theorem left_le {s : ByteArray} {b n : Nat} (hb : b ≤ s.size) (hn : n = Tk.leftL (s.data.toList.drop b)) : b + n ≤ s.size := by
  have h1 := Tk.leftL_le (s.data.toList.drop b)
  rw [List.length_drop] at h1
  have h3 : s.data.toList.length = s.size := rfl
  omega

theorem set_row1 {w : World} {C : Nat} {t : TypeId} {x y : Value} (h : w.heap[C]? = some (.cells #[x] t (0, 0))) : (w.setCell ⟨C, 0, none⟩ y).heap[C]? = some (.cells #[y] t (0, 0)) := by
  simp [World.setCell, Array.getElem?_modify, h]
theorem read_jump {s : ByteArray} {B C a b n : Nat} {w wr : World} (h : ReadAt s B C a w b wr) (hn : n = Tk.leftL (s.data.toList.drop b)) : ReadAt s B C a w (b + n) (wr.setCell ⟨C, 0, none⟩ (.int .i64 ((b : Int) + (n : Int)))) := by
  obtain ⟨h1, h2, h3, h4, h5, h6, h7⟩ := h
  have hBC := ne_bc h4 h5
  have hne6 : w.heap.size ≠ C := by
    rintro rfl
    rw [h6] at h5; simp at h5
  have hne7 : w.heap.size + 1 ≠ C := by
    intro e
    rw [e] at h7
    rw [h7] at h5; simp at h5
  refine ⟨left_le h1 hn, ?_, ⟨h3.os, h3.tape, h3.output, ?_, fun k hk hne => (Below.heap_setCell _ _ _ _ (fun e => hne (by rw [e]))).trans (h3.block k hk hne)⟩, (Below.heap_setCell _ _ _ _ hBC).trans h4, ?_, (Below.heap_setCell _ _ _ _ hne6).trans h6, (Below.heap_setCell _ _ _ _ hne7).trans h7⟩
  · have := Tk.sk_left (s.data.toList.drop b)
    rw [← hn, List.drop_drop] at this
    omega
  · have := h3.size; simpa using this
  · have := set_row1 (y := .int .i64 ((b : Int) + (n : Int))) h5
    rw [this]; simp
theorem cellNat_of {C b : Nat} {w : World} (h : w.cell? ⟨C, 0, none⟩ = some (.int .i64 (b : Int))) : cellNat C w = b := by
  unfold cellNat; rw [h]; simp [intOf]
theorem cellNat_set {s : ByteArray} {B C a b n : Nat} {w wr : World} (h : ReadAt s B C a w b wr) : cellNat C (wr.setCell ⟨C, 0, none⟩ (.int .i64 ((b : Int) + (n : Int)))) = b + n := by
  have h1 := set_row1 (y := .int .i64 ((b : Int) + (n : Int))) h.2.2.2.2.1
  have h2 := cell_of_row _ C 0 _ 3 (0, 0) h1
  exact cellNat_of (h2.trans (by simp))
theorem read_below {s : ByteArray} {B C a b : Nat} {w wr w2 : World} (h : ReadAt s B C a w b wr) (hb : Below wr.heap.size wr w2) :
    w2.heap[B]? = some (.cells #[.string s] 9 (0, 0)) ∧ w2.heap[C]? = some (.cells #[.int .i64 (b : Int)] 3 (0, 0)) ∧
    w2.heap[w.heap.size]? = some (.cells #[.int .i64 0, .string ⟨#[]⟩, .int .i64 0] 30 (0, 0)) ∧ w2.heap[w.heap.size + 1]? = some (.cells #[.int .i64 0, .int .i64 0] 26 (0, 0)) ∧ w.grownBy w2 (some C) := by
  obtain ⟨h1, h2, h3, h4, h5, h6, h7⟩ := h
  refine ⟨(hb.block _ (heap_lt h4)).trans h4, (hb.block _ (heap_lt h5)).trans h5, (hb.block _ (heap_lt h6)).trans h6, (hb.block _ (heap_lt h7)).trans h7, ?_⟩
  exact ⟨hb.os.trans h3.os, hb.tape.trans h3.tape, hb.output.trans h3.output, Nat.le_trans h3.size hb.size, fun k hk hne => (hb.block k (Nat.lt_of_lt_of_le hk h3.size)).trans (h3.block k hk hne)⟩
theorem read_start {s : ByteArray} {B C a : Nat} {w : World} (ha : a ≤ s.size) (hB : w.heap[B]? = some (.cells #[.string s] 9 (0, 0))) (hC : w.heap[C]? = some (.cells #[.int .i64 (a : Int)] 3 (0, 0))) :
    ReadAt s B C a w a ((w.alloc (.cells #[.int .i64 0, .string ⟨#[]⟩, .int .i64 0] 30)).alloc (.cells #[.int .i64 0, .int .i64 0] 26)) := by
  have h1 := heap_lt hB
  have h2 := heap_lt hC
  have hs : (w.alloc (.cells #[.int .i64 0, .string ⟨#[]⟩, .int .i64 0] 30)).heap.size = w.heap.size + 1 := by simp
  have hb := ((Below.refl _ w).alloc (Nat.le_refl _) (.cells #[.int .i64 0, .string ⟨#[]⟩, .int .i64 0] 30)).alloc (by omega) (.cells #[.int .i64 0, .int .i64 0] 26)
  refine ⟨ha, rfl, grown_of_below hb _, (hb.block _ h1).trans hB, (hb.block _ h2).trans hC, ?_, ?_⟩
  · exact (Below.heap_alloc _ _ _ (by omega)).trans (heap_new w _)
  · have := heap_new (w.alloc (.cells #[.int .i64 0, .string ⟨#[]⟩, .int .i64 0] 30)) (.cells #[.int .i64 0, .int .i64 0] 26)
    rw [hs] at this; exact this
theorem read_stop {s : ByteArray} {B C a b : Nat} {w wr : World} (h : ReadAt s B C a w b wr) (hn : 0 = Tk.leftL (s.data.toList.drop b)) : b = a + Tk.sk false (s.data.toList.drop a) := by
  have h1 := Tk.sk_zero hn.symm
  have := h.2.1
  omega

/-- What lay before is as it was, but for the one cell of block C, which holds what is said. -/
def Kp (w : World) (C : Nat) (R : Obj) (w' : World) : Prop := w.grownBy w' (some C) ∧ w'.heap[C]? = some R ∧ C < w.heap.size
theorem Kp.set {w w' : World} {C : Nat} {R : Obj} (h : Kp w C R w') {p : Addr} (hp : w.heap.size ≤ p.block) (u : Value) : Kp w C R (w'.setCell p u) := by
  obtain ⟨hg, hc, hl⟩ := h
  refine ⟨⟨hg.os, hg.tape, hg.output, by have := hg.size; simpa using this, fun k hk hne => (Below.heap_setCell _ _ _ _ (by omega)).trans (hg.block k hk hne)⟩, (Below.heap_setCell _ _ _ _ (by omega)).trans hc, hl⟩
theorem Kp.alloc {w w' : World} {C : Nat} {R : Obj} (h : Kp w C R w') (o : Obj) : Kp w C R (w'.alloc o) := by
  obtain ⟨hg, hc, hl⟩ := h
  have hs := hg.size
  refine ⟨⟨hg.os, hg.tape, hg.output, by simp; omega, fun k hk hne => (Below.heap_alloc _ _ _ (by omega)).trans (hg.block k hk hne)⟩, (Below.heap_alloc _ _ _ (by omega)).trans hc, hl⟩
theorem Kp.drew {w w' : World} {C : Nat} {R : Obj} (h : Kp w C R w') : Kp w C R w'.drew := ⟨⟨h.1.os, h.1.tape, h.1.output, h.1.size, h.1.block⟩, h.2⟩
theorem Kp.put {w w' : World} {C : Nat} {t : TypeId} {x y : Value} (h : Kp w C (.cells #[x] t (0, 0)) w') : Kp w C (.cells #[y] t (0, 0)) (w'.setCell ⟨C, 0, none⟩ y) := by
  obtain ⟨hg, hc, hl⟩ := h
  exact ⟨⟨hg.os, hg.tape, hg.output, by have := hg.size; simpa using this, fun k hk hne => (Below.heap_setCell _ _ _ _ (fun e => hne (by rw [e]))).trans (hg.block k hk hne)⟩, set_row1 hc, hl⟩
theorem post_err {s : ByteArray} {C a b k m x : Nat} {w w' : World} (hp : b = a + Tk.sk false (s.data.toList.drop a)) (hb : b ≤ s.size) (hT : firstV (s.data.toList.drop b) = .tuple #[.int .i64 (k : Int), .int .i64 (m : Int), .int .i64 (x : Int)]) (hx : ¬ x = 0)
    (h : Kp w C (.cells #[.int .i64 (b : Int)] 3 (0, 0)) w') : NextPost s C a w (.returned (.tuple #[.agg #[.int .i64 0, .string ⟨#[]⟩, .int .i64 0], .agg #[.int .i64 (x : Int), .int .i64 (b : Int)]])) w' :=
  ⟨h.1, b, k, m, x, hp, hb, hT, .inl ⟨hx, rfl, h.2.1⟩⟩

theorem ext_tx (s : ByteArray) (b m : Nat) : s.extract b (b + m) = Tk.tx (s.data.toList.drop b) m := by
  have h := Lib.extract_eq s b (b + m)
  rw [h, Nat.add_sub_cancel_left]; rfl
theorem post_ok {s : ByteArray} {C a b k m : Nat} {w w' : World} (hp : b = a + Tk.sk false (s.data.toList.drop a)) (hb : b ≤ s.size) (hbm : b + m ≤ s.size) (hT : firstV (s.data.toList.drop b) = .tuple #[.int .i64 (k : Int), .int .i64 (m : Int), .int .i64 ((0 : Nat) : Int)])
    (h : Kp w C (.cells #[.int .i64 ((b : Int) + (m : Int))] 3 (0, 0)) w') : NextPost s C a w (.returned (.tuple #[.agg #[.int .i64 (k : Int), .string (s.extract b (b + m)), .int .i64 (b : Int)], .agg #[.int .i64 0, .int .i64 0]])) w' :=
  ⟨h.1, b, k, m, 0, hp, hb, hT, .inr ⟨rfl, hbm, by rw [ext_tx]; rfl, by rw [h.2.1]; simp⟩⟩

set_option maxHeartbeats 1000000 in
theorem next_any (s : ByteArray) (hs : s.size ≤ 16384) (B C a : Nat) (ha : a ≤ s.size) (w : World) (hW : WordsIn w) (hB : w.heap[B]? = some (.cells #[.string s] 9 (0, 0))) (hC : w.heap[C]? = some (.cells #[.int .i64 (a : Int)] 3 (0, 0))) :
    Calls Tryd.prog 20 #[.pointer (some ⟨B, 0, none⟩), .pointer (some ⟨C, 0, none⟩)] w (NextPost s C a w) := by
  go_enter Tryd.func20, Tryd.ntmps20
  go_wp2
  refine scope_head 0 (fun a' w' => ∃ (b : Nat) (u4 u5 u6 u7 u8 u9 u10 u11 u12 u13 u14 u15 u16 u17 u18 u19 u20 u21 u22 u23 u24 u25 u26 u27 u28 u29 u30 u31 u32 u33 u34 u35 u36 u37 u38 u39 u40 u41 u42 u43 u44 u45 : Value), a' = { tmps := #[.pointer (some ⟨B, 0, none⟩), .pointer (some ⟨C, 0, none⟩), .pointer (some ⟨w.heap.size, 0, none⟩), .pointer (some ⟨w.heap.size + 1, 0, none⟩), u4, u5, u6, u7, u8, u9, u10, u11, u12, u13, u14, u15, u16, u17, u18, u19, u20, u21, u22, u23, u24, u25, u26, u27, u28, u29, u30, u31, u32, u33, u34, u35, u36, u37, u38, u39, u40, u41, u42, u43, u44, u45], defers := [] } ∧ Hid (ReadAt s B C a w b w')) (fun _ w' => s.size - cellNat C w') ?_ ?_
  · refine ⟨a, _, _, _, _, _, _, _, _, _, _, _, _, _, _, _, _, _, _, _, _, _, _, _, _, _, _, _, _, _, _, _, _, _, _, _, _, _, _, _, _, _, _, rfl, Lib.hid (read_start ha hB hC)⟩
  · rintro a' wr ⟨b, u4, u5, u6, u7, u8, u9, u10, u11, u12, u13, u14, u15, u16, u17, u18, u19, u20, u21, u22, u23, u24, u25, u26, u27, u28, u29, u30, u31, u32, u33, u34, u35, u36, u37, u38, u39, u40, u41, u42, u43, u44, u45, rfl, hr⟩
    obtain ⟨hbs, hbk, hgr, hB', hC', hR, hF⟩ := hr.out
    have HBK := Lib.hid hbk
    have HB' := Lib.hid hB'
    have HC' := Lib.hid hC'
    have HR := Lib.hid hR
    have HF := Lib.hid hF
    have hCl := heap_lt hC
    have hBC := ne_bc hB hC
    have hsz2 := heap_lt hF
    have cB : wr.cell? ⟨B, 0, none⟩ = some (.string s) := cell_of_row wr B 0 _ 9 (0, 0) hB'
    have cC : wr.cell? ⟨C, 0, none⟩ = some (.int .i64 (b : Int)) := cell_of_row wr C 0 _ 3 (0, 0) hC'
    have fC := frozen_of hC'
    have hsz : (s.extract b s.size).size = s.size - b := by simp
    have H1 := Lib.hid (show (s.extract b s.size).size ≤ 16384 by omega)
    have HW : Hid (WordsIn wr) := Lib.hid (words_keep hW hC hgr)
    clear hbk hB' hC' hR hF hsz hB hC
    go_wp2_with fail
    refine (leftOut_any _ H1.out _).mono ?_
    rintro e w1 ⟨rfl, rfl⟩
    rw [show (s.extract b s.size).data.toList = s.data.toList.drop b from Lib.extract_to_end s b]
    obtain ⟨n, hn⟩ : ∃ n, n = Tk.leftL (s.data.toList.drop b) := ⟨_, rfl⟩
    rw [← hn]
    have HN := Lib.hid hn
    have hle : b + n ≤ s.size := left_le hbs hn
    clear hn
    rcases Nat.eq_zero_or_pos n with h0 | hpos
    · subst h0
      go_wp2_with fail
      refine (first_any _ H1.out _ HW.out).mono ?_
      rintro e w2 ⟨rfl, hb2⟩
      rw [show (s.extract b s.size).data.toList = s.data.toList.drop b from Lib.extract_to_end s b]
      obtain ⟨k, m, x, hT, hml⟩ := firstV_le (s.data.toList.drop b)
      rw [hT]
      have HT := Lib.hid hT
      have hbm : b + m ≤ s.size := by
        rw [List.length_drop] at hml
        have h3 : s.data.toList.length = s.size := rfl
        omega
      obtain ⟨hB2, hC2, hR2, hF2, hg2⟩ := read_below hr.out hb2
      have HP := Lib.hid (read_stop hr.out HN.out)
      clear hT hml
      have cB2 : w2.cell? ⟨B, 0, none⟩ = some (.string s) := cell_of_row w2 B 0 _ 9 (0, 0) hB2
      have cC2 : w2.cell? ⟨C, 0, none⟩ = some (.int .i64 (b : Int)) := cell_of_row w2 C 0 _ 3 (0, 0) hC2
      have fC2 := frozen_of hC2
      have r0 : w2.cell? ⟨w.heap.size, 0, none⟩ = some (.int .i64 0) := cell_of_row w2 _ 0 _ 30 (0, 0) hR2
      have r1 : w2.cell? ⟨w.heap.size, 1, none⟩ = some (.string ⟨#[]⟩) := cell_of_row w2 _ 1 _ 30 (0, 0) hR2
      have r2 : w2.cell? ⟨w.heap.size, 2, none⟩ = some (.int .i64 0) := cell_of_row w2 _ 2 _ 30 (0, 0) hR2
      have fR := frozen_of hR2
      have q0 : w2.cell? ⟨w.heap.size + 1, 0, none⟩ = some (.int .i64 0) := cell_of_row w2 _ 0 _ 26 (0, 0) hF2
      have q1 : w2.cell? ⟨w.heap.size + 1, 1, none⟩ = some (.int .i64 0) := cell_of_row w2 _ 1 _ 26 (0, 0) hF2
      have fF := frozen_of hF2
      have hl2 := heap_lt hF2
      have HC2 := Lib.hid hC2
      have HG2 := Lib.hid hg2
      clear hB2 hC2 hR2 hF2 cB cC fC hg2
      by_cases hx : x = 0
      · subst hx
        have KP : Hid (Kp w C (.cells #[.int .i64 (b : Int)] 3 (0, 0)) w2) := Lib.hid ⟨HG2.out, HC2.out, hCl⟩
        have hl3 : w.heap.size < w2.heap.size := by omega
        have hB2l : B < w2.heap.size := heap_lt' cB2
        have hC2l : C < w2.heap.size := by omega
        have ca : (w2.alloc (.cells #[.int .i64 0, .string ⟨#[]⟩, .int .i64 0] 30)).cell? ⟨C, 0, none⟩ = some (.int .i64 (b : Int)) := (World.cell?_alloc_lt _ _ _ hC2l).trans cC2
        have cb : (w2.alloc (.cells #[.int .i64 0, .string ⟨#[]⟩, .int .i64 0] 30)).cell? ⟨B, 0, none⟩ = some (.string s) := (World.cell?_alloc_lt _ _ _ hB2l).trans cB2
        have hw1 : IntKind.i64.wrap ((b : Int) + (m : Int)) = (b : Int) + (m : Int) := by
          rw [IntWalk.i64_in _ (by omega)]
        have hsl : ∀ W : World, (Instr.slice 9 (.string s) (some (.int .i64 (b : Int))) (some (.int .i64 ((b : Int) + (m : Int)))) none).run Tryd.prog W = .ok (.string (s.extract b (b + m))) W := fun W => slice_str s b m hbm W
        go_wp2
        go_region
        go_wp2
        simp only [Exit.jump]
        exact bodyPost_ret (v := .tuple #[.agg #[.int .i64 (k : Int), .string (s.extract b (b + m)), .int .i64 (b : Int)], .agg #[.int .i64 0, .int .i64 0]]) (by simp [results, Tryd.results20, go_sem, r0, r1, r2, q0, q1, hl2, hl3]) rfl
          (post_ok HP.out hbs hbm HT.out ((((((((KP.out.put (y := .int .i64 ((b : Int) + (m : Int)))).set (Nat.le_refl _) _).set (Nat.le_refl _) _).set (Nat.le_refl _) _).set (Nat.le_succ _) _).set (Nat.le_succ _) _).alloc _).drew))
      · have e0 : ((x : Int) == 0) = false := by simpa using hx
        have e0' : ((x : Int) != 0) = true := neq_of e0
        have KP : Hid (Kp w C (.cells #[.int .i64 (b : Int)] 3 (0, 0)) w2) := Lib.hid ⟨HG2.out, HC2.out, hCl⟩
        go_wp2
        go_region
        go_wp2
        simp only [Exit.jump]
        exact bodyPost_ret (v := .tuple #[.agg #[.int .i64 0, .string ⟨#[]⟩, .int .i64 0], .agg #[.int .i64 (x : Int), .int .i64 (b : Int)]]) (by simp [results, Tryd.results20, go_sem, r0, r1, r2, q0, q1]) rfl
          (post_err HP.out hbs HT.out hx ((((((KP.out.set (Nat.le_refl _) _).set (Nat.le_refl _) _).set (Nat.le_refl _) _).set (Nat.le_succ _) _).set (Nat.le_succ _) _).drew))
    · go_wp2
      go_step3
      refine ⟨rfl, ⟨b + n, _, _, _, _, _, _, _, _, _, _, _, _, _, _, _, _, _, _, _, _, _, _, _, _, _, _, _, _, _, _, _, _, _, _, _, _, _, _, _, _, _, _, rfl, ?_⟩, ?_⟩
      · exact Lib.hid (read_jump hr.out HN.out)
      · show s.size - cellNat C (wr.setCell ⟨C, 0, none⟩ (.int .i64 ((b : Int) + (n : Int)))) < s.size - cellNat C wr
        rw [cellNat_set hr.out, cellNat_of cC]
        omega
end Go.Proofs.YtiijhlmdgbpkmaaDoor
