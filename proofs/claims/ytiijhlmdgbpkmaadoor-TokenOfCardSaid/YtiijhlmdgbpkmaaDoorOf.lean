/- The program: the tokens of a text, one behind the other in memory of its own. Conditions: the text has at most 16384 bytes, and the table of words lies in memory. -/
import Derived.Test.YtiijhlmdgbpkmaaDoorReader
import Derived.Deep.LoopGhost
namespace Go.Proofs.YtiijhlmdgbpkmaaDoor
open Go.RowKit
set_option linter.unusedVariables false

/-- Where the loop stands: what has been read, where the reader stands, how many rounds at most are to come. -/
def LoopAt (s : ByteArray) (w : World) (g : Nat) (v : Value) (wr : World) : Prop :=
  ∃ (a : Nat) (acc : List Tk.Tok) (f : Nat), g = s.size - a ∧ a ≤ s.size ∧ s.size - (a + Tk.sk false (s.data.toList.drop a)) < f ∧ acc.length ≤ a ∧ Tk.ofS s.data.toList f (a + Tk.sk false (s.data.toList.drop a)) acc = Tk.ofL s.data.toList ∧
    wr.ownsRow (w.heap.size + 3) 30 3 v acc.length (tcells acc) ∧ wr.heap[w.heap.size]? = some (.cells #[.int .i64 0, .int .i64 0] 26 (0, 0)) ∧ wr.heap[w.heap.size + 1]? = some (.cells #[.string s] 9 (0, 0)) ∧
    wr.heap[w.heap.size + 2]? = some (.cells #[.int .i64 (a : Int)] 3 (0, 0)) ∧ Below w.heap.size w wr

theorem loop_start (s : ByteArray) (hs : s.size ≤ 16384) (w : World) :
    LoopAt s w s.size (.slice none 0 0) (((w.alloc (.cells #[.int .i64 0, .int .i64 0] 26)).alloc (.cells #[.string s] 9)).alloc (.cells #[.int .i64 0] 3)) := by
  have s1 : (w.alloc (.cells #[.int .i64 0, .int .i64 0] 26)).heap.size = w.heap.size + 1 := by simp
  have s2 : ((w.alloc (.cells #[.int .i64 0, .int .i64 0] 26)).alloc (.cells #[.string s] 9)).heap.size = w.heap.size + 2 := by simp
  have n1 := heap_new w (.cells #[.int .i64 0, .int .i64 0] 26)
  have n2 := heap_new (w.alloc (.cells #[.int .i64 0, .int .i64 0] 26)) (.cells #[.string s] 9)
  have n3 := heap_new ((w.alloc (.cells #[.int .i64 0, .int .i64 0] 26)).alloc (.cells #[.string s] 9)) (.cells #[.int .i64 0] 3)
  rw [s1] at n2
  rw [s2] at n3
  have hl : s.data.toList.length = s.size := rfl
  refine ⟨0, [], s.size + 1, rfl, Nat.zero_le _, by omega, by simp, ?_, World.ownsRow_nil _ _ _ _, ?_, ?_, n3, ?_⟩
  · rw [Tk.ofL_small hs, hl, List.drop_zero, Nat.zero_add]
  · exact (Below.heap_alloc _ _ _ (by omega)).trans ((Below.heap_alloc _ _ _ (by omega)).trans n1)
  · exact (Below.heap_alloc _ _ _ (by omega)).trans n2
  · exact (((Below.refl _ w).alloc (Nat.le_refl _) _).alloc (by omega) _).alloc (by omega) _

theorem triV_inj {k n x k' n' x' : Nat} (h : triV k n x = .tuple #[.int .i64 (k' : Int), .int .i64 (n' : Int), .int .i64 (x' : Int)]) : k = k' ∧ n = n' ∧ x = x' := by
  unfold triV at h
  simp at h
  omega
theorem first_err {l : List UInt8} {k n x : Nat} (h : firstV l = .tuple #[.int .i64 (k : Int), .int .i64 (n : Int), .int .i64 (x : Int)]) (hx : x ≠ 0) :
    l ≠ [] ∧ ((x = 1 ∧ (Tk.oneL l).1 = 0) ∨ (x = 2 ∧ (Tk.oneL l).1 ≠ 0 ∧ Tk.badB (Tk.oneL l).1 (Tk.oneL l).2 l = true)) := by
  unfold firstV at h
  split at h
  · have := triV_inj h; omega
  · rename_i h0
    split at h
    · rename_i h1
      have := triV_inj h
      exact ⟨h0, .inl ⟨by omega, h1⟩⟩
    · rename_i h1
      split at h
      · rename_i h2
        have := triV_inj h
        exact ⟨h0, .inr ⟨by omega, h1, h2⟩⟩
      · have := triV_inj h; omega
theorem first_ok {l : List UInt8} {k n : Nat} (h : firstV l = .tuple #[.int .i64 (k : Int), .int .i64 (n : Int), .int .i64 ((0 : Nat) : Int)]) :
    (l = [] ∧ k = 0 ∧ n = 0) ∨ (l ≠ [] ∧ k ≠ 0 ∧ k = (Tk.oneL l).1 ∧ n = (Tk.oneL l).2 ∧ Tk.badB (Tk.oneL l).1 (Tk.oneL l).2 l = false) := by
  unfold firstV at h
  split at h
  · rename_i h0
    have := triV_inj h
    exact .inl ⟨h0, by omega, by omega⟩
  · rename_i h0
    split at h
    · have := triV_inj h; omega
    · rename_i h1
      split at h
      · have := triV_inj h; omega
      · rename_i h2
        have := triV_inj h
        exact .inr ⟨h0, by omega, by omega, by omega, by simpa using h2⟩

theorem drop_ne {s : ByteArray} {p : Nat} (h : s.data.toList.drop p ≠ []) : p < s.data.toList.length := by
  rcases Nat.lt_or_ge p s.data.toList.length with h' | h'
  · exact h'
  · exact absurd (List.drop_eq_nil_of_le h') h
theorem drop_nil {s : ByteArray} {p : Nat} (h : s.data.toList.drop p = []) : s.data.toList.length ≤ p := by
  have := congrArg List.length h
  rw [List.length_drop, List.length_nil] at this
  omega
theorem loop_err {s : ByteArray} {f p k n x : Nat} {acc : List Tk.Tok} (hf : s.size - p < f) (he : Tk.ofS s.data.toList f p acc = Tk.ofL s.data.toList) (h : firstV (s.data.toList.drop p) = .tuple #[.int .i64 (k : Int), .int .i64 (n : Int), .int .i64 (x : Int)]) (hx : x ≠ 0) :
    Tk.ofL s.data.toList = .err x p := by
  obtain ⟨g, rfl⟩ : ∃ g, f = g + 1 := ⟨f - 1, by omega⟩
  obtain ⟨hne, h1 | h2⟩ := first_err h hx
  · rw [← he, h1.1]; exact Tk.ofS_byte (drop_ne hne) h1.2
  · rw [← he, h2.1]; exact Tk.ofS_long (drop_ne hne) h2.2.1 h2.2.2
theorem loop_end {s : ByteArray} {f p n : Nat} {acc : List Tk.Tok} (hf : s.size - p < f) (hp : p ≤ s.size) (he : Tk.ofS s.data.toList f p acc = Tk.ofL s.data.toList) (h : firstV (s.data.toList.drop p) = .tuple #[.int .i64 ((0 : Nat) : Int), .int .i64 (n : Int), .int .i64 ((0 : Nat) : Int)]) :
    Tk.ofL s.data.toList = .ok (acc ++ [⟨0, Tk.tx (s.data.toList.drop p) n, p⟩]) := by
  obtain ⟨g, rfl⟩ : ∃ g, f = g + 1 := ⟨f - 1, by omega⟩
  rcases first_ok h with ⟨h1, _, h3⟩ | ⟨_, h2, _⟩
  · have hl : s.data.toList.length = s.size := rfl
    have := drop_nil h1
    obtain rfl : p = s.size := by omega
    subst h3
    rw [← he, Tk.ofS_end (by omega), h1]; rfl
  · exact absurd rfl h2
theorem loop_more {s : ByteArray} {f p k n : Nat} {acc : List Tk.Tok} (hf : s.size - p < f) (he : Tk.ofS s.data.toList f p acc = Tk.ofL s.data.toList) (h : firstV (s.data.toList.drop p) = .tuple #[.int .i64 (k : Int), .int .i64 (n : Int), .int .i64 ((0 : Nat) : Int)]) (hk : k ≠ 0) :
    0 < n ∧ ∃ g, s.size - (p + n + Tk.sk false (s.data.toList.drop (p + n))) < g ∧ Tk.ofS s.data.toList g (p + n + Tk.sk false (s.data.toList.drop (p + n))) (acc ++ [⟨k, Tk.tx (s.data.toList.drop p) n, p⟩]) = Tk.ofL s.data.toList := by
  obtain ⟨g, rfl⟩ : ∃ g, f = g + 1 := ⟨f - 1, by omega⟩
  rcases first_ok h with ⟨_, h2, _⟩ | ⟨hne, h2, h3, h4, h5⟩
  · exact absurd h2 hk
  · have hpos := Tk.oneL_pos (l := s.data.toList.drop p) (by rw [← h3]; exact h2)
    have hlt := drop_ne hne
    have hl : s.data.toList.length = s.size := rfl
    refine ⟨by omega, g, by omega, ?_⟩
    rw [Tk.ofS_more (drop_ne hne) (by rw [← h3]; exact h2) h5] at he
    rw [← he]
    unfold Tk.nextAt Tk.tokAt
    rw [← h3, ← h4]

theorem own_grown {base C : Nat} {e : TypeId} {size n : Nat} {v : Value} {xs : List Value} {w w' : World} (h : w.ownsRow base e size v n xs) (hg : w.grownBy w' (some C)) (hC : C < base) : w'.ownsRow base e size v n xs := by
  refine h.kept hg ?_
  cases hv : v.ownBlock with
  | none => exact .inl rfl
  | some k =>
    right
    intro e'
    have h1 := h.lt k hv
    have := Option.some.inj e'
    omega

theorem after_app3 {w w2 w' : World} {v : Value} {n : Nat} {xs : List Value} {A A2 B : Obj} (hown : w2.ownsRow (w.heap.size + 3) 30 3 v n xs) (hbw : Below w.heap.size w w2) (hg : (((w2.alloc A).alloc A2).alloc B).grownBy w' v.ownBlock) :
    w'.heap[w2.heap.size]? = some A ∧ (∀ (q : Nat) (R : Obj), q < w.heap.size + 3 → w2.heap[q]? = some R → w'.heap[q]? = some R) ∧ Below w.heap.size w w' := by
  have h2 := hbw.size
  have hs1 : (w2.alloc A).heap.size = w2.heap.size + 1 := by simp
  have hs2 : ((w2.alloc A).alloc A2).heap.size = w2.heap.size + 2 := by simp
  have hs3 : (((w2.alloc A).alloc A2).alloc B).heap.size = w2.heap.size + 3 := by simp
  have hn : (((w2.alloc A).alloc A2).alloc B).heap[w2.heap.size]? = some A := (Below.heap_alloc _ _ _ (by omega)).trans ((Below.heap_alloc _ _ _ (by omega)).trans (heap_new w2 A))
  refine ⟨(hg.block _ (by omega) (fun e => ?_)).trans hn, fun q R hq hR => ?_, ?_⟩
  · have := hown.lt _ e.symm; omega
  · have hl := heap_lt hR
    refine (hg.block _ (by omega) (fun e => ?_)).trans ((Below.heap_alloc _ _ _ (by omega)).trans ((Below.heap_alloc _ _ _ (by omega)).trans ((Below.heap_alloc _ _ _ hl).trans hR)))
    have := hown.lt _ e.symm; omega
  · refine (((hbw.alloc h2 _).alloc (by omega) _).alloc (by omega) _).grown hg (by omega) (fun q hq => ?_)
    have := hown.lt _ hq; omega
theorem own_more2 {base : Nat} {w' : World} {v' : Value} {acc : List Tk.Tok} {tk : Tk.Tok} (h : w'.ownsRow base 30 3 v' (acc.length + 1) (tcells acc ++ tcell tk)) : w'.ownsRow base 30 3 v' (acc ++ [tk]).length (tcells (acc ++ [tk])) := by
  rw [tcells_snoc, List.length_append]; exact h
theorem own_set3 {B : Nat} {w' : World} {v' : Value} {n : Nat} {xs : List Value} {x y : Value} (h : w'.ownsRow (B + 3) 30 3 v' n xs) : ((w'.setCell ⟨B, 0, none⟩ x).setCell ⟨B, 1, none⟩ y).ownsRow B 30 3 v' n xs := by
  refine ⟨h.1, ?_⟩
  rcases h.2 with h | ⟨g, cap, cur, rfl, hb, hg, rest⟩
  · exact .inl h
  · refine .inr ⟨g, cap, cur, rfl, by omega, ?_, rest⟩
    rw [Below.heap_setCell _ _ _ _ (by show g ≠ B; omega), Below.heap_setCell _ _ _ _ (by show g ≠ B; omega)]
    exact hg

set_option maxHeartbeats 2000000 in
theorem of_any (s : ByteArray) (hs : s.size ≤ 16384) (w : World) (hW : WordsIn w) : Calls Tryd.prog 7 #[.string s] w (OfPost s.data.toList w) := by
  obtain ⟨i0, hi, hz0, hz1, hz2⟩ := info_parts tok_info
  go_enter Tryd.func7, Tryd.ntmps7
  go_wp2_with fail
  refine (reader_any s _).mono ?_
  rintro e w1 ⟨rfl, rfl⟩
  go_wp2_with fail
  go_loopg [4] s.size (fun g v wr => Hid (LoopAt s w g v wr))
  case atStart => exact Lib.hid (loop_start s hs w)
  case round =>
    obtain ⟨a, acc, f, hga, ha, hf, hacc, he, hown, hres, hB, hC, hbw⟩ := hrel.out
    have HRES := Lib.hid hres
    have HE := Lib.hid he
    have HC := Lib.hid hC
    have HB := Lib.hid hB
    have HGA := Lib.hid hga
    have HW : Hid (WordsIn wr) := Lib.hid (hW.below hbw)
    clear hres he hC hB hga
    go_wp2_with fail
    refine (next_any s hs (w.heap.size + 1) (w.heap.size + 2) a ha _ HW.out HB.out HC.out).mono ?_
    rintro e w2 ⟨hg2, p, k, n, x, hp, hps, hT, hways⟩
    have hown2 := own_grown hown hg2 (by omega)
    have HOW := Lib.hid hown2
    have hl0 := heap_lt HRES.out
    have hres2 : w2.heap[w.heap.size]? = some (.cells #[.int .i64 0, .int .i64 0] 26 (0, 0)) := (hg2.block _ hl0 (by simp)).trans HRES.out
    have hbw2 : Below w.heap.size w w2 := hbw.grown hg2 hbw.size (fun q hq => by have := Option.some.inj hq; omega)
    have HRES2 := Lib.hid hres2
    have HB2 : Hid (w2.heap[w.heap.size + 1]? = some (.cells #[.string s] 9 (0, 0))) := Lib.hid ((hg2.block _ (heap_lt HB.out) (by simp)).trans HB.out)
    have c0 : w2.cell? ⟨w.heap.size, 0, none⟩ = some (.int .i64 0) := cell_of_row w2 _ 0 _ 26 (0, 0) hres2
    have c1 : w2.cell? ⟨w.heap.size, 1, none⟩ = some (.int .i64 0) := cell_of_row w2 _ 1 _ 26 (0, 0) hres2
    have hf2 := frozen_of hres2
    have hzz := heap_lt hres2
    have HP := Lib.hid hp
    have HG2 := Lib.hid hg2
    have hfp : s.size - p < f := by rw [hp]; exact hf
    have HEp : Hid (Tk.ofS s.data.toList f p acc = Tk.ofL s.data.toList) := Lib.hid (by rw [hp]; exact HE.out)
    have HT := Lib.hid hT
    have hbsz := hbw2.size
    clear hown hown2 hres2 hp hg2 hT hf
    rcases hways with ⟨hx, rfl, hC2⟩ | ⟨rfl, hpn, rfl, hC2⟩
    · have HX := Lib.hid (loop_err hfp HEp.out HT.out hx)
      have e0 : ((x : Int) == 0) = false := by simpa using hx
      have e0' : ((x : Int) != 0) = true := neq_of e0
      clear hC2
      unfold tokV
      go_wp2
      go_region
      go_wp2
      exact bodyPost_ret (v := .tuple #[.slice none 0 0, .agg #[.int .i64 (x : Int), .int .i64 (p : Int)]]) (by simp [results, Tryd.results7, go_sem, c0, c1, hzz]) rfl (ofPost_err (((((hbw2.setCell (Nat.le_refl _) _).setCell (Nat.le_refl _) _).alloc (by simp; omega) _).alloc (by simp; omega) _).drew) HX.out)
    · have hap : a ≤ p := by have := HP.out; omega
      obtain ⟨t, ht⟩ : ∃ t, t = Tk.tx (s.data.toList.drop p) n := ⟨_, rfl⟩
      rw [← ht]
      have HTX := Lib.hid ht
      have HC2 := Lib.hid hC2
      clear ht hC2
      unfold tokV
      by_cases hk : k = 0
      · subst hk
        have HX := Lib.hid (loop_end hfp hps HEp.out HT.out)
        go_wp2_with (at_builtin; refine wpList_append_own _ rfl (.tmp 23) (.tmp 25) 23 rfl (w.heap.size + 3) 30 i0 (.agg #[.int .i64 0, .string ⟨#[]⟩, .int .i64 0]) 3 32 Tryd.underlying23 hi hz0 hz1 hz2 rfl (by decide) u4 acc.length (tcells acc) rfl (((HOW.out.alloc _).alloc _).alloc _) ⟨w2.heap.size + 2, 0, none⟩ 1 1 [.int .i64 0, .string t, .int .i64 (p : Int)] rfl rfl (new3 _ _ _ _ _ _ (by simp)) (ones3 _ _ _) (by unfold maxLen; omega) (by omega) (by simp; omega) ?_; intro v' w' hown' hgrow' hiff; clear hiff; obtain ⟨hblk, hkeep, hbw'⟩ := after_app3 HOW.out hbw2 hgrow'; have hres' := hkeep _ _ (by omega) HRES2.out; have ct : w'.cell? ⟨w2.heap.size, 0, none⟩ = some (.int .i64 0) := cell_of_row w' w2.heap.size 0 _ 30 (0, 0) hblk; have d0 : w'.cell? ⟨w.heap.size, 0, none⟩ = some (.int .i64 0) := cell_of_row w' _ 0 _ 26 (0, 0) hres'; have d1 : w'.cell? ⟨w.heap.size, 1, none⟩ = some (.int .i64 0) := cell_of_row w' _ 1 _ 26 (0, 0) hres'; have df := frozen_of hres'; have HO' := Lib.hid hown'; clear hblk hkeep hres' hgrow' hown')
        exact bodyPost_ret (v := .tuple #[v', .agg #[.int .i64 0, .int .i64 0]]) (by simp [results, Tryd.results7, go_sem, d0, d1]) rfl (ofPost_ok ((hbw'.setCell (Nat.le_refl _) _).setCell (Nat.le_refl _) _) HX.out (own_set3 (own_more2 (acc := acc) (tk := ⟨0, Tk.tx (s.data.toList.drop p) n, p⟩) (by rw [← HTX.out]; exact HO'.out))))
      · have HX := Lib.hid (loop_more hfp HEp.out HT.out hk)
        have e0 : ((k : Int) == 0) = false := by simpa using hk
        clear hk
        go_wp2_with (at_builtin; refine wpList_append_own _ rfl (.tmp 23) (.tmp 25) 23 rfl (w.heap.size + 3) 30 i0 (.agg #[.int .i64 0, .string ⟨#[]⟩, .int .i64 0]) 3 32 Tryd.underlying23 hi hz0 hz1 hz2 rfl (by decide) u4 acc.length (tcells acc) rfl (((HOW.out.alloc _).alloc _).alloc _) ⟨w2.heap.size + 2, 0, none⟩ 1 1 [.int .i64 (k : Int), .string t, .int .i64 (p : Int)] rfl rfl (new3 _ _ _ _ _ _ (by simp)) (ones3 _ _ _) (by unfold maxLen; omega) (by omega) (by simp; omega) ?_; intro v' w' hown' hgrow' hiff; clear hiff; obtain ⟨hblk, hkeep, hbw'⟩ := after_app3 HOW.out hbw2 hgrow'; have HR' := Lib.hid (hkeep _ _ (by omega) HRES2.out); have HB' := Lib.hid (hkeep _ _ (by omega) HB2.out); have HC' := Lib.hid (hkeep _ _ (by omega) HC2.out); have ct : w'.cell? ⟨w2.heap.size, 0, none⟩ = some (.int .i64 (k : Int)) := cell_of_row w' w2.heap.size 0 _ 30 (0, 0) hblk; have HO' := Lib.hid hown'; clear hblk hkeep hgrow' hown')
        go_roundg (s.size - (p + n))
        case rel =>
          obtain ⟨hpos, g, h1, h2⟩ := HX.out
          refine Lib.hid ⟨p + n, acc ++ [⟨k, t, p⟩], g, rfl, hpn, h1, by simp; omega, by rw [HTX.out]; exact h2, own_more2 (tk := ⟨k, t, p⟩) HO'.out, HR'.out, HB'.out, HC'.out, hbw'⟩
        case measure =>
          have hpos := HX.out.1
          have := HGA.out
          omega
end Go.Proofs.YtiijhlmdgbpkmaaDoor
