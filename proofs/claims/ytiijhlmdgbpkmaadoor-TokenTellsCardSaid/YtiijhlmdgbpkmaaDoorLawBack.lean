/- The third law of layer 3 returns true for every input. Conditions: the table of words lies in memory. -/
import Derived.Test.YtiijhlmdgbpkmaaDoorSameb
namespace Go.Proofs.YtiijhlmdgbpkmaaDoor
open Go.RowKit
set_option linter.unusedVariables false

theorem law_back_big (s : ByteArray) (h : 400 < s.size) (w : World) (hW : WordsIn w) : Calls Tryd.prog 5 #[.string s] w fun e w' => e = .returned (.bool true) ∧ Below w.heap.size w w' := by
  go_enter Tryd.func5, Tryd.ntmps5
  go_wp2_with fail
  refine (awake_any _ hW).mono ?_
  rintro e w1 ⟨rfl, hb⟩
  go_wp2
  go_ret
  exact ⟨rfl, hb⟩

theorem law_back_err (s : ByteArray) (h : s.size ≤ 400) (x a : Nat) (hr : Tk.ofL s.data.toList = .err x a) (w : World) (hW : WordsIn w) : Calls Tryd.prog 5 #[.string s] w fun e w' => e = .returned (.bool true) ∧ Below w.heap.size w w' := by
  have HR := Lib.hid hr
  have hl : s.data.toList.length = s.size := rfl
  obtain ⟨ha, hx⟩ := Tk.ofL_err (by omega) hr
  rw [hl] at ha
  have e0 : ((x : Int) == 0) = false := by simp; omega
  have e0' : ((x : Int) != 0) = true := neq_of e0
  clear hr hl hx
  go_enter Tryd.func5, Tryd.ntmps5
  go_wp2_with fail
  refine (of_any s (by omega) _ hW).mono ?_
  rintro e w1 hp
  obtain ⟨rfl, hb1⟩ := of_err hp HR.out
  have hsz := hb1.size
  clear hp
  go_wp2_with fail
  refine (awake_any _ ((hW.below hb1).below ((Below.refl _ _).alloc (Nat.le_refl _) _))).mono ?_
  rintro e w2 ⟨rfl, hb2⟩
  go_wp2
  go_ret
  exact ⟨rfl, (hb1.alloc hsz _).trans (hb2.mono (by simp; omega))⟩

theorem rt_of {w : World} {g : Nat} {r : List Tk.Tok} (hg : g < w.heap.size) (hc : ∀ (j : Nat) (u : Value), (tcells r)[j]? = some u → w.cell? ⟨g, j, none⟩ = some u) : RT w w.heap.size (some ⟨g, 0, none⟩) (r.map Gt.ofTok) := by
  intro _
  refine ⟨g, 0, rfl, hg, fun i hi => ?_⟩
  rw [List.length_map] at hi
  obtain ⟨q0, q1, q2⟩ := tcells_at hi
  rw [List.getElem_map, Nat.zero_add]
  exact ⟨hc _ _ q0, hc _ _ q1, hc _ _ q2⟩
theorem text_tok {A : Option Addr} {c : Nat} {r : List Tk.Tok} {w : World} (hr : RT w w.heap.size A (r.map Gt.ofTok)) (hn : r.length ≤ 1000) (hlen : (Tk.txt r).length ≤ 100000) (hc : r.length ≤ c) :
    Calls Tryd.prog 9 #[.slice A r.length c] w fun e w' => e = .returned (.string ⟨(Tk.txt r).toArray⟩) ∧ Below w.heap.size w w' := by
  have h := text_any A c (r.map Gt.ofTok) w hr (by rw [List.length_map]; exact hn) (by rw [Gt.txt_tok]; exact hlen) (by rw [List.length_map]; exact hc)
  rw [List.length_map, Gt.txt_tok] at h
  exact h
theorem same_tok {A1 A2 : Option Addr} {c1 c2 : Nat} {l m : List Tk.Tok} {w : World} (hr1 : RT w w.heap.size A1 (l.map Gt.ofTok)) (hr2 : RT w w.heap.size A2 (m.map Gt.ofTok)) (hn1 : l.length ≤ 1000) (hn2 : m.length ≤ 1000) (hc1 : l.length ≤ c1) (hc2 : m.length ≤ c2) :
    Calls Tryd.prog 11 #[.slice A1 l.length c1, .slice A2 m.length c2] w fun e w' => e = .returned (.bool (Tk.same l m)) ∧ Below w.heap.size w w' := by
  have h := same_any A1 A2 c1 c2 (l.map Gt.ofTok) (m.map Gt.ofTok) w hr1 hr2 (by rw [List.length_map]; exact hn1) (by rw [List.length_map]; exact hn2) (by rw [List.length_map]; exact hc1) (by rw [List.length_map]; exact hc2)
  rw [List.length_map, List.length_map, Gt.same_tok] at h
  exact h
theorem last_cells {s : List UInt8} {r : List Tk.Tok} (h : Tk.ofL s = .ok r) : ∃ n, r.length = n + 1 ∧ (tcells r)[n * 3]? = some (.int .i64 0) ∧ (tcells r)[n * 3 + 1]? = some (.string ⟨#[]⟩) ∧ (tcells r)[n * 3 + 2]? = some (.int .i64 (s.length : Int)) := by
  have ht := (Tk.ofL_toks h).2
  have hne := Tk.toks_ne ht
  have hlast := Tk.toks_last ht
  have hpos : 0 < r.length := List.length_pos_iff.2 hne
  refine ⟨r.length - 1, by omega, ?_⟩
  have hk : r.length - 1 < r.length := by omega
  have he : r[r.length - 1] = Tk.endTok s := by
    rw [List.getLast?_eq_getElem?, List.getElem?_eq_getElem hk] at hlast
    exact Option.some.inj hlast
  obtain ⟨q0, q1, q2⟩ := tcells_at hk
  rw [he] at q0 q1 q2
  exact ⟨q0, q1, q2⟩

theorem stand_at {s : ByteArray} (hs : s.size ≤ 400) {r : List Tk.Tok} {j q : Nat} {y : Tk.Tok} (hj : j < r.length) (hy : y = r[j]) (h : Tk.Stand s.data.toList q (r.drop j)) :
    q ≤ y.pos ∧ y.pos + y.text.size ≤ s.size ∧ s.extract y.pos (y.pos + y.text.size) = y.text ∧ Tk.ofL (s.extract q y.pos).data.toList = .ok [Tk.endTok (s.extract q y.pos).data.toList] ∧ Tk.Stand s.data.toList (y.pos + y.text.size) (r.drop (j + 1)) := by
  rw [List.drop_eq_getElem_cons hj, ← hy] at h
  obtain ⟨h1, h2, h3, h4, h5⟩ := h
  have hl : s.data.toList.length = s.size := rfl
  rw [hl] at h2
  have hgl : (s.extract q y.pos).data.toList = (s.data.toList.drop q).take (y.pos - q) := by rw [Lib.extract_eq]
  have hglen : ((s.data.toList.drop q).take (y.pos - q)).length = y.pos - q := by rw [List.length_take, List.length_drop]; omega
  refine ⟨h1, h2, ?_, ?_, h5⟩
  · rw [ext_tx]
    unfold Tk.tx
    rw [h3]
  · rw [hgl]
    exact Tk.ofL_gap (by rw [h4, hglen]) (by omega)

theorem slice_str2 (s : ByteArray) (q p : Nat) (h : q ≤ p) (h2 : p ≤ s.size) (W : World) : (Instr.slice 9 (.string s) (some (.int .i64 (q : Int))) (some (.int .i64 (p : Int))) none).run Tryd.prog W = .ok (.string (s.extract q p)) W := by
  have := run_slice_string (P := Tryd.prog) W 9 s .i64 .i64 (q : Int) (p : Int) Tryd.underlying9 (by omega) (by omega) (by omega)
  rw [this]
  congr 3
theorem three' {w w1 : World} {a b c : Value} {t : TypeId} {n : Nat} (hb : Below ((w.alloc (.cells #[a, b, c] t)).drewN n).heap.size ((w.alloc (.cells #[a, b, c] t)).drewN n) w1) :
    w1.cell? ⟨w.heap.size, 0, none⟩ = some a ∧ w1.cell? ⟨w.heap.size, 1, none⟩ = some b ∧ w1.cell? ⟨w.heap.size, 2, none⟩ = some c ∧ (∀ o, w1.frozen? ⟨w.heap.size, o, none⟩ = false) ∧ w.heap.size < w1.heap.size ∧ Below w.heap.size w w1 :=
  three (w := w) ⟨hb.os, hb.tape, hb.output, hb.size, hb.block⟩

set_option maxHeartbeats 2000000 in
set_option maxRecDepth 100000 in
theorem law_back_ok (s : ByteArray) (h : s.size ≤ 400) (r : List Tk.Tok) (hr : Tk.ofL s.data.toList = .ok r) (w : World) (hW : WordsIn w) : Calls Tryd.prog 5 #[.string s] w fun e w' => e = .returned (.bool true) ∧ Below w.heap.size w w' := by
  have HR := Lib.hid hr
  have hl : s.data.toList.length = s.size := rfl
  obtain ⟨r', hr', hsame⟩ := Tk.ofL_back (by omega) hr
  have hrl := Tk.ofL_len hr
  have hrl' := Tk.ofL_len hr'
  have htl := Tk.txt_len (Tk.ofL_toks hr).2 (Tk.sk_le false _)
  have hr1 : r.length ≤ 401 := by omega
  have hx1 : (Tk.txt r).length ≤ 800 := by omega
  have hr2 : r'.length ≤ 801 := by omega
  have HR' : Hid (Tk.ofL (ByteArray.mk (Tk.txt r).toArray).data.toList = .ok r') := Lib.hid (by simpa using hr')
  have HS := Lib.hid hsame
  have HSZ : Hid ((ByteArray.mk (Tk.txt r).toArray).size ≤ 16384) := Lib.hid (by show (Tk.txt r).toArray.size ≤ _; simp; omega)
  clear hr hr' hsame hrl hrl' htl hl
  go_enter Tryd.func5, Tryd.ntmps5
  go_wp2_with fail
  refine (of_any s (by omega) _ hW).mono ?_
  rintro e w1 hp
  obtain ⟨g1, c1, rfl, hg1, hl1, hc1, hm1, hcell1, hb1⟩ := of_ok hp HR.out
  clear hp
  have HC1 := Lib.hid hcell1
  have HT1 := Lib.hid (rt_of hl1 hcell1)
  have hsz1 := hb1.size
  clear hcell1
  go_wp2_with fail
  refine (text_tok (w := w1.alloc (.cells #[.int .i64 0, .int .i64 0] 26)) ((HT1.out.below ((Below.refl _ _).alloc (Nat.le_refl _) _)).more (by simp)) (by omega) (by omega) hc1).mono ?_
  rintro e w2 ⟨rfl, hb2⟩
  obtain ⟨k0, k1, hz1, hb12⟩ := two hb2
  have hsz2 := hb12.size
  have HW2 : Hid (WordsIn w2) := Lib.hid ((hW.below hb1).below hb12)
  clear hb2
  go_wp2_with fail
  refine (of_any _ HSZ.out _ HW2.out).mono ?_
  rintro e w3 hp
  obtain ⟨g2, c2, rfl, hg2, hl2, hc2, hm2, hcell2, hb3⟩ := of_ok hp HR'.out
  clear hp
  have HT2 := Lib.hid (rt_of hl2 hcell2)
  have hsz3 := hb3.size
  have hb13 : Below w1.heap.size w1 w3 := hb12.trans (hb3.mono hsz2)
  clear hcell2
  go_wp2_with fail
  refine (same_tok (w := w3.alloc (.cells #[.int .i64 0, .int .i64 0] 26)) (((HT1.out.below hb13).below ((Below.refl _ _).alloc (by omega) _)).more (by simp; omega)) ((HT2.out.below ((Below.refl _ _).alloc (Nat.le_refl _) _)).more (by simp)) (by omega) (by omega) hc1 hc2).mono ?_
  rintro e w4 ⟨rfl, hb4⟩
  rw [HS.out]
  have hb34 : Below w3.heap.size w3 w4 := ((Below.refl _ _).alloc (Nat.le_refl _) _).trans (hb4.mono (by simp))
  have hsz4 := hb34.size
  have hb14 : Below w1.heap.size w1 w4 := hb13.trans (hb34.mono (by omega))
  obtain ⟨n, hn, z0, z1, z2⟩ := last_cells HR.out
  have y0 := (hb14.cell (p := ⟨g1, n * 3, none⟩) hl1).trans (HC1.out _ _ z0)
  have y1 := (hb14.cell (p := ⟨g1, n * 3 + 1, none⟩) hl1).trans (HC1.out _ _ z1)
  have y2 := (hb14.cell (p := ⟨g1, n * 3 + 2, none⟩) hl1).trans (HC1.out _ _ z2)
  have HN := Lib.hid hn
  have hnpos : (0 : Int) < (r.length : Int) := by omega
  have hnn : ((r.length : Int) - 1) = (n : Int) := by omega
  have hrne : ¬ r = [] := by intro e; rw [e] at hn; simp at hn
  have hl0 : ((r.length : Int) == 0) = false := by simp; exact hrne
  have HST := Lib.hid (Tk.ofL_stand HR.out)
  clear hn z0 z1 z2 hb4
  go_wp2
  clear y0 y1 y2 hnn k0 k1
  go_loopw [7, 8] (fun p i wr => ∃ (j q : Nat), j ≤ r.length ∧ q ≤ s.size ∧ i = .int .i64 j ∧ p = .int .i64 q ∧ Hid (Tk.Stand s.data.toList q (r.drop j)) ∧ Below w4.heap.size w4 wr) (fun _ i _ => r.length - (intOf i).toNat)
  case atStart => exact ⟨0, 0, by omega, by omega, rfl, rfl, HST, Below.refl _ _⟩
  case round =>
    obtain ⟨j, q, hj, hq, rfl, rfl, hst, hbr⟩ := hrel
    have hszr := hbr.size
    by_cases hlt : j < r.length
    · obtain ⟨x0, x1, x2⟩ := tcells_at hlt
      obtain ⟨y, hy⟩ : ∃ y, y = r[j] := ⟨_, rfl⟩
      obtain ⟨s1, s2, s3, s4, s5⟩ := stand_at h hlt hy hst.out
      rw [← hy] at x0 x1 x2
      have v0 := (hbr.cell (p := ⟨g1, j * 3, none⟩) (by show g1 < _; omega)).trans ((hb14.cell (p := ⟨g1, j * 3, none⟩) hl1).trans (HC1.out _ _ x0))
      have v1 := (hbr.cell (p := ⟨g1, j * 3 + 1, none⟩) (by show g1 < _; omega)).trans ((hb14.cell (p := ⟨g1, j * 3 + 1, none⟩) hl1).trans (HC1.out _ _ x1))
      have v2 := (hbr.cell (p := ⟨g1, j * 3 + 2, none⟩) (by show g1 < _; omega)).trans ((hb14.cell (p := ⟨g1, j * 3 + 2, none⟩) hl1).trans (HC1.out _ _ x2))
      have HW4 : Hid (WordsIn wr) := Lib.hid ((hW.below (hb1.trans (hb14.mono hsz1))).below hbr)
      obtain ⟨k, t, p⟩ := y
      have S3 := Lib.hid s3
      have S4 := Lib.hid s4
      have S5 := Lib.hid s5
      have s1' : q ≤ p := s1
      have s2' : p + t.size ≤ s.size := s2
      have ht : ((s.extract p (p + t.size)).toList == t.toList) = true := by rw [text_beq, s3]; simp
      have ht' : ((s.extract p (p + t.size)).toList != t.toList) = false := by unfold bne; rw [ht]; rfl
      have d1 : decide ((p : Int) < (q : Int)) = false := by simp; omega
      have d2 : decide ((s.size : Int) < (p : Int)) = false := by simp; omega
      have d3 : decide ((s.size : Int) - (p : Int) < (t.size : Int)) = false := by simp; omega
      have d1' : decide (p < q) = false := by simp; omega
      have d2' : decide (s.size < p) = false := by simp; omega
      have hw1 : IntKind.i64.wrap ((s.size : Int) - (p : Int)) = (s.size : Int) - (p : Int) := by rw [IntWalk.i64_in _ (by omega)]
      have hw2 : IntKind.i64.wrap ((p : Int) + (t.size : Int)) = (p : Int) + (t.size : Int) := by rw [IntWalk.i64_in _ (by omega)]
      have hsl : ∀ W : World, (Instr.slice 9 (.string s) (some (.int .i64 (p : Int))) (some (.int .i64 ((p : Int) + (t.size : Int)))) none).run Tryd.prog W = .ok (.string (s.extract p (p + t.size))) W := fun W => slice_str s p t.size s2' W
      clear x0 x1 x2 hy s1 s2 s3 s4 s5
      go_wp2
      go_quiet (fail)
      clear hw1 hw2 hsl d1 d2 d3 d1' d2' ht ht'
      have hsl2 : ∀ W : World, (Instr.slice 9 (.string s) (some (.int .i64 (q : Int))) (some (.int .i64 (p : Int))) none).run Tryd.prog W = .ok (.string (s.extract q p)) W := fun W => slice_str2 s q p s1' (by omega) W
      have HSZ2 : Hid ((s.extract q p).size ≤ 16384) := Lib.hid (by simp; omega)
      have hb5 : Below wr.heap.size wr ((wr.alloc (.cells #[.int .i64 (k : Int), .string t, .int .i64 (p : Int)] 30)).drewN nq) := below_drewN ((Below.refl _ _).alloc (Nat.le_refl _) _) nq
      have hz5 : ((wr.alloc (.cells #[.int .i64 (k : Int), .string t, .int .i64 (p : Int)] 30)).drewN nq).heap.size = wr.heap.size + 1 := by simp
      go_wp2_with fail
      refine (of_any _ HSZ2.out _ (HW4.out.below hb5)).mono ?_
      rintro e w5 hp
      obtain ⟨g5, c5, rfl, hg5, hl5, hc5, hm5, -, hb6⟩ := of_ok hp S4.out
      obtain ⟨m0, m1, m2, mf, mz, hb7⟩ := three' hb6
      have hsz7 := hb7.size
      clear hp hb6 hsl2 hb5 hz5
      rw [show [Tk.endTok (s.extract q p).data.toList].length = 1 from rfl]
      go_wp2
      go_roundw
      case rel => exact ⟨j + 1, p + t.size, by omega, by omega, by go_num, by go_num, S5, (hbr.trans (hb7.mono hszr)).alloc (by omega) _⟩
      case measure => simp [intOf]; omega
    · go_wp2_with fail
      refine (awake_any _ ((hW.below (hb1.trans (hb14.mono hsz1))).below hbr)).mono ?_
      rintro e w5 ⟨rfl, hb5⟩
      go_wp2
      go_ret
      exact ⟨rfl, ((hb1.trans (hb14.mono hsz1)).trans (hbr.mono (by omega))).trans (hb5.mono (by omega))⟩

theorem law_back (s : ByteArray) (w : World) (hW : WordsIn w) : Calls Tryd.prog 5 #[.string s] w fun e w' => e = .returned (.bool true) ∧ Below w.heap.size w w' := by
  rcases Nat.lt_or_ge 400 s.size with h | h
  · exact law_back_big s h w hW
  · cases hr : Tk.ofL s.data.toList with
    | err x a => exact law_back_err s h x a hr w hW
    | ok r => exact law_back_ok s h r hr w hW
end Go.Proofs.YtiijhlmdgbpkmaaDoor
