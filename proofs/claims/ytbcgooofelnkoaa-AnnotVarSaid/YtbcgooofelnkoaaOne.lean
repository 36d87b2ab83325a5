/- What the document's answer says of the token that a text begins with. Condition: the text has at most 16384 bytes, and at least one. -/
import Derived.Test.YtbcgooofelnkoaaSkip
namespace Go.Proofs.Ytbcgooofelnkoaa
open Go.RowKit
set_option linter.unusedVariables false

theorem bcell {W w1 : World} (hb : Below W.heap.size W w1) : (∀ b o, b < W.heap.size → w1.cell? ⟨b, o, none⟩ = W.cell? ⟨b, o, none⟩) ∧ (∀ b o, b < W.heap.size → w1.frozen? ⟨b, o, none⟩ = W.frozen? ⟨b, o, none⟩) :=
  ⟨fun b o h => hb.cell (p := ⟨b, o, none⟩) h, fun b o h => hb.frozen (p := ⟨b, o, none⟩) h⟩

/-- The three cells of the newest block stay, whatever is made behind it. -/
theorem three {w w1 : World} {a b c : Value} {t : TypeId} (hb : Below (w.alloc (.cells #[a, b, c] t)).heap.size (w.alloc (.cells #[a, b, c] t)) w1) :
    w1.cell? ⟨w.heap.size, 0, none⟩ = some a ∧ w1.cell? ⟨w.heap.size, 1, none⟩ = some b ∧ w1.cell? ⟨w.heap.size, 2, none⟩ = some c ∧ (∀ o, w1.frozen? ⟨w.heap.size, o, none⟩ = false) ∧ w.heap.size < w1.heap.size ∧ Below w.heap.size w w1 := by
  have hn : (w.alloc (.cells #[a, b, c] t)).heap[w.heap.size]? = some (.cells #[a, b, c] t (0, 0)) := heap_new w _
  have hs : (w.alloc (.cells #[a, b, c] t)).heap.size = w.heap.size + 1 := by simp
  have hh : w1.heap[w.heap.size]? = some (.cells #[a, b, c] t (0, 0)) := (hb.block w.heap.size (by omega)).trans hn
  refine ⟨cell_of_row w1 _ 0 _ t (0, 0) hh, cell_of_row w1 _ 1 _ t (0, 0) hh, cell_of_row w1 _ 2 _ t (0, 0) hh, fun o => by simp [World.frozen?, hh], by have := hb.size; omega, ?_⟩
  exact ((Below.refl _ w).alloc (Nat.le_refl _) _).trans (hb.mono (by omega))

/-- A token as a value. -/
def tokV (k : Nat) (t : ByteArray) (p : Nat) : Value := .agg #[.int .i64 (k : Int), .string t, .int .i64 (p : Int)]

theorem one_word {s : ByteArray} {k : Nat} (HO : Tk.oneL s.data.toList = (if Wd.find (Tk.tx s.data.toList (Tk.runL Wd.okB s.data.toList)) = 0 then 1 else 3, Tk.runL Wd.okB s.data.toList)) (hr : Tk.runL Wd.okB s.data.toList = k) (h : 0 < Wd.find (s.extract 0 k)) :
    Ending.returned (.agg #[.int .i64 3, .string (s.extract 0 k), .int .i64 0]) = .returned (tokV (Tk.oneL s.data.toList).1 (Tk.tx s.data.toList (Tk.oneL s.data.toList).2) 0) := by
  rw [tx_ext] at h ⊢
  rw [HO, hr, if_neg (by omega)]; rfl
theorem one_name {s : ByteArray} {k : Nat} (HO : Tk.oneL s.data.toList = (if Wd.find (Tk.tx s.data.toList (Tk.runL Wd.okB s.data.toList)) = 0 then 1 else 3, Tk.runL Wd.okB s.data.toList)) (hr : Tk.runL Wd.okB s.data.toList = k) (h : ¬ 0 < Wd.find (s.extract 0 k)) :
    Ending.returned (.agg #[.int .i64 1, .string (s.extract 0 k), .int .i64 0]) = .returned (tokV (Tk.oneL s.data.toList).1 (Tk.tx s.data.toList (Tk.oneL s.data.toList).2) 0) := by
  rw [tx_ext] at h ⊢
  rw [HO, hr, if_pos (by omega)]; rfl
theorem one_dig {s : ByteArray} {k : Nat} (HO : Tk.oneL s.data.toList = (2, Tk.runL Tk.digB s.data.toList)) (hr : Tk.runL Tk.digB s.data.toList = k) :
    Ending.returned (.agg #[.int .i64 2, .string (s.extract 0 k), .int .i64 0]) = .returned (tokV (Tk.oneL s.data.toList).1 (Tk.tx s.data.toList (Tk.oneL s.data.toList).2) 0) := by
  rw [tx_ext, HO, hr]; rfl

set_option maxHeartbeats 400000 in
theorem one_let (s : ByteArray) (h0 : 0 < s.size) (hs : s.size ≤ 16384) (w : World) (hb : Wd.isLetter (s[0].toNat : Int) = true) : Calls Try.prog 16 #[.string s] w fun e w' =>
    e = .returned (tokV (Tk.oneL s.data.toList).1 (Tk.tx s.data.toList (Tk.oneL s.data.toList).2) 0) ∧ Below w.heap.size w w' := by
  have hl := list_at s h0
  have HB := Lib.hid hb
  have HO : Hid (Tk.oneL s.data.toList = (if Wd.find (Tk.tx s.data.toList (Tk.runL Wd.okB s.data.toList)) = 0 then 1 else 3, Tk.runL Wd.okB s.data.toList)) := Lib.hid (by
    rw [hl]; exact Tk.oneL_l hb)
  clear hb hl
  go_enter Try.func16, Try.ntmps16
  go_wp2_with fail
  refine (refLetter_any _ _).mono ?_
  rintro e w1 ⟨rfl, rfl⟩
  rw [HB.out]
  go_wp2_with fail
  go_loop [3] (fun i => ∃ k : Nat, k ≤ s.size ∧ i = .int .i64 k ∧ Hid (Tk.runL Wd.okB s.data.toList = k + Tk.runL Wd.okB (s.data.toList.drop k))) (fun i => s.size - (intOf i).toNat)
  case atStart => exact ⟨0, by omega, rfl, Lib.hid (by simp)⟩
  case round =>
    obtain ⟨k, hk, rfl, hr⟩ := hrel
    by_cases hlt : k < s.size
    · cases h1 : Wd.isLetter (s[k].toNat : Int) with
      | true =>
        have H1 := Lib.hid h1
        have HR := Lib.hid (run_yes s k hlt hr.out (Tk.okB_let h1))
        clear h1
        go_wp2_with fail
        refine (refLetter_any _ _).mono ?_
        rintro e w1 ⟨rfl, rfl⟩
        rw [H1.out]
        go_wp2
        go_round
        case rel => exact ⟨k + 1, by omega, by go_num, HR⟩
        case measure => simp [intOf]; omega
      | false =>
        have H1 := Lib.hid h1
        cases h2 : Wd.isDigit (s[k].toNat : Int) with
        | true =>
          have H2 := Lib.hid h2
          have HR := Lib.hid (run_yes (p := Wd.okB) s k hlt hr.out (by unfold Wd.okB; rw [h2]; simp))
          clear h1 h2
          go_wp2_with fail
          refine (refLetter_any _ _).mono ?_
          rintro e w1 ⟨rfl, rfl⟩
          rw [H1.out]
          go_wp2_with fail
          refine (refDigit_any _ _).mono ?_
          rintro e w1 ⟨rfl, rfl⟩
          rw [H2.out]
          go_wp2
          go_round
          case rel => exact ⟨k + 1, by omega, by go_num, HR⟩
          case measure => simp [intOf]; omega
        | false =>
          have H2 := Lib.hid h2
          have HR := Lib.hid (run_no (p := Wd.okB) s k hlt hr.out (by unfold Wd.okB; rw [h1, h2]; rfl))
          clear h1 h2
          go_wp2_with fail
          refine (refLetter_any _ _).mono ?_
          rintro e w1 ⟨rfl, rfl⟩
          rw [H1.out]
          go_wp2_with fail
          refine (refDigit_any _ _).mono ?_
          rintro e w1 ⟨rfl, rfl⟩
          rw [H2.out]
          go_wp2_with fail
          refine (refFind_any _ _).mono ?_
          rintro e w2 ⟨rfl, hb2⟩
          obtain ⟨c0, c1, c2, hf, hz, hb⟩ := three hb2
          go_wp2
          · have hq : 0 < Wd.find (s.extract 0 k) := by assumption
            have HE := Lib.hid (one_word HO.out HR.out hq)
            clear hq
            exact bodyPost_ret (v := .agg #[.int .i64 3, .string (s.extract 0 k), .int .i64 0]) (by simp [results, Try.results16, go_sem, c0, c1, c2]) rfl ⟨HE.out, ((hb.setCell (Nat.le_refl _) _).setCell (Nat.le_refl _) _).setCell (Nat.le_refl _) _⟩
          · have hq : ¬ 0 < Wd.find (s.extract 0 k) := by assumption
            have HE := Lib.hid (one_name HO.out HR.out hq)
            clear hq
            exact bodyPost_ret (v := .agg #[.int .i64 1, .string (s.extract 0 k), .int .i64 0]) (by simp [results, Try.results16, go_sem, c0, c1, c2]) rfl ⟨HE.out, ((hb.setCell (Nat.le_refl _) _).setCell (Nat.le_refl _) _).setCell (Nat.le_refl _) _⟩
    · have HR := Lib.hid (run_end s k hlt hr.out)
      go_wp2_with fail
      refine (refFind_any _ _).mono ?_
      rintro e w2 ⟨rfl, hb2⟩
      obtain ⟨c0, c1, c2, hf, hz, hb⟩ := three hb2
      go_wp2
      · have hq : 0 < Wd.find (s.extract 0 k) := by assumption
        have HE := Lib.hid (one_word HO.out HR.out hq)
        clear hq
        exact bodyPost_ret (v := .agg #[.int .i64 3, .string (s.extract 0 k), .int .i64 0]) (by simp [results, Try.results16, go_sem, c0, c1, c2]) rfl ⟨HE.out, ((hb.setCell (Nat.le_refl _) _).setCell (Nat.le_refl _) _).setCell (Nat.le_refl _) _⟩
      · have hq : ¬ 0 < Wd.find (s.extract 0 k) := by assumption
        have HE := Lib.hid (one_name HO.out HR.out hq)
        clear hq
        exact bodyPost_ret (v := .agg #[.int .i64 1, .string (s.extract 0 k), .int .i64 0]) (by simp [results, Try.results16, go_sem, c0, c1, c2]) rfl ⟨HE.out, ((hb.setCell (Nat.le_refl _) _).setCell (Nat.le_refl _) _).setCell (Nat.le_refl _) _⟩

set_option maxHeartbeats 400000 in
theorem one_digit (s : ByteArray) (h0 : 0 < s.size) (hs : s.size ≤ 16384) (w : World) (hb : Wd.isLetter (s[0].toNat : Int) = false) (hd : Wd.isDigit (s[0].toNat : Int) = true) : Calls Try.prog 16 #[.string s] w fun e w' =>
    e = .returned (tokV (Tk.oneL s.data.toList).1 (Tk.tx s.data.toList (Tk.oneL s.data.toList).2) 0) ∧ Below w.heap.size w w' := by
  have hl := list_at s h0
  have HB := Lib.hid hb
  have HD := Lib.hid hd
  have HO : Hid (Tk.oneL s.data.toList = (2, Tk.runL Tk.digB s.data.toList)) := Lib.hid (by
    rw [hl]; exact Tk.oneL_d (by rw [show Tk.letB s[0] = false from hb]; simp) hd)
  clear hb hl hd
  go_enter Try.func16, Try.ntmps16
  go_wp2_with fail
  refine (refLetter_any _ _).mono ?_
  rintro e w1 ⟨rfl, rfl⟩
  rw [HB.out]
  go_wp2_with fail
  refine (refDigit_any _ _).mono ?_
  rintro e w1 ⟨rfl, rfl⟩
  rw [HD.out]
  go_wp2_with fail
  go_loop [3] (fun i => ∃ k : Nat, k ≤ s.size ∧ i = .int .i64 k ∧ Hid (Tk.runL Tk.digB s.data.toList = k + Tk.runL Tk.digB (s.data.toList.drop k))) (fun i => s.size - (intOf i).toNat)
  case atStart => exact ⟨0, by omega, rfl, Lib.hid (by simp)⟩
  case round =>
    obtain ⟨k, hk, rfl, hr⟩ := hrel
    by_cases hlt : k < s.size
    · cases h2 : Wd.isDigit (s[k].toNat : Int) with
      | true =>
        have H2 := Lib.hid h2
        have HR := Lib.hid (run_yes (p := Tk.digB) s k hlt hr.out h2)
        clear h2
        go_wp2_with fail
        refine (refDigit_any _ _).mono ?_
        rintro e w1 ⟨rfl, rfl⟩
        rw [H2.out]
        go_wp2
        go_round
        case rel => exact ⟨k + 1, by omega, by go_num, HR⟩
        case measure => simp [intOf]; omega
      | false =>
        have H2 := Lib.hid h2
        have HR := Lib.hid (run_no (p := Tk.digB) s k hlt hr.out h2)
        clear h2
        go_wp2_with fail
        refine (refDigit_any _ _).mono ?_
        rintro e w1 ⟨rfl, rfl⟩
        rw [H2.out]
        have HE := Lib.hid (one_dig HO.out HR.out)
        go_wp2
        exact bodyPost_ret (v := .agg #[.int .i64 2, .string (s.extract 0 k), .int .i64 0]) (by simp [results, Try.results16, go_sem]) rfl ⟨HE.out, (Below.refl _ w).alloc (Nat.le_refl _) _⟩
    · have HR := Lib.hid (run_end s k hlt hr.out)
      have HE := Lib.hid (one_dig HO.out HR.out)
      go_wp2
      exact bodyPost_ret (v := .agg #[.int .i64 2, .string (s.extract 0 k), .int .i64 0]) (by simp [results, Try.results16, go_sem]) rfl ⟨HE.out, (Below.refl _ w).alloc (Nat.le_refl _) _⟩

theorem one_sign (s : ByteArray) (h0 : 0 < s.size) (hs : s.size ≤ 16384) (w : World) (hb : Wd.isLetter (s[0].toNat : Int) = false) (hd : Wd.isDigit (s[0].toNat : Int) = false) : Calls Try.prog 16 #[.string s] w fun e w' =>
    e = .returned (tokV (Tk.oneL s.data.toList).1 (Tk.tx s.data.toList (Tk.oneL s.data.toList).2) 0) ∧ Below w.heap.size w w' := by
  have hl := list_at s h0
  have HB := Lib.hid hb
  have HD := Lib.hid hd
  by_cases hz : Tk.signL s.data.toList = 0
  · have HO : Hid (Tk.oneL s.data.toList = (0, 0)) := Lib.hid (by
      rw [hl] at hz ⊢; exact Tk.oneL_0 (by rw [show Tk.letB s[0] = false from hb]; simp) (by rw [show Tk.digB s[0] = false from hd]; simp) hz)
    have HZ : Hid (Tk.tx s.data.toList (Tk.signL s.data.toList) = ⟨#[]⟩) := Lib.hid (by rw [hz]; rfl)
    clear hb hl hd hz
    go_enter Try.func16, Try.ntmps16
    go_wp2_with fail
    refine (refLetter_any _ _).mono ?_
    rintro e w1 ⟨rfl, rfl⟩
    rw [HB.out]
    go_wp2_with fail
    refine (refDigit_any _ _).mono ?_
    rintro e w1 ⟨rfl, rfl⟩
    rw [HD.out]
    go_wp2_with fail
    refine (refSign_any s h0 _).mono ?_
    rintro e w2 ⟨rfl, hb2⟩
    rw [HZ.out]
    obtain ⟨c0, c1, c2, hf, hz, hb⟩ := three hb2
    go_wp2
    exact bodyPost_ret (v := .agg #[.int .i64 0, .string ⟨#[]⟩, .int .i64 0]) (by simp [results, Try.results16, go_sem, c0, c1, c2]) rfl ⟨by rw [HO.out]; rfl, ((hb.setCell (Nat.le_refl _) _).setCell (Nat.le_refl _) _).setCell (Nat.le_refl _) _⟩
  · have HO : Hid (Tk.oneL s.data.toList = (4, Tk.signL s.data.toList)) := Lib.hid (by
      have h1 := Tk.oneL_s (b := s[0]) (t := s.data.toList.drop 1) (by rw [show Tk.letB s[0] = false from hb]; simp) (by rw [show Tk.digB s[0] = false from hd]; simp) (by rw [← hl]; exact hz)
      rw [← hl] at h1; exact h1)
    obtain ⟨t, ht⟩ : ∃ t, t = Tk.tx s.data.toList (Tk.signL s.data.toList) := ⟨_, rfl⟩
    have HZ := Lib.hid ht
    have hsz : t.size = Tk.signL s.data.toList := by rw [ht]; exact Tk.tx_size _ _ (Tk.signL_le _)
    have hne : t.toList.isEmpty = false := by
      cases hq : t.toList with
      | nil =>
        exfalso
        rw [ByteArray.toList_eq] at hq
        have : t.size = 0 := by
          have h5 : t.data.toList.length = t.size := rfl
          rw [hq] at h5; exact h5.symm
        omega
      | cons a b => rfl
    have hne2 : (!t.toList.isEmpty) = true := by rw [hne]; rfl
    clear hb hl hd hz ht hsz
    go_enter Try.func16, Try.ntmps16
    go_wp2_with fail
    refine (refLetter_any _ _).mono ?_
    rintro e w1 ⟨rfl, rfl⟩
    rw [HB.out]
    go_wp2_with fail
    refine (refDigit_any _ _).mono ?_
    rintro e w1 ⟨rfl, rfl⟩
    rw [HD.out]
    go_wp2_with fail
    refine (refSign_any s h0 _).mono ?_
    rintro e w2 ⟨rfl, hb2⟩
    rw [← HZ.out]
    go_wp2_with fail
    refine (refSign_any s h0 _).mono ?_
    rintro e w3 ⟨rfl, hb3⟩
    rw [← HZ.out]
    obtain ⟨c0, c1, c2, hf, hz, hb⟩ := three (hb2.trans (hb3.mono hb2.size))
    go_wp2
    exact bodyPost_ret (v := .agg #[.int .i64 4, .string t, .int .i64 0]) (by simp [results, Try.results16, go_sem, c0, c1, c2]) rfl ⟨by rw [HO.out, HZ.out]; rfl, ((hb.setCell (Nat.le_refl _) _).setCell (Nat.le_refl _) _).setCell (Nat.le_refl _) _⟩

theorem one_any (s : ByteArray) (h0 : 0 < s.size) (hs : s.size ≤ 16384) (w : World) : Calls Try.prog 16 #[.string s] w fun e w' =>
    e = .returned (tokV (Tk.oneL s.data.toList).1 (Tk.tx s.data.toList (Tk.oneL s.data.toList).2) 0) ∧ Below w.heap.size w w' := by
  cases hb : Wd.isLetter (s[0].toNat : Int) with
  | true => exact one_let s h0 hs w hb
  | false =>
    cases hd : Wd.isDigit (s[0].toNat : Int) with
    | true => exact one_digit s h0 hs w hb hd
    | false => exact one_sign s h0 hs w hb hd
end Go.Proofs.Ytbcgooofelnkoaa
